package cradle

import (
	"testing"

	"cradle/api"
)

// The frames of the document's section 'Examples'.
func TestP3TheDocumentsNumbers(t *testing.T) {
	m := machineOf(t, 8, 1)
	wantFree(t, m, 7)
	wantMap(t, m, 1, 9, true, api.OK)
	wantFree(t, m, 5)
	wantMap(t, m, 1, 10, false, api.OK)
	wantFree(t, m, 4)
	wantMap(t, m, 1, 0, true, api.OK)
	wantFree(t, m, 2)
	wantMap(t, m, 1, 63, true, api.OK)
	wantFree(t, m, 0)
	wantCreate(t, m, 0, api.ErrFull)
	wantUnmap(t, m, 1, 63, api.OK)
	wantFree(t, m, 2)
	wantUnmap(t, m, 1, 9, api.OK)
	wantFree(t, m, 3)
	wantUnmap(t, m, 1, 10, api.OK)
	wantFree(t, m, 5)
}

func TestP3AGroupTakesOneTable(t *testing.T) {
	for group := range api.Pages / api.Group {
		m := machineOf(t, 12, 1)
		first := group * api.Group
		for i := range api.Group {
			wantMap(t, m, 1, first+i, true, api.OK)
			wantFree(t, m, 12-1-1-(i+1))
		}
		for i := range api.Group - 1 {
			wantUnmap(t, m, 1, first+i, api.OK)
			wantFree(t, m, 12-1-1-(api.Group-i-1))
		}
		wantUnmap(t, m, 1, first+api.Group-1, api.OK)
		wantFree(t, m, 11)
	}
}

func TestP3OnlyTheMappedPageIsHad(t *testing.T) {
	for page := range api.Pages {
		m := machineOf(t, 8, 2)
		wantMap(t, m, 1, page, true, api.OK)
		for other := range api.Pages {
			want := api.ErrAbsent
			if other == page {
				want = api.OK
			}
			wantRead(t, m, 1, other*api.Words, 0, want)
			wantRead(t, m, 2, other*api.Words, 0, api.ErrAbsent)
		}
	}
}

func TestP3WrongGuestsAndPages(t *testing.T) {
	m := machineOf(t, 8, 1)
	for _, page := range append([]int{64, 65}, wild...) {
		wantMap(t, m, 1, page, true, api.ErrPage)
		wantUnmap(t, m, 1, page, api.ErrPage)
		wantMap(t, m, 2, page, true, api.ErrNone)
		wantUnmap(t, m, 2, page, api.ErrNone)
	}
	for _, guest := range append([]int{0, 2}, wild...) {
		wantMap(t, m, guest, 0, true, api.ErrNone)
		wantUnmap(t, m, guest, 0, api.ErrNone)
	}
	wantFree(t, m, 7)
}

func TestP3TakenAndAbsent(t *testing.T) {
	m := machineOf(t, 16, 2)
	wantUnmap(t, m, 1, 9, api.ErrAbsent)
	wantMap(t, m, 1, 9, false, api.OK)
	wantMap(t, m, 1, 9, true, api.ErrTaken)
	wantWrite(t, m, 1, 72, 1, api.ErrDenied)
	wantUnmap(t, m, 2, 9, api.ErrAbsent)
	wantUnmap(t, m, 1, 8, api.ErrAbsent)
	wantUnmap(t, m, 1, 17, api.ErrAbsent)
	wantFree(t, m, 12)
	wantUnmap(t, m, 1, 9, api.OK)
	wantUnmap(t, m, 1, 9, api.ErrAbsent)
	wantFree(t, m, 14)
}

func TestP3FullCountsTheTable(t *testing.T) {
	m := machineOf(t, 5, 1)
	wantMap(t, m, 1, 0, true, api.OK)
	wantMap(t, m, 1, 1, true, api.OK)
	wantFree(t, m, 1)
	wantMap(t, m, 1, 8, true, api.ErrFull)
	wantFree(t, m, 1)
	wantRead(t, m, 1, 64, 0, api.ErrAbsent)
	wantMap(t, m, 1, 7, true, api.OK)
	wantFree(t, m, 0)
	wantMap(t, m, 1, 2, true, api.ErrFull)
	wantMap(t, m, 1, 7, true, api.ErrTaken)
	wantMap(t, m, 1, 64, true, api.ErrPage)
	wantMap(t, m, 2, 2, true, api.ErrNone)
	wantUnmap(t, m, 1, 0, api.OK)
	wantMap(t, m, 1, 2, true, api.OK)
}

func TestP3APageHadAgainIsBlankAndAsWritableAsAsked(t *testing.T) {
	m := machineOf(t, 4, 1)
	for round := range 6 {
		writable := round%2 == 0
		wantMap(t, m, 1, 63, writable, api.OK)
		for address := 504; address < 512; address++ {
			wantRead(t, m, 1, address, 0, api.OK)
		}
		want := api.ErrDenied
		if writable {
			want = api.OK
		}
		wantWrite(t, m, 1, 511, 7, want)
		wantUnmap(t, m, 1, 63, api.OK)
		wantRead(t, m, 1, 511, 0, api.ErrAbsent)
		wantWrite(t, m, 1, 511, 7, api.ErrAbsent)
		wantFree(t, m, 3)
	}
}
