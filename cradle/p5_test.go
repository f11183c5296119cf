package cradle

import (
	"testing"

	"cradle/api"
)

func TestP5BothHaveTheSamePage(t *testing.T) {
	m := machineOf(t, 16, 2)
	wantMap(t, m, 1, 9, true, api.OK)
	wantWrite(t, m, 1, 73, 5, api.OK)
	wantShare(t, m, 1, 9, 2, 63, true, api.OK)
	for at := range api.Words {
		word, _ := m.Read(1, 72+at)
		wantRead(t, m, 2, 504+at, word, api.OK)
		wantWrite(t, m, 1, 72+at, 100+at, api.OK)
		wantRead(t, m, 2, 504+at, 100+at, api.OK)
		wantWrite(t, m, 2, 504+at, 200+at, api.OK)
		wantRead(t, m, 1, 72+at, 200+at, api.OK)
	}
	wantRead(t, m, 2, 72, 0, api.ErrAbsent)
	wantRead(t, m, 1, 504, 0, api.ErrAbsent)
}

func TestP5OnlyATableIsTaken(t *testing.T) {
	m := machineOf(t, 16, 2)
	wantMap(t, m, 1, 9, true, api.OK)
	wantFree(t, m, 12)
	wantShare(t, m, 1, 9, 2, 8, true, api.OK)
	wantFree(t, m, 11)
	wantShare(t, m, 1, 9, 2, 15, true, api.OK)
	wantFree(t, m, 11)
	wantShare(t, m, 1, 9, 2, 16, true, api.OK)
	wantFree(t, m, 10)
	wantShare(t, m, 1, 9, 1, 10, true, api.OK)
	wantFree(t, m, 10)
	wantShare(t, m, 1, 9, 1, 7, true, api.OK)
	wantFree(t, m, 9)
}

func TestP5APageLivesAsLongAsOneHasIt(t *testing.T) {
	m := machineOf(t, 12, 3)
	wantMap(t, m, 1, 0, true, api.OK)
	wantWrite(t, m, 1, 2, 42, api.OK)
	wantShare(t, m, 1, 0, 1, 1, true, api.OK)
	wantShare(t, m, 1, 1, 2, 0, true, api.OK)
	wantShare(t, m, 2, 0, 3, 0, false, api.OK)
	wantFree(t, m, 12-3-3-1)
	wantUnmap(t, m, 1, 0, api.OK)
	wantFree(t, m, 5)
	wantRead(t, m, 1, 2, 0, api.ErrAbsent)
	wantRead(t, m, 1, 10, 42, api.OK)
	wantUnmap(t, m, 1, 1, api.OK)
	wantFree(t, m, 6)
	wantErrno(t, "Destroy(2)", m.Destroy(2), api.OK)
	wantFree(t, m, 8)
	wantRead(t, m, 3, 2, 42, api.OK)
	wantUnmap(t, m, 3, 0, api.OK)
	wantFree(t, m, 10)
	wantMap(t, m, 3, 0, true, api.OK)
	wantRead(t, m, 3, 2, 0, api.OK)
}

// A guest that has one page at many numbers gives it back once.
func TestP5DestroyOfAGuestThatSharesWithItself(t *testing.T) {
	m := machineOf(t, 16, 2)
	wantMap(t, m, 1, 0, true, api.OK)
	for page := 1; page < 20; page++ {
		wantShare(t, m, 1, page-1, 1, page, true, api.OK)
	}
	wantFree(t, m, 16-2-3-1)
	wantWrite(t, m, 1, 3, 9, api.OK)
	wantRead(t, m, 1, 19*8+3, 9, api.OK)
	wantErrno(t, "Destroy(1)", m.Destroy(1), api.OK)
	wantFree(t, m, 15)
	wantMap(t, m, 2, 0, true, api.OK)
	wantRead(t, m, 2, 3, 0, api.OK)
}

// What is writable for one guest may be read-only for another, and a read-only page is not made writable by sharing.
func TestP5WritableIsEachGuestsOwn(t *testing.T) {
	m := machineOf(t, 16, 3)
	wantMap(t, m, 1, 0, true, api.OK)
	wantShare(t, m, 1, 0, 2, 0, false, api.OK)
	wantWrite(t, m, 2, 0, 1, api.ErrDenied)
	wantWrite(t, m, 1, 0, 7, api.OK)
	wantRead(t, m, 2, 0, 7, api.OK)
	wantShare(t, m, 2, 0, 3, 0, true, api.ErrDenied)
	wantShare(t, m, 2, 0, 2, 1, true, api.ErrDenied)
	wantShare(t, m, 2, 0, 3, 0, false, api.OK)
	wantWrite(t, m, 3, 0, 1, api.ErrDenied)
	wantShare(t, m, 1, 0, 2, 1, true, api.OK)
	wantWrite(t, m, 2, 8, 8, api.OK)
	wantWrite(t, m, 2, 0, 1, api.ErrDenied)
	wantRead(t, m, 3, 0, 8, api.OK)
	wantShare(t, m, 2, 1, 3, 1, true, api.OK)
	wantWrite(t, m, 3, 8, 9, api.OK)
	wantRead(t, m, 1, 0, 9, api.OK)
}

func TestP5WrongGuestsAndPages(t *testing.T) {
	m := machineOf(t, 16, 2)
	wantMap(t, m, 1, 0, true, api.OK)
	for _, guest := range append([]int{0, 3}, wild...) {
		wantShare(t, m, guest, 0, 2, 0, true, api.ErrNone)
		wantShare(t, m, 1, 0, guest, 0, true, api.ErrNone)
		wantShare(t, m, guest, 64, guest, 64, true, api.ErrNone)
	}
	for _, page := range append([]int{64, 65}, wild...) {
		wantShare(t, m, 1, page, 2, 0, true, api.ErrPage)
		wantShare(t, m, 1, 0, 2, page, true, api.ErrPage)
		wantShare(t, m, 3, page, 2, page, true, api.ErrNone)
		wantShare(t, m, 1, page, 3, page, true, api.ErrNone)
	}
	wantFree(t, m, 12)
	wantErrno(t, "Destroy(2)", m.Destroy(2), api.OK)
	wantShare(t, m, 1, 0, 2, 0, true, api.ErrNone)
	wantShare(t, m, 2, 0, 1, 1, true, api.ErrNone)
	wantFree(t, m, 13)
}

func TestP5TheErrorNamedFirst(t *testing.T) {
	m := machineOf(t, 6, 2)
	wantMap(t, m, 1, 0, false, api.OK)
	wantMap(t, m, 1, 1, true, api.OK)
	wantShare(t, m, 1, 0, 1, 2, false, api.OK)
	wantMap(t, m, 1, 3, true, api.OK)
	wantFree(t, m, 0)
	wantShare(t, m, 1, 5, 2, 64, true, api.ErrPage)
	wantShare(t, m, 1, 5, 1, 1, true, api.ErrAbsent)
	wantShare(t, m, 1, 5, 2, 0, true, api.ErrAbsent)
	wantShare(t, m, 1, 0, 1, 1, true, api.ErrDenied)
	wantShare(t, m, 1, 0, 2, 0, true, api.ErrDenied)
	wantShare(t, m, 1, 0, 1, 0, false, api.ErrTaken)
	wantShare(t, m, 1, 0, 1, 1, false, api.ErrTaken)
	wantShare(t, m, 1, 1, 2, 0, true, api.ErrFull)
	wantShare(t, m, 1, 1, 1, 8, true, api.ErrFull)
	wantRead(t, m, 2, 0, 0, api.ErrAbsent)
	wantRead(t, m, 1, 64, 0, api.ErrAbsent)
	wantWrite(t, m, 1, 0, 1, api.ErrDenied)
	wantShare(t, m, 1, 1, 1, 7, true, api.OK)
	wantFree(t, m, 0)
}

// A refused Share holds nothing: the page is free as soon as its one guest lets it go.
func TestP5ARefusedShareHoldsNothing(t *testing.T) {
	m := machineOf(t, 5, 2)
	wantMap(t, m, 1, 0, false, api.OK)
	wantMap(t, m, 1, 1, true, api.OK)
	wantShare(t, m, 1, 0, 2, 0, false, api.ErrFull)
	wantShare(t, m, 1, 0, 2, 0, true, api.ErrDenied)
	wantShare(t, m, 1, 0, 1, 1, false, api.ErrTaken)
	wantUnmap(t, m, 1, 0, api.OK)
	wantFree(t, m, 1)
	wantUnmap(t, m, 1, 1, api.OK)
	wantFree(t, m, 3)
}
