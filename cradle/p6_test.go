package cradle

import (
	"math"
	"testing"

	"cradle/api"
)

var noFault = api.Fault{}

func faultOf(kind, level int) api.Fault {
	return api.Fault{Kind: kind, Level: level}
}

// own makes a guest's own entry, as the document's bits say it.
func own(page, bits int) int { return page<<2 | bits }

const (
	absent   = 2 // writable, but not present
	readOnly = 1
	full     = 3
)

// The last of the document's section 'Examples'.
func TestP6TheDocumentsNumbers(t *testing.T) {
	m := machineOf(t, 8, 1)
	wantMap(t, m, 1, 0, true, api.OK)
	wantWrite(t, m, 1, 5, 77, api.OK)
	wantRoot(t, m, 1, 0, api.OK)
	wantWrite(t, m, 1, 0, 3, api.OK)
	wantWrite(t, m, 1, 1, 0, api.OK)
	wantLoad(t, m, 1, 5, 77, noFault, api.OK)
	wantStore(t, m, 1, 70, 1, faultOf(api.GuestAbsent, 1), api.OK)
}

func TestP6WithoutARootPageAddressesMeanWhatTheySay(t *testing.T) {
	m := machineOf(t, 64, 2)
	for page := 0; page < 20; page++ {
		wantMap(t, m, 1, page, page%3 > 0, api.OK)
	}
	for address := range 20 * 8 {
		if address/8%3 == 0 {
			wantStore(t, m, 1, address, 1, faultOf(api.HostDenied, 3), api.OK)
			wantLoad(t, m, 1, address, 0, noFault, api.OK)
			continue
		}
		wantStore(t, m, 1, address, address*400, noFault, api.OK)
		wantLoad(t, m, 1, address, address*400, noFault, api.OK)
		wantRead(t, m, 1, address, address*400, api.OK)
	}
	for address := 20 * 8; address < 512; address++ {
		wantLoad(t, m, 1, address, 0, faultOf(api.HostAbsent, 3), api.OK)
		wantStore(t, m, 1, address, 1, faultOf(api.HostAbsent, 3), api.OK)
		wantLoad(t, m, 2, address, 0, faultOf(api.HostAbsent, 3), api.OK)
	}
}

// mirror is a guest 1 with root page 63, whose tables lead the page p to the page 15 - p % 16.
func mirror(t *testing.T) *Machine {
	m := machineOf(t, 64, 1)
	for _, page := range []int{63, 40, 33} {
		wantMap(t, m, 1, page, true, api.OK)
	}
	for at := range 8 {
		wantMap(t, m, 1, at, true, api.OK)
		wantMap(t, m, 1, 8+at, true, api.OK)
		table := []int{40, 33}[at%2]
		wantWrite(t, m, 1, 63*8+at, own(table, full), api.OK)
		wantWrite(t, m, 1, 40*8+at, own(15-at, full), api.OK)
		wantWrite(t, m, 1, 33*8+at, own(7-at, full), api.OK)
	}
	wantRoot(t, m, 1, 63, api.OK)
	return m
}

func TestP6EveryAddressIsTurned(t *testing.T) {
	m := mirror(t)
	for address := range 512 {
		page := 15 - address/8%16
		wantStore(t, m, 1, address, 1000+address, noFault, api.OK)
		wantRead(t, m, 1, page*8+address%8, 1000+address, api.OK)
		wantWrite(t, m, 1, page*8+address%8, 2000+address, api.OK)
		wantLoad(t, m, 1, address, 2000+address, noFault, api.OK)
	}
	wantRoot(t, m, 1, api.NoRoot, api.OK)
	wantLoad(t, m, 1, 63*8, own(40, full), noFault, api.OK)
	wantLoad(t, m, 1, 33*8+7, own(0, full), noFault, api.OK)
}

func TestP6EntriesNameEveryPage(t *testing.T) {
	for page := range api.Pages {
		m := machineOf(t, 16, 1)
		root := (page + 1) % api.Pages
		wantMap(t, m, 1, root, true, api.OK)
		wantMap(t, m, 1, page, true, api.OK)
		wantWrite(t, m, 1, root*8+2, own(page, full)|0xff00, api.OK)
		wantWrite(t, m, 1, page*8+5, own(page, full)|0xab00, api.OK)
		wantWrite(t, m, 1, page*8+6, 1234, api.OK)
		wantRoot(t, m, 1, root, api.OK)
		wantLoad(t, m, 1, (2*8+5)*8+6, 1234, noFault, api.OK)
		wantStore(t, m, 1, (2*8+5)*8+6, 4321, noFault, api.OK)
		wantRead(t, m, 1, page*8+6, 4321, api.OK)
	}
}

// Each row is one way through the levels; load and store say the fault of each.
func TestP6TheFaultThatComesFirst(t *testing.T) {
	const missing = 50
	rows := []struct {
		name             string
		rootHad          bool
		rootEntry, entry int
		load, store      api.Fault
	}{
		{"no root page", false, 0, 0, faultOf(api.HostAbsent, 1), faultOf(api.HostAbsent, 1)},
		{"root entry 0", true, 0, 0, faultOf(api.GuestAbsent, 1), faultOf(api.GuestAbsent, 1)},
		{"root entry absent", true, own(9, absent), own(20, full), faultOf(api.GuestAbsent, 1), faultOf(api.GuestAbsent, 1)},
		{"root entry absent, all other bits", true, 0xfffe &^ 2, 0, faultOf(api.GuestAbsent, 1), faultOf(api.GuestAbsent, 1)},
		{"root entry read-only", true, own(9, readOnly), own(20, full), noFault, faultOf(api.GuestDenied, 1)},
		{"root entry read-only, no table", true, own(missing, readOnly), 0, faultOf(api.HostAbsent, 2), faultOf(api.GuestDenied, 1)},
		{"no table", true, own(missing, full), 0, faultOf(api.HostAbsent, 2), faultOf(api.HostAbsent, 2)},
		{"entry 0", true, own(9, full), 0, faultOf(api.GuestAbsent, 2), faultOf(api.GuestAbsent, 2)},
		{"entry absent", true, own(9, full), own(20, absent), faultOf(api.GuestAbsent, 2), faultOf(api.GuestAbsent, 2)},
		{"root entry read-only, entry absent", true, own(9, readOnly), own(20, absent), faultOf(api.GuestAbsent, 2), faultOf(api.GuestDenied, 1)},
		{"entry read-only", true, own(9, full), own(20, readOnly), noFault, faultOf(api.GuestDenied, 2)},
		{"entry read-only, no page", true, own(9, full), own(missing, readOnly), faultOf(api.HostAbsent, 3), faultOf(api.GuestDenied, 2)},
		{"entry read-only, page read-only", true, own(9, full), own(21, readOnly), noFault, faultOf(api.GuestDenied, 2)},
		{"no page", true, own(9, full), own(missing, full), faultOf(api.HostAbsent, 3), faultOf(api.HostAbsent, 3)},
		{"page read-only", true, own(9, full), own(21, full), noFault, faultOf(api.HostDenied, 3)},
		{"all is well", true, own(9, full), own(20, full), noFault, noFault},
	}
	for _, row := range rows {
		m := machineOf(t, 20, 1)
		wantMap(t, m, 1, 9, true, api.OK)
		wantMap(t, m, 1, 20, true, api.OK)
		wantMap(t, m, 1, 21, false, api.OK)
		if row.rootHad {
			wantMap(t, m, 1, 0, true, api.OK)
			wantWrite(t, m, 1, 3, row.rootEntry, api.OK)
		}
		wantWrite(t, m, 1, 9*8+6, row.entry, api.OK)
		wantRoot(t, m, 1, 0, api.OK)
		before := wordsOf(m, 1)
		wantLoad(t, m, 1, (3*8+6)*8+1, 0, row.load, api.OK)
		wantStore(t, m, 1, (3*8+6)*8+1, 99, row.store, api.OK)
		if after := wordsOf(m, 1); row.store != noFault && after != before {
			t.Error("a fault of Store changed a word")
		}
		if t.Failed() {
			t.Fatal(row.name)
		}
	}
}

// wordsOf tells what a guest reads everywhere; -1 where it has no page.
func wordsOf(m *Machine, guest int) [512]int {
	var words [512]int
	for address := range words {
		word, e := m.Read(guest, address)
		if e != api.OK {
			word = -1
		}
		words[address] = word
	}
	return words
}

// Tables are only read on the way: they may lie in pages that are not writable for the guest.
func TestP6TablesMayLieInReadOnlyPages(t *testing.T) {
	m := machineOf(t, 20, 2)
	wantMap(t, m, 2, 0, true, api.OK)
	wantWrite(t, m, 2, 0, own(1, full), api.OK)
	wantShare(t, m, 2, 0, 1, 0, false, api.OK)
	wantShare(t, m, 2, 0, 1, 1, false, api.OK)
	wantRoot(t, m, 1, 0, api.OK)
	wantLoad(t, m, 1, 0, own(1, full), noFault, api.OK)
	wantStore(t, m, 1, 0, 5, faultOf(api.HostDenied, 3), api.OK)
	wantMap(t, m, 1, 2, true, api.OK)
	wantMap(t, m, 2, 1, true, api.OK)
	wantWrite(t, m, 2, 1, own(2, full), api.OK)
	wantStore(t, m, 1, 8+3, 5, noFault, api.OK)
	wantRead(t, m, 1, 2*8+3, 5, api.OK)
}

// Own tables may change from one call to the next: by Write, by Store, or by another guest that shares them.
func TestP6AChangedTableCountsAtOnce(t *testing.T) {
	m := machineOf(t, 20, 2)
	for page := range 4 {
		wantMap(t, m, 1, page, true, api.OK)
		wantWrite(t, m, 1, page*8+7, 70+page, api.OK)
	}
	wantRoot(t, m, 1, 0, api.OK)
	wantWrite(t, m, 1, 0, own(1, full), api.OK)
	wantWrite(t, m, 1, 8, own(2, full), api.OK)
	wantLoad(t, m, 1, 7, 72, noFault, api.OK)
	wantWrite(t, m, 1, 8, own(3, full), api.OK)
	wantLoad(t, m, 1, 7, 73, noFault, api.OK)
	wantWrite(t, m, 1, 9, own(1, full), api.OK)
	wantStore(t, m, 1, 8, own(2, full), noFault, api.OK)
	wantLoad(t, m, 1, 7, 72, noFault, api.OK)
	wantShare(t, m, 1, 1, 2, 50, true, api.OK)
	wantStore(t, m, 2, 400, own(0, full), noFault, api.OK)
	wantLoad(t, m, 1, 7, 70, noFault, api.OK)
	wantUnmap(t, m, 1, 1, api.OK)
	wantLoad(t, m, 1, 7, 0, faultOf(api.HostAbsent, 2), api.OK)
	wantMap(t, m, 1, 1, true, api.OK)
	wantLoad(t, m, 1, 7, 0, faultOf(api.GuestAbsent, 2), api.OK)
	wantUnmap(t, m, 1, 0, api.OK)
	wantLoad(t, m, 1, 7, 0, faultOf(api.HostAbsent, 1), api.OK)
	wantMap(t, m, 1, 0, true, api.OK)
	wantLoad(t, m, 1, 7, 0, faultOf(api.GuestAbsent, 1), api.OK)
}

func TestP6ReadAndWriteDoNotAskTheRootPage(t *testing.T) {
	m := mirror(t)
	wantWrite(t, m, 1, 3, 11, api.OK)
	wantRead(t, m, 1, 3, 11, api.OK)
	wantLoad(t, m, 1, 15*8+3, 11, noFault, api.OK)
	wantRoot(t, m, 1, 50, api.OK)
	wantRead(t, m, 1, 3, 11, api.OK)
	wantWrite(t, m, 1, 3, 12, api.OK)
	wantLoad(t, m, 1, 3, 0, faultOf(api.HostAbsent, 1), api.OK)
}

func TestP6RootIsEachGuestsOwn(t *testing.T) {
	m := machineOf(t, 20, 2)
	wantMap(t, m, 1, 0, true, api.OK)
	wantMap(t, m, 2, 0, true, api.OK)
	wantRoot(t, m, 1, 0, api.OK)
	wantLoad(t, m, 1, 0, 0, faultOf(api.GuestAbsent, 1), api.OK)
	wantLoad(t, m, 2, 0, 0, noFault, api.OK)
	wantErrno(t, "Destroy(1)", m.Destroy(1), api.OK)
	wantCreate(t, m, 3, api.OK)
	wantMap(t, m, 3, 0, true, api.OK)
	wantLoad(t, m, 3, 0, 0, noFault, api.OK)
	wantStore(t, m, 3, 1, 4, noFault, api.OK)
	wantRead(t, m, 2, 1, 0, api.OK)
}

func TestP6RootTakesEveryPageNumber(t *testing.T) {
	m := machineOf(t, 8, 1)
	wantMap(t, m, 1, 5, true, api.OK)
	wantWrite(t, m, 1, 40, own(5, full), api.OK)
	for page := range api.Pages {
		wantRoot(t, m, 1, page, api.OK)
		if page == 5 {
			wantLoad(t, m, 1, 0, own(5, full), noFault, api.OK)
			continue
		}
		wantLoad(t, m, 1, 0, 0, faultOf(api.HostAbsent, 1), api.OK)
	}
	wantFree(t, m, 5)
	wantRoot(t, m, 1, api.NoRoot, api.OK)
	wantLoad(t, m, 1, 40, own(5, full), noFault, api.OK)
}

func TestP6WrongRoots(t *testing.T) {
	m := machineOf(t, 8, 1)
	wantMap(t, m, 1, 0, true, api.OK)
	wantRoot(t, m, 1, 3, api.OK)
	for _, page := range []int{math.MinInt, -1 << 32, -64, -3, -2, 64, 65, 255, 512, 1 << 32, math.MaxInt} {
		wantRoot(t, m, 1, page, api.ErrPage)
		wantRoot(t, m, 2, page, api.ErrNone)
		wantLoad(t, m, 1, 0, 0, faultOf(api.HostAbsent, 1), api.OK)
	}
	for _, guest := range append([]int{0, 2}, wild...) {
		wantRoot(t, m, guest, 0, api.ErrNone)
		wantRoot(t, m, guest, api.NoRoot, api.ErrNone)
	}
	wantLoad(t, m, 1, 0, 0, faultOf(api.HostAbsent, 1), api.OK)
}

func TestP6WrongGuestsAddressesAndWords(t *testing.T) {
	m := mirror(t)
	before := wordsOf(m, 1)
	for _, address := range wild {
		wantLoad(t, m, 1, address, 0, noFault, api.ErrPage)
		wantStore(t, m, 1, address, -1, noFault, api.ErrPage)
		wantLoad(t, m, 2, address, 0, noFault, api.ErrNone)
		wantStore(t, m, 2, address, -1, noFault, api.ErrNone)
	}
	for _, guest := range append([]int{0, 2}, wild...) {
		wantLoad(t, m, guest, 0, 0, noFault, api.ErrNone)
		wantStore(t, m, guest, 0, 1, noFault, api.ErrNone)
	}
	for _, word := range []int{math.MinInt, -1 << 32, -65536, -1, 65536, 65537, 1 << 32, math.MaxInt} {
		wantStore(t, m, 1, 0, word, noFault, api.ErrValue)
	}
	if wordsOf(m, 1) != before {
		t.Error("a refused call changed a word")
	}
	for _, word := range []int{65535, 32768, 1, 0} {
		wantStore(t, m, 1, 511, word, noFault, api.OK)
		wantLoad(t, m, 1, 511, word, noFault, api.OK)
	}
	wantRoot(t, m, 1, 50, api.OK)
	wantStore(t, m, 1, 0, 65536, noFault, api.ErrValue)
	wantStore(t, m, 1, 512, 65536, noFault, api.ErrPage)
}

// The Store's fault leaves the frames as they are, too.
func TestP6LoadAndStoreTakeNoFrame(t *testing.T) {
	m := mirror(t)
	free := m.Free()
	for address := range 512 {
		m.Load(1, address)
		m.Store(1, address, 3)
	}
	wantFree(t, m, free)
}
