package cradle

import (
	"encoding/binary"
	"hash/adler32"
	"strings"
	"testing"

	"cradle/api"
)

const (
	noBits    = "\x00\x00\x00\x00\x00\x00\x00\x00"
	zeroWords = noBits + noBits
)

// third makes bytes of form 3; the document's check is the one called Adler-32.
func third(root byte, parts ...string) string {
	text := append([]byte{67, 86, 3, root}, strings.Join(parts, "")...)
	return string(binary.LittleEndian.AppendUint32(text, adler32.Checksum(text)))
}

// listed makes bytes of form 1 or 2, with one or two bytes of the sum.
func listed(size int, parts ...string) string {
	text := "CV" + strings.Join(parts, "")
	sum := 0
	for i := range len(text) {
		sum += int(text[i])
	}
	return text + string([]byte{byte(sum), byte(sum >> 8)}[:size])
}

var emptyGuest = third(255, noBits, noBits, noBits)

// threePages is a guest that has its pages in two groups, and its bytes.
func threePages(t *testing.T, m *Machine, guest int) string {
	t.Helper()
	wantMap(t, m, guest, 0, false, api.OK)
	wantMap(t, m, guest, 5, true, api.OK)
	wantMap(t, m, guest, 12, true, api.OK)
	wantWrite(t, m, guest, 12*8, 0xa1b2, api.OK)
	wantWrite(t, m, guest, 12*8+7, 0x00c3, api.OK)
	wantRoot(t, m, guest, 33, api.OK)
	return third(33, "\x21\x10"+noBits[2:], "\x20\x10"+noBits[2:], "\x00\x10"+noBits[2:], "\xb2\xa1", zeroWords[4:], "\xc3\x00")
}

func TestP7SaveTellsForm3(t *testing.T) {
	m := machineOf(t, 20, 2)
	wantSave(t, m, 1, emptyGuest, api.OK)
	bytes := threePages(t, m, 1)
	wantSave(t, m, 1, bytes, api.OK)
	wantSave(t, m, 2, emptyGuest, api.OK)
	wantWrite(t, m, 1, 12*8, 0, api.OK)
	wantWrite(t, m, 1, 12*8+7, 0, api.OK)
	wantSave(t, m, 1, third(33, "\x21\x10"+noBits[2:], "\x20\x10"+noBits[2:], noBits), api.OK)
	wantUnmap(t, m, 1, 0, api.OK)
	wantUnmap(t, m, 1, 5, api.OK)
	wantUnmap(t, m, 1, 12, api.OK)
	wantSave(t, m, 1, third(33, noBits, noBits, noBits), api.OK)
}

func TestP7SaveTellsEveryPageAndEveryRoot(t *testing.T) {
	for page := range api.Pages {
		m := machineOf(t, 4, 1)
		wantMap(t, m, 1, page, true, api.OK)
		wantWrite(t, m, 1, page*8+3, 0x1234, api.OK)
		wantRoot(t, m, 1, page, api.OK)
		bit := []byte(noBits)
		bit[page/8] = 1 << (page % 8)
		bits := string(bit)
		wantSave(t, m, 1, third(byte(page), bits, bits, bits, zeroWords[:6], "\x34\x12", zeroWords[8:]), api.OK)
		wantRoot(t, m, 1, api.NoRoot, api.OK)
		wantSave(t, m, 1, third(255, bits, bits, bits, zeroWords[:6], "\x34\x12", zeroWords[8:]), api.OK)
	}
}

func TestP7SaveChangesNothing(t *testing.T) {
	m := machineOf(t, 20, 1)
	bytes := threePages(t, m, 1)
	before := wordsOf(m, 1)
	wantSave(t, m, 1, bytes, api.OK)
	wantSave(t, m, 1, bytes, api.OK)
	wantFree(t, m, 14)
	if wordsOf(m, 1) != before {
		t.Error("Save changed a word")
	}
	wantUnmap(t, m, 1, 12, api.OK)
	wantSave(t, m, 1, third(33, "\x21"+noBits[1:], "\x20"+noBits[1:], noBits), api.OK)
	wantCreate(t, m, 2, api.OK)
}

// A page that is shared is saved with each guest that has it, as this one has it.
func TestP7SaveOfSharedPages(t *testing.T) {
	m := machineOf(t, 20, 2)
	wantMap(t, m, 1, 1, true, api.OK)
	wantWrite(t, m, 1, 8, 5, api.OK)
	wantShare(t, m, 1, 1, 2, 63, false, api.OK)
	wantShare(t, m, 2, 63, 2, 62, false, api.OK)
	five := "\x05\x00" + zeroWords[2:]
	bits := "\x02" + noBits[1:]
	wantSave(t, m, 1, third(255, bits, bits, bits, five), api.OK)
	bits = noBits[1:] + "\xc0"
	bytes := third(255, bits, noBits, bits, five, five)
	wantSave(t, m, 2, bytes, api.OK)
	wantFree(t, m, 15)

	wantRestore(t, m, bytes, 3, api.OK)
	wantFree(t, m, 11)
	wantWrite(t, m, 1, 8, 6, api.OK)
	wantRead(t, m, 2, 504, 6, api.OK)
	wantRead(t, m, 3, 504, 5, api.OK)
	wantRead(t, m, 3, 496, 5, api.OK)
	wantWrite(t, m, 3, 504, 1, api.ErrDenied)
}

// By shares with itself a guest has all pages; from bytes it would take more frames than there are.
func TestP7AGuestWithAllPages(t *testing.T) {
	m := machineOf(t, 64, 1)
	wantMap(t, m, 1, 0, true, api.OK)
	wantWrite(t, m, 1, 0, 0x0201, api.OK)
	for page := 1; page < api.Pages; page++ {
		wantShare(t, m, 1, 0, 1, page, true, api.OK)
	}
	all := strings.Repeat("\xff", 8)
	bytes := third(255, all, all, all, strings.Repeat("\x01\x02"+zeroWords[2:], 64))
	wantSave(t, m, 1, bytes, api.OK)
	wantUpgrade(t, bytes, bytes, api.OK)
	wantRestore(t, m, bytes, 0, api.ErrFull)
	wantFree(t, m, 54)
	wantRestore(t, machineOf(t, 64, 0), bytes, 0, api.ErrFull)
}

func TestP7SaveOfNoGuest(t *testing.T) {
	m := machineOf(t, 20, 2)
	wantErrno(t, "Destroy(1)", m.Destroy(1), api.OK)
	for _, guest := range append([]int{0, 1, 3}, wild...) {
		wantSave(t, m, guest, "", api.ErrNone)
	}
}

// forms are the bytes of one guest in each form: no root page, page 1 with 0, page 62 with words.
func forms() [3]string {
	ends := "\x02" + noBits[2:] + "\x40"
	last := noBits[1:] + "\x40"
	return [3]string{
		listed(1, "\x01\x02", "\x01", zeroWords, "\x3e\x12\x34", zeroWords[4:], "\x00\x05"),
		listed(2, "\x02\xff\x02", "\x01\x01", zeroWords, "\x3e\x01\x34\x12", zeroWords[4:], "\x05\x00"),
		third(255, ends, ends, last, "\x34\x12", zeroWords[4:], "\x05\x00"),
	}
}

func TestP7UpgradeTellsTheSameGuestInForm3(t *testing.T) {
	for _, bytes := range forms() {
		wantUpgrade(t, bytes, forms()[2], api.OK)
	}
	wantUpgrade(t, listed(1, "\x01\x00"), emptyGuest, api.OK)
	wantUpgrade(t, listed(2, "\x02\xff\x00"), emptyGuest, api.OK)
	wantUpgrade(t, emptyGuest, emptyGuest, api.OK)
	wantUpgrade(t, listed(2, "\x02\x00\x00"), third(0, noBits, noBits, noBits), api.OK)
	wantUpgrade(t, listed(2, "\x02\x3f\x00"), third(63, noBits, noBits, noBits), api.OK)
	readOnly := listed(2, "\x02\x07\x01", "\x00\x00", "\xff\xff", zeroWords[2:])
	bit := "\x01" + noBits[1:]
	wantUpgrade(t, readOnly, third(7, bit, noBits, bit, "\xff\xff", zeroWords[2:]), api.OK)
}

func TestP7RestoreOfEveryForm(t *testing.T) {
	for _, bytes := range forms() {
		m := machineOf(t, 6, 1)
		wantRestore(t, m, bytes, 2, api.OK)
		wantFree(t, m, 0)
		wantSave(t, m, 2, forms()[2], api.OK)
		wantSave(t, m, 1, emptyGuest, api.OK)
		for address := range 512 {
			want := map[int]int{62 * 8: 0x1234, 62*8 + 7: 5}[address]
			if page := address / 8; page == 1 || page == 62 {
				wantRead(t, m, 2, address, want, api.OK)
				wantLoad(t, m, 2, address, want, noFault, api.OK)
				wantWrite(t, m, 2, address, address, api.OK)
				continue
			}
			wantRead(t, m, 2, address, 0, api.ErrAbsent)
		}
		wantErrno(t, "Destroy(2)", m.Destroy(2), api.OK)
		wantFree(t, m, 5)
	}
}

func TestP7RestoreGivesTheRootPage(t *testing.T) {
	m := mirror(t)
	bytes, _ := m.Save(1)
	n := machineOf(t, 64, 0)
	wantRestore(t, n, bytes, 1, api.OK)
	for address := range 512 {
		wantStore(t, n, 1, address, 1000+address, noFault, api.OK)
		wantRead(t, n, 1, (15-address/8%16)*8+address%8, 1000+address, api.OK)
	}
	bare := third(9, noBits, noBits, noBits)
	wantRestore(t, n, bare, 2, api.OK)
	wantLoad(t, n, 2, 0, 0, faultOf(api.HostAbsent, 1), api.OK)
	wantSave(t, n, 2, bare, api.OK)
}

func TestP7RestoredPagesAreThisGuestsOwn(t *testing.T) {
	m := machineOf(t, 30, 1)
	bytes := threePages(t, m, 1)
	wantRestore(t, m, bytes, 2, api.OK)
	wantRestore(t, m, bytes, 3, api.OK)
	wantFree(t, m, 30-3*6)
	for guest := 1; guest <= 3; guest++ {
		wantWrite(t, m, guest, 12*8+1, guest, api.OK)
		wantWrite(t, m, guest, 5*8, 10*guest, api.OK)
		wantWrite(t, m, guest, 0, 1, api.ErrDenied)
		wantMap(t, m, guest, 1, true, api.OK)
		wantUnmap(t, m, guest, 0, api.OK)
	}
	for guest := 1; guest <= 3; guest++ {
		wantRead(t, m, guest, 12*8+1, guest, api.OK)
		wantRead(t, m, guest, 5*8, 10*guest, api.OK)
	}
	wantErrno(t, "Destroy(1)", m.Destroy(1), api.OK)
	wantErrno(t, "Destroy(3)", m.Destroy(3), api.OK)
	wantFree(t, m, 30-6)
	wantRead(t, m, 2, 12*8, 0xa1b2, api.OK)
}

// A guest of n pages from the first takes n frames, its root, and a table for each group begun.
func TestP7RestoreTakesRootTablesAndPages(t *testing.T) {
	for pages := range 56 {
		text := []string{"\x01", string([]byte{byte(pages)})}
		for page := range pages {
			text = append(text, string([]byte{byte(page)}), zeroWords)
		}
		bytes := listed(1, text...)
		takes := 1 + pages + (pages+7)/8
		for frames := api.MinFrames; frames <= api.MaxFrames; frames++ {
			m := machineOf(t, frames, 0)
			if frames >= takes {
				wantRestore(t, m, bytes, 1, api.OK)
				wantFree(t, m, frames-takes)
				continue
			}
			wantRestore(t, m, bytes, 0, api.ErrFull)
			wantFree(t, m, frames)
			wantCreate(t, m, 1, api.OK)
			wantSave(t, m, 1, emptyGuest, api.OK)
		}
	}
}

func TestP7TheErrorThatIsNamedFirst(t *testing.T) {
	m := machineOf(t, 7, 3)
	bytes := forms()[0]
	before, _ := m.Save(3)
	wantRestore(t, m, bytes, 0, api.ErrFull)
	wantRestore(t, m, bytes[1:], 0, api.ErrBytes)
	wantFree(t, m, 4)
	wantCreate(t, m, 4, api.OK)
	wantRestore(t, m, bytes, 0, api.ErrMany)
	wantRestore(t, m, emptyGuest, 0, api.ErrMany)
	wantRestore(t, m, "", 0, api.ErrBytes)
	wantErrno(t, "Destroy(1)", m.Destroy(1), api.OK)
	wantRestore(t, m, bytes, 0, api.ErrFull)
	wantErrno(t, "Destroy(2)", m.Destroy(2), api.OK)
	wantRestore(t, m, bytes, 5, api.OK)
	wantFree(t, m, 0)
	wantRestore(t, m, emptyGuest, 0, api.ErrFull)
	wantRestore(t, m, emptyGuest+"\x00", 0, api.ErrBytes)
	wantSave(t, m, 3, before, api.OK)
	wantErrno(t, "Destroy(5)", m.Destroy(5), api.OK)
	wantCreate(t, m, 6, api.OK)
}

func TestP7BytesOfNoGuest(t *testing.T) {
	bit := "\x01" + noBits[1:]
	rows := []string{
		"", "C", "CV", "CV\x01", "CV\x02", "CV\x03", "\x00", strings.Repeat("\xff", 5000),
		listed(1, "\x00\x00"), listed(1, "\x04\x00"), "cv" + listed(1, "\x01\x00")[2:],
		listed(1, "\x01\x00") + "\x00", listed(2, "\x02\xff\x00") + "\x00", emptyGuest + "\x00",
		listed(1, "\x01\x01\x40", zeroWords), listed(2, "\x02\xff\x01\x40\x01", zeroWords),
		listed(1, "\x01\x02\x05", zeroWords, "\x05", zeroWords), listed(2, "\x02\xff\x02\x05\x00", zeroWords, "\x04\x00", zeroWords),
		listed(2, "\x02\xff\x01\x05\x02", zeroWords), listed(2, "\x02\x40\x00"), third(64, noBits, noBits, noBits), third(254, noBits, noBits, noBits),
		third(255, noBits, bit, noBits), third(255, noBits, noBits, bit, bit, noBits), third(255, bit, bit, bit, zeroWords), third(255, bit, bit, noBits, bit, noBits),
	}
	for _, bytes := range forms() {
		for size := range len(bytes) {
			damaged := []byte(bytes)
			damaged[size]++
			rows = append(rows, bytes[:size], string(damaged))
		}
	}
	m := machineOf(t, 20, 1)
	for _, bytes := range rows {
		wantUpgrade(t, bytes, "", api.ErrBytes)
		wantRestore(t, m, bytes, 0, api.ErrBytes)
	}
	wantFree(t, m, 19)
	wantCreate(t, m, 2, api.OK)
}
