package tables

import (
	"testing"

	"cradle/api"
	"cradle/memory"
)

func TestEntriesTellWhatTheyWereMadeOf(t *testing.T) {
	for number := range api.MaxFrames {
		for _, writable := range []bool{false, true} {
			e := NewEntry(number, writable)
			if !e.Present() || e.Writable() != writable || e.Number() != number {
				t.Errorf("NewEntry(%d, %v) = %b", number, writable, e)
			}
		}
	}
	if e := Entry(0xff00); e.Present() || e.Writable() || e.Number() != 0 {
		t.Error("bits above the number say something")
	}
	if e := Entry(0xff02 | 21<<2); e.Present() || !e.Writable() || e.Number() != 21 {
		t.Error("an entry that is not present is misread")
	}
}

// The words are looked at in the frames themselves: that is where root and tables must lie.
func TestRootAndTablesAreWordsInFrames(t *testing.T) {
	m := memory.New(8)
	s := NewSpace(m)
	page := m.Take()
	s.Enter(19, page, false)
	table := Entry(m.Word(s.root, 2))
	if !table.Present() || table.Number() == s.root || table.Number() == page {
		t.Fatalf("word 2 of the root is %b", table)
	}
	if got := Entry(m.Word(table.Number(), 3)); got != NewEntry(page, false) {
		t.Errorf("word 3 of the table is %b", got)
	}
	m.SetWord(table.Number(), 4, uint16(NewEntry(page, true)))
	if got := s.Walk(20); got != NewEntry(page, true) {
		t.Errorf("a walk past the frames: %b", got)
	}
}

func TestATableLivesAsLongAsItsGroupHasAPage(t *testing.T) {
	m := memory.New(8)
	s := NewSpace(m)
	if s.Missing(8) != 1 {
		t.Error("an empty group misses a table")
	}
	s.Enter(8, m.Take(), true)
	if s.Missing(15) != 0 || s.Missing(7) != 1 || s.Missing(16) != 1 {
		t.Error("a table serves its own group alone")
	}
	s.Enter(15, m.Take(), true)
	s.Remove(8)
	if m.Free() != 5 || s.Walk(8).Present() || !s.Walk(15).Present() {
		t.Errorf("with one page left: %d free", m.Free())
	}
	s.Remove(8)
	s.Remove(63)
	s.Remove(15)
	if m.Free() != 7 || s.Missing(15) != 1 {
		t.Errorf("with no page left: %d free", m.Free())
	}
}

func TestEndGivesEverythingBack(t *testing.T) {
	m := memory.New(64)
	s := NewSpace(m)
	other := NewSpace(m)
	other.Enter(9, m.Take(), true)
	for page := 0; page < api.Pages; page += 5 {
		s.Enter(page, m.Take(), true)
	}
	s.End()
	if m.Free() != 61 || !other.Walk(9).Present() {
		t.Errorf("Free() = %d, want 61", m.Free())
	}
}
