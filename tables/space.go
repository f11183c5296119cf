package tables

import (
	"cradle/api"
	"cradle/memory"
)

// Space is what one guest has: a root frame, whose word k leads to the table of
// the group k; the table's word i leads to the frame of the group's page i.
type Space struct {
	memory *memory.Memory
	root   int
}

// NewSpace takes a frame as the root of a space without pages; the memory must have a free one.
func NewSpace(in *memory.Memory) Space {
	return Space{memory: in, root: in.Take()}
}

// Walk finds the entry of a page; it is not present if the space does not have the page.
func (s Space) Walk(page int) Entry {
	table := s.table(page)
	if !table.Present() {
		return table
	}
	return Entry(s.memory.Word(table.Number(), page%api.Group))
}

// Missing tells how many tables must be taken ahead of a page at this number.
func (s Space) Missing(page int) int {
	if s.table(page).Present() {
		return 0
	}
	return 1
}

// Enter puts a frame in as a page that the space does not have; the memory must have Missing free frames.
func (s Space) Enter(page int, frame int, writable bool) {
	if s.Missing(page) > 0 {
		s.setTable(page, NewEntry(s.memory.Take(), true))
	}
	s.setEntry(page, NewEntry(frame, writable))
}

// Remove takes a page out, if the space has it, and its table with the group's last page.
func (s Space) Remove(page int) {
	entry := s.Walk(page)
	if !entry.Present() {
		return
	}
	s.memory.Release(entry.Number())
	s.setEntry(page, 0)
	if s.groupEmpty(page) {
		s.memory.Release(s.table(page).Number())
		s.setTable(page, 0)
	}
}

// End gives back all that the space has, its root as well.
func (s Space) End() {
	for page := range api.Pages {
		s.Remove(page)
	}
	s.memory.Release(s.root)
}

func (s Space) table(page int) Entry {
	return Entry(s.memory.Word(s.root, page/api.Group))
}

func (s Space) setTable(page int, entry Entry) {
	s.memory.SetWord(s.root, page/api.Group, uint16(entry))
}

func (s Space) setEntry(page int, entry Entry) {
	s.memory.SetWord(s.table(page).Number(), page%api.Group, uint16(entry))
}

func (s Space) groupEmpty(page int) bool {
	table := s.table(page).Number()
	for at := range api.Group {
		if Entry(s.memory.Word(table, at)).Present() {
			return false
		}
	}
	return true
}
