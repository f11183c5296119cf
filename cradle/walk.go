package cradle

import (
	"cradle/api"
	"cradle/tables"
)

// walk finds the entry of a guest's page, by its tables or by what an earlier
// walk has found. What is not present is not kept, so that a page that comes
// later needs to let nothing go.
func (m *Machine) walk(guest int, page int) tables.Entry {
	at := place{guest, page}
	if entry, ok := m.found.Find(at); ok {
		return entry
	}
	entry := m.guests[guest].space.Walk(page)
	if entry.Present() {
		m.found.Keep(at, entry)
	}
	return entry
}

// check answers the refusals that come first in most calls.
func (m *Machine) check(guest int, inRange bool) api.Errno {
	if _, ok := m.guests[guest]; !ok {
		return api.ErrNone
	}
	if !inRange {
		return api.ErrPage
	}
	return api.OK
}

// checkWord answers them for the calls that change a word.
func (m *Machine) checkWord(guest int, address int, word int) api.Errno {
	if e := m.check(guest, isAddress(address)); e != api.OK {
		return e
	}
	if word < 0 || word > api.MaxWord {
		return api.ErrValue
	}
	return api.OK
}

// word tells the word that an address means in the page of an entry: turning
// an address changes its page alone, so the whole address serves here.
func (m *Machine) word(entry tables.Entry, address int) int {
	return int(m.memory.Word(entry.Number(), address%api.Words))
}

func (m *Machine) setWord(entry tables.Entry, address int, word int) {
	m.memory.SetWord(entry.Number(), address%api.Words, uint16(word))
}

func placesOf(guest int) []place {
	places := make([]place, api.Pages)
	for page := range places {
		places[page] = place{guest, page}
	}
	return places
}

func isPage(page int) bool { return page >= 0 && page < api.Pages }

func isAddress(address int) bool { return address >= 0 && address < api.Pages*api.Words }
