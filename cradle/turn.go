package cradle

import (
	"cradle/api"
	"cradle/tables"
)

// The levels of a walk by a guest's own tables; the one between is the table's.
const (
	rootLevel = 1
	pageLevel = 3
)

// turn follows a page number of a guest to the page that is meant, by the
// guest's own tables if it has a root page, and finds that page's entry.
// What it finds in the guest's tables is not kept: any write may change them.
func (m *Machine) turn(guest int, page int, storing bool) (tables.Entry, api.Fault) {
	var host, own tables.Entry
	var kind int
	level, meant := pageLevel, page
	if root := m.guests[guest].rootPage; root != api.NoRoot {
		level, meant = rootLevel, root
	}
	for ; level < pageLevel; level++ {
		host = m.walk(guest, meant)
		if !host.Present() {
			kind = api.HostAbsent
			goto fault
		}
		own = tables.Entry(m.memory.Word(host.Number(), entryOf(page, level)))
		if !own.Present() {
			kind = api.GuestAbsent
			goto fault
		}
		if storing && !own.Writable() {
			kind = api.GuestDenied
			goto fault
		}
		meant = own.Number()
	}
	host = m.walk(guest, meant)
	if !host.Present() {
		kind = api.HostAbsent
		goto fault
	}
	if storing && !host.Writable() {
		kind = api.HostDenied
		goto fault
	}
	return host, api.Fault{}

fault:
	return 0, api.Fault{Kind: kind, Level: level}
}

// entryOf tells which word of the page at this level is the entry that leads on.
func entryOf(page int, level int) int {
	if level == rootLevel {
		return page / api.Words
	}
	return page % api.Words
}
