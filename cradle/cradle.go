// Package cradle: machines within a machine, each alone with its memory: see DOC.md.
package cradle

import (
	"cradle/api"
	"cradle/cache"
	"cradle/memory"
	"cradle/saved"
	"cradle/tables"
)

// Machine holds guests.
type Machine struct {
	memory *memory.Memory
	guests map[int]resident
	newest int // a guest's number is not used again, so the last one given is kept
	found  cache.Cache[place, tables.Entry]
}

// resident is what the machine keeps of a guest.
type resident struct {
	space    tables.Space
	rootPage int // api.NoRoot: its addresses mean what they say
}

// place names a page of a guest.
type place struct {
	guest, page int
}

// New makes a machine (P2).
func New(frames int) (*Machine, api.Errno) {
	if frames < api.MinFrames || frames > api.MaxFrames {
		return nil, api.ErrFrames
	}
	return &Machine{memory: memory.New(frames), guests: make(map[int]resident)}, api.OK
}

// Free tells how many frames are nothing (P2).
func (m *Machine) Free() int { return m.memory.Free() }

// Create makes a guest (P2).
func (m *Machine) Create() (int, api.Errno) {
	return m.admit(saved.Guest{Root: api.NoRoot})
}

// Destroy ends a guest (P2).
func (m *Machine) Destroy(guest int) api.Errno {
	gone, ok := m.guests[guest]
	if !ok {
		return api.ErrNone
	}
	gone.space.End()
	delete(m.guests, guest)
	m.found.Drop(placesOf(guest)...)
	return api.OK
}

// Map gives a guest a page (P3).
func (m *Machine) Map(guest int, page int, writable bool) api.Errno {
	if e := m.check(guest, isPage(page)); e != api.OK {
		return e
	}
	if m.walk(guest, page).Present() {
		return api.ErrTaken
	}
	space := m.guests[guest].space
	if m.memory.Free() < 1+space.Missing(page) {
		return api.ErrFull
	}
	space.Enter(page, m.memory.Take(), writable)
	return api.OK
}

// Unmap takes a page away (P3).
func (m *Machine) Unmap(guest int, page int) api.Errno {
	if e := m.check(guest, isPage(page)); e != api.OK {
		return e
	}
	if !m.walk(guest, page).Present() {
		return api.ErrAbsent
	}
	m.guests[guest].space.Remove(page)
	m.found.Drop(place{guest, page})
	return api.OK
}

// Read reads a word (P4).
func (m *Machine) Read(guest int, address int) (int, api.Errno) {
	if e := m.check(guest, isAddress(address)); e != api.OK {
		return 0, e
	}
	entry := m.walk(guest, address/api.Words)
	if !entry.Present() {
		return 0, api.ErrAbsent
	}
	return m.word(entry, address), api.OK
}

// Write writes a word (P4).
func (m *Machine) Write(guest int, address int, word int) api.Errno {
	if e := m.checkWord(guest, address, word); e != api.OK {
		return e
	}
	entry := m.walk(guest, address/api.Words)
	if !entry.Present() {
		return api.ErrAbsent
	}
	if !entry.Writable() {
		return api.ErrDenied
	}
	m.setWord(entry, address, word)
	return api.OK
}

// Share shares a page (P5).
func (m *Machine) Share(from int, page int, to int, at int, writable bool) api.Errno {
	receiver, ok := m.guests[to]
	if !ok {
		return api.ErrNone
	}
	if e := m.check(from, isPage(page) && isPage(at)); e != api.OK {
		return e
	}
	entry := m.walk(from, page)
	if !entry.Present() {
		return api.ErrAbsent
	}
	if writable && !entry.Writable() {
		return api.ErrDenied
	}
	if m.walk(to, at).Present() {
		return api.ErrTaken
	}
	if m.memory.Free() < receiver.space.Missing(at) {
		return api.ErrFull
	}
	m.memory.Hold(entry.Number())
	receiver.space.Enter(at, entry.Number(), writable)
	return api.OK
}

// Root sets a guest's root page (P6).
func (m *Machine) Root(guest int, page int) api.Errno {
	if e := m.check(guest, page == api.NoRoot || isPage(page)); e != api.OK {
		return e
	}
	changed := m.guests[guest]
	changed.rootPage = page
	m.guests[guest] = changed
	return api.OK
}

// Load reads a word by a guest's own tables (P6).
func (m *Machine) Load(guest int, address int) (int, api.Fault, api.Errno) {
	if e := m.check(guest, isAddress(address)); e != api.OK {
		return 0, api.Fault{}, e
	}
	entry, fault := m.turn(guest, address/api.Words, false)
	if fault != (api.Fault{}) {
		return 0, fault, api.OK
	}
	return m.word(entry, address), api.Fault{}, api.OK
}

// Store writes one (P6).
func (m *Machine) Store(guest int, address int, word int) (api.Fault, api.Errno) {
	if e := m.checkWord(guest, address, word); e != api.OK {
		return api.Fault{}, e
	}
	entry, fault := m.turn(guest, address/api.Words, true)
	if fault != (api.Fault{}) {
		return fault, api.OK
	}
	m.setWord(entry, address, word)
	return api.Fault{}, api.OK
}

// Save tells a guest's bytes (P7).
func (m *Machine) Save(guest int) (string, api.Errno) {
	if _, ok := m.guests[guest]; !ok {
		return "", api.ErrNone
	}
	return saved.Write(m.picture(guest)), api.OK
}

// Restore makes a guest of bytes (P7).
func (m *Machine) Restore(bytes string) (int, api.Errno) {
	guest, ok := saved.Read(bytes)
	if !ok {
		return 0, api.ErrBytes
	}
	return m.admit(guest)
}

// Upgrade turns bytes into the newest form (P7).
func Upgrade(bytes string) (string, api.Errno) {
	guest, ok := saved.Read(bytes)
	if !ok {
		return "", api.ErrBytes
	}
	return saved.Write(guest), api.OK
}
