package cradle

import (
	"cradle/api"
	"cradle/saved"
	"cradle/tables"
)

// admit makes a guest that has what it is told to have, in frames of its own.
func (m *Machine) admit(wanted saved.Guest) (int, api.Errno) {
	if len(m.guests) >= api.MaxGuests {
		return 0, api.ErrMany
	}
	if m.memory.Free() < framesOf(wanted) {
		return 0, api.ErrFull
	}
	space := tables.NewSpace(m.memory)
	for number, page := range wanted.Pages {
		if page.Present {
			space.Enter(number, m.fill(page.Words), page.Writable)
		}
	}
	m.newest++
	m.guests[m.newest] = resident{space: space, rootPage: wanted.Root}
	return m.newest, api.OK
}

// framesOf tells how many frames a guest takes that shares no page.
func framesOf(wanted saved.Guest) int {
	frames := 1
	group := -1
	for number, page := range wanted.Pages {
		if !page.Present {
			continue
		}
		frames++
		if number/api.Group != group {
			frames++
			group = number / api.Group
		}
	}
	return frames
}

// fill takes a frame for these words. It is written by its number, since a page
// that is not writable for its guest comes with words, too.
func (m *Machine) fill(words [api.Words]uint16) int {
	frame := m.memory.Take()
	for at, word := range words {
		m.memory.SetWord(frame, at, word)
	}
	return frame
}

// picture tells what a guest has; of a page that is shared, it is this guest's hold on it.
func (m *Machine) picture(guest int) saved.Guest {
	picture := saved.Guest{Root: m.guests[guest].rootPage}
	for number := range picture.Pages {
		entry := m.walk(guest, number)
		if !entry.Present() {
			continue
		}
		page := saved.Page{Present: true, Writable: entry.Writable()}
		for at := range page.Words {
			page.Words[at] = m.memory.Word(entry.Number(), at)
		}
		picture.Pages[number] = page
	}
	return picture
}
