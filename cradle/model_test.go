package cradle

import (
	"math/rand"
	"testing"

	"cradle/api"
)

type modelPage struct {
	writable bool
	words    [8]int
}

// model is the machine without frames: what P2 to P4 say, in maps.
type model struct {
	frames, newest int
	guests         map[int]map[int]*modelPage
}

func (o *model) free() int {
	free := o.frames
	for _, pages := range o.guests {
		groups := map[int]int{}
		for page := range pages {
			groups[page/8]++
		}
		free -= 1 + len(pages) + len(groups)
	}
	return free
}

func (o *model) create() (int, api.Errno) {
	if len(o.guests) == 4 {
		return 0, api.ErrMany
	}
	if o.free() == 0 {
		return 0, api.ErrFull
	}
	o.newest++
	o.guests[o.newest] = map[int]*modelPage{}
	return o.newest, api.OK
}

func (o *model) destroy(guest int) api.Errno {
	if o.guests[guest] == nil {
		return api.ErrNone
	}
	delete(o.guests, guest)
	return api.OK
}

// mapPage maps first and looks at the frames afterwards: another way to the same answer.
func (o *model) mapPage(guest, page int, writable bool) api.Errno {
	pages := o.guests[guest]
	switch {
	case pages == nil:
		return api.ErrNone
	case page < 0 || page > 63:
		return api.ErrPage
	case pages[page] != nil:
		return api.ErrTaken
	}
	pages[page] = &modelPage{writable: writable}
	if o.free() < 0 {
		delete(pages, page)
		return api.ErrFull
	}
	return api.OK
}

func (o *model) unmap(guest, page int) api.Errno {
	switch {
	case o.guests[guest] == nil:
		return api.ErrNone
	case page < 0 || page > 63:
		return api.ErrPage
	case o.guests[guest][page] == nil:
		return api.ErrAbsent
	}
	delete(o.guests[guest], page)
	return api.OK
}

func (o *model) read(guest, address int) (int, api.Errno) {
	switch {
	case o.guests[guest] == nil:
		return 0, api.ErrNone
	case address < 0 || address > 511:
		return 0, api.ErrPage
	case o.guests[guest][address/8] == nil:
		return 0, api.ErrAbsent
	}
	return o.guests[guest][address/8].words[address%8], api.OK
}

func (o *model) write(guest, address, word int) api.Errno {
	_, e := o.read(guest, address)
	switch {
	case e == api.ErrNone || e == api.ErrPage:
		return e
	case word < 0 || word > 65535:
		return api.ErrValue
	case e != api.OK:
		return e
	case !o.guests[guest][address/8].writable:
		return api.ErrDenied
	}
	o.guests[guest][address/8].words[address%8] = word
	return api.OK
}

// step does one call to both, at numbers that are mostly right and sometimes wrong.
func (o *model) step(t *testing.T, m *Machine, r *rand.Rand) {
	t.Helper()
	guest := o.newest - r.Intn(6) + 1
	page := r.Intn(67) - 2
	if r.Intn(2) == 0 {
		page = r.Intn(12)
	}
	address := page*8 + r.Intn(8)
	word := r.Intn(66000) - 200
	switch r.Intn(12) {
	case 0:
		g, e := o.create()
		wantCreate(t, m, g, e)
	case 1:
		if r.Intn(8) == 0 {
			wantErrno(t, "Destroy", m.Destroy(guest), o.destroy(guest))
		}
	case 2, 3, 4:
		writable := r.Intn(3) > 0
		wantMap(t, m, guest, page, writable, o.mapPage(guest, page, writable))
	case 5, 6:
		wantUnmap(t, m, guest, page, o.unmap(guest, page))
	case 7, 8, 9:
		wantWrite(t, m, guest, address, word, o.write(guest, address, word))
	default:
		w, e := o.read(guest, address)
		wantRead(t, m, guest, address, w, e)
	}
	wantFree(t, m, o.free())
}

func (o *model) same(t *testing.T, m *Machine) {
	t.Helper()
	for guest := range o.newest + 2 {
		for address := -1; address <= 512; address++ {
			w, e := o.read(guest, address)
			wantRead(t, m, guest, address, w, e)
		}
	}
}

func TestTheMachineIsLikeItsModel(t *testing.T) {
	r := rand.New(rand.NewSource(1))
	for frames := api.MinFrames; frames <= api.MaxFrames; frames++ {
		m := machineOf(t, frames, 0)
		o := &model{frames: frames, guests: map[int]map[int]*modelPage{}}
		for range 1500 {
			o.step(t, m, r)
			if t.Failed() {
				t.Fatalf("with %d frames", frames)
			}
		}
		o.same(t, m)
	}
}

// Two machines by turns, each with its own model: a word that crossed over would show (P1).
func TestP1MachinesKnowNothingOfOneAnother(t *testing.T) {
	r := rand.New(rand.NewSource(2))
	m, n := machineOf(t, 20, 0), machineOf(t, 20, 0)
	o := &model{frames: 20, guests: map[int]map[int]*modelPage{}}
	p := &model{frames: 20, guests: map[int]map[int]*modelPage{}}
	for range 3000 {
		o.step(t, m, r)
		p.step(t, n, r)
	}
	o.same(t, m)
	p.same(t, n)
}
