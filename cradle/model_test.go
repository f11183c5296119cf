package cradle

import (
	"maps"
	"math/rand"
	"slices"
	"testing"

	"cradle/api"
)

// modelPage is one guest's hold on a page; guests that share it have the same words.
type modelPage struct {
	writable bool
	words    *[8]int
}

type modelGuest struct {
	root  int
	pages map[int]modelPage
}

// model is the machine without frames: what P2 to P7 say, in maps.
type model struct {
	frames, newest int
	guests         map[int]*modelGuest
}

func newModel(frames int) *model {
	return &model{frames: frames, guests: map[int]*modelGuest{}}
}

func (o *model) free() int {
	free := o.frames
	words := map[*[8]int]int{}
	for _, guest := range o.guests {
		groups := map[int]int{}
		for number, page := range guest.pages {
			groups[number/8]++
			words[page.words]++
		}
		free -= 1 + len(groups)
	}
	return free - len(words)
}

func (o *model) has(guest, page int) bool {
	_, ok := o.guests[guest].pages[page]
	return ok
}

// enter gives first and looks at the frames afterwards: another way to the same answer.
func (o *model) enter(guest, number int, page modelPage) api.Errno {
	if o.has(guest, number) {
		return api.ErrTaken
	}
	o.guests[guest].pages[number] = page
	if o.free() < 0 {
		delete(o.guests[guest].pages, number)
		return api.ErrFull
	}
	return api.OK
}

func (o *model) create() (int, api.Errno) {
	if len(o.guests) == 4 {
		return 0, api.ErrMany
	}
	if o.free() == 0 {
		return 0, api.ErrFull
	}
	o.newest++
	o.guests[o.newest] = &modelGuest{root: -1, pages: map[int]modelPage{}}
	return o.newest, api.OK
}

func (o *model) destroy(guest int) api.Errno {
	if o.guests[guest] == nil {
		return api.ErrNone
	}
	delete(o.guests, guest)
	return api.OK
}

func (o *model) mapPage(guest, page int, writable bool) api.Errno {
	switch {
	case o.guests[guest] == nil:
		return api.ErrNone
	case page < 0 || page > 63:
		return api.ErrPage
	}
	return o.enter(guest, page, modelPage{writable, new([8]int)})
}

func (o *model) unmap(guest, page int) api.Errno {
	switch {
	case o.guests[guest] == nil:
		return api.ErrNone
	case page < 0 || page > 63:
		return api.ErrPage
	case !o.has(guest, page):
		return api.ErrAbsent
	}
	delete(o.guests[guest].pages, page)
	return api.OK
}

func (o *model) read(guest, address int) (int, api.Errno) {
	switch {
	case o.guests[guest] == nil:
		return 0, api.ErrNone
	case address < 0 || address > 511:
		return 0, api.ErrPage
	case !o.has(guest, address/8):
		return 0, api.ErrAbsent
	}
	return o.guests[guest].pages[address/8].words[address%8], api.OK
}

func (o *model) write(guest, address, word int) api.Errno {
	_, e := o.read(guest, address)
	switch {
	case e == api.ErrNone || e == api.ErrPage:
		return e
	case word < 0 || word > 65535:
		return api.ErrValue
	case e != api.OK:
		return e
	case !o.guests[guest].pages[address/8].writable:
		return api.ErrDenied
	}
	o.guests[guest].pages[address/8].words[address%8] = word
	return api.OK
}

func (o *model) share(from, page, to, at int, writable bool) api.Errno {
	switch {
	case o.guests[from] == nil || o.guests[to] == nil:
		return api.ErrNone
	case page < 0 || page > 63 || at < 0 || at > 63:
		return api.ErrPage
	case !o.has(from, page):
		return api.ErrAbsent
	case writable && !o.guests[from].pages[page].writable:
		return api.ErrDenied
	}
	return o.enter(to, at, modelPage{writable, o.guests[from].pages[page].words})
}

func (o *model) setRoot(guest, page int) api.Errno {
	switch {
	case o.guests[guest] == nil:
		return api.ErrNone
	case page < -1 || page > 63:
		return api.ErrPage
	}
	o.guests[guest].root = page
	return api.OK
}

// entry reads one entry of a guest's own, and tells where it leads, or the kind of its fault.
func (o *model) entry(guest, table, at int, storing bool) (next, kind int) {
	word, e := o.read(guest, table*8+at)
	switch {
	case e == api.ErrAbsent:
		return 0, api.HostAbsent
	case word%2 == 0:
		return 0, api.GuestAbsent
	case storing && word/2%2 == 0:
		return 0, api.GuestDenied
	}
	return word / 4 % 64, 0
}

// turn tells the address that is meant; whether its page is had, read and write tell.
func (o *model) turn(guest, address int, storing bool) (int, api.Fault) {
	root := o.guests[guest].root
	if root == -1 {
		return address, api.Fault{}
	}
	table, kind := o.entry(guest, root, address/64, storing)
	if kind != 0 {
		return 0, api.Fault{Kind: kind, Level: 1}
	}
	page, kind := o.entry(guest, table, address/8%8, storing)
	if kind != 0 {
		return 0, api.Fault{Kind: kind, Level: 2}
	}
	return page*8 + address%8, api.Fault{}
}

func lastFault(e api.Errno) api.Fault {
	switch e {
	case api.ErrAbsent:
		return api.Fault{Kind: api.HostAbsent, Level: 3}
	case api.ErrDenied:
		return api.Fault{Kind: api.HostDenied, Level: 3}
	}
	return api.Fault{}
}

func (o *model) load(guest, address int) (int, api.Fault, api.Errno) {
	if _, e := o.read(guest, address); e == api.ErrNone || e == api.ErrPage {
		return 0, api.Fault{}, e
	}
	turned, fault := o.turn(guest, address, false)
	if fault != (api.Fault{}) {
		return 0, fault, api.OK
	}
	word, e := o.read(guest, turned)
	return word, lastFault(e), api.OK
}

func (o *model) store(guest, address, word int) (api.Fault, api.Errno) {
	if _, e := o.read(guest, address); e == api.ErrNone || e == api.ErrPage {
		return api.Fault{}, e
	}
	if word < 0 || word > 65535 {
		return api.Fault{}, api.ErrValue
	}
	turned, fault := o.turn(guest, address, true)
	if fault != (api.Fault{}) {
		return fault, api.OK
	}
	return lastFault(o.write(guest, turned, word)), api.OK
}

// bytes tells a guest in form 2, which is the plainest that tells all of it.
func (g *modelGuest) bytes() string {
	text := []byte{67, 86, 2, byte(g.root), byte(len(g.pages))}
	for _, number := range slices.Sorted(maps.Keys(g.pages)) {
		text = append(text, byte(number), 0)
		if g.pages[number].writable {
			text[len(text)-1] = 1
		}
		for _, word := range g.pages[number].words {
			text = append(text, byte(word%256), byte(word/256))
		}
	}
	sum := 0
	for _, b := range text {
		sum += int(b)
	}
	return string(append(text, byte(sum%256), byte(sum/256%256)))
}

func (o *model) save(guest int) (string, api.Errno) {
	if o.guests[guest] == nil {
		return "", api.ErrNone
	}
	return Upgrade(o.guests[guest].bytes())
}

// restore makes a guest like another one, but with pages of its own.
func (o *model) restore(like *modelGuest) (int, api.Errno) {
	if len(o.guests) == 4 {
		return 0, api.ErrMany
	}
	guest := &modelGuest{root: like.root, pages: map[int]modelPage{}}
	for number, page := range like.pages {
		words := *page.words
		guest.pages[number] = modelPage{page.writable, &words}
	}
	o.guests[o.newest+1] = guest
	if o.free() < 0 {
		delete(o.guests, o.newest+1)
		return 0, api.ErrFull
	}
	o.newest++
	return o.newest, api.OK
}

// restoreStep hands the bytes of a guest to both, or bytes of none if there is no such guest.
func (o *model) restoreStep(t *testing.T, m *Machine, r *rand.Rand, guest int) {
	t.Helper()
	like := o.guests[guest]
	if like == nil {
		wantRestore(t, m, "CV", 0, api.ErrBytes)
		return
	}
	bytes := like.bytes()
	if r.Intn(2) == 0 {
		bytes, _ = Upgrade(bytes)
	}
	g, e := o.restore(like)
	wantRestore(t, m, bytes, g, e)
}

// someGuest is mostly one that lives, and sometimes one that is gone or never was.
func (o *model) someGuest(r *rand.Rand) int {
	if len(o.guests) == 0 || r.Intn(10) == 0 {
		return r.Intn(o.newest + 2)
	}
	live := slices.Sorted(maps.Keys(o.guests))
	return live[r.Intn(len(live))]
}

// somePage is mostly one of few pages, so that calls meet, and sometimes none.
func somePage(r *rand.Rand) int {
	if r.Intn(8) > 0 {
		return 5 + r.Intn(6)
	}
	return r.Intn(67) - 2
}

// someWord is mostly an entry that leads to one of the few pages.
func someWord(r *rand.Rand) int {
	if r.Intn(8) > 0 {
		return r.Intn(256)<<8 | (5+r.Intn(6))<<2 | r.Intn(4) | r.Intn(4)
	}
	return r.Intn(66000) - 200
}

// step does one call to both, at numbers that are mostly right and sometimes wrong.
func (o *model) step(t *testing.T, m *Machine, r *rand.Rand) {
	t.Helper()
	guest, other := o.someGuest(r), o.someGuest(r)
	page, at := somePage(r), somePage(r)
	address := page*8 + r.Intn(8)
	word := someWord(r)
	writable := r.Intn(3) > 0
	switch r.Intn(22) {
	case 0:
		g, e := o.create()
		wantCreate(t, m, g, e)
	case 1:
		if r.Intn(8) == 0 {
			wantErrno(t, "Destroy", m.Destroy(guest), o.destroy(guest))
		}
	case 2, 3:
		wantMap(t, m, guest, page, writable, o.mapPage(guest, page, writable))
	case 4, 5:
		if r.Intn(2) == 0 {
			wantUnmap(t, m, guest, page, o.unmap(guest, page))
		}
	case 6, 7, 8:
		wantWrite(t, m, guest, address, word, o.write(guest, address, word))
	case 9, 10:
		w, e := o.read(guest, address)
		wantRead(t, m, guest, address, w, e)
	case 11, 12, 13:
		wantShare(t, m, guest, page, other, at, writable, o.share(guest, page, other, at, writable))
	case 14:
		wantRoot(t, m, guest, page, o.setRoot(guest, page))
	case 15, 16:
		w, f, e := o.load(guest, address)
		wantLoad(t, m, guest, address, w, f, e)
	case 17:
		b, e := o.save(guest)
		wantSave(t, m, guest, b, e)
	case 18:
		if r.Intn(4) == 0 {
			o.restoreStep(t, m, r, guest)
		}
	default:
		f, e := o.store(guest, address, word)
		wantStore(t, m, guest, address, word, f, e)
	}
	wantFree(t, m, o.free())
}

func (o *model) same(t *testing.T, m *Machine) {
	t.Helper()
	for guest := range o.newest + 2 {
		b, e := o.save(guest)
		wantSave(t, m, guest, b, e)
		for address := -1; address <= 512; address++ {
			w, e := o.read(guest, address)
			wantRead(t, m, guest, address, w, e)
			w, f, e := o.load(guest, address)
			wantLoad(t, m, guest, address, w, f, e)
		}
	}
}

func TestTheMachineIsLikeItsModel(t *testing.T) {
	r := rand.New(rand.NewSource(1))
	for frames := api.MinFrames; frames <= api.MaxFrames; frames++ {
		m, o := machineOf(t, frames, 0), newModel(frames)
		for range 2500 {
			o.step(t, m, r)
			if t.Failed() {
				t.Fatalf("with %d frames", frames)
			}
		}
		o.same(t, m)
	}
}

// Two machines by turns, each with its own model: a word that crossed over would show (P1).
func TestP1MachinesKnowNothingOfOneAnother(t *testing.T) {
	r := rand.New(rand.NewSource(2))
	m, n := machineOf(t, 20, 0), machineOf(t, 20, 0)
	o, p := newModel(20), newModel(20)
	for range 3000 {
		o.step(t, m, r)
		p.step(t, n, r)
	}
	o.same(t, m)
	p.same(t, n)
}
