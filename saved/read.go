package saved

import (
	"strings"

	"cradle/api"
)

// reader takes the bytes of a guest, one behind the other. What differs from
// form to form are its function fields: tell sets them once, and nothing that
// reads afterwards asks for the form.
type reader struct {
	rest  string
	wrong bool // once set it stays, so that one look at the end is enough

	root     func() int
	pages    func(*[api.Pages]Page)
	writable func() bool
	word     func() uint16
	seal     func(ahead string) string
}

// Read tells the guest of these bytes, and whether they are the bytes of one in any of the forms.
func Read(text string) (Guest, bool) {
	rest, marked := strings.CutPrefix(text, mark)
	r := &reader{rest: rest}
	if !marked || !r.tell(r.take()) {
		return Guest{}, false
	}
	guest := Guest{Root: r.root()}
	r.pages(&guest.Pages)
	ahead := text[:len(text)-len(r.rest)]
	if r.wrong || r.rest != r.seal(ahead) {
		return Guest{}, false
	}
	return guest, true
}

// tell says the form to the reader, and answers whether there is such a form.
func (r *reader) tell(form byte) bool {
	switch form {
	case 1:
		r.root, r.pages, r.seal = r.noRoot, r.listed, shortSum
		r.writable, r.word = r.always, r.highFirst
	case 2:
		r.root, r.pages, r.seal = r.rootPage, r.listed, longSum
		r.writable, r.word = r.flag, r.lowFirst
	case newestForm:
		r.root, r.pages, r.seal = r.rootPage, r.mapped, check
		r.word = r.lowFirst // writable is not asked: bits ahead of the pages say it
	default:
		return false
	}
	return true
}

func (r *reader) require(holds bool) {
	if !holds {
		r.wrong = true
	}
}

// take tells the next byte; one behind the end is 0, and wrong.
func (r *reader) take() byte {
	r.require(r.rest != "")
	if r.rest == "" {
		return 0
	}
	next := r.rest[0]
	r.rest = r.rest[1:]
	return next
}

func (r *reader) noRoot() int { return api.NoRoot }

func (r *reader) rootPage() int {
	root := r.take()
	if root == noRootByte {
		return api.NoRoot
	}
	r.require(root < api.Pages)
	return int(root)
}

// listed reads pages one by one. There are never too many of them: their
// numbers rise, and end at the last page's.
func (r *reader) listed(pages *[api.Pages]Page) {
	least := 0
	for range int(r.take()) {
		number := int(r.take())
		r.require(number >= least && number < api.Pages)
		if r.wrong {
			return
		}
		writable := r.writable()
		pages[number] = Page{Present: true, Writable: writable, Words: r.words()}
		least = number + 1
	}
}

// mapped reads which pages there are, ahead of their words. What could be told
// in two ways is refused in one of them: bits of pages that are not there, and
// words that are all 0.
func (r *reader) mapped(pages *[api.Pages]Page) {
	present := r.bits()
	writable := r.bits()
	filled := r.bits()
	r.require((writable|filled)&^present == 0)
	for number := range pages {
		bit := uint64(1) << number
		page := Page{Present: present&bit != 0, Writable: writable&bit != 0}
		if filled&bit != 0 {
			page.Words = r.words()
			r.require(page.isFilled())
		}
		pages[number] = page
	}
}

// bits reads a bit for each page; page 0 has the lowest.
func (r *reader) bits() uint64 {
	var bits uint64
	for k := range api.Pages / 8 {
		bits |= uint64(r.take()) << (8 * k)
	}
	return bits
}

func (r *reader) always() bool { return true }

func (r *reader) flag() bool {
	flag := r.take()
	r.require(flag <= 1)
	return flag == 1
}

func (r *reader) words() [api.Words]uint16 {
	var words [api.Words]uint16
	for at := range words {
		words[at] = r.word()
	}
	return words
}

func (r *reader) highFirst() uint16 {
	high := uint16(r.take())
	return high<<8 | uint16(r.take())
}

func (r *reader) lowFirst() uint16 {
	low := uint16(r.take())
	return low | uint16(r.take())<<8
}
