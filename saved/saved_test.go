package saved

import (
	"encoding/binary"
	"hash/adler32"
	"math/rand"
	"strings"
	"testing"

	"cradle/api"
)

// encode tells a guest in a form, by the document's words and by other means than the program.
// A guest of form 1 has no root page and nothing but writable pages.
func encode(form byte, guest Guest) string {
	return sealed(form, body(form, guest))
}

func body(form byte, guest Guest) string {
	text := []byte{67, 86, form}
	if form > 1 {
		text = append(text, byte(guest.Root)) // -1 is 255 as a byte
	}
	if form == 3 {
		return string(appendMapped(text, guest))
	}
	return string(appendListed(text, form, guest))
}

func appendListed(text []byte, form byte, guest Guest) []byte {
	count := len(text)
	text = append(text, 0)
	for number, page := range guest.Pages {
		if !page.Present {
			continue
		}
		text[count]++
		text = append(text, byte(number))
		if form == 1 {
			text, _ = binary.Append(text, binary.BigEndian, page.Words)
			continue
		}
		text, _ = binary.Append(text, binary.LittleEndian, page.Writable)
		text, _ = binary.Append(text, binary.LittleEndian, page.Words)
	}
	return text
}

func appendMapped(text []byte, guest Guest) []byte {
	var present, writable, filled uint64
	var words []byte
	for number, page := range guest.Pages {
		if page.Present {
			present += 1 << number
		}
		if page.Writable {
			writable += 1 << number
		}
		for _, word := range page.Words {
			if word > 0 {
				filled += 1 << number
				words, _ = binary.Append(words, binary.LittleEndian, page.Words)
				break
			}
		}
	}
	text, _ = binary.Append(text, binary.LittleEndian, []uint64{present, writable, filled})
	return append(text, words...)
}

// sealed adds the last bytes of a form; the document's check is the one called Adler-32.
func sealed(form byte, ahead string) string {
	total := 0
	for _, b := range []byte(ahead) {
		total += int(b)
	}
	text := []byte(ahead)
	switch form {
	case 1:
		text = append(text, byte(total%256))
	case 2:
		text = append(text, byte(total%256), byte(total/256%256))
	default:
		text = binary.LittleEndian.AppendUint32(text, adler32.Checksum(text))
	}
	return string(text)
}

// someGuest is one that the form can tell.
func someGuest(r *rand.Rand, form byte) Guest {
	guest := Guest{Root: r.Intn(api.Pages+1) - 1}
	if form == 1 {
		guest.Root = api.NoRoot
	}
	often := 1 + r.Intn(20)
	for number := range guest.Pages {
		if r.Intn(often) > 0 {
			continue
		}
		page := Page{Present: true, Writable: form == 1 || r.Intn(2) == 0}
		for at := range page.Words {
			page.Words[at] = uint16(r.Intn(65536) * r.Intn(2))
		}
		if r.Intn(3) == 0 {
			page.Words = [api.Words]uint16{}
		}
		guest.Pages[number] = page
	}
	return guest
}

func wantGuest(t *testing.T, text string, want Guest) {
	t.Helper()
	if got, ok := Read(text); !ok || got != want {
		t.Errorf("Read(%q) = %v, %v, want %v", text, got, ok, want)
	}
}

func wantRefused(t *testing.T, text string) {
	t.Helper()
	if got, ok := Read(text); ok || got != (Guest{}) {
		t.Errorf("Read(%q) = %v, %v, want a refusal", text, got, ok)
	}
}

func TestGuestsAreReadInEveryForm(t *testing.T) {
	r := rand.New(rand.NewSource(3))
	for range 1000 {
		for form := byte(1); form <= 3; form++ {
			guest := someGuest(r, form)
			wantGuest(t, encode(form, guest), guest)
			if got := Write(guest); got != encode(3, guest) {
				t.Errorf("Write(%v) = %q, want %q", guest, got, encode(3, guest))
			}
		}
	}
}

func TestEveryRootPage(t *testing.T) {
	for root := -1; root < 64; root++ {
		guest := Guest{Root: root}
		wantGuest(t, encode(2, guest), guest)
		wantGuest(t, encode(3, guest), guest)
	}
	for root := 64; root < 255; root++ {
		wantRefused(t, encode(2, Guest{Root: root}))
		wantRefused(t, encode(3, Guest{Root: root}))
	}
}

func TestEveryPageNumber(t *testing.T) {
	for number := range api.Pages {
		guest := Guest{Root: api.NoRoot}
		guest.Pages[number] = Page{Present: true, Writable: true, Words: [8]uint16{7: 0xa1b2}}
		for form := byte(1); form <= 3; form++ {
			wantGuest(t, encode(form, guest), guest)
		}
	}
}

// With all bits set the sums go beyond 256, 65536 and 65521 many times.
func TestTheGreatestGuest(t *testing.T) {
	guest := Guest{Root: api.NoRoot}
	for number := range guest.Pages {
		page := Page{Present: true, Writable: true}
		for at := range page.Words {
			page.Words[at] = api.MaxWord
		}
		guest.Pages[number] = page
	}
	for form := byte(1); form <= 3; form++ {
		wantGuest(t, encode(form, guest), guest)
	}
	if got := Write(guest); got != encode(3, guest) || len(got) != 3+1+24+1024+4 {
		t.Errorf("Write() = %q", got)
	}
}

// Bytes that were written out by hand, so that encode is held to the document, too.
func TestBytesByHand(t *testing.T) {
	guest := Guest{Root: api.NoRoot}
	guest.Pages[10] = Page{Present: true, Writable: true, Words: [8]uint16{0: 0x0102, 7: 0x0304}}
	zero := strings.Repeat("\x00", 12)
	first := "\x43\x56\x01\x01\x0a\x01\x02" + zero + "\x03\x04\xaf"
	second := "\x43\x56\x02\xff\x01\x0a\x01\x02\x01" + zero + "\x04\x03\xb0\x01"
	bits := "\x00\x04\x00\x00\x00\x00\x00\x00"
	third := "\x43\x56\x03\xff" + bits + bits + bits + "\x02\x01" + zero + "\x04\x03"
	wantGuest(t, first, guest)
	wantGuest(t, second, guest)
	wantGuest(t, third+"\xb2\x01\x25\x45", guest)
}

// What is cut short, goes on or has one other bit is refused: the seals tell.
func TestDamagedBytes(t *testing.T) {
	r := rand.New(rand.NewSource(4))
	for form := byte(1); form <= 3; form++ {
		text := encode(form, someGuest(r, form))
		for size := range len(text) {
			wantRefused(t, text[:size])
			wantRefused(t, text[size+1:])
		}
		for b := range 256 {
			wantRefused(t, text+string([]byte{byte(b)}))
		}
		for i := range len(text) {
			for bit := range 8 {
				damaged := []byte(text)
				damaged[i] ^= 1 << bit
				wantRefused(t, string(damaged))
			}
		}
	}
}

// change makes one to three changes to bytes: others in their place, some left out, or some more.
func change(r *rand.Rand, ahead string) string {
	text := []byte(ahead)
	for range 1 + r.Intn(3) {
		i := r.Intn(len(text))
		size := min(1+r.Intn(20), len(text)-i)
		switch r.Intn(6) {
		case 0:
			text = append(text[:i:i], text[i+size:]...)
		case 1:
			text = append(text[:i+size:i+size], text[i:]...)
		case 2:
			text[i] = byte(r.Intn(4))
		case 3:
			text[i] ^= 1 << r.Intn(8)
		default:
			text[i] = byte(r.Intn(256))
		}
		if len(text) == 0 {
			break
		}
	}
	return string(text)
}

// Changed bytes that are sealed anew are a guest's only if that guest is told by these bytes.
func TestChangedBytesThatAreSealedAnew(t *testing.T) {
	r := rand.New(rand.NewSource(5))
	read, refused := 0, 0
	for range 60000 {
		form := byte(1 + r.Intn(3))
		text := sealed(form, change(r, body(form, someGuest(r, form))))
		guest, ok := Read(text)
		if !ok {
			wantRefused(t, text)
			refused++
			continue
		}
		read++
		if text != encode(text[2], guest) {
			t.Fatalf("Read(%q) = %v", text, guest)
		}
	}
	if read < 1000 || refused < 1000 {
		t.Errorf("%d were read, %d refused: too few to tell", read, refused)
	}
}

func TestBytesOfNoGuest(t *testing.T) {
	const zero = "\x00\x00\x00\x00\x00\x00\x00\x00"
	const page = zero + zero
	low := "\x01" + zero[1:]
	rows := []struct {
		name  string
		form  byte
		ahead string
	}{
		{"nothing", 1, ""},
		{"no form", 1, "CV"},
		{"another first byte", 1, "BV\x01\x00"},
		{"another second byte", 1, "CW\x01\x00"},
		{"both changed about", 1, "VC\x01\x00"},
		{"form 0, as 1", 1, "CV\x00\x00"},
		{"form 0, as 3", 3, "CV\x00\xff" + zero + zero + zero},
		{"form 4, as 1", 1, "CV\x04\x00"},
		{"form 4, as 3", 3, "CV\x04\xff" + zero + zero + zero},
		{"form 255", 3, "CV\xff\xff" + zero + zero + zero},
		{"form 1 with the seal of 2", 2, "CV\x01\x00"},
		{"form 1 with the seal of 3", 3, "CV\x01\x00"},
		{"form 2 with the seal of 1", 1, "CV\x02\xff\x00"},
		{"form 2 with the seal of 3", 3, "CV\x02\xff\x00"},
		{"form 3 with the seal of 1", 1, "CV\x03\xff" + zero + zero + zero},
		{"form 3 with the seal of 2", 2, "CV\x03\xff" + zero + zero + zero},
		{"1: no count", 1, "CV\x01"},
		{"1: a page less", 1, "CV\x01\x02\x05" + page},
		{"1: a page more", 1, "CV\x01\x00\x05" + page},
		{"1: no number", 1, "CV\x01\x01"},
		{"1: a byte less", 1, "CV\x01\x01\x05" + page[1:]},
		{"1: a byte more", 1, "CV\x01\x01\x05" + page + "\x00"},
		{"1: page 64", 1, "CV\x01\x01\x40" + page},
		{"1: page 255", 1, "CV\x01\x01\xff" + page},
		{"1: a page twice", 1, "CV\x01\x02\x05" + page + "\x05" + page},
		{"1: page 0 twice", 1, "CV\x01\x02\x00" + page + "\x00" + page},
		{"1: falling numbers", 1, "CV\x01\x02\x05" + page + "\x04" + page},
		{"1: 65 pages", 1, "CV\x01\x41" + strings.Repeat("\x00"+page, 65)},
		{"1: 255 pages", 1, "CV\x01\xff" + strings.Repeat("\x00"+page, 255)},
		{"2: no count", 2, "CV\x02\xff"},
		{"2: root page 64", 2, "CV\x02\x40\x00"},
		{"2: root page 254", 2, "CV\x02\xfe\x00"},
		{"2: writable 2", 2, "CV\x02\xff\x01\x05\x02" + page},
		{"2: writable 255", 2, "CV\x02\xff\x01\x05\xff" + page},
		{"2: page 64", 2, "CV\x02\xff\x01\x40\x01" + page},
		{"2: a page twice", 2, "CV\x02\xff\x02\x05\x01" + page + "\x05\x01" + page},
		{"2: falling numbers", 2, "CV\x02\xff\x02\x05\x01" + page + "\x04\x01" + page},
		{"2: a page less", 2, "CV\x02\xff\x02\x05\x01" + page},
		{"2: a page more", 2, "CV\x02\xff\x01\x05\x01" + page + "\x06\x01" + page},
		{"2: a byte less", 2, "CV\x02\xff\x01\x05\x01" + page[1:]},
		{"3: no bits", 3, "CV\x03\xff"},
		{"3: no bits of filled pages", 3, "CV\x03\xff" + zero + zero},
		{"3: root page 64", 3, "CV\x03\x40" + zero + zero + zero},
		{"3: root page 254", 3, "CV\x03\xfe" + zero + zero + zero},
		{"3: writable, but not there", 3, "CV\x03\xff" + zero + low + zero},
		{"3: filled, but not there", 3, "CV\x03\xff" + zero + zero + low + low + zero},
		{"3: filled with 0", 3, "CV\x03\xff" + low + zero + low + page},
		{"3: words of a page that is not filled", 3, "CV\x03\xff" + low + zero + zero + low + zero},
		{"3: no words", 3, "CV\x03\xff" + low + zero + low},
		{"3: a byte less", 3, "CV\x03\xff" + low + zero + low + low + zero[1:]},
		{"3: a byte more", 3, "CV\x03\xff" + low + zero + low + low + zero + "\x00"},
	}
	for _, row := range rows {
		wantRefused(t, sealed(row.form, row.ahead))
		if t.Failed() {
			t.Fatal(row.name)
		}
	}
	wantRefused(t, "")
	wantRefused(t, strings.Repeat("CV\x03", 1<<20))
}

func FuzzRead(f *testing.F) {
	r := rand.New(rand.NewSource(6))
	for form := byte(1); form <= 3; form++ {
		f.Add(form, body(form, someGuest(r, form)))
	}
	f.Fuzz(func(t *testing.T, form byte, ahead string) {
		for _, text := range []string{ahead, sealed(form, ahead)} {
			guest, ok := Read(text)
			if ok && encode(text[2], guest) != text {
				t.Errorf("Read(%q) = %v", text, guest)
			}
			if !ok && guest != (Guest{}) {
				t.Errorf("Read(%q) = %v beside a refusal", text, guest)
			}
		}
	})
}
