package saved

import "cradle/api"

// mark is what all bytes of guests begin with, 67 and 86; the number of the form follows.
const mark = "CV"

const newestForm = 3

// noRootByte stands for api.NoRoot, which is no byte.
const noRootByte = 255

// Write tells the bytes of a guest in the newest form.
func Write(guest Guest) string {
	text := append([]byte(mark), newestForm, rootByte(guest.Root))
	text = appendBits(text, &guest.Pages, Page.isPresent)
	text = appendBits(text, &guest.Pages, Page.isWritable)
	text = appendBits(text, &guest.Pages, Page.isFilled)
	for _, page := range guest.Pages {
		if page.isFilled() {
			text = appendWords(text, page.Words)
		}
	}
	ahead := string(text)
	return ahead + check(ahead)
}

func rootByte(root int) byte {
	if root == api.NoRoot {
		return noRootByte
	}
	return byte(root)
}

// appendBits adds a bit for each page, by what is asked of it.
func appendBits(text []byte, pages *[api.Pages]Page, asked func(Page) bool) []byte {
	var bits [api.Pages / 8]byte
	for number, page := range pages {
		if asked(page) {
			bits[number/8] |= 1 << (number % 8)
		}
	}
	return append(text, bits[:]...)
}

func appendWords(text []byte, words [api.Words]uint16) []byte {
	for _, word := range words {
		text = appendWord(text, word)
	}
	return text
}

// appendWord adds a word, the low byte first.
func appendWord(text []byte, word uint16) []byte {
	return append(text, byte(word), byte(word>>8))
}
