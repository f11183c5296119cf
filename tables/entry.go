// Package tables: the root and the tables by which a guest's pages are found, as words in frames.
package tables

// Entry is a word of a root or a table: bit 0 says that it is present, bit 1
// that it is writable, bits 2 to 7 are a number. That is how guests write their
// own entries, too, and room for every frame number up to api.MaxFrames - 1.
type Entry uint16

const (
	presentBit  Entry = 1
	writableBit Entry = 2
	numberShift       = 2
	numberMask        = 63
)

// NewEntry makes a present entry.
func NewEntry(number int, writable bool) Entry {
	e := presentBit | Entry(number&numberMask)<<numberShift
	if writable {
		e |= writableBit
	}
	return e
}

// Present tells whether the entry leads anywhere.
func (e Entry) Present() bool { return e&presentBit != 0 }

// Writable tells whether words may be stored by way of the entry.
func (e Entry) Writable() bool { return e&writableBit != 0 }

// Number tells where a present entry leads.
func (e Entry) Number() int { return int(e>>numberShift) & numberMask }
