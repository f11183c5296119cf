// Package saved: a guest as bytes, read in each of the three forms and written in the newest.
package saved

import "cradle/api"

// Guest is what bytes tell of a guest.
type Guest struct {
	Root  int // its root page, or api.NoRoot
	Pages [api.Pages]Page
}

// Page is a page of a guest; one that the guest does not have is the zero Page.
type Page struct {
	Present  bool
	Writable bool
	Words    [api.Words]uint16
}

func (p Page) isPresent() bool { return p.Present }

func (p Page) isWritable() bool { return p.Writable }

func (p Page) isFilled() bool { return p.Words != [api.Words]uint16{} }
