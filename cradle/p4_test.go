package cradle

import (
	"testing"

	"cradle/api"
)

func TestP4TheDocumentsNumbers(t *testing.T) {
	m := machineOf(t, 8, 1)
	wantMap(t, m, 1, 0, true, api.OK)
	wantWrite(t, m, 1, 4, 77, api.OK)
	wantRead(t, m, 1, 4, 77, api.OK)
}

// Two guests with the same page numbers, and each address with a word of its own.
func TestP4EveryAddressIsAWordOfItsOwn(t *testing.T) {
	m := machineOf(t, 64, 2)
	pages := []int{0, 1, 7, 8, 15, 30, 56, 63}
	for guest := 1; guest <= 2; guest++ {
		for _, page := range pages {
			wantMap(t, m, guest, page, true, api.OK)
		}
	}
	each := func(visit func(guest, address, word int)) {
		for guest := 1; guest <= 2; guest++ {
			for _, page := range pages {
				for at := range api.Words {
					address := page*api.Words + at
					visit(guest, address, guest*1000+address)
				}
			}
		}
	}
	each(func(guest, address, word int) { wantRead(t, m, guest, address, 0, api.OK) })
	each(func(guest, address, word int) { wantWrite(t, m, guest, address, word, api.OK) })
	each(func(guest, address, word int) { wantRead(t, m, guest, address, word, api.OK) })
}

func TestP4WordsAtTheEdges(t *testing.T) {
	m := machineOf(t, 8, 1)
	wantMap(t, m, 1, 63, true, api.OK)
	for _, word := range []int{0, 1, 255, 256, 32767, 32768, 65534, 65535, 0} {
		wantWrite(t, m, 1, 511, word, api.OK)
		wantRead(t, m, 1, 511, word, api.OK)
	}
	wantWrite(t, m, 1, 511, 9, api.OK)
	for _, word := range []int{-1, 65536, 65545, 1 << 32, -1 << 63, 1<<63 - 1} {
		wantWrite(t, m, 1, 511, word, api.ErrValue)
		wantRead(t, m, 1, 511, 9, api.OK)
	}
}

func TestP4WrongGuestsAndAddresses(t *testing.T) {
	m := machineOf(t, 8, 1)
	wantMap(t, m, 1, 0, true, api.OK)
	wantMap(t, m, 1, 63, true, api.OK)
	for _, address := range wild {
		wantRead(t, m, 1, address, 0, api.ErrPage)
		wantWrite(t, m, 1, address, 1, api.ErrPage)
		wantRead(t, m, 2, address, 0, api.ErrNone)
		wantWrite(t, m, 2, address, 1, api.ErrNone)
	}
	for _, guest := range append([]int{0, 2}, wild...) {
		wantRead(t, m, guest, 0, 0, api.ErrNone)
		wantWrite(t, m, guest, 0, 1, api.ErrNone)
	}
	wantRead(t, m, 1, 0, 0, api.OK)
	wantRead(t, m, 1, 511, 0, api.OK)
}

func TestP4TheErrorNamedFirst(t *testing.T) {
	m := machineOf(t, 8, 1)
	wantMap(t, m, 1, 2, false, api.OK)
	wantWrite(t, m, 2, 512, 65536, api.ErrNone)
	wantWrite(t, m, 1, 512, 65536, api.ErrPage)
	wantWrite(t, m, 1, 15, 65536, api.ErrValue)
	wantWrite(t, m, 1, 16, 65536, api.ErrValue)
	wantWrite(t, m, 1, 15, 65535, api.ErrAbsent)
	wantWrite(t, m, 1, 16, 65535, api.ErrDenied)
	wantWrite(t, m, 1, 16, 0, api.ErrDenied)
	for address := 16; address < 24; address++ {
		wantRead(t, m, 1, address, 0, api.OK)
	}
	wantRead(t, m, 1, 15, 0, api.ErrAbsent)
	wantRead(t, m, 1, 24, 0, api.ErrAbsent)
}

// A page that was read, and so found by a walk, is gone for reads and writes once it is taken away.
func TestP4WhatAWalkFoundIsLetGo(t *testing.T) {
	m := machineOf(t, 8, 2)
	wantMap(t, m, 1, 0, true, api.OK)
	wantWrite(t, m, 1, 3, 5, api.OK)
	wantUnmap(t, m, 1, 0, api.OK)
	wantMap(t, m, 2, 0, true, api.OK)
	wantWrite(t, m, 2, 3, 6, api.OK)
	wantRead(t, m, 1, 3, 0, api.ErrAbsent)
	wantWrite(t, m, 1, 3, 7, api.ErrAbsent)
	wantRead(t, m, 2, 3, 6, api.OK)
}
