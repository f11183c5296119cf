package cradle

import (
	"math/rand"
	"testing"

	"cradle/api"
)

// What a guest loads by its own tables, with the fault where there is one.
type loaded struct {
	word  int
	fault api.Fault
}

func loadsOf(m *Machine, guest int) [512]loaded {
	var all [512]loaded
	for address := range all {
		all[address].word, all[address].fault, _ = m.Load(guest, address)
	}
	return all
}

// wantAlike holds a guest that came again against the one that was saved: in what it
// reads and loads, and in what it may write.
func wantAlike(t *testing.T, m *Machine, saved int, n *Machine, again int) {
	t.Helper()
	if wordsOf(m, saved) != wordsOf(n, again) || loadsOf(m, saved) != loadsOf(n, again) {
		t.Errorf("guest %d reads otherwise than %d", again, saved)
	}
	for address := range 512 {
		word, _ := m.Read(saved, address)
		wantWrite(t, n, again, address, word, m.Write(saved, address, word))
	}
}

func TestP8RestoreOfSaveReadsTheSameEverywhere(t *testing.T) {
	r := rand.New(rand.NewSource(7))
	for range 40 {
		m, o := machineOf(t, 64, 0), newModel(64)
		for range 400 {
			o.step(t, m, r)
		}
		for guest := range o.guests {
			bytes, e := m.Save(guest)
			wantErrno(t, "Save", e, api.OK)
			n := machineOf(t, 64, 0)
			wantRestore(t, n, bytes, 1, api.OK)
			wantAlike(t, m, guest, n, 1)
			wantSave(t, n, 1, bytes, api.OK)
		}
	}
}

func TestP8AGuestThatIsGoneComesAgain(t *testing.T) {
	m := mirror(t)
	words, loads := wordsOf(m, 1), loadsOf(m, 1)
	bytes, _ := m.Save(1)
	free := m.Free()
	wantErrno(t, "Destroy(1)", m.Destroy(1), api.OK)
	wantRestore(t, m, bytes, 2, api.OK)
	wantFree(t, m, free)
	if wordsOf(m, 2) != words || loadsOf(m, 2) != loads {
		t.Error("it reads otherwise")
	}
	wantRead(t, m, 1, 0, 0, api.ErrNone)
}

// The frames are full of words when they are given back: none of them may show in a page that bytes say is 0.
func TestP8WhatWasGivenBackIsZeroWhenItIsRestored(t *testing.T) {
	m := machineOf(t, 20, 1)
	bytes := threePages(t, m, 1)
	wantWrite(t, m, 1, 12*8, 0, api.OK)
	wantWrite(t, m, 1, 12*8+7, 0, api.OK)
	blank, _ := m.Save(1)
	wantErrno(t, "Destroy(1)", m.Destroy(1), api.OK)
	wantCreate(t, m, 2, api.OK)
	for page := range 16 {
		wantMap(t, m, 2, page, true, api.OK)
		for at := range 8 {
			wantWrite(t, m, 2, page*8+at, api.MaxWord, api.OK)
		}
	}
	wantErrno(t, "Destroy(2)", m.Destroy(2), api.OK)
	wantRestore(t, m, blank, 3, api.OK)
	wantSave(t, m, 3, blank, api.OK)
	for _, page := range []int{0, 5, 12} {
		for at := range 8 {
			wantRead(t, m, 3, page*8+at, 0, api.OK)
		}
	}
	wantRestore(t, m, bytes, 4, api.OK)
	wantSave(t, m, 4, bytes, api.OK)
}

// One guest does all it can; the bytes of another, that shares nothing, stay the same.
func TestP8AGuestIsAloneWithItsMemory(t *testing.T) {
	r := rand.New(rand.NewSource(8))
	m := machineOf(t, 40, 2)
	threePages(t, m, 1)
	want, _ := m.Save(1)
	for range 5000 {
		page, at := r.Intn(api.Pages), r.Intn(api.Pages)
		m.Map(2, page, true)
		m.Write(2, at*8+r.Intn(8), r.Intn(65536))
		m.Share(2, page, 2, at, true)
		m.Root(2, page)
		m.Store(2, r.Intn(512), r.Intn(65536))
		m.Unmap(2, at)
		m.Unmap(2, r.Intn(api.Pages))
		bytes, _ := m.Save(2)
		if guest, e := m.Restore(bytes); e == api.OK {
			m.Write(guest, page*8, 1)
			m.Destroy(guest)
		}
		wantSave(t, m, 1, want, api.OK)
		if t.Failed() {
			return
		}
	}
}
