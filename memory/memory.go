// Package memory: the memory of a machine, as frames of words that are taken and given back.
package memory

import "cradle/api"

// None is what Take answers when every frame is in use.
const None = -1

type frame struct {
	words [api.Words]uint16
	users int // 0: the frame is nothing
}

// Memory is some frames, numbered from 0.
type Memory struct {
	frames []frame
}

// New makes a memory of free frames.
func New(count int) *Memory {
	return &Memory{frames: make([]frame, count)}
}

// Free tells how many frames are nothing.
func (m *Memory) Free() int {
	free := 0
	for i := range m.frames {
		if m.frames[i].users == 0 {
			free++
		}
	}
	return free
}

// Take gives a free frame to one user, or answers None.
// It is blanked here, so that no way of giving a frame back can leave words for the next user.
func (m *Memory) Take() int {
	for i := range m.frames {
		if m.frames[i].users == 0 {
			m.frames[i] = frame{users: 1}
			return i
		}
	}
	return None
}

// Hold tells that a taken frame has one user more.
func (m *Memory) Hold(number int) {
	m.frames[number].users++
}

// Release tells that one user of the frame has let it go; it is nothing again without the last one.
func (m *Memory) Release(number int) {
	m.frames[number].users--
}

// Word tells a word of a frame.
func (m *Memory) Word(number int, at int) uint16 {
	return m.frames[number].words[at]
}

// SetWord changes a word of a frame.
func (m *Memory) SetWord(number int, at int, word uint16) {
	m.frames[number].words[at] = word
}
