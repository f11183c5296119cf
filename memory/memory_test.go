package memory

import (
	"testing"

	"cradle/api"
)

func TestTakeGivesEachFrameOnce(t *testing.T) {
	m := New(5)
	seen := map[int]int{}
	for i := range 5 {
		if m.Free() != 5-i {
			t.Errorf("Free() = %d, want %d", m.Free(), 5-i)
		}
		seen[m.Take()]++
	}
	for number := range 5 {
		if seen[number] != 1 {
			t.Errorf("frame %d was taken %d times", number, seen[number])
		}
	}
	if number := m.Take(); number != None || m.Free() != 0 {
		t.Errorf("Take() of a full memory = %d, Free() = %d", number, m.Free())
	}
	m.Release(3)
	if number := m.Take(); number != 3 {
		t.Errorf("Take() = %d, want 3, the free one", number)
	}
}

func TestWordsAreEachTheirOwn(t *testing.T) {
	m := New(4)
	for number := range 4 {
		for at := range api.Words {
			m.SetWord(number, at, uint16(65535-8*number-at))
		}
	}
	for number := range 4 {
		for at := range api.Words {
			if got := m.Word(number, at); got != uint16(65535-8*number-at) {
				t.Errorf("Word(%d, %d) = %d", number, at, got)
			}
		}
	}
}

func TestATakenFrameIsBlank(t *testing.T) {
	m := New(4)
	number := m.Take()
	for at := range api.Words {
		m.SetWord(number, at, 99)
	}
	m.Release(number)
	for range 4 {
		number := m.Take()
		for at := range api.Words {
			if got := m.Word(number, at); got != 0 {
				t.Errorf("Word(%d, %d) = %d, want 0", number, at, got)
			}
		}
	}
}

func TestAFrameIsFreeWhenItsLastUserLetsGo(t *testing.T) {
	m := New(4)
	number := m.Take()
	m.SetWord(number, 2, 9)
	m.Hold(number)
	m.Hold(number)
	for range 2 {
		m.Release(number)
		if m.Free() != 3 || m.Word(number, 2) != 9 {
			t.Errorf("with a user left: Free() = %d, word %d", m.Free(), m.Word(number, 2))
		}
	}
	m.Release(number)
	if m.Free() != 4 {
		t.Errorf("with no user left: Free() = %d", m.Free())
	}
}
