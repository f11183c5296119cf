package cradle

import (
	"math"
	"testing"

	"cradle/api"
)

// wild are numbers that are no guest, no page and no address of any machine here.
var wild = []int{math.MinInt, math.MinInt + 1, -1 << 32, -513, -64, -1, 512, 513, 65536, 1 << 32, math.MaxInt - 1, math.MaxInt}

func machineOf(t *testing.T, frames, guests int) *Machine {
	t.Helper()
	m, e := New(frames)
	if m == nil || e != api.OK {
		t.Fatalf("New(%d) = %v, %d", frames, m, e)
	}
	for want := 1; want <= guests; want++ {
		wantCreate(t, m, want, api.OK)
	}
	return m
}

func wantErrno(t *testing.T, what string, got, want api.Errno) {
	t.Helper()
	if got != want {
		t.Errorf("%s = %d, want %d", what, got, want)
	}
}

func wantFree(t *testing.T, m *Machine, want int) {
	t.Helper()
	if got := m.Free(); got != want {
		t.Errorf("Free() = %d, want %d", got, want)
	}
}

func wantCreate(t *testing.T, m *Machine, guest int, errno api.Errno) {
	t.Helper()
	if g, e := m.Create(); g != guest || e != errno {
		t.Errorf("Create() = %d, %d, want %d, %d", g, e, guest, errno)
	}
}

func wantMap(t *testing.T, m *Machine, guest, page int, writable bool, want api.Errno) {
	t.Helper()
	if got := m.Map(guest, page, writable); got != want {
		t.Errorf("Map(%d, %d, %v) = %d, want %d", guest, page, writable, got, want)
	}
}

func wantUnmap(t *testing.T, m *Machine, guest, page int, want api.Errno) {
	t.Helper()
	if got := m.Unmap(guest, page); got != want {
		t.Errorf("Unmap(%d, %d) = %d, want %d", guest, page, got, want)
	}
}

func wantRead(t *testing.T, m *Machine, guest, address, word int, errno api.Errno) {
	t.Helper()
	if w, e := m.Read(guest, address); w != word || e != errno {
		t.Errorf("Read(%d, %d) = %d, %d, want %d, %d", guest, address, w, e, word, errno)
	}
}

func wantWrite(t *testing.T, m *Machine, guest, address, word int, want api.Errno) {
	t.Helper()
	if got := m.Write(guest, address, word); got != want {
		t.Errorf("Write(%d, %d, %d) = %d, want %d", guest, address, word, got, want)
	}
}

func wantShare(t *testing.T, m *Machine, from, page, to, at int, writable bool, want api.Errno) {
	t.Helper()
	if got := m.Share(from, page, to, at, writable); got != want {
		t.Errorf("Share(%d, %d, %d, %d, %v) = %d, want %d", from, page, to, at, writable, got, want)
	}
}

func wantRoot(t *testing.T, m *Machine, guest, page int, want api.Errno) {
	t.Helper()
	if got := m.Root(guest, page); got != want {
		t.Errorf("Root(%d, %d) = %d, want %d", guest, page, got, want)
	}
}

func wantLoad(t *testing.T, m *Machine, guest, address, word int, fault api.Fault, errno api.Errno) {
	t.Helper()
	if w, f, e := m.Load(guest, address); w != word || f != fault || e != errno {
		t.Errorf("Load(%d, %d) = %d, %v, %d, want %d, %v, %d", guest, address, w, f, e, word, fault, errno)
	}
}

func wantStore(t *testing.T, m *Machine, guest, address, word int, fault api.Fault, errno api.Errno) {
	t.Helper()
	if f, e := m.Store(guest, address, word); f != fault || e != errno {
		t.Errorf("Store(%d, %d, %d) = %v, %d, want %v, %d", guest, address, word, f, e, fault, errno)
	}
}

func wantSave(t *testing.T, m *Machine, guest int, bytes string, errno api.Errno) {
	t.Helper()
	if b, e := m.Save(guest); b != bytes || e != errno {
		t.Errorf("Save(%d) = %q, %d, want %q, %d", guest, b, e, bytes, errno)
	}
}

func wantRestore(t *testing.T, m *Machine, bytes string, guest int, errno api.Errno) {
	t.Helper()
	if g, e := m.Restore(bytes); g != guest || e != errno {
		t.Errorf("Restore(%q) = %d, %d, want %d, %d", bytes, g, e, guest, errno)
	}
}

func wantUpgrade(t *testing.T, bytes, upgraded string, errno api.Errno) {
	t.Helper()
	if b, e := Upgrade(bytes); b != upgraded || e != errno {
		t.Errorf("Upgrade(%q) = %q, %d, want %q, %d", bytes, b, e, upgraded, errno)
	}
}
