package cradle

import (
	"testing"

	"cradle/api"
)

func kept(m *Machine, guest, page int) bool {
	_, ok := m.found.Find(place{guest, page})
	return ok
}

func TestAWalkIsKeptUntilItsPageGoes(t *testing.T) {
	m := machineOf(t, 16, 2)
	for page := range 3 {
		wantMap(t, m, 1, page, true, api.OK)
		wantMap(t, m, 2, page, true, api.OK)
		m.Read(1, page*api.Words)
		m.Read(2, page*api.Words)
		if !kept(m, 1, page) || !kept(m, 2, page) {
			t.Errorf("page %d was read, but the walk is not kept", page)
		}
	}
	wantUnmap(t, m, 1, 1, api.OK)
	if kept(m, 1, 1) || !kept(m, 1, 0) || !kept(m, 2, 1) {
		t.Error("Unmap lets go of its own page alone")
	}
	wantErrno(t, "Destroy(1)", m.Destroy(1), api.OK)
	if kept(m, 1, 0) || kept(m, 1, 2) || !kept(m, 2, 0) || !kept(m, 2, 2) {
		t.Error("Destroy lets go of its own guest's pages alone")
	}
}

func TestWhatIsAbsentIsNotKept(t *testing.T) {
	m := machineOf(t, 16, 1)
	wantRead(t, m, 1, 0, 0, api.ErrAbsent)
	if kept(m, 1, 0) {
		t.Error("a walk that found nothing is kept")
	}
	wantMap(t, m, 1, 0, true, api.OK)
	wantRead(t, m, 1, 0, 0, api.OK)
}

func TestAWalkAsksTheCacheFirst(t *testing.T) {
	m := machineOf(t, 16, 1)
	wantMap(t, m, 1, 0, true, api.OK)
	wantMap(t, m, 1, 1, true, api.OK)
	wantWrite(t, m, 1, 8, 42, api.OK)
	m.found.Keep(place{1, 0}, m.walk(1, 1))
	wantRead(t, m, 1, 0, 42, api.OK)
}
