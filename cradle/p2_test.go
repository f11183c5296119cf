package cradle

import (
	"testing"

	"cradle/api"
)

func TestP2NewTakesOnlyFramesWithinTheLimits(t *testing.T) {
	for frames := -10; frames <= 80; frames++ {
		m, e := New(frames)
		if frames < 4 || frames > 64 {
			if m != nil || e != api.ErrFrames {
				t.Errorf("New(%d) = %v, %d, want nil, ErrFrames", frames, m, e)
			}
			continue
		}
		if m == nil || e != api.OK {
			t.Fatalf("New(%d) = %v, %d", frames, m, e)
		}
		wantFree(t, m, frames)
		wantErrno(t, "Destroy(1) of a new machine", m.Destroy(1), api.ErrNone)
	}
	for _, frames := range wild {
		if m, e := New(frames); m != nil || e != api.ErrFrames {
			t.Errorf("New(%d) = %v, %d, want nil, ErrFrames", frames, m, e)
		}
	}
}

func TestP2CreateTakesAFrameAndCountsUp(t *testing.T) {
	m := machineOf(t, 64, 0)
	for guest := 1; guest <= api.MaxGuests; guest++ {
		wantCreate(t, m, guest, api.OK)
		wantFree(t, m, 64-guest)
	}
	wantCreate(t, m, 0, api.ErrMany)
	wantFree(t, m, 60)
}

func TestP2NoNumberIsUsedAgain(t *testing.T) {
	m := machineOf(t, 5, 3)
	for guest := 4; guest < 300; guest++ {
		wantErrno(t, "Destroy", m.Destroy(guest-1), api.OK)
		wantErrno(t, "Destroy again", m.Destroy(guest-1), api.ErrNone)
		wantCreate(t, m, guest, api.OK)
		wantFree(t, m, 2)
	}
}

func TestP2ARefusedCreateUsesNoNumber(t *testing.T) {
	m := machineOf(t, 4, 4)
	wantCreate(t, m, 0, api.ErrMany)
	wantErrno(t, "Destroy(4)", m.Destroy(4), api.OK)
	wantCreate(t, m, 5, api.OK)

	m = machineOf(t, 4, 1)
	wantMap(t, m, 1, 0, true, api.OK)
	wantMap(t, m, 1, 1, true, api.OK)
	wantCreate(t, m, 0, api.ErrFull)
	wantUnmap(t, m, 1, 1, api.OK)
	wantCreate(t, m, 2, api.OK)
}

// Four guests in four frames: both refusals apply, and ErrMany is named first.
func TestP2ManyComesAheadOfFull(t *testing.T) {
	m := machineOf(t, 4, 4)
	wantFree(t, m, 0)
	wantCreate(t, m, 0, api.ErrMany)
}

func TestP2DestroyOfNoGuest(t *testing.T) {
	m := machineOf(t, 8, 2)
	for _, guest := range append([]int{0, 3, 4}, wild...) {
		wantErrno(t, "Destroy of no guest", m.Destroy(guest), api.ErrNone)
	}
	wantFree(t, m, 6)
	wantMap(t, m, 1, 0, true, api.OK)
	wantMap(t, m, 2, 0, true, api.OK)
}

func TestP2DestroyGivesBackPagesAndTables(t *testing.T) {
	m := machineOf(t, 64, 2)
	for _, page := range []int{0, 7, 8, 31, 32, 33, 63} {
		wantMap(t, m, 1, page, page%2 == 0, api.OK)
	}
	wantFree(t, m, 64-2-7-5)
	wantMap(t, m, 2, 31, true, api.OK)
	wantWrite(t, m, 2, 250, 1234, api.OK)
	wantErrno(t, "Destroy(1)", m.Destroy(1), api.OK)
	wantFree(t, m, 64-3)
	wantMap(t, m, 1, 1, true, api.ErrNone)
	wantUnmap(t, m, 1, 0, api.ErrNone)
	wantRead(t, m, 1, 0, 0, api.ErrNone)
	wantWrite(t, m, 1, 0, 0, api.ErrNone)
	wantRead(t, m, 2, 250, 1234, api.OK)
}

func TestP2ANewGuestSeesNothingOfAGoneOne(t *testing.T) {
	m := machineOf(t, 4, 1)
	wantMap(t, m, 1, 5, true, api.OK)
	wantMap(t, m, 1, 6, true, api.OK)
	for address := 40; address < 56; address++ {
		wantWrite(t, m, 1, address, 65535, api.OK)
		wantRead(t, m, 1, address, 65535, api.OK)
	}
	wantErrno(t, "Destroy(1)", m.Destroy(1), api.OK)
	wantCreate(t, m, 2, api.OK)
	for address := range 512 {
		wantRead(t, m, 2, address, 0, api.ErrAbsent)
	}
	wantMap(t, m, 2, 5, true, api.OK)
	wantMap(t, m, 2, 6, false, api.OK)
	for address := 40; address < 56; address++ {
		wantRead(t, m, 2, address, 0, api.OK)
	}
}
