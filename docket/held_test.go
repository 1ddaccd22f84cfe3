package docket

import (
	"testing"

	"docket/api"
)

// heldDocket has two cases that are held, one with a rest and one with nothing,
// and a third that runs. They are held by hand: the call for it is not built yet.
func heldDocket(t *testing.T) *Docket {
	t.Helper()
	c, _, _ := Parse("Mo,Tu,We,Th,Fr,Sa,Su 00:00-24:00")
	d, e := New(c, []api.Stage{
		{Levels: []api.Level{{Delay: 10, Who: 1}, {Delay: 20, Who: 2}}, Next: []int{1}},
		{Next: []int{0}},
	})
	if e != api.OK {
		t.Fatalf("New: error %d", e)
	}
	d.Open(0)
	d.Open(1)
	d.Tick(5)
	d.Open(0)
	d.Tick(5)
	first, second := d.find(1), d.find(2)
	first.held, first.course, first.due = true, resting, 0
	second.held = true
	return d
}

// P12: a case that is held keeps its next level, if it has a rest; nothing is due.
func TestCaseThatIsHeld(t *testing.T) {
	d := heldDocket(t)
	for id, want := range map[int]api.State{
		1: {Stage: 0, Level: 1, Due: -1, Held: true},
		2: {Stage: 1, Level: 0, Due: -1, Held: true},
		3: {Stage: 0, Level: 0, Due: 15},
	} {
		if s, e := d.Case(id); s != want || e != api.OK {
			t.Errorf("Case(%d) = %v, %d; want %v, 0", id, s, e, want)
		}
	}
	if l := d.Agenda(); len(l) != 1 || l[0] != (api.Entry{Case: 3, Due: 15}) {
		t.Errorf("Agenda() = %v; want case 3 alone, at 15", l)
	}
}

// P9: a case that is held is not moved, and that is told ahead of where to.
func TestMoveOfACaseThatIsHeld(t *testing.T) {
	d := heldDocket(t)
	for _, k := range []struct {
		id, stage int
		want      api.Errno
	}{
		{1, 1, api.ErrHeld}, {1, 0, api.ErrHeld}, {1, 9, api.ErrHeld}, {2, 0, api.ErrHeld}, {2, -1, api.ErrHeld},
		{3, 0, api.ErrMove}, {3, 1, api.OK}, {4, 1, api.ErrNone},
	} {
		if e := d.Move(k.id, k.stage); e != k.want {
			t.Errorf("Move(%d, %d) = %d; want %d", k.id, k.stage, e, k.want)
		}
	}
	if s, _ := d.Case(1); s != (api.State{Stage: 0, Level: 1, Due: -1, Held: true}) {
		t.Errorf("Case(1) = %v; want it as it was", s)
	}
}

// P9, P10: a case that is held is not told, but can be closed.
func TestTickBesideACaseThatIsHeld(t *testing.T) {
	d := heldDocket(t)
	events, _ := d.Tick(api.MaxTime - 10)
	if len(events) != 2 || events[0].Case != 3 || events[1].Case != 3 {
		t.Errorf("Tick = %v; want both levels of case 3 alone", events)
	}
	for _, id := range []int{1, 2} {
		if e := d.Close(id); e != api.OK {
			t.Errorf("Close(%d) = %d; want 0", id, e)
		}
	}
}
