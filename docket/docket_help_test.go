package docket_test

import (
	"slices"
	"testing"

	"docket/api"
	"docket/docket"
)

// documentStages are those of the document's examples.
func documentStages() []api.Stage {
	return []api.Stage{{Levels: []api.Level{{Delay: 60, Who: 1}, {Delay: 30, Who: 2}}, Next: []int{1}}, {}}
}

// tells is a stage with levels of these delays, of whom 10, 11 and so on are told.
func tells(delays ...int) api.Stage {
	var s api.Stage
	for i, delay := range delays {
		s.Levels = append(s.Levels, api.Level{Delay: delay, Who: 10 + i})
	}
	return s
}

func follows(s api.Stage, next ...int) api.Stage {
	s.Next = next
	return s
}

func newDocket(t *testing.T, text string, stages ...api.Stage) *docket.Docket {
	t.Helper()
	d, e := docket.New(calendar(t, text), stages)
	if d == nil || e != api.OK {
		t.Fatalf("New(%s, %v) = %v, %d; want a docket, 0", text, stages, d != nil, e)
	}
	return d
}

func wantOpened(t *testing.T, d *docket.Docket, stage, want int) {
	t.Helper()
	id, e := d.Open(stage)
	if id != want || e != api.OK {
		t.Errorf("Open(%d) = %d, %d; want %d, 0", stage, id, e, want)
	}
}

func wantNotOpened(t *testing.T, d *docket.Docket, stage int, want api.Errno) {
	t.Helper()
	id, e := d.Open(stage)
	if id != 0 || e != want {
		t.Errorf("Open(%d) = %d, %d; want 0, %d", stage, id, e, want)
	}
}

func wantMove(t *testing.T, d *docket.Docket, id, stage int, want api.Errno) {
	t.Helper()
	if e := d.Move(id, stage); e != want {
		t.Errorf("Move(%d, %d) = %d; want %d", id, stage, e, want)
	}
}

func wantClose(t *testing.T, d *docket.Docket, id int, want api.Errno) {
	t.Helper()
	if e := d.Close(id); e != want {
		t.Errorf("Close(%d) = %d; want %d", id, e, want)
	}
}

func wantHold(t *testing.T, d *docket.Docket, id int, want api.Errno) {
	t.Helper()
	if e := d.Hold(id); e != want {
		t.Errorf("Hold(%d) = %d; want %d", id, e, want)
	}
}

func wantResume(t *testing.T, d *docket.Docket, id int, want api.Errno) {
	t.Helper()
	if e := d.Resume(id); e != want {
		t.Errorf("Resume(%d) = %d; want %d", id, e, want)
	}
}

func wantTick(t *testing.T, d *docket.Docket, n int, want ...api.Event) {
	t.Helper()
	events, e := d.Tick(n)
	if !slices.Equal(events, want) || e != api.OK {
		t.Errorf("Tick(%d) = %v, %d; want %v, 0", n, events, e, want)
	}
}

func wantNoTick(t *testing.T, d *docket.Docket, n int) {
	t.Helper()
	events, e := d.Tick(n)
	if len(events) != 0 || e != api.ErrArg {
		t.Errorf("Tick(%d) = %v, %d; want nothing, ErrArg", n, events, e)
	}
}

// wantCase wants a case that is not held.
func wantCase(t *testing.T, d *docket.Docket, id, stage, level, due int) {
	t.Helper()
	wantState(t, d, id, api.State{Stage: stage, Level: level, Due: due})
}

func wantHeldCase(t *testing.T, d *docket.Docket, id, stage, level int) {
	t.Helper()
	wantState(t, d, id, api.State{Stage: stage, Level: level, Due: -1, Held: true})
}

func wantState(t *testing.T, d *docket.Docket, id int, want api.State) {
	t.Helper()
	s, e := d.Case(id)
	if s != want || e != api.OK {
		t.Errorf("Case(%d) = %v, %d; want %v, 0", id, s, e, want)
	}
}

func wantNoCase(t *testing.T, d *docket.Docket, id int) {
	t.Helper()
	s, e := d.Case(id)
	if s != (api.State{}) || e != api.ErrNone {
		t.Errorf("Case(%d) = %v, %d; want zero, ErrNone", id, s, e)
	}
}

func wantAgenda(t *testing.T, d *docket.Docket, want ...api.Entry) {
	t.Helper()
	if entries := d.Agenda(); !slices.Equal(entries, want) {
		t.Errorf("Agenda() = %v; want %v", entries, want)
	}
}

func wantNow(t *testing.T, d *docket.Docket, time, events int) {
	t.Helper()
	if a, b := d.Now(); a != time || b != events {
		t.Errorf("Now() = %d, %d; want %d, %d", a, b, time, events)
	}
}

// picture is all that a docket tells of itself and of its first cases.
type picture struct {
	time, events int
	states       [60]api.State
	errors       [60]api.Errno
	agenda       [api.MaxCases]api.Entry
}

func pictureOf(d *docket.Docket) picture {
	var p picture
	p.time, p.events = d.Now()
	for id := range p.states {
		p.states[id], p.errors[id] = d.Case(id)
	}
	copy(p.agenda[:], d.Agenda())
	return p
}

func wantUnchanged(t *testing.T, d *docket.Docket, before picture) {
	t.Helper()
	if after := pictureOf(d); after != before {
		t.Errorf("the docket is %v; want it as it was, %v", after, before)
	}
}
