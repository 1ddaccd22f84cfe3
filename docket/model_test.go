package docket_test

import (
	"math"
	"math/rand/v2"
	"slices"
	"testing"

	"docket/api"
	"docket/docket"
)

// model is a docket that goes minute by minute, and reckons when a level is due
// from when its case entered the stage, by the delays of all levels up to it (P13)
// and by what lies between each Hold and its Resume (P14).
type model struct {
	ahead                []int
	stages               []api.Stage
	time, opened, events int
	cases                []*modelCase // in the order of their numbers
}

type modelCase struct {
	number, stage, entered, told int
	due                          int // -1, if nothing is
	held, rests                  bool
	holdTime, idle               int // since when it is held; how long it was, in all
}

func (m *model) find(id int) *modelCase {
	for _, c := range m.cases {
		if c.number == id {
			return c
		}
	}
	return nil
}

func (m *model) plan(c *modelCase) {
	c.due = -1
	levels := m.stages[c.stage].Levels
	if c.told >= len(levels) {
		return
	}
	sum := c.idle
	for _, l := range levels[:c.told+1] {
		sum += l.Delay
	}
	if due := leastTime(m.ahead, c.entered, m.ahead[c.entered]+sum); due <= api.MaxTime {
		c.due = due
	}
}

func (m *model) enter(c *modelCase, stage int) {
	c.stage, c.entered, c.told, c.idle = stage, m.time, 0, 0
	m.plan(c)
}

func (m *model) open(stage int) (int, api.Errno) {
	if stage < 0 || stage >= len(m.stages) {
		return 0, api.ErrArg
	}
	if len(m.cases) == api.MaxCases {
		return 0, api.ErrFull
	}
	m.opened++
	c := &modelCase{number: m.opened}
	m.enter(c, stage)
	m.cases = append(m.cases, c)
	return c.number, api.OK
}

func (m *model) move(id, stage int) api.Errno {
	c := m.find(id)
	if c == nil {
		return api.ErrNone
	}
	if c.held {
		return api.ErrHeld
	}
	if !slices.Contains(m.stages[c.stage].Next, stage) {
		return api.ErrMove
	}
	m.enter(c, stage)
	return api.OK
}

func (m *model) close(id int) api.Errno {
	if m.find(id) == nil {
		return api.ErrNone
	}
	m.cases = slices.DeleteFunc(m.cases, func(c *modelCase) bool { return c.number == id })
	return api.OK
}

func (m *model) hold(id int) api.Errno {
	c := m.find(id)
	if c == nil {
		return api.ErrNone
	}
	if c.held {
		return api.ErrHeld
	}
	c.held, c.rests, c.holdTime, c.due = true, c.due >= 0, m.time, -1
	return api.OK
}

func (m *model) resume(id int) api.Errno {
	c := m.find(id)
	if c == nil {
		return api.ErrNone
	}
	if !c.held {
		return api.ErrHeld
	}
	c.held = false
	if c.rests {
		c.rests = false
		c.idle += m.ahead[m.time] - m.ahead[c.holdTime]
		m.plan(c)
	}
	return api.OK
}

func (m *model) tick(n int) ([]api.Event, api.Errno) {
	if n < 0 || n > api.MaxTime || m.time+n > api.MaxTime {
		return nil, api.ErrArg
	}
	var events []api.Event
	for range n {
		m.time++
		for _, c := range m.cases {
			if c.due == m.time {
				m.events++
				who := m.stages[c.stage].Levels[c.told].Who
				events = append(events, api.Event{Number: m.events, Time: m.time, Case: c.number, Stage: c.stage, Level: c.told, Who: who})
				c.told++
				m.plan(c)
			}
		}
	}
	return events, api.OK
}

func (m *model) state(id int) (api.State, api.Errno) {
	c := m.find(id)
	if c == nil {
		return api.State{}, api.ErrNone
	}
	if c.due < 0 && !c.rests {
		return api.State{Stage: c.stage, Due: -1, Held: c.held}, api.OK
	}
	return api.State{Stage: c.stage, Level: c.told, Due: c.due, Held: c.held}, api.OK
}

func (m *model) agenda() []api.Entry {
	var entries []api.Entry
	for _, c := range m.cases {
		if c.due >= 0 {
			entries = append(entries, api.Entry{Case: c.number, Due: c.due})
		}
	}
	slices.SortStableFunc(entries, func(a, b api.Entry) int { return a.Due - b.Due })
	return entries
}

// choice gives some number from 0 on and below n.
type choice func(n int) int

func (pick choice) stages() []api.Stage {
	stages := make([]api.Stage, 1+pick(api.MaxStages))
	for i := range stages {
		for range pick(api.MaxLevels + 1) {
			stages[i].Levels = append(stages[i].Levels, api.Level{Delay: 1 + pick(api.MaxSpan>>pick(14)), Who: pick(api.MaxWho + 1)})
		}
		for range pick(4) {
			stages[i].Next = append(stages[i].Next, pick(len(stages)))
		}
	}
	return stages
}

// strange is a number out of bounds, or one that is not.
func (pick choice) strange(most int) int {
	numbers := []int{-1, most, most + 1, -most, math.MaxInt, math.MinInt, math.MaxInt32, 0}
	return numbers[pick(len(numbers))]
}

// wantSame makes one call of a docket and of its model, and holds the answers against each other.
func wantSame(t *testing.T, d *docket.Docket, m *model, pick choice) {
	t.Helper()
	stage := pick(len(m.stages))
	if pick(16) == 0 {
		stage = pick.strange(len(m.stages))
	}
	id := 1 + pick(m.opened+1)
	if len(m.cases) > 0 && pick(4) > 0 {
		id = m.cases[pick(len(m.cases))].number
	}
	switch pick(12) {
	case 0, 1:
		wantId, want := m.open(stage)
		if got, e := d.Open(stage); got != wantId || e != want {
			t.Errorf("Open(%d) = %d, %d; want %d, %d", stage, got, e, wantId, want)
		}
	case 2, 3:
		wantMove(t, d, id, stage, m.move(id, stage))
	case 4:
		wantClose(t, d, id, m.close(id))
	case 5, 6:
		wantHold(t, d, id, m.hold(id))
	case 7, 8:
		wantResume(t, d, id, m.resume(id))
	default:
		n := pick(3000 >> pick(12))
		if pick(16) == 0 {
			n = pick.strange(api.MaxTime - m.time + 1)
		}
		wantEvents, want := m.tick(n)
		events, e := d.Tick(n)
		if !slices.Equal(events, wantEvents) || e != want {
			t.Errorf("Tick(%d) = %v, %d; want %v, %d", n, events, e, wantEvents, want)
		}
	}
	wantSameAnswers(t, d, m)
}

func wantSameAnswers(t *testing.T, d *docket.Docket, m *model) {
	t.Helper()
	for id := -1; id <= m.opened+1; id++ {
		want, wantError := m.state(id)
		if s, e := d.Case(id); s != want || e != wantError {
			t.Errorf("Case(%d) = %v, %d; want %v, %d", id, s, e, want, wantError)
		}
	}
	wantAgenda(t, d, m.agenda()...)
	wantNow(t, d, m.time, m.events)
}

// P9 to P12: many calls in any order, held against the model.
func TestDocketsOfManyKinds(t *testing.T) {
	dice := rand.New(rand.NewPCG(9, 12))
	var pick choice = dice.IntN
	for k := range 300 {
		text := calendars[k%len(calendars)]
		if k%2 == 1 {
			text = anyCalendar(dice)
		}
		stages := pick.stages()
		d := newDocket(t, text, stages...)
		m := &model{ahead: counts(t, calendar(t, text)), stages: stages}
		for range 250 {
			wantSame(t, d, m, pick)
			if t.Failed() {
				t.Fatalf("the calendar was %s, the stages were %v", text, stages)
			}
		}
	}
}

// P1, P7 to P12: whatever the calendar, the stages and the calls, the model's answers.
func FuzzDocket(f *testing.F) {
	f.Add(office, []byte("some stages, and then some calls"))
	f.Add(always, []byte{2, 0, 4, 1, 0, 13, 1, 5, 1, 13, 2, 6, 2, 1, 0, 0, 0, 0, 0, 1, 1, 0, 7, 11, 100, 1, 1, 0, 2})
	f.Add("Mo 00:00-00:10!14,21,28,35,42,49,56,63", []byte{1, 255, 3, 128, 9, 77, 200, 13, 1, 1, 1, 0, 0, 0, 7, 7, 7, 0, 3})
	f.Fuzz(func(t *testing.T, text string, bytes []byte) {
		c, e, _ := docket.Parse(text)
		if e != api.OK || len(bytes) > 500 {
			return
		}
		var pick choice = func(n int) int {
			some := 0
			for k := 1; k < n && len(bytes) > 0; k *= 256 {
				some = some*256 + int(bytes[0])
				bytes = bytes[1:]
			}
			return some % max(n, 1)
		}
		stages := pick.stages()
		d := newDocket(t, text, stages...)
		m := &model{ahead: counts(t, c), stages: stages}
		for len(bytes) > 0 {
			wantSame(t, d, m, pick)
		}
	})
}
