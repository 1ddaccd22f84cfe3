package docket_test

import (
	"reflect"
	"slices"
	"testing"

	"docket/api"
	"docket/docket"
)

func wantCheck(t *testing.T, stages []api.Stage, want api.Errno) {
	t.Helper()
	if e := docket.Check(stages); e != want {
		t.Errorf("Check(%v) = %d; want %d", stages, e, want)
	}
	d, e := docket.New(calendar(t, office), stages)
	if e != want || (d != nil) != (want == api.OK) {
		t.Errorf("New(%v) = %v, %d; want error %d", stages, d != nil, e, want)
	}
}

// P7, P8: how many stages there may be.
func TestCheckHowManyStages(t *testing.T) {
	wantCheck(t, nil, api.ErrConfig)
	wantCheck(t, []api.Stage{}, api.ErrConfig)
	for n := 1; n <= api.MaxStages; n++ {
		wantCheck(t, make([]api.Stage, n), api.OK)
	}
	wantCheck(t, make([]api.Stage, api.MaxStages+1), api.ErrConfig)
	wantCheck(t, make([]api.Stage, 5000), api.ErrConfig)
	wantCheck(t, documentStages(), api.OK)
}

// P7, P8: how many levels a stage may have, whichever it is.
func TestCheckHowManyLevels(t *testing.T) {
	for stages := 1; stages <= api.MaxStages; stages++ {
		for at := range stages {
			for n := range 12 {
				l := make([]api.Stage, stages)
				l[at].Levels = slices.Repeat([]api.Level{{Delay: 1}}, n)
				want := api.OK
				if n > api.MaxLevels {
					want = api.ErrConfig
				}
				wantCheck(t, l, want)
			}
		}
	}
}

// wantCheckOfALevel puts one level wherever there may be one, among good ones.
func wantCheckOfALevel(t *testing.T, level api.Level, want api.Errno) {
	t.Helper()
	for stage := range api.MaxStages {
		for at := range api.MaxLevels {
			l := make([]api.Stage, api.MaxStages)
			for i := range l {
				l[i] = tells(1, 2, 3, 4)
			}
			l[stage].Levels[at] = level
			wantCheck(t, l, want)
		}
	}
}

// P7, P8: the bounds of a Delay and of a Who.
func TestCheckLevels(t *testing.T) {
	wantCheckOfALevel(t, api.Level{Delay: 1, Who: 0}, api.OK)
	wantCheckOfALevel(t, api.Level{Delay: api.MaxSpan, Who: api.MaxWho}, api.OK)
	wrongDelays := []int{0, -api.MaxSpan, api.MaxSpan + 1}
	for _, delay := range append(wrongDelays, strangeNumbers...) {
		wantCheckOfALevel(t, api.Level{Delay: delay, Who: 5}, api.ErrConfig)
	}
	wrongWhos := []int{-api.MaxWho, api.MaxWho + 1}
	for _, who := range append(wrongWhos, strangeNumbers...) {
		wantCheckOfALevel(t, api.Level{Delay: 5, Who: who}, api.ErrConfig)
	}
}

// P7, P8: a Next names one of the stages there are: itself, too, and one twice.
func TestCheckNext(t *testing.T) {
	for stages := 1; stages <= api.MaxStages; stages++ {
		for at := range stages {
			for next := -2; next <= api.MaxStages+1; next++ {
				l := make([]api.Stage, stages)
				l[at].Next = []int{at, 0, next, 0}
				want := api.OK
				if next < 0 || next >= stages {
					want = api.ErrConfig
				}
				wantCheck(t, l, want)
			}
		}
	}
	for _, next := range strangeNumbers {
		wantCheck(t, []api.Stage{{Next: []int{next}}, {}}, api.ErrConfig)
	}
}

// P7, P8: a Next may be long.
func TestCheckALongNext(t *testing.T) {
	long := slices.Repeat([]int{0, 1}, 100000)
	wantCheck(t, []api.Stage{{Next: long}, {}}, api.OK)
	long[len(long)-1] = 2
	wantCheck(t, []api.Stage{{Next: long}, {}}, api.ErrConfig)
}

// P8: without a calendar there is no docket, and that is told first.
func TestNewWithoutACalendar(t *testing.T) {
	for _, stages := range [][]api.Stage{nil, {}, {{}}, documentStages(), make([]api.Stage, 7), {{Next: []int{-1}}}} {
		d, e := docket.New(nil, stages)
		if d != nil || e != api.ErrArg {
			t.Errorf("New(nil, %v) = %v, %d; want nil, ErrArg", stages, d != nil, e)
		}
	}
}

// P8: a docket begins at time 0 and without cases.
func TestNewIsEmpty(t *testing.T) {
	d := newDocket(t, office, documentStages()...)
	wantNow(t, d, 0, 0)
	wantAgenda(t, d)
	for id := -1; id < 30; id++ {
		wantNoCase(t, d, id)
	}
	wantTick(t, d, api.MaxTime)
	wantNow(t, d, api.MaxTime, 0)
}

// P1: what is handed in is not written into, nor its spare room.
func TestNewLeavesWhatIsHandedIn(t *testing.T) {
	levels := []api.Level{{Delay: 60, Who: 1}, {Delay: 30, Who: 2}, {Delay: -7, Who: -7}}
	next := []int{1, 0, -7}
	stages := []api.Stage{{Levels: levels[:2], Next: next[:2]}, {Levels: levels[1:2:2]}, {Next: []int{-7}}}
	before := []api.Stage{{Levels: slices.Clone(levels), Next: slices.Clone(next)}, {Levels: slices.Clone(levels[1:2])}, {Next: []int{-7}}}
	d := newDocket(t, always, stages[:2]...)
	wantOpened(t, d, 0, 1)
	wantMove(t, d, 1, 1, api.OK)
	wantTick(t, d, 100, api.Event{Number: 1, Time: 30, Case: 1, Stage: 1, Who: 2})
	wantCheck(t, stages, api.ErrConfig)
	stages[0].Levels, stages[0].Next = levels, next
	if !reflect.DeepEqual(stages, before) {
		t.Errorf("the stages are %v; want %v", stages, before)
	}
}

// P1: nothing that is handed in is kept: a docket goes on by what it was made of.
func TestNewKeepsNothing(t *testing.T) {
	c := calendar(t, office)
	stages := documentStages()
	d, _ := docket.New(c, stages)
	*c = *calendar(t, always)
	stages[0].Levels[0] = api.Level{Delay: 1, Who: 9}
	stages[0].Levels[1] = api.Level{Delay: -1, Who: 9}
	stages[0].Next[0] = 0
	stages[0], stages[1] = api.Stage{}, tells(1, 2, 3)
	wantOpened(t, d, 0, 1)
	wantOpened(t, d, 0, 2)
	wantMove(t, d, 2, 0, api.ErrMove)
	wantMove(t, d, 2, 1, api.OK)
	wantTick(t, d, 1000,
		api.Event{Number: 1, Time: 600, Case: 1, Who: 1},
		api.Event{Number: 2, Time: 630, Case: 1, Level: 1, Who: 2})
}

// P1: dockets have nothing to do with one another, made of the same or not.
func TestDocketsAreApart(t *testing.T) {
	c := calendar(t, office)
	stages := documentStages()
	a, _ := docket.New(c, stages)
	b, _ := docket.New(c, stages)
	wantOpened(t, b, 0, 1)
	before := pictureOf(b)
	for id := 1; id <= api.MaxCases; id++ {
		wantOpened(t, a, 0, id)
	}
	a.Tick(610)
	wantMove(t, a, 1, 1, api.OK)
	wantClose(t, a, 2, api.OK)
	wantUnchanged(t, b, before)
	wantOpened(t, b, 1, 2)
	wantTick(t, b, 600, api.Event{Number: 1, Time: 600, Case: 1, Who: 1})
	wantNow(t, a, 610, api.MaxCases)
}

// P1: what a docket does leaves its calendar as it was.
func TestDocketsLeaveTheirCalendar(t *testing.T) {
	c := calendar(t, office)
	before := openMinutes(t, c)
	d, _ := docket.New(c, documentStages())
	d.Open(0)
	d.Tick(api.MaxTime)
	if openMinutes(t, c) != before {
		t.Error("the calendar's answers are others than before")
	}
}
