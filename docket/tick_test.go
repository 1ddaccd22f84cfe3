package docket_test

import (
	"math"
	"slices"
	"sync"
	"testing"

	"docket/api"
	"docket/docket"
)

// P10, P12: the document's example, if nothing is held.
func TestTickOfTheDocument(t *testing.T) {
	d := newDocket(t, office, documentStages()...)
	wantOpened(t, d, 0, 1)
	wantTick(t, d, 600, api.Event{Number: 1, Time: 600, Case: 1, Stage: 0, Level: 0, Who: 1})
	wantCase(t, d, 1, 0, 1, 630)
	wantTick(t, d, 230, api.Event{Number: 2, Time: 630, Case: 1, Stage: 0, Level: 1, Who: 2})
	wantCase(t, d, 1, 0, 0, -1)
	wantNow(t, d, 830, 2)
}

// P10: told at the very time at which it is due, not a minute ahead of it, and once.
func TestTickAtTheTime(t *testing.T) {
	d := newDocket(t, always, tells(10))
	wantOpened(t, d, 0, 1)
	wantTick(t, d, 0)
	wantTick(t, d, 9)
	wantTick(t, d, 0)
	wantTick(t, d, 1, api.Event{Number: 1, Time: 10, Case: 1, Who: 10})
	wantTick(t, d, 0)
	wantTick(t, d, 1)
	wantNow(t, d, 11, 1)
}

// P10: every level of a stage, one behind the other, each from the time of the one ahead.
func TestTickThroughAllLevels(t *testing.T) {
	d := newDocket(t, office, api.Stage{}, tells(60, 150, 1, 209))
	wantOpened(t, d, 1, 1)
	wantTick(t, d, api.Day,
		api.Event{Number: 1, Time: 600, Case: 1, Stage: 1, Level: 0, Who: 10},
		api.Event{Number: 2, Time: 810, Case: 1, Stage: 1, Level: 1, Who: 11},
		api.Event{Number: 3, Time: 811, Case: 1, Stage: 1, Level: 2, Who: 12},
		api.Event{Number: 4, Time: 1020, Case: 1, Stage: 1, Level: 3, Who: 13})
	wantCase(t, d, 1, 1, 0, -1)
}

// P10: events go by time, of one time by the number of the case.
func TestTickOrder(t *testing.T) {
	d := newDocket(t, always, tells(15), tells(10, 5), tells(5, 5, 5))
	for id, stage := range []int{0, 1, 2, 1} {
		wantOpened(t, d, stage, id+1)
	}
	wantTick(t, d, 20,
		api.Event{Number: 1, Time: 5, Case: 3, Stage: 2, Level: 0, Who: 10},
		api.Event{Number: 2, Time: 10, Case: 2, Stage: 1, Level: 0, Who: 10},
		api.Event{Number: 3, Time: 10, Case: 3, Stage: 2, Level: 1, Who: 11},
		api.Event{Number: 4, Time: 10, Case: 4, Stage: 1, Level: 0, Who: 10},
		api.Event{Number: 5, Time: 15, Case: 1, Stage: 0, Level: 0, Who: 10},
		api.Event{Number: 6, Time: 15, Case: 2, Stage: 1, Level: 1, Who: 11},
		api.Event{Number: 7, Time: 15, Case: 3, Stage: 2, Level: 2, Who: 12},
		api.Event{Number: 8, Time: 15, Case: 4, Stage: 1, Level: 1, Who: 11})
}

// P10: ten and more cases are in the order of numbers, not of digits, also when some have gone.
func TestTickOrderOfManyCases(t *testing.T) {
	d := newDocket(t, always, tells(10))
	for id := 1; id <= api.MaxCases; id++ {
		wantOpened(t, d, 0, id)
	}
	var want []api.Event
	for _, id := range []int{3, 1, 19, 10} {
		wantClose(t, d, id, api.OK)
	}
	wantOpened(t, d, 0, 21)
	wantOpened(t, d, 0, 22)
	for id := 1; id <= 22; id++ {
		if !slices.Contains([]int{3, 1, 19, 10}, id) {
			want = append(want, api.Event{Number: len(want) + 1, Time: 10, Case: id, Who: 10})
		}
	}
	wantTick(t, d, 10, want...)
}

// P10: what never comes is not due, and nothing behind it either.
func TestTickOfWhatNeverComes(t *testing.T) {
	d := newDocket(t, "Mo 00:00-00:10!14,21,28,35,42,49,56,63", tells(12, 9, 1), tells(21, 1), tells(20, 1))
	wantOpened(t, d, 0, 1)
	wantOpened(t, d, 1, 2)
	wantOpened(t, d, 2, 3)
	wantCase(t, d, 1, 0, 0, 10082)
	wantCase(t, d, 2, 1, 0, -1)
	wantAgenda(t, d, api.Entry{Case: 1, Due: 10082}, api.Entry{Case: 3, Due: 10090})
	wantTick(t, d, api.MaxTime,
		api.Event{Number: 1, Time: 10082, Case: 1, Stage: 0, Who: 10},
		api.Event{Number: 2, Time: 10090, Case: 3, Stage: 2, Who: 10})
	wantCase(t, d, 1, 0, 0, -1)
	wantCase(t, d, 3, 2, 0, -1)
}

// P10: the last time there is can be reached, at once and bit by bit; nothing behind it.
func TestTickUpToTheEndOfTime(t *testing.T) {
	d := newDocket(t, always, tells(api.MaxSpan, api.MaxSpan, api.MaxSpan, api.MaxSpan))
	wantOpened(t, d, 0, 1)
	wantNoTick(t, d, api.MaxTime+1)
	events, e := d.Tick(api.MaxTime)
	if len(events) != 4 || events[3].Time != 4*api.MaxSpan || e != api.OK {
		t.Errorf("Tick(MaxTime) = %v, %d; want 4 events, 0", events, e)
	}
	wantNoTick(t, d, 1)
	wantTick(t, d, 0)
	d = newDocket(t, always, tells(1))
	wantTick(t, d, api.MaxTime-1)
	wantNoTick(t, d, 2)
	wantTick(t, d, 1)
	wantNoTick(t, d, 1)
	wantNow(t, d, api.MaxTime, 0)
}

// P10, P1: numbers of minutes that may not be, at any time; nothing is changed.
func TestTickOutside(t *testing.T) {
	d := newDocket(t, office, documentStages()...)
	wantOpened(t, d, 0, 1)
	for _, time := range []int{0, 1, 600, 600, 40000, api.MaxTime - 1, api.MaxTime} {
		now, _ := d.Now()
		d.Tick(time - now)
		before := pictureOf(d)
		for _, n := range append([]int{api.MaxTime - time + 1, math.MaxInt - time, math.MaxInt - time + 1, math.MinInt + time}, strangeNumbers...) {
			wantNoTick(t, d, n)
		}
		wantUnchanged(t, d, before)
	}
}

// P1: events are the caller's, with their spare room.
func TestEventsAreNew(t *testing.T) {
	d := newDocket(t, always, tells(1, 1, 1, 5))
	for id := 1; id <= 3; id++ {
		wantOpened(t, d, 0, id)
	}
	first, _ := d.Tick(3)
	before := pictureOf(d)
	room := first[:cap(first)]
	for i := range room {
		room[i] = api.Event{Number: 77, Time: 77, Case: 77, Level: 77}
	}
	wantUnchanged(t, d, before)
	wantTick(t, d, 5,
		api.Event{Number: 10, Time: 8, Case: 1, Level: 3, Who: 13},
		api.Event{Number: 11, Time: 8, Case: 2, Level: 3, Who: 13},
		api.Event{Number: 12, Time: 8, Case: 3, Level: 3, Who: 13})
	if room[0].Number != 77 {
		t.Error("a later Tick wrote into the events of an earlier one")
	}
}

// P14: ticks made one by one tell the same events as one of as many minutes.
func TestTicksOneByOne(t *testing.T) {
	stages := []api.Stage{tells(60, 30, 420, 1), tells(1, 1, 1, 1), tells(9999, 2), api.Stage{}, tells(400, 20000)}
	for _, text := range calendars {
		for _, step := range []int{1, 2, 7, 60, 1439, 1440, 50400} {
			whole := newDocket(t, text, stages...)
			parts := newDocket(t, text, stages...)
			for id := 1; id <= api.MaxCases; id++ {
				wantOpened(t, whole, id%len(stages), id)
				wantOpened(t, parts, id%len(stages), id)
			}
			want, _ := whole.Tick(api.MaxTime)
			var events []api.Event
			for time := 0; time < api.MaxTime; time += step {
				some, e := parts.Tick(min(step, api.MaxTime-time))
				if e != api.OK {
					t.Fatalf("Tick at %d: error %d", time, e)
				}
				events = append(events, some...)
			}
			if !slices.Equal(events, want) {
				t.Errorf("%s, by %d: %v; want %v", text, step, events, want)
			}
			wantUnchanged(t, parts, pictureOf(whole))
		}
	}
}

// P1: the calls of a docket from several goroutines: each event and each number once.
func TestManyGoroutines(t *testing.T) {
	d := newDocket(t, always, follows(tells(1, 2, 3), 0, 1), follows(tells(2), 0))
	var group sync.WaitGroup
	var ids, numbers [8][]int
	for worker := range 8 {
		group.Go(func() {
			for range 500 {
				ids[worker], numbers[worker] = busyRound(d, ids[worker], numbers[worker])
			}
		})
	}
	group.Wait()
	wantOneToN(t, "case", slices.Concat(ids[:]...))
	all := slices.Concat(numbers[:]...)
	wantOneToN(t, "event", all)
	wantNow(t, d, 8*500, len(all))
}

func busyRound(d *docket.Docket, ids, numbers []int) ([]int, []int) {
	id, e := d.Open(0)
	d.Agenda()
	events, _ := d.Tick(1)
	for _, event := range events {
		numbers = append(numbers, event.Number)
	}
	d.Now()
	if e == api.OK {
		ids = append(ids, id)
		d.Hold(id)
		d.Resume(id)
		d.Move(id, 1)
		d.Case(id)
		d.Close(id)
	}
	return ids, numbers
}

func wantOneToN(t *testing.T, what string, numbers []int) {
	t.Helper()
	slices.Sort(numbers)
	for i, n := range numbers {
		if n != i+1 {
			t.Fatalf("the %ss are %v; want 1, 2, and so on", what, numbers)
		}
	}
}
