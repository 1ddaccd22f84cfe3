package docket_test

import (
	"slices"
	"sync"
	"testing"

	"docket/api"
	"docket/docket"
)

// P10 to P12: the document's example.
func TestHoldOfTheDocument(t *testing.T) {
	d := newDocket(t, office, documentStages()...)
	wantOpened(t, d, 0, 1)
	wantTick(t, d, 600, api.Event{Number: 1, Time: 600, Case: 1, Stage: 0, Level: 0, Who: 1})
	wantCase(t, d, 1, 0, 1, 630)
	wantHold(t, d, 1, api.OK)
	wantTick(t, d, 200)
	wantResume(t, d, 1, api.OK)
	wantCase(t, d, 1, 0, 1, 830)
	wantTick(t, d, 30, api.Event{Number: 2, Time: 830, Case: 1, Stage: 0, Level: 1, Who: 2})
	wantCase(t, d, 1, 0, 0, -1)
}

// P11, P1: cases that never were, and cases that are no more, held or not.
func TestHoldOfNoSuchCase(t *testing.T) {
	d := newDocket(t, always, follows(tells(10), 0), api.Stage{})
	for id := 1; id <= 5; id++ {
		wantOpened(t, d, id%2, id)
	}
	wantHold(t, d, 3, api.OK)
	wantHold(t, d, 4, api.OK)
	for _, id := range []int{2, 4, 5} {
		wantClose(t, d, id, api.OK)
	}
	before := pictureOf(d)
	for _, id := range append([]int{0, 2, 4, 5, 6, -3}, strangeNumbers...) {
		wantHold(t, d, id, api.ErrNone)
		wantResume(t, d, id, api.ErrNone)
	}
	wantUnchanged(t, d, before)
}

// P11, P1: what is held is not held again, what is not held does not go on; nothing is changed.
func TestHoldTwice(t *testing.T) {
	d := newDocket(t, always, tells(10, 20), api.Stage{})
	wantOpened(t, d, 0, 1)
	wantOpened(t, d, 1, 2)
	wantTick(t, d, 4)
	for _, id := range []int{1, 2} {
		before := pictureOf(d)
		wantResume(t, d, id, api.ErrHeld)
		wantResume(t, d, id, api.ErrHeld)
		wantUnchanged(t, d, before)
		wantHold(t, d, id, api.OK)
		before = pictureOf(d)
		wantHold(t, d, id, api.ErrHeld)
		wantHold(t, d, id, api.ErrHeld)
		wantUnchanged(t, d, before)
	}
	wantTick(t, d, 50)
	wantHold(t, d, 1, api.ErrHeld)
	wantResume(t, d, 1, api.OK)
	wantResume(t, d, 2, api.OK)
	wantCase(t, d, 1, 0, 0, 60)
	wantTick(t, d, 3)
	before := pictureOf(d)
	wantResume(t, d, 1, api.ErrHeld)
	wantResume(t, d, 2, api.ErrHeld)
	wantUnchanged(t, d, before)
}

// heldDocket is at time 10; it has a case with a rest and one with nothing,
// which are held, and a third that is due at 15.
func heldDocket(t *testing.T) *docket.Docket {
	t.Helper()
	d := newDocket(t, always, follows(tells(10, 20), 1), follows(api.Stage{}, 0))
	wantOpened(t, d, 0, 1)
	wantOpened(t, d, 1, 2)
	wantTick(t, d, 5)
	wantOpened(t, d, 0, 3)
	wantTick(t, d, 5, api.Event{Number: 1, Time: 10, Case: 1, Who: 10})
	wantHold(t, d, 1, api.OK)
	wantHold(t, d, 2, api.OK)
	return d
}

// P12: a case that is held keeps its next level, if it has a rest; nothing is due.
func TestCaseThatIsHeld(t *testing.T) {
	d := heldDocket(t)
	wantHeldCase(t, d, 1, 0, 1)
	wantHeldCase(t, d, 2, 1, 0)
	wantCase(t, d, 3, 0, 0, 15)
	wantAgenda(t, d, api.Entry{Case: 3, Due: 15})
	wantTick(t, d, 1)
	wantHold(t, d, 3, api.OK)
	wantHeldCase(t, d, 3, 0, 0)
	wantAgenda(t, d)
}

// P9: a case that is held is not moved, and that is told ahead of where to.
func TestMoveOfACaseThatIsHeld(t *testing.T) {
	d := heldDocket(t)
	before := pictureOf(d)
	for _, stage := range append([]int{0, 1, 2, 9}, strangeNumbers...) {
		wantMove(t, d, 1, stage, api.ErrHeld)
		wantMove(t, d, 2, stage, api.ErrHeld)
		wantMove(t, d, 4, stage, api.ErrNone)
	}
	wantMove(t, d, 3, 0, api.ErrMove)
	wantUnchanged(t, d, before)
	wantMove(t, d, 3, 1, api.OK)
}

// P9, P11: a case that goes on can be moved, and begins anew: its rest is no more.
func TestMoveOfACaseThatGoesOn(t *testing.T) {
	d := heldDocket(t)
	wantResume(t, d, 1, api.OK)
	wantResume(t, d, 2, api.OK)
	wantCase(t, d, 1, 0, 1, 30)
	wantMove(t, d, 1, 1, api.OK)
	wantMove(t, d, 2, 0, api.OK)
	wantCase(t, d, 1, 1, 0, -1)
	wantCase(t, d, 2, 0, 0, 20)
	wantHold(t, d, 1, api.OK)
	wantHeldCase(t, d, 1, 1, 0)
	wantResume(t, d, 1, api.OK)
	wantCase(t, d, 1, 1, 0, -1)
}

// P10: a case that is held is not told, however long; the others are.
func TestTickBesideACaseThatIsHeld(t *testing.T) {
	d := heldDocket(t)
	wantTick(t, d, api.MaxTime-10,
		api.Event{Number: 2, Time: 15, Case: 3, Level: 0, Who: 10},
		api.Event{Number: 3, Time: 35, Case: 3, Level: 1, Who: 11})
	wantHeldCase(t, d, 1, 0, 1)
	wantHeldCase(t, d, 2, 1, 0)
	wantNow(t, d, api.MaxTime, 3)
}

// P9: a case that is held can be closed, and counts as a case until then.
func TestCloseOfACaseThatIsHeld(t *testing.T) {
	d := newDocket(t, always, tells(10))
	for id := 1; id <= api.MaxCases; id++ {
		wantOpened(t, d, 0, id)
		wantHold(t, d, id, api.OK)
	}
	wantNotOpened(t, d, 0, api.ErrFull)
	wantClose(t, d, 7, api.OK)
	wantNoCase(t, d, 7)
	wantOpened(t, d, 0, api.MaxCases+1)
	wantCase(t, d, api.MaxCases+1, 0, 0, 10)
	wantResume(t, d, api.MaxCases+1, api.ErrHeld)
	wantTick(t, d, 50, api.Event{Number: 1, Time: 10, Case: api.MaxCases + 1, Who: 10})
}

// P11: a rest is of business minutes; what the calendar leaves out does not count.
func TestRestIsOfBusinessMinutes(t *testing.T) {
	for _, k := range []struct{ hold, resume, due int }{
		{0, 0, 640},
		{0, 540, 640},
		{0, 541, 641},
		{539, 700, 860}, // 20 up to 12:00, and 80 from 13:00 on
		{570, 570, 640},
		{570, 720, 850},
		{570, 750, 850},
		{570, 1440, 2*api.Day + 540 + 70}, // Tuesday is free
		{639, 1019, 1020},
		{639, 1020, 2*api.Day + 541},
		{639, 5 * api.Day, 5*api.Day + 601}, // Saturday begins at 10:00
	} {
		d := newDocket(t, office, tells(100))
		wantOpened(t, d, 0, 1)
		wantTick(t, d, k.hold)
		wantHold(t, d, 1, api.OK)
		wantHeldCase(t, d, 1, 0, 0)
		wantTick(t, d, k.resume-k.hold)
		wantResume(t, d, 1, api.OK)
		wantCase(t, d, 1, 0, 0, k.due)
		wantAgenda(t, d, api.Entry{Case: 1, Due: k.due})
		wantTick(t, d, k.due-k.resume-1)
		wantTick(t, d, 1, api.Event{Number: 1, Time: k.due, Case: 1, Who: 10})
	}
}

// P11: a case that is held at the very time at which it was told rests ahead of its next level.
func TestHoldAtTheTimeItIsTold(t *testing.T) {
	d := newDocket(t, always, tells(10, 5))
	wantOpened(t, d, 0, 1)
	wantTick(t, d, 10, api.Event{Number: 1, Time: 10, Case: 1, Who: 10})
	wantHold(t, d, 1, api.OK)
	wantHeldCase(t, d, 1, 0, 1)
	wantTick(t, d, 3)
	wantResume(t, d, 1, api.OK)
	wantTick(t, d, 4)
	wantTick(t, d, 1, api.Event{Number: 2, Time: 18, Case: 1, Level: 1, Who: 11})
}

// P11: held several times, a case loses no minute and wins none.
func TestHoldSeveralTimes(t *testing.T) {
	d := newDocket(t, always, tells(50, 7))
	wantOpened(t, d, 0, 1)
	for k := range 49 {
		wantTick(t, d, 1)
		wantHold(t, d, 1, api.OK)
		wantTick(t, d, 3)
		wantResume(t, d, 1, api.OK)
		wantCase(t, d, 1, 0, 0, 50+3*(k+1))
	}
	wantTick(t, d, 9,
		api.Event{Number: 1, Time: 197, Case: 1, Who: 10},
		api.Event{Number: 2, Time: 204, Case: 1, Level: 1, Who: 11})
}

// P11: the least rest is one minute, the greatest MaxSpan.
func TestRestAtItsBounds(t *testing.T) {
	d := newDocket(t, always, tells(api.MaxSpan))
	wantOpened(t, d, 0, 1)
	wantOpened(t, d, 0, 2)
	wantHold(t, d, 1, api.OK)
	wantTick(t, d, api.MaxSpan-1)
	wantHold(t, d, 2, api.OK)
	wantTick(t, d, 5)
	wantResume(t, d, 1, api.OK)
	wantResume(t, d, 2, api.OK)
	wantCase(t, d, 1, 0, 0, 2*api.MaxSpan+4)
	wantCase(t, d, 2, 0, 0, api.MaxSpan+5)
}

// P11, P12: what goes on at the time it was held is as it was, whenever that is.
func TestHoldForNoTime(t *testing.T) {
	for _, text := range calendars {
		d := newDocket(t, text, tells(60, 400, 1, 2000), tells(api.MaxSpan), api.Stage{})
		for id := 1; id <= 3; id++ {
			wantOpened(t, d, id-1, id)
		}
		for _, time := range edges() {
			now, _ := d.Now()
			d.Tick(time - now)
			before := pictureOf(d)
			for id := 1; id <= 3; id++ {
				wantHold(t, d, id, api.OK)
			}
			wantAgenda(t, d)
			for id := 1; id <= 3; id++ {
				wantResume(t, d, id, api.OK)
			}
			wantUnchanged(t, d, before)
		}
	}
}

// P11: of what has nothing due nothing is due when it goes on, whyever that is.
func TestHoldOfNothing(t *testing.T) {
	d := newDocket(t, "Mo 00:00-00:10!14,21,28,35,42,49,56,63", api.Stage{}, tells(21), tells(3), tells(2, 19))
	for id := 1; id <= 4; id++ {
		wantOpened(t, d, id-1, id)
	}
	wantTick(t, d, 5,
		api.Event{Number: 1, Time: 2, Case: 4, Stage: 3, Who: 10},
		api.Event{Number: 2, Time: 3, Case: 3, Stage: 2, Who: 10})
	for id := 1; id <= 4; id++ {
		wantCase(t, d, id, id-1, 0, -1)
		wantHold(t, d, id, api.OK)
		wantHeldCase(t, d, id, id-1, 0)
	}
	wantTick(t, d, 2)
	for id := 1; id <= 4; id++ {
		wantResume(t, d, id, api.OK)
		wantCase(t, d, id, id-1, 0, -1)
	}
	wantAgenda(t, d)
	wantTick(t, d, api.MaxTime-7)
}

// P11: a rest for which time is too short is no more, and its level neither;
// up to the last time it is not too short.
func TestResumeOfWhatNeverComes(t *testing.T) {
	d := newDocket(t, always, tells(1, 10, 1))
	for id := 1; id <= 2; id++ {
		wantOpened(t, d, 0, id)
	}
	d.Tick(5)
	wantHold(t, d, 1, api.OK)
	wantHold(t, d, 2, api.OK)
	wantTick(t, d, api.MaxTime-5-6)
	wantResume(t, d, 1, api.OK)
	wantCase(t, d, 1, 0, 1, api.MaxTime)
	wantTick(t, d, 1)
	wantHeldCase(t, d, 2, 0, 1)
	wantResume(t, d, 2, api.OK)
	wantCase(t, d, 2, 0, 0, -1)
	wantAgenda(t, d, api.Entry{Case: 1, Due: api.MaxTime})
	wantHold(t, d, 2, api.OK)
	wantHeldCase(t, d, 2, 0, 0)
	wantResume(t, d, 2, api.OK)
	wantCase(t, d, 2, 0, 0, -1)
	wantTick(t, d, 5, api.Event{Number: 3, Time: api.MaxTime, Case: 1, Level: 1, Who: 11})
}

// P11: a case whose rest never comes can be moved, as one that is not held.
func TestMoveOfWhatNeverComes(t *testing.T) {
	d := newDocket(t, always, follows(tells(5), 1), tells(2))
	wantOpened(t, d, 0, 1)
	wantHold(t, d, 1, api.OK)
	wantTick(t, d, api.MaxTime-3)
	wantResume(t, d, 1, api.OK)
	wantCase(t, d, 1, 0, 0, -1)
	wantMove(t, d, 1, 1, api.OK)
	wantCase(t, d, 1, 1, 0, api.MaxTime-1)
}

// P11: holding one leaves the others alone, and so does letting it go on.
func TestHoldOfOneAmongOthers(t *testing.T) {
	for one := 1; one <= 3; one++ {
		d := newDocket(t, always, tells(10), tells(20), tells(30))
		for id := 1; id <= 3; id++ {
			wantOpened(t, d, id-1, id)
		}
		wantHold(t, d, one, api.OK)
		wantTick(t, d, 9)
		wantHeldCase(t, d, one, one-1, 0)
		wantResume(t, d, one, api.OK)
		for id := 1; id <= 3; id++ {
			due := 10 * id
			if id == one {
				due += 9
			}
			wantCase(t, d, id, id-1, 0, due)
		}
	}
}

// P10 to P12: a case that goes on comes in the order of its new time, of one time by its number.
func TestOrderOfCasesThatGoOn(t *testing.T) {
	d := newDocket(t, always, tells(10), tells(15))
	for id, stage := range []int{0, 1, 0, 0} {
		wantOpened(t, d, stage, id+1)
	}
	wantHold(t, d, 1, api.OK)
	wantHold(t, d, 3, api.OK)
	wantTick(t, d, 5)
	wantResume(t, d, 3, api.OK)
	wantResume(t, d, 1, api.OK)
	wantAgenda(t, d,
		api.Entry{Case: 4, Due: 10},
		api.Entry{Case: 1, Due: 15}, api.Entry{Case: 2, Due: 15}, api.Entry{Case: 3, Due: 15})
	wantTick(t, d, 10,
		api.Event{Number: 1, Time: 10, Case: 4, Stage: 0, Who: 10},
		api.Event{Number: 2, Time: 15, Case: 1, Stage: 0, Who: 10},
		api.Event{Number: 3, Time: 15, Case: 2, Stage: 1, Who: 10},
		api.Event{Number: 4, Time: 15, Case: 3, Stage: 0, Who: 10})
}

// heldOnce are the times at which the levels of a stage are told of a case that
// is held from one time to another.
func heldOnce(t *testing.T, text string, stage api.Stage, from, to int) []int {
	t.Helper()
	d := newDocket(t, text, stage)
	wantOpened(t, d, 0, 1)
	events, _ := d.Tick(from)
	wantHold(t, d, 1, api.OK)
	wantTick(t, d, to-from)
	wantResume(t, d, 1, api.OK)
	more, _ := d.Tick(api.MaxTime - to)
	var times []int
	for _, event := range slices.Concat(events, more) {
		times = append(times, event.Time)
	}
	return times
}

// P14: what is held is told as many business minutes later as lie between Hold
// and Resume; what was told ahead of that, and what time is too short for, aside.
func TestToldLaterByWhatLiesBetween(t *testing.T) {
	stage := tells(60, 400, 1, 1300)
	for _, text := range calendars {
		ahead := counts(t, calendar(t, text))
		usual := heldOnce(t, text, stage, 0, 0)
		for i, from := range edges() {
			for _, to := range edges()[i:] {
				// A part of the pairs is enough, and quicker.
				if (from+to)%29 != 0 || to < from {
					continue
				}
				var want []int
				for _, time := range usual {
					if time > from {
						time = leastTime(ahead, time, ahead[time]+ahead[to]-ahead[from])
					}
					if time <= api.MaxTime {
						want = append(want, time)
					}
				}
				if times := heldOnce(t, text, stage, from, to); !slices.Equal(times, want) {
					t.Errorf("%s, held from %d to %d: told at %v; want %v", text, from, to, times, want)
				}
			}
		}
	}
}

// P14: ticks made one by one tell the same events, also while and after something is held.
func TestTicksOneByOneWithHolds(t *testing.T) {
	stages := []api.Stage{tells(60, 30, 420, 1), tells(1, 1, 1, 1), tells(1999, 2), api.Stage{}}
	for _, text := range calendars {
		whole := newDocket(t, text, stages...)
		parts := newDocket(t, text, stages...)
		for id := 1; id <= api.MaxCases; id++ {
			wantOpened(t, whole, id%len(stages), id)
			wantOpened(t, parts, id%len(stages), id)
		}
		for k := range 60 {
			id := 1 + k*7%api.MaxCases
			wantHold(t, whole, id, parts.Hold(id))
			other := 1 + k*3%api.MaxCases
			wantResume(t, whole, other, parts.Resume(other))
			want, _ := whole.Tick(700)
			var events []api.Event
			for range 700 {
				some, _ := parts.Tick(1)
				events = append(events, some...)
			}
			if !slices.Equal(events, want) {
				t.Errorf("%s: %v; want %v", text, events, want)
			}
			wantUnchanged(t, parts, pictureOf(whole))
		}
	}
}

// P1: one docket's case being held is nothing to another docket.
func TestHoldInOneDocket(t *testing.T) {
	c := calendar(t, always)
	stages := documentStages()
	a, _ := docket.New(c, stages)
	b, _ := docket.New(c, stages)
	wantOpened(t, a, 0, 1)
	wantOpened(t, b, 0, 1)
	before := pictureOf(b)
	wantHold(t, a, 1, api.OK)
	wantUnchanged(t, b, before)
	wantResume(t, b, 1, api.ErrHeld)
	wantHold(t, b, 1, api.OK)
	wantResume(t, a, 1, api.OK)
	wantHeldCase(t, b, 1, 0, 0)
}

// P1: of many goroutines that hold a case at a time one alone is answered OK, and so with Resume.
func TestHoldFromManyGoroutines(t *testing.T) {
	d := newDocket(t, always, tells(10))
	wantOpened(t, d, 0, 1)
	for range 100 {
		wantOneOfMany(t, func() api.Errno { return d.Hold(1) })
		wantHeldCase(t, d, 1, 0, 0)
		wantOneOfMany(t, func() api.Errno { return d.Resume(1) })
		wantCase(t, d, 1, 0, 0, 10)
	}
}

func wantOneOfMany(t *testing.T, call func() api.Errno) {
	t.Helper()
	var group sync.WaitGroup
	var errors [8]api.Errno
	for worker := range errors {
		group.Go(func() { errors[worker] = call() })
	}
	group.Wait()
	slices.Sort(errors[:])
	want := [8]api.Errno{api.OK, api.ErrHeld, api.ErrHeld, api.ErrHeld, api.ErrHeld, api.ErrHeld, api.ErrHeld, api.ErrHeld}
	if errors != want {
		t.Errorf("the answers are %v; want %v", errors, want)
	}
}
