package docket_test

import (
	"math"
	"sync"
	"testing"

	"docket/api"
)

const (
	nine   = 9 * 60
	twelve = 12 * 60
)

// P2: the first and the last minute there are.
func TestFirstAndLastMinute(t *testing.T) {
	c := calendar(t, always)
	wantOpen(t, c, 0, true)
	wantOpen(t, c, api.MaxTime-1, true)
	c = calendar(t, "Mo 00:00-00:01;Su 23:59-24:00")
	wantOpen(t, c, 0, true)
	wantOpen(t, c, 1, false)
	wantOpen(t, c, api.MaxTime-2, false)
	wantOpen(t, c, api.MaxTime-1, true)
}

// P2: the first and the last day; numbers are of days from 0 on.
func TestFirstAndLastDay(t *testing.T) {
	c := calendar(t, always+"!0,69")
	wantOpen(t, c, 0, false)
	wantOpen(t, c, api.Day-1, false)
	wantOpen(t, c, api.Day, true)
	wantOpen(t, c, api.MaxTime-api.Day-1, true)
	wantOpen(t, c, api.MaxTime-api.Day, false)
	wantOpen(t, c, api.MaxTime-1, false)
}

// P2: day 0 is a Monday, and the others follow in their order, week by week.
func TestDaysOfTheWeek(t *testing.T) {
	for n, name := range []string{"Mo", "Tu", "We", "Th", "Fr", "Sa", "Su"} {
		for m, open := range openMinutes(t, calendar(t, name+" 00:00-24:00")) {
			if want := m/api.Day%7 == n; open != want {
				t.Fatalf("%s: minute %d of day %d: %v", name, m%api.Day, m/api.Day, open)
			}
		}
	}
}

// P4: the document's example.
func TestOpenOfTheDocument(t *testing.T) {
	c := calendar(t, office)
	wantOpen(t, c, 540, true)
	wantOpen(t, c, 720, false)
	wantOpen(t, c, api.Day+540, false)
	n := 0
	for m, open := range openMinutes(t, c) {
		if open && m < 7*api.Day {
			n++
		}
	}
	if n != 1800 {
		t.Errorf("%d business minutes in the first week, want 1800", n)
	}
}

// P4: a span's first time is in it, its second is not.
func TestOpenAtTheEndsOfASpan(t *testing.T) {
	c := calendar(t, "Mo 09:00-12:00 12:01-12:02")
	wantOpen(t, c, nine-1, false)
	wantOpen(t, c, nine, true)
	wantOpen(t, c, twelve-1, true)
	wantOpen(t, c, twelve, false)
	wantOpen(t, c, twelve+1, true)
	wantOpen(t, c, twelve+2, false)
	c = calendar(t, "Mo 00:00-24:00")
	wantOpen(t, c, api.Day-1, true)
	wantOpen(t, c, api.Day, false)
}

// P4: a free day has no business minute, and takes none from other days.
func TestOpenOnAFreeDay(t *testing.T) {
	for free, text := range map[int]string{0: "!0", 7: "!7", 10: "!10", 69: "!69"} {
		for m, open := range openMinutes(t, calendar(t, always+text)) {
			if want := m/api.Day != free; open != want {
				t.Fatalf("%s: minute %d of day %d: %v", text, m%api.Day, m/api.Day, open)
			}
		}
	}
}

// P4: spans that overlap, touch, repeat or lie in one another, in any order.
func TestOpenInOverlappingSpans(t *testing.T) {
	want := openMinutes(t, calendar(t, "Tu,We 08:00-11:00"))
	for _, text := range []string{
		"Tu,We 08:00-10:00 09:00-11:00",
		"We,Tu 09:00-11:00 08:00-10:00",
		"Tu,We 10:00-11:00 08:00-10:00",
		"Tu,We 08:00-11:00 09:00-10:00",
		"Tu,We 09:00-10:00 08:00-11:00",
		"Tu,We,Tu,We 08:00-11:00 08:00-11:00",
		"Tu 08:00-10:00;We 08:00-11:00;Tu 09:30-11:00",
	} {
		if openMinutes(t, calendar(t, text)) != want {
			t.Errorf("%s has other minutes than 08:00 to 11:00", text)
		}
	}
}

// P4: an entry's spans are of its own days alone.
func TestOpenOfSeveralEntries(t *testing.T) {
	c := calendar(t, "Mo,We 09:00-10:00;Tu,We 11:00-12:00")
	for day, want := range []struct{ early, late bool }{{true, false}, {false, true}, {true, true}, {false, false}} {
		wantOpen(t, c, day*api.Day+nine, want.early)
		wantOpen(t, c, day*api.Day+twelve-1, want.late)
	}
}

// P4: times that are none.
func TestOpenOutside(t *testing.T) {
	c := calendar(t, always)
	for _, m := range []int{-1, -api.Day, api.MaxTime, api.MaxTime + 1, math.MaxInt, math.MinInt, math.MaxInt32 + 1, math.MinInt32} {
		if open, e := c.Open(m); open || e != api.ErrArg {
			t.Errorf("Open(%d) = %v, %d; want false, ErrArg", m, open, e)
		}
	}
}

// P1: calendars are never changed, whoever asks them and whatever is read beside them.
func TestCalendarsStay(t *testing.T) {
	c := calendar(t, office)
	before := openMinutes(t, c)
	var group sync.WaitGroup
	for range 4 {
		group.Go(func() {
			for m := -api.Day; m < api.MaxTime+api.Day; m++ {
				c.Open(m)
				if m%97 == 0 {
					c.Between(0, m)
					c.Add(m, 60)
				}
			}
		})
	}
	calendar(t, always)
	wantFault(t, office+",1", len(office)+1)
	group.Wait()
	if openMinutes(t, c) != before {
		t.Error("a calendar's answers are others than before")
	}
}
