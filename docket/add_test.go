package docket_test

import (
	"fmt"
	"math/rand/v2"
	"strings"
	"testing"

	"docket/api"
	"docket/docket"
)

// P6: the document's examples.
func TestAddOfTheDocument(t *testing.T) {
	c := calendar(t, office)
	wantAdd(t, c, 0, 1, 541)
	wantAdd(t, c, 700, 21, 781)
	wantAdd(t, c, 1020, 1, 3421)
	wantAdd(t, c, 0, 420, 1020)
}

// P6: the least time is the end of a span, not the beginning of the next.
func TestAddUpToTheEndOfASpan(t *testing.T) {
	c := calendar(t, office)
	wantAdd(t, c, twelve-1, 1, twelve)
	wantAdd(t, c, twelve-1, 2, twelve+61)
	wantAdd(t, c, nine, 180, twelve)
	wantAdd(t, c, nine, 181, twelve+61)
	wantAdd(t, c, 0, 421, 2*api.Day+nine+1)
}

// P6: of no minutes it is the time itself, in business or not.
func TestAddOfNothing(t *testing.T) {
	for _, text := range calendars {
		c := calendar(t, text)
		for _, m := range edges() {
			wantAdd(t, c, m, 0, m)
		}
	}
}

// P6: the last time there is can be reached, and nothing behind it.
func TestAddAtTheEndOfTime(t *testing.T) {
	c := calendar(t, always)
	wantAdd(t, c, api.MaxTime-1, 1, api.MaxTime)
	wantAdd(t, c, api.MaxTime-api.MaxSpan, api.MaxSpan, api.MaxTime)
	wantAddError(t, c, api.MaxTime-1, 2, api.ErrNever)
	wantAddError(t, c, api.MaxTime-api.MaxSpan+1, api.MaxSpan, api.ErrNever)
	wantAddError(t, c, api.MaxTime, 1, api.ErrNever)
	wantAddError(t, c, api.MaxTime, api.MaxSpan, api.ErrNever)
	c = calendar(t, office)
	noon := 68*api.Day + twelve
	wantAdd(t, c, noon-1, 1, noon)
	wantAddError(t, c, noon-1, 2, api.ErrNever)
	wantAddError(t, c, noon, 1, api.ErrNever)
}

// P6: a calendar may have no business minute at all.
func TestAddWithoutBusiness(t *testing.T) {
	c := calendar(t, "Mo 00:00-24:00!0,7,14,21,28,35,42,49,56,63")
	wantAddError(t, c, 0, 1, api.ErrNever)
	wantAddError(t, c, 5, api.MaxSpan, api.ErrNever)
	wantAdd(t, c, 5, 0, 5)
}

// P6: the least of the times at which n minutes have gone by, sought one by one.
func TestAddIsTheLeastTime(t *testing.T) {
	for _, text := range calendars {
		c := calendar(t, text)
		ahead := counts(t, c)
		for _, from := range edges() {
			to := from
			for n := range 600 {
				to = leastTime(ahead, to, ahead[from]+n)
				wantAddOrNever(t, c, from, n, to)
			}
		}
		for _, n := range []int{1, 60, 420, 2220, api.MaxSpan} {
			to := 0
			for from := range ahead {
				to = leastTime(ahead, max(to, from), ahead[from]+n)
				wantAddOrNever(t, c, from, n, to)
			}
		}
	}
}

// leastTime is the least time from one on ahead of which so many business
// minutes lie; MaxTime + 1, if there is none.
func leastTime(ahead []int, from, n int) int {
	for from <= api.MaxTime && ahead[from] < n {
		from++
	}
	return from
}

func wantAddOrNever(t *testing.T, c *docket.Calendar, from, n, want int) {
	t.Helper()
	if want > api.MaxTime {
		wantAddError(t, c, from, n, api.ErrNever)
	} else {
		wantAdd(t, c, from, n, want)
	}
}

// P6: times that are none, and numbers of minutes that are too small or too great.
func TestAddOutside(t *testing.T) {
	c := calendar(t, always)
	wrong := []int{-1, api.MaxSpan + 1}
	for _, m := range append(wrong, strangeNumbers...) {
		wantAddError(t, c, 0, m, api.ErrArg)
		wantAddError(t, c, 540, m, api.ErrArg)
		wantAddError(t, c, api.MaxTime, m, api.ErrArg)
	}
	for _, m := range strangeNumbers {
		wantAddError(t, c, m, 0, api.ErrArg)
		wantAddError(t, c, m, 1, api.ErrArg)
		wantAddError(t, c, m, api.MaxSpan, api.ErrArg)
		wantAddError(t, c, m, m, api.ErrArg)
	}
}

// P6: of several errors the one named first, also where the time never comes.
func TestAddNamesTheArgumentFirst(t *testing.T) {
	c := calendar(t, "Mo 00:00-24:00!0,7,14,21,28,35,42,49,56,63")
	wantAddError(t, c, 0, api.MaxSpan+1, api.ErrArg)
	wantAddError(t, c, api.MaxTime+1, 1, api.ErrArg)
	wantAddError(t, c, -1, 1, api.ErrArg)
}

// P13: so many minutes and so many more are the sum of both.
func TestAddInTwoParts(t *testing.T) {
	for _, text := range calendars {
		c := calendar(t, text)
		for _, from := range edges() {
			for _, k := range [][2]int{{0, 0}, {0, 1}, {1, 0}, {1, 1}, {59, 61}, {180, 240}, {420, 1}, {1000, 1220}, {1, api.MaxSpan - 1}, {10000, 10000}} {
				whole, e := c.Add(from, k[0]+k[1])
				first, never := c.Add(from, k[0])
				if never != api.OK {
					wantAddError(t, c, from, k[0]+k[1], api.ErrNever)
				} else if e != api.OK {
					wantAddError(t, c, first, k[1], api.ErrNever)
				} else {
					wantAdd(t, c, first, k[1], whole)
				}
			}
		}
	}
}

// P13: Between takes back what Add did, and the minute ahead is in business.
func TestAddAndBetween(t *testing.T) {
	for _, text := range calendars {
		c := calendar(t, text)
		for _, from := range edges() {
			for _, n := range []int{0, 1, 2, 59, 60, 61, 180, 420, 421, 2220, 9999, api.MaxSpan} {
				to, e := c.Add(from, n)
				if e != api.OK {
					continue
				}
				wantBetween(t, c, from, to, n)
				if n > 0 {
					wantOpen(t, c, to-1, true)
				}
			}
		}
	}
}

// P5, P6: calendars of all kinds, held against the count minute by minute.
func TestAddAndBetweenOfManyCalendars(t *testing.T) {
	dice := rand.New(rand.NewPCG(5, 6))
	for range 200 {
		text := anyCalendar(dice)
		c := calendar(t, text)
		ahead := counts(t, c)
		for range 50 {
			a := dice.IntN(api.MaxTime + 1)
			b := a + dice.IntN(api.MaxTime+1-a)
			wantBetween(t, c, a, b, ahead[b]-ahead[a])
			n := dice.IntN(api.MaxSpan+1) >> dice.IntN(12)
			wantAddOrNever(t, c, a, n, leastTime(ahead, a, ahead[a]+n))
		}
		if t.Failed() {
			t.Fatalf("the calendar was %s", text)
		}
	}
}

func anyCalendar(dice *rand.Rand) string {
	var entries []string
	for range 1 + dice.IntN(4) {
		entry := []string{"Mo", "Tu", "We", "Th", "Fr", "Sa", "Su"}[dice.IntN(7)]
		for range 1 + dice.IntN(3) {
			begin := dice.IntN(api.Day)
			end := begin + 1 + dice.IntN(api.Day-begin)
			entry += fmt.Sprintf(" %02d:%02d-%02d:%02d", begin/60, begin%60, end/60, end%60)
		}
		entries = append(entries, entry)
	}
	free := dice.IntN(api.Days - 1)
	return strings.Join(entries, ";") + fmt.Sprintf("!%d,%d", free, free+1)
}

// P1, P5, P6: whatever the calendar and the numbers, an answer, and the one
// that the count minute by minute gives.
func FuzzAdd(f *testing.F) {
	f.Add(office, 700, 21)
	f.Add(always, api.MaxTime, 1)
	f.Add("Su 23:00-24:00 00:00-00:01", 0, 611)
	f.Add("Mo 10:00-11:00 09:00-12:00!0", -1, api.MaxSpan+1)
	f.Fuzz(func(t *testing.T, text string, from, n int) {
		c, e, _ := docket.Parse(text)
		if e != api.OK {
			return
		}
		if from < 0 || from > api.MaxTime || n < 0 || n > api.MaxSpan {
			wantAddError(t, c, from, n, api.ErrArg)
			return
		}
		ahead := counts(t, c)
		to := leastTime(ahead, from, ahead[from]+n)
		wantAddOrNever(t, c, from, n, to)
		wantBetween(t, c, from, min(to, api.MaxTime), ahead[min(to, api.MaxTime)]-ahead[from])
	})
}
