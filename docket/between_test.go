package docket_test

import (
	"math"
	"testing"

	"docket/api"
)

// strangeNumbers are outside of every bound of the document, and of 32 bits.
var strangeNumbers = []int{-1, -api.Day, api.MaxTime + 1, math.MaxInt32, math.MinInt32, math.MaxInt32 + 1, 1 << 32, 1 << 62, math.MaxInt, math.MinInt, math.MinInt + 1}

// P5: the document's examples.
func TestBetweenOfTheDocument(t *testing.T) {
	c := calendar(t, office)
	wantBetween(t, c, 0, 1440, 420)
	wantBetween(t, c, 0, 10080, 1800)
}

// P5: a minute that begins at a is counted, one that begins at b is not.
func TestBetweenAtTheEndsOfASpan(t *testing.T) {
	c := calendar(t, office)
	wantBetween(t, c, nine-1, nine, 0)
	wantBetween(t, c, nine, nine, 0)
	wantBetween(t, c, nine, nine+1, 1)
	wantBetween(t, c, nine+1, twelve-1, 178)
	wantBetween(t, c, twelve-1, twelve, 1)
	wantBetween(t, c, twelve, twelve+60, 0)
	wantBetween(t, c, twelve-1, twelve+61, 2)
}

// P5: the first time, the last, and all between.
func TestBetweenAtTheEndsOfTime(t *testing.T) {
	c := calendar(t, always)
	wantBetween(t, c, 0, 0, 0)
	wantBetween(t, c, 0, 1, 1)
	wantBetween(t, c, 0, api.MaxTime, api.MaxTime)
	wantBetween(t, c, api.MaxTime-1, api.MaxTime, 1)
	wantBetween(t, c, api.MaxTime, api.MaxTime, 0)
	c = calendar(t, always+"!0,69")
	wantBetween(t, c, 0, api.MaxTime, api.MaxTime-2*api.Day)
	wantBetween(t, c, 0, api.Day+1, 1)
	wantBetween(t, c, api.MaxTime-api.Day-1, api.MaxTime, 1)
}

// P5: a minute that several spans have is one minute.
func TestBetweenInOverlappingSpans(t *testing.T) {
	for _, text := range []string{
		"Tu 08:00-11:00",
		"Tu 08:00-10:00 09:00-11:00",
		"Tu 09:00-11:00 08:00-10:00",
		"Tu 10:00-11:00 08:00-10:00",
		"Tu 08:00-11:00 09:00-10:00 08:30-08:31",
		"Tu 09:00-10:00 08:00-11:00",
		"Tu 08:00-11:00 08:00-09:00 10:00-11:00",
		"Tu 08:00-09:00 08:00-11:00",
		"Tu,Tu 08:00-11:00 08:00-11:00",
		"Tu 09:30-11:00;Tu 08:00-10:00",
	} {
		c := calendar(t, text)
		wantBetween(t, c, 0, 7*api.Day, 180)
		wantBetween(t, c, 0, api.MaxTime, 1800)
		wantBetween(t, c, api.Day+500, api.Day+640, 140)
		wantAdd(t, c, 0, 180, api.Day+660)
		wantAdd(t, c, 0, 181, 8*api.Day+481)
	}
}

// P5: every two of many times, held against a count minute by minute.
func TestBetweenCounts(t *testing.T) {
	for _, text := range calendars {
		c := calendar(t, text)
		ahead := counts(t, c)
		for _, a := range edges() {
			for _, b := range edges() {
				if a <= b {
					wantBetween(t, c, a, b, ahead[b]-ahead[a])
				}
			}
		}
		for m, n := range ahead {
			wantBetween(t, c, 0, m, n)
		}
	}
}

// P5: times that are none, and times in the wrong order.
func TestBetweenOutside(t *testing.T) {
	c := calendar(t, always)
	wrong := [][2]int{{1, 0}, {api.MaxTime, 0}, {api.MaxTime, api.MaxTime - 1}, {540, 539}}
	for _, m := range strangeNumbers {
		wrong = append(wrong, [2]int{m, 0}, [2]int{m, 540}, [2]int{m, api.MaxTime}, [2]int{0, m}, [2]int{540, m}, [2]int{api.MaxTime, m}, [2]int{m, m})
	}
	for _, k := range wrong {
		if n, e := c.Between(k[0], k[1]); n != 0 || e != api.ErrArg {
			t.Errorf("Between(%d, %d) = %d, %d; want 0, ErrArg", k[0], k[1], n, e)
		}
	}
}

// P13: what lies between two times is what lies ahead of and behind any between them.
func TestBetweenInTwoParts(t *testing.T) {
	for _, text := range calendars {
		c := calendar(t, text)
		for _, ends := range [][2]int{{0, api.MaxTime}, {540, 541}, {700, 9000}, {7199, 90000}} {
			whole, _ := c.Between(ends[0], ends[1])
			for _, m := range edges() {
				if m < ends[0] || m > ends[1] {
					continue
				}
				first, _ := c.Between(ends[0], m)
				wantBetween(t, c, m, ends[1], whole-first)
			}
		}
	}
}
