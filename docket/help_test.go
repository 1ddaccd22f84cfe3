package docket_test

import (
	"testing"

	"docket/api"
	"docket/docket"
)

const (
	office = "Mo,Tu,We,Th,Fr 09:00-12:00 13:00-17:00;Sa 10:00-12:00!1"
	always = "Mo,Tu,We,Th,Fr,Sa,Su 00:00-24:00"
)

func calendar(t *testing.T, text string) *docket.Calendar {
	t.Helper()
	c, e, place := docket.Parse(text)
	if c == nil || e != api.OK || place != 0 {
		t.Fatalf("Parse(%q) = %v, %d, %d; want a calendar, 0, 0", text, c, e, place)
	}
	return c
}

func wantFault(t *testing.T, text string, want int) {
	t.Helper()
	c, e, place := docket.Parse(text)
	if c != nil || e != api.ErrText || place != want {
		t.Errorf("Parse(%q) = %v, %d, %d; want nil, ErrText, %d", text, c, e, place, want)
	}
}

func wantOpen(t *testing.T, c *docket.Calendar, minute int, want bool) {
	t.Helper()
	open, e := c.Open(minute)
	if open != want || e != api.OK {
		t.Errorf("Open(%d) = %v, %d; want %v, 0", minute, open, e, want)
	}
}

// openMinutes is what a calendar answers to every minute that there is.
func openMinutes(t *testing.T, c *docket.Calendar) [api.MaxTime]bool {
	t.Helper()
	var all [api.MaxTime]bool
	for m := range all {
		open, e := c.Open(m)
		if e != api.OK {
			t.Fatalf("Open(%d): error %d", m, e)
		}
		all[m] = open
	}
	return all
}

// calendars are texts whose business minutes lie in different ways.
var calendars = []string{
	office,
	always,
	always + "!0,69",
	"Su 23:00-24:00 00:00-00:01",
	"Mo 00:00-24:00!0,7,14,21,28,35,42,49,56,63",
	"Sa 10:00-11:00 09:00-12:00 10:30-11:30;Mo,Sa 11:59-12:01;Sa 09:00-09:01",
	"Fr,Mo 08:00-09:00 09:00-10:00 10:01-10:02!4,5,11",
	"Mo,Tu,We,Th,Fr,Sa,Su 00:00-00:01 23:59-24:00 12:00-12:01",
}

// counts is how many business minutes lie ahead of each time, counted one by one.
func counts(t *testing.T, c *docket.Calendar) []int {
	t.Helper()
	ahead := make([]int, api.MaxTime+1)
	for m, open := range openMinutes(t, c) {
		ahead[m+1] = ahead[m]
		if open {
			ahead[m+1]++
		}
	}
	return ahead
}

// edges are times at and beside the bounds of days and of the calendars' spans.
func edges() []int {
	var times []int
	for _, day := range []int{0, 1, 4, 5, 6, 7, 12, 34, 63, 68, 69, 70} {
		for _, minute := range []int{0, 1, 480, 540, 600, 602, 690, 720, 721, 780, 1020, 1380, 1439} {
			for near := -1; near <= 1; near++ {
				m := day*api.Day + minute + near
				if m >= 0 && m <= api.MaxTime {
					times = append(times, m)
				}
			}
		}
	}
	return times
}

func wantBetween(t *testing.T, c *docket.Calendar, a, b, want int) {
	t.Helper()
	n, e := c.Between(a, b)
	if n != want || e != api.OK {
		t.Errorf("Between(%d, %d) = %d, %d; want %d, 0", a, b, n, e, want)
	}
}

func wantAdd(t *testing.T, c *docket.Calendar, from, n, want int) {
	t.Helper()
	to, e := c.Add(from, n)
	if to != want || e != api.OK {
		t.Errorf("Add(%d, %d) = %d, %d; want %d, 0", from, n, to, e, want)
	}
}

func wantAddError(t *testing.T, c *docket.Calendar, from, n int, want api.Errno) {
	t.Helper()
	to, e := c.Add(from, n)
	if to != 0 || e != want {
		t.Errorf("Add(%d, %d) = %d, %d; want 0, %d", from, n, to, e, want)
	}
}
