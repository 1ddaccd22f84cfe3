package docket_test

import (
	"testing"

	"docket/api"
	"docket/docket"
)

const (
	office = "Mo,Tu,We,Th,Fr 09:00-12:00 13:00-17:00;Sa 10:00-12:00!1"
	always = "Mo,Tu,We,Th,Fr,Sa,Su 00:00-24:00"
)

func calendar(t *testing.T, text string) *docket.Calendar {
	t.Helper()
	c, e, place := docket.Parse(text)
	if c == nil || e != api.OK || place != 0 {
		t.Fatalf("Parse(%q) = %v, %d, %d; want a calendar, 0, 0", text, c, e, place)
	}
	return c
}

func wantFault(t *testing.T, text string, want int) {
	t.Helper()
	c, e, place := docket.Parse(text)
	if c != nil || e != api.ErrText || place != want {
		t.Errorf("Parse(%q) = %v, %d, %d; want nil, ErrText, %d", text, c, e, place, want)
	}
}

func wantOpen(t *testing.T, c *docket.Calendar, minute int, want bool) {
	t.Helper()
	open, e := c.Open(minute)
	if open != want || e != api.OK {
		t.Errorf("Open(%d) = %v, %d; want %v, 0", minute, open, e, want)
	}
}

// openMinutes is what a calendar answers to every minute that there is.
func openMinutes(t *testing.T, c *docket.Calendar) [api.MaxTime]bool {
	t.Helper()
	var all [api.MaxTime]bool
	for m := range all {
		open, e := c.Open(m)
		if e != api.OK {
			t.Fatalf("Open(%d): error %d", m, e)
		}
		all[m] = open
	}
	return all
}
