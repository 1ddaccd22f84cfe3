package docket

import "docket/api"

const weekDays = 7

// span is a stretch of minutes of a day; its end is not in it.
type span struct {
	begin, end int
}

// Calendar is which minutes are business minutes.
type Calendar struct {
	week [weekDays][]span // as the text has them: they may overlap
	free [api.Days]bool
}

// Parse reads a calendar; else the place at which it is none (P3).
func Parse(text string) (*Calendar, api.Errno, int) {
	if len(text) > api.MaxText {
		return nil, api.ErrText, 0
	}
	r := newReader()
	for _, c := range text {
		if !r.take(c) {
			return nil, api.ErrText, r.place
		}
		r.place++
	}
	if !r.finish() {
		return nil, api.ErrText, r.place
	}
	return &Calendar{week: r.week, free: r.free}, api.OK, 0
}

// Open tells whether a minute is a business minute (P4).
func (c *Calendar) Open(t int) (bool, api.Errno) {
	if t < 0 || t >= api.MaxTime {
		return false, api.ErrArg
	}
	day := t / api.Day
	if c.free[day] {
		return false, api.OK
	}
	minute := t % api.Day
	// Day 0 is a Monday, and so is the week's first.
	for _, s := range c.week[day%weekDays] {
		if s.begin <= minute && minute < s.end {
			return true, api.OK
		}
	}
	return false, api.OK
}

// Between counts business minutes (P5).
func (c *Calendar) Between(a int, b int) (int, api.Errno) { return 0, api.OK }

// Add tells when so many business minutes have gone by (P6).
func (c *Calendar) Add(t int, n int) (int, api.Errno) { return 0, api.OK }
