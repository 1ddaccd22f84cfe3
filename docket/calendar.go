package docket

import (
	"cmp"
	"iter"
	"slices"

	"docket/api"
)

const weekDays = 7

// span is a stretch of minutes; its end is not in it.
type span struct {
	begin, end int
}

// Calendar is which minutes are business minutes.
type Calendar struct {
	week [weekDays][]span // of each day, in their order and apart from one another
	free [api.Days]bool
}

// Parse reads a calendar; else the place at which it is none (P3).
func Parse(text string) (*Calendar, api.Errno, int) {
	if len(text) > api.MaxText {
		return nil, api.ErrText, 0
	}
	r := newReader()
	for _, c := range text {
		if !r.take(c) {
			return nil, api.ErrText, r.place
		}
		r.place++
	}
	if !r.finish() {
		return nil, api.ErrText, r.place
	}
	c := &Calendar{free: r.free}
	for day, spans := range r.week {
		c.week[day] = join(spans)
	}
	return c, api.OK, 0
}

// join puts spans in order and makes one of those that meet: what counts
// minutes must not count one twice, and the text may name it twice.
func join(spans []span) []span {
	slices.SortFunc(spans, func(a, b span) int { return cmp.Compare(a.begin, b.begin) })
	var apart []span
	for _, s := range spans {
		last := len(apart) - 1
		if last >= 0 && s.begin <= apart[last].end {
			apart[last].end = max(apart[last].end, s.end)
		} else {
			apart = append(apart, s)
		}
	}
	return apart
}

// spansOf are the business minutes of a day, counted from its beginning.
func (c *Calendar) spansOf(day int) []span {
	if c.free[day] {
		return nil
	}
	// Day 0 is a Monday, and so is the week's first.
	return c.week[day%weekDays]
}

// spansFrom goes through the business minutes from a time on, in their order;
// its spans are counted from time 0, and none is empty.
func (c *Calendar) spansFrom(t int) iter.Seq[span] {
	return func(yield func(span) bool) {
		for day := t / api.Day; day < api.Days; day++ {
			start := day * api.Day
			for _, s := range c.spansOf(day) {
				s = span{begin: max(start+s.begin, t), end: start + s.end}
				if s.begin < s.end && !yield(s) {
					return
				}
			}
		}
	}
}

func isTime(t int) bool {
	return t >= 0 && t <= api.MaxTime
}

// Open tells whether a minute is a business minute (P4).
func (c *Calendar) Open(t int) (bool, api.Errno) {
	if t < 0 || t >= api.MaxTime {
		return false, api.ErrArg
	}
	minute := t % api.Day
	for _, s := range c.spansOf(t / api.Day) {
		if s.begin <= minute && minute < s.end {
			return true, api.OK
		}
	}
	return false, api.OK
}

// Between counts business minutes (P5).
func (c *Calendar) Between(a int, b int) (int, api.Errno) {
	if !isTime(a) || !isTime(b) || a > b {
		return 0, api.ErrArg
	}
	n := 0
	for s := range c.spansFrom(a) {
		if s.begin >= b {
			break
		}
		n += min(s.end, b) - s.begin
	}
	return n, api.OK
}

// Add tells when so many business minutes have gone by (P6).
func (c *Calendar) Add(t int, n int) (int, api.Errno) {
	if !isTime(t) || n < 0 || n > api.MaxSpan {
		return 0, api.ErrArg
	}
	// With none to go by there is no waiting for the next business minute.
	if n == 0 {
		return t, api.OK
	}
	for s := range c.spansFrom(t) {
		if n <= s.end-s.begin {
			return s.begin + n, api.OK
		}
		n -= s.end - s.begin
	}
	return 0, api.ErrNever
}
