// Package docket: cases, and who is to be told when: see DOC.md.
package docket

import (
	"cmp"
	"slices"
	"sync"
	"sync/atomic"

	"docket/api"
)

// Check tells whether stages go together (P7).
func Check(stages []api.Stage) api.Errno {
	if len(stages) < 1 || len(stages) > api.MaxStages {
		return api.ErrConfig
	}
	for _, s := range stages {
		if !checkStage(s, len(stages)) {
			return api.ErrConfig
		}
	}
	return api.OK
}

// Docket is cases.
type Docket struct {
	mutex    sync.Mutex
	calendar Calendar // a copy: what stands behind the pointer is the caller's
	stages   []stage
	time     int
	opened   int // how many cases there ever were, so that no number comes twice
	cases    []record
	events   atomic.Int64 // how many there were
}

// New makes a docket (P8).
func New(c *Calendar, stages []api.Stage) (*Docket, api.Errno) {
	if c == nil {
		return nil, api.ErrArg
	}
	if e := Check(stages); e != api.OK {
		return nil, e
	}
	return &Docket{calendar: *c, stages: copyStages(stages)}, api.OK
}

// Open opens a case (P9).
func (d *Docket) Open(stage int) (int, api.Errno) {
	d.mutex.Lock()
	defer d.mutex.Unlock()
	if !isStage(stage, len(d.stages)) {
		return 0, api.ErrArg
	}
	if len(d.cases) >= api.MaxCases {
		return 0, api.ErrFull
	}
	d.opened++
	r := record{number: d.opened}
	d.enter(&r, stage)
	d.cases = append(d.cases, r)
	return r.number, api.OK
}

// Move moves a case to another stage (P9).
func (d *Docket) Move(id int, stage int) api.Errno {
	d.mutex.Lock()
	defer d.mutex.Unlock()
	r := d.find(id)
	if r == nil {
		return api.ErrNone
	}
	if r.held {
		return api.ErrHeld
	}
	if !isStage(stage, len(d.stages)) || !d.stages[r.stage].next[stage] {
		return api.ErrMove
	}
	d.enter(r, stage)
	return api.OK
}

// Close closes a case (P9).
func (d *Docket) Close(id int) api.Errno {
	d.mutex.Lock()
	defer d.mutex.Unlock()
	i := d.index(id)
	if i < 0 {
		return api.ErrNone
	}
	d.cases = slices.Delete(d.cases, i, i+1)
	return api.OK
}

// Tick lets time go by (P10).
func (d *Docket) Tick(n int) ([]api.Event, api.Errno) {
	d.mutex.Lock()
	defer d.mutex.Unlock()
	// Not time + n: that may be greater than an int can be.
	if n < 0 || n > api.MaxTime-d.time {
		return nil, api.ErrArg
	}
	d.time += n
	var events []api.Event
	for r := d.first(); r != nil && r.due <= d.time; r = d.first() {
		events = append(events, d.tell(r))
	}
	return events, api.OK
}

// Hold holds a case (P11).
func (d *Docket) Hold(id int) api.Errno {
	d.mutex.Lock()
	defer d.mutex.Unlock()
	r := d.find(id)
	if r == nil {
		return api.ErrNone
	}
	if r.held {
		return api.ErrHeld
	}
	d.hold(r)
	return api.OK
}

// Resume lets it go on (P11).
func (d *Docket) Resume(id int) api.Errno {
	d.mutex.Lock()
	defer d.mutex.Unlock()
	r := d.find(id)
	if r == nil {
		return api.ErrNone
	}
	if !r.held {
		return api.ErrHeld
	}
	d.resume(r)
	return api.OK
}

// Case tells of a case (P12).
func (d *Docket) Case(id int) (api.State, api.Errno) {
	d.mutex.Lock()
	defer d.mutex.Unlock()
	r := d.find(id)
	if r == nil {
		return api.State{}, api.ErrNone
	}
	return r.state(), api.OK
}

// Agenda tells what comes (P12).
func (d *Docket) Agenda() []api.Entry {
	d.mutex.Lock()
	defer d.mutex.Unlock()
	var entries []api.Entry
	for _, r := range d.cases {
		if r.course == running {
			entries = append(entries, r.entry())
		}
	}
	slices.SortFunc(entries, inTurn)
	return entries
}

// Now tells the time, and how many events there were (P12).
func (d *Docket) Now() (int, int) {
	d.mutex.Lock()
	defer d.mutex.Unlock()
	return d.time, int(d.events.Load())
}

// inTurn is the order in which cases are told.
func inTurn(a, b api.Entry) int {
	return cmp.Or(cmp.Compare(a.Due, b.Due), cmp.Compare(a.Case, b.Case))
}

// index is where a case stands; below 0, if there is no such case.
func (d *Docket) index(id int) int {
	return slices.IndexFunc(d.cases, func(r record) bool { return r.number == id })
}

// find gives a case to be read and changed, until one comes or goes; or nil.
func (d *Docket) find(id int) *record {
	i := d.index(id)
	if i < 0 {
		return nil
	}
	return &d.cases[i]
}

// first gives the case that is told ahead of all others; nil, if nothing is due.
func (d *Docket) first() *record {
	var first *record
	for i := range d.cases {
		r := &d.cases[i]
		if r.course == running && (first == nil || inTurn(r.entry(), first.entry()) < 0) {
			first = r
		}
	}
	return first
}
