package docket

import "docket/api"

// course is what becomes of a case's next level.
type course int

const (
	nothing course = iota // there is none, or its time never comes
	running               // it is due at a time
	resting               // it has a rest, and waits for the case to go on
)

// record is a case.
type record struct {
	number int
	stage  int
	course course
	level  int  // the next one; 0, if the course is nothing
	due    int  // of a running one
	held   bool // if so, the course is not running: its time stands still
}

func (r *record) state() api.State {
	s := api.State{Stage: r.stage, Level: r.level, Due: -1, Held: r.held}
	if r.course == running {
		s.Due = r.due
	}
	return s
}

// entry is what an agenda tells of a running case.
func (r *record) entry() api.Entry {
	return api.Entry{Case: r.number, Due: r.due}
}

// enter lets a case begin with a stage.
func (d *Docket) enter(r *record, stage int) {
	r.stage = stage
	d.await(r, 0, d.time)
}

// await makes a level the next one of a case, its delay reckoned from a time.
func (d *Docket) await(r *record, level, from int) {
	r.course, r.level, r.due = nothing, 0, 0
	levels := d.stages[r.stage].levels
	if level >= len(levels) {
		return
	}
	due, e := d.calendar.Add(from, levels[level].Delay)
	if e != api.OK {
		return
	}
	r.course, r.level, r.due = running, level, due
}

// tell makes the event of a running case, and lets it go on to its next level.
// That counts from when it was due, which may be long ahead of the docket's time.
func (d *Docket) tell(r *record) api.Event {
	event := api.Event{
		Number: int(d.events.Add(1)),
		Time:   r.due,
		Case:   r.number,
		Stage:  r.stage,
		Level:  r.level,
		Who:    d.stages[r.stage].levels[r.level].Who,
	}
	d.await(r, r.level+1, r.due)
	return event
}
