package docket

import "docket/api"

// course is what becomes of a case's next level.
type course int

const (
	nothing course = iota // there is none, or its time never comes
	running               // it is due at a time
	resting               // it has a rest, and waits for the case to go on
)

// record is a case.
type record struct {
	number int
	stage  int
	course course
	level  int  // the next one; 0, if the course is nothing
	due    int  // of a running one
	rest   int  // of a resting one: the business minutes that are still to go by
	held   bool // if so, the course is not running: its time stands still
}

func (r *record) state() api.State {
	s := api.State{Stage: r.stage, Level: r.level, Due: -1, Held: r.held}
	if r.course == running {
		s.Due = r.due
	}
	return s
}

// entry is what an agenda tells of a running case.
func (r *record) entry() api.Entry {
	return api.Entry{Case: r.number, Due: r.due}
}

// enter lets a case begin with a stage.
func (d *Docket) enter(r *record, stage int) {
	r.stage = stage
	d.await(r, 0, d.time)
}

// await makes a level the next one of a case, its delay reckoned from a time.
func (d *Docket) await(r *record, level, from int) {
	levels := d.stages[r.stage].levels
	if level >= len(levels) {
		r.stop()
		return
	}
	d.run(r, level, from, levels[level].Delay)
}

// run lets a level of a case be due when so many business minutes have gone by from a time on.
func (d *Docket) run(r *record, level, from, minutes int) {
	r.stop()
	due, e := d.calendar.Add(from, minutes)
	if e == api.OK {
		r.course, r.level, r.due = running, level, due
	}
}

// stop leaves a case with nothing to come.
func (r *record) stop() {
	r.course, r.level, r.due, r.rest = nothing, 0, 0, 0
}

// hold lets the time of a case stand still.
func (d *Docket) hold(r *record) {
	r.held = true
	if r.course != running {
		return
	}
	// There is no error: what was due up to now has been told, so this is due later.
	rest, _ := d.calendar.Between(d.time, r.due)
	r.course, r.due, r.rest = resting, 0, rest
}

// resume lets the time of a case go on from now, with what was left of it.
func (d *Docket) resume(r *record) {
	r.held = false
	if r.course == resting {
		d.run(r, r.level, d.time, r.rest)
	}
}

// tell makes the event of a running case, and lets it go on to its next level.
// That counts from when it was due, which may be long ahead of the docket's time.
func (d *Docket) tell(r *record) api.Event {
	event := api.Event{
		Number: int(d.events.Add(1)),
		Time:   r.due,
		Case:   r.number,
		Stage:  r.stage,
		Level:  r.level,
		Who:    d.stages[r.stage].levels[r.level].Who,
	}
	d.await(r, r.level+1, r.due)
	return event
}
