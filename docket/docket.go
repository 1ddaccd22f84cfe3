// Package docket: cases, and who is to be told when: see DOC.md.
package docket

import "docket/api"

// Check tells whether stages go together (P7).
func Check(stages []api.Stage) api.Errno { return api.OK }

// Docket is cases.
type Docket struct{}

// New makes a docket (P8).
func New(c *Calendar, stages []api.Stage) (*Docket, api.Errno) { return nil, api.OK }

// Open opens a case (P9).
func (d *Docket) Open(stage int) (int, api.Errno) { return 0, api.OK }

// Move moves a case to another stage (P9).
func (d *Docket) Move(id int, stage int) api.Errno { return api.OK }

// Close closes a case (P9).
func (d *Docket) Close(id int) api.Errno { return api.OK }

// Tick lets time go by (P10).
func (d *Docket) Tick(n int) ([]api.Event, api.Errno) { return nil, api.OK }

// Hold holds a case (P11).
func (d *Docket) Hold(id int) api.Errno { return api.OK }

// Resume lets it go on (P11).
func (d *Docket) Resume(id int) api.Errno { return api.OK }

// Case tells of a case (P12).
func (d *Docket) Case(id int) (api.State, api.Errno) { return api.State{}, api.OK }

// Agenda tells what comes (P12).
func (d *Docket) Agenda() []api.Entry { return nil }

// Now tells the time, and how many events there were (P12).
func (d *Docket) Now() (int, int) { return 0, 0 }
