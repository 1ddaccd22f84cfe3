package docket

import (
	"testing"
	"time"

	"docket/api"
)

// calls are the calls of a docket, with what they answer well and with what they refuse.
var calls = map[string]func(d *Docket){
	"Open":   func(d *Docket) { d.Open(0); d.Open(-1) },
	"Move":   func(d *Docket) { d.Move(1, 0); d.Move(1, -1); d.Move(0, 0) },
	"Close":  func(d *Docket) { d.Close(1); d.Close(1) },
	"Tick":   func(d *Docket) { d.Tick(100); d.Tick(-1) },
	"Hold":   func(d *Docket) { d.Hold(1); d.Hold(1); d.Hold(0) },
	"Resume": func(d *Docket) { d.Resume(2); d.Resume(2); d.Resume(0) },
	"Case":   func(d *Docket) { d.Case(1); d.Case(0) },
	"Agenda": func(d *Docket) { d.Agenda() },
	"Now":    func(d *Docket) { d.Now() },
}

// P1: each call waits for the lock, so that no two go on at a time, and gives it back.
func TestEachCallLocks(t *testing.T) {
	for name, call := range calls {
		c, _, _ := Parse("Mo 09:00-17:00")
		d, _ := New(c, []api.Stage{{Levels: []api.Level{{Delay: 5}}, Next: []int{0}}})
		d.Open(0)
		d.Open(0)
		d.Hold(2)
		done := make(chan bool)
		d.mutex.Lock()
		go func() {
			call(d)
			close(done)
		}()
		select {
		case <-done:
			t.Errorf("%s did not wait for the lock", name)
		case <-time.After(20 * time.Millisecond):
		}
		d.mutex.Unlock()
		<-done
		if !d.mutex.TryLock() {
			t.Errorf("%s kept the lock", name)
		}
	}
}
