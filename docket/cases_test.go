package docket_test

import (
	"slices"
	"testing"

	"docket/api"
)

// P9: numbers count from 1 on, and none comes twice.
func TestOpenNumbers(t *testing.T) {
	d := newDocket(t, office, api.Stage{}, api.Stage{})
	wantOpened(t, d, 0, 1)
	wantOpened(t, d, 1, 2)
	wantClose(t, d, 2, api.OK)
	wantOpened(t, d, 0, 3)
	wantClose(t, d, 1, api.OK)
	wantClose(t, d, 3, api.OK)
	wantOpened(t, d, 1, 4)
	for id := 5; id < 3000; id++ {
		wantOpened(t, d, 0, id)
		wantClose(t, d, id, api.OK)
	}
	wantCase(t, d, 4, 1, 0, -1)
}

// P9: stages that are none open no case, and take no number.
func TestOpenOfNoStage(t *testing.T) {
	for stages := 1; stages <= api.MaxStages; stages++ {
		d := newDocket(t, office, make([]api.Stage, stages)...)
		before := pictureOf(d)
		for _, stage := range append([]int{stages, -stages, api.MaxStages, api.MaxStages + 1}, strangeNumbers...) {
			wantNotOpened(t, d, stage, api.ErrArg)
		}
		wantUnchanged(t, d, before)
		for stage := range stages {
			wantOpened(t, d, stage, stage+1)
		}
	}
}

// P9: so many cases at a time, and no more; the stage's error is named first.
func TestOpenUpToTheBound(t *testing.T) {
	d := newDocket(t, office, tells(60, 30))
	for id := 1; id <= api.MaxCases; id++ {
		wantOpened(t, d, 0, id)
	}
	before := pictureOf(d)
	for range 3 {
		wantNotOpened(t, d, 0, api.ErrFull)
		wantNotOpened(t, d, 1, api.ErrArg)
		wantNotOpened(t, d, -1, api.ErrArg)
	}
	wantUnchanged(t, d, before)
	for k := range 2 * api.MaxCases {
		wantClose(t, d, k+1, api.OK)
		wantOpened(t, d, 0, api.MaxCases+k+1)
		wantNotOpened(t, d, 0, api.ErrFull)
	}
}

// P9, P10: cases of which nothing comes any more are still cases.
func TestOpenBesideCasesThatAreDone(t *testing.T) {
	d := newDocket(t, always, tells(1))
	for id := 1; id <= api.MaxCases; id++ {
		wantOpened(t, d, 0, id)
	}
	d.Tick(5)
	wantNow(t, d, 5, api.MaxCases)
	wantAgenda(t, d)
	wantNotOpened(t, d, 0, api.ErrFull)
}

// P9: a case enters its stage at the docket's time.
func TestOpenEntersNow(t *testing.T) {
	d := newDocket(t, office, tells(60), api.Stage{}, tells(api.MaxSpan))
	wantOpened(t, d, 0, 1)
	wantCase(t, d, 1, 0, 0, 600)
	wantTick(t, d, 599)
	wantOpened(t, d, 0, 2)
	wantCase(t, d, 2, 0, 0, 659)
	wantOpened(t, d, 1, 3)
	wantCase(t, d, 3, 1, 0, -1)
	wantOpened(t, d, 2, 4)
	wantCase(t, d, 4, 2, 0, 92779)
	d.Tick(101)
	wantOpened(t, d, 0, 5)
	wantCase(t, d, 5, 0, 0, 820)
}

// P9: what comes just at the end of time is due, what comes behind it is not.
func TestOpenAtTheEndOfTime(t *testing.T) {
	d := newDocket(t, always, tells(10), tells(11), tells(1))
	wantTick(t, d, api.MaxTime-10)
	wantOpened(t, d, 0, 1)
	wantOpened(t, d, 1, 2)
	wantCase(t, d, 1, 0, 0, api.MaxTime)
	wantCase(t, d, 2, 1, 0, -1)
	wantTick(t, d, 10, api.Event{Number: 1, Time: api.MaxTime, Case: 1, Who: 10})
	wantOpened(t, d, 2, 3)
	wantCase(t, d, 3, 2, 0, -1)
}

// P9: a stage leads to those alone that its Next names.
func TestMoveByNext(t *testing.T) {
	nexts := [][]int{{1, 3}, {}, {2}, {5, 0, 5}, {0, 1, 2, 3, 4, 5}, nil}
	var stages []api.Stage
	for _, next := range nexts {
		stages = append(stages, follows(tells(60), next...))
	}
	d := newDocket(t, always, stages...)
	id := 0
	for from, next := range nexts {
		for to := -2; to < api.MaxStages+2; to++ {
			id++
			wantOpened(t, d, from, id)
			if slices.Contains(next, to) {
				wantMove(t, d, id, to, api.OK)
				wantCase(t, d, id, to, 0, 60)
			} else {
				wantMove(t, d, id, to, api.ErrMove)
				wantCase(t, d, id, from, 0, 60)
			}
			wantClose(t, d, id, api.OK)
		}
	}
}

// P9: a stage that is none comes behind none.
func TestMoveToNoStage(t *testing.T) {
	d := newDocket(t, always, follows(tells(60), 0, 1), follows(tells(60), 0, 1))
	wantOpened(t, d, 0, 1)
	before := pictureOf(d)
	for _, stage := range append([]int{2, api.MaxStages}, strangeNumbers...) {
		wantMove(t, d, 1, stage, api.ErrMove)
	}
	wantUnchanged(t, d, before)
}

// P9: a case begins anew with the stage it moves to, be it its own.
func TestMoveEntersNow(t *testing.T) {
	d := newDocket(t, always, follows(tells(10, 20), 0, 1, 2), follows(tells(7), 0), follows(api.Stage{}, 0))
	wantOpened(t, d, 0, 1)
	wantTick(t, d, 9)
	wantMove(t, d, 1, 0, api.OK)
	wantCase(t, d, 1, 0, 0, 19)
	wantTick(t, d, 11, api.Event{Number: 1, Time: 19, Case: 1, Who: 10})
	wantCase(t, d, 1, 0, 1, 39)
	wantMove(t, d, 1, 0, api.OK)
	wantCase(t, d, 1, 0, 0, 30)
	wantMove(t, d, 1, 1, api.OK)
	wantCase(t, d, 1, 1, 0, 27)
	wantMove(t, d, 1, 0, api.OK)
	wantMove(t, d, 1, 2, api.OK)
	wantCase(t, d, 1, 2, 0, -1)
	wantTick(t, d, 100)
	wantMove(t, d, 1, 0, api.OK)
	wantCase(t, d, 1, 0, 0, 130)
	wantTick(t, d, 100,
		api.Event{Number: 2, Time: 130, Case: 1, Who: 10},
		api.Event{Number: 3, Time: 150, Case: 1, Level: 1, Who: 11})
	wantMove(t, d, 1, 1, api.OK)
	wantCase(t, d, 1, 1, 0, 227)
}

// P9: a move leaves the other cases alone.
func TestMoveOfOneAmongOthers(t *testing.T) {
	d := newDocket(t, always, follows(tells(10), 1), tells(20))
	for id := 1; id <= 3; id++ {
		wantOpened(t, d, 0, id)
	}
	wantMove(t, d, 2, 1, api.OK)
	wantCase(t, d, 1, 0, 0, 10)
	wantCase(t, d, 2, 1, 0, 20)
	wantCase(t, d, 3, 0, 0, 10)
}

// P9, P12: cases that never were, and cases that are no more; told ahead of the stage.
func TestNoSuchCase(t *testing.T) {
	d := newDocket(t, always, follows(tells(10), 0))
	for id := 1; id <= 4; id++ {
		wantOpened(t, d, 0, id)
	}
	wantClose(t, d, 2, api.OK)
	wantClose(t, d, 4, api.OK)
	before := pictureOf(d)
	for _, id := range append([]int{0, 2, 4, 5, -3}, strangeNumbers...) {
		for _, stage := range []int{0, 1, -1, 9} {
			wantMove(t, d, id, stage, api.ErrNone)
		}
		wantClose(t, d, id, api.ErrNone)
		wantNoCase(t, d, id)
	}
	wantUnchanged(t, d, before)
	wantCase(t, d, 1, 0, 0, 10)
	wantCase(t, d, 3, 0, 0, 10)
}

// P9: of a case that is no more nothing is told; the others stay as they were.
func TestCloseOfOneAmongOthers(t *testing.T) {
	for gone := 1; gone <= 3; gone++ {
		d := newDocket(t, always, tells(10, 5), tells(20), tells(30))
		for id := 1; id <= 3; id++ {
			wantOpened(t, d, id-1, id)
		}
		wantClose(t, d, gone, api.OK)
		var entries []api.Entry
		for id := 1; id <= 3; id++ {
			if id == gone {
				wantNoCase(t, d, id)
				continue
			}
			wantCase(t, d, id, id-1, 0, 10*id)
			entries = append(entries, api.Entry{Case: id, Due: 10 * id})
		}
		wantAgenda(t, d, entries...)
		events, _ := d.Tick(100)
		for _, event := range events {
			if event.Case == gone {
				t.Errorf("case %d was told when it was no more: %v", gone, event)
			}
		}
	}
}

// P9: closing all leaves a docket that goes on.
func TestCloseAll(t *testing.T) {
	d := newDocket(t, always, tells(10))
	for id := 1; id <= api.MaxCases; id++ {
		wantOpened(t, d, 0, id)
	}
	for id := api.MaxCases; id >= 1; id-- {
		wantClose(t, d, id, api.OK)
	}
	wantAgenda(t, d)
	wantTick(t, d, 50)
	wantNow(t, d, 50, 0)
	wantOpened(t, d, 0, api.MaxCases+1)
	wantAgenda(t, d, api.Entry{Case: api.MaxCases + 1, Due: 60})
}

// P12: the agenda goes by time, of one time by number; cases with nothing due are not in it.
func TestAgendaOrder(t *testing.T) {
	d := newDocket(t, always, tells(30), tells(20), api.Stage{}, tells(10, 10))
	for id, stage := range []int{0, 2, 1, 3, 1, 0, 3} {
		wantOpened(t, d, stage, id+1)
	}
	wantAgenda(t, d,
		api.Entry{Case: 4, Due: 10}, api.Entry{Case: 7, Due: 10},
		api.Entry{Case: 3, Due: 20}, api.Entry{Case: 5, Due: 20},
		api.Entry{Case: 1, Due: 30}, api.Entry{Case: 6, Due: 30})
	d.Tick(10)
	wantAgenda(t, d,
		api.Entry{Case: 3, Due: 20}, api.Entry{Case: 4, Due: 20}, api.Entry{Case: 5, Due: 20}, api.Entry{Case: 7, Due: 20},
		api.Entry{Case: 1, Due: 30}, api.Entry{Case: 6, Due: 30})
	d.Tick(10)
	wantAgenda(t, d, api.Entry{Case: 1, Due: 30}, api.Entry{Case: 6, Due: 30})
	d.Tick(10)
	wantAgenda(t, d)
}

// P1: an agenda is the caller's, with its spare room.
func TestAgendaIsNew(t *testing.T) {
	d := newDocket(t, always, tells(30), tells(20))
	for id := 1; id <= 5; id++ {
		wantOpened(t, d, id%2, id)
	}
	before := pictureOf(d)
	first := d.Agenda()
	second := d.Agenda()
	room := first[:cap(first)]
	for i := range room {
		room[i] = api.Entry{Case: 77, Due: 77}
	}
	if slices.Contains(second[:cap(second)], api.Entry{Case: 77, Due: 77}) {
		t.Error("two agendas share memory")
	}
	wantUnchanged(t, d, before)
}

// P12: asking changes nothing.
func TestAskingChangesNothing(t *testing.T) {
	d := newDocket(t, office, documentStages()...)
	wantOpened(t, d, 0, 1)
	wantOpened(t, d, 1, 2)
	d.Tick(605)
	before := pictureOf(d)
	for range 5 {
		wantUnchanged(t, d, before)
	}
	wantNow(t, d, 605, 1)
}
