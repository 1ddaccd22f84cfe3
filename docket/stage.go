package docket

import (
	"slices"

	"docket/api"
)

// stage is what a docket keeps of an api.Stage: nothing that its maker can still
// write into, and no more of a long list of stages than which it names.
type stage struct {
	levels []api.Level
	next   [api.MaxStages]bool
}

func copyStages(stages []api.Stage) []stage {
	copies := make([]stage, len(stages))
	for i, s := range stages {
		copies[i].levels = slices.Clone(s.Levels)
		for _, n := range s.Next {
			copies[i].next[n] = true
		}
	}
	return copies
}

func isStage(n, stages int) bool {
	return n >= 0 && n < stages
}

func checkStage(s api.Stage, stages int) bool {
	if len(s.Levels) > api.MaxLevels {
		return false
	}
	for _, l := range s.Levels {
		if !checkLevel(l) {
			return false
		}
	}
	for _, n := range s.Next {
		if !isStage(n, stages) {
			return false
		}
	}
	return true
}

func checkLevel(l api.Level) bool {
	return l.Delay >= 1 && l.Delay <= api.MaxSpan && l.Who >= 0 && l.Who <= api.MaxWho
}
