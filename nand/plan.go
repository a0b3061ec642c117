package nand

import (
	"cmp"
	"slices"

	"pumice/api"
)

// schedule: a plan's faults that are still to come, in order, and how many operations have gone by since it was laid.
type schedule struct {
	faults []api.Fault
	steps  int
}

// scheduled: a schedule of a plan; false, if the plan is not right.
func scheduled(plan []api.Fault) (schedule, bool) {
	// First of all, so that no long list is sorted.
	if len(plan) > api.MaxFaults {
		return schedule{}, false
	}
	faults := slices.SortedFunc(slices.Values(plan), func(a, b api.Fault) int { return cmp.Compare(a.At, b.At) })
	for i, f := range faults {
		if !possible(f) || i > 0 && faults[i-1].At == f.At {
			return schedule{}, false
		}
	}
	return schedule{faults: faults}, true
}

// possible: may a plan have this fault?
func possible(f api.Fault) bool {
	switch {
	case f.At < 1:
		return false
	case f.Kind == api.Cut:
		return within(f.Torn, int(none), int(whole))
	}
	return f.Kind == api.Fail && f.Torn == 0
}

// step: the fault of the operation that is begun; the zero one, if it has none.
func (s *schedule) step() api.Fault {
	s.steps++
	if len(s.faults) == 0 || s.faults[0].At != s.steps {
		return api.Fault{}
	}
	fault := s.faults[0]
	s.faults = s.faults[1:]
	return fault
}
