package audit

import (
	"math"
	"slices"
)

// search: for numbers that lead back to themselves, by Tarjan's way, since asking each one where it leads would take too long.
type search struct {
	leads map[int][]int
	turns map[int]int // when each was come to; of one that is done with: never
	open  []int       // those come to whose ring may go on yet
	rings numbers
}

const never = math.MaxInt

// ringsOf: the numbers that lead to themselves.
func ringsOf(leads map[int][]int) numbers {
	s := &search{leads: leads, turns: map[int]int{}, rings: numbers{}}
	for ino := range leads {
		if s.turns[ino] == 0 {
			s.visit(ino)
		}
	}
	return s.rings
}

// visit: the earliest turn of those that ino leads back to, or its own. It goes no deeper than there are inode numbers.
func (s *search) visit(ino int) int {
	turn, place := len(s.turns)+1, len(s.open)
	s.turns[ino] = turn
	s.open = append(s.open, ino)
	earliest := turn
	for _, next := range s.leads[ino] {
		back := s.turns[next]
		if back == 0 {
			back = s.visit(next)
		}
		earliest = min(earliest, back)
	}
	if earliest == turn {
		s.end(s.open[place:])
		s.open = s.open[:place]
	}
	return earliest
}

// end: these lead to each other, and to none that is open beside them. One alone is a ring only if it leads to itself.
func (s *search) end(l []int) {
	for _, ino := range l {
		s.turns[ino] = never
		if len(l) > 1 || slices.Contains(s.leads[ino], ino) {
			s.rings.add(ino)
		}
	}
}
