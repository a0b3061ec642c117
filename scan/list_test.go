package scan

import (
	"math"
	"slices"
	"testing"
)

// P702: of any list, also of such as no Scan makes.
func TestFind(t *testing.T) {
	mapped := func(leb int) Block { return Block{State: Mapped, Leb: leb} }
	for _, x := range []struct {
		l         []Block
		leb, want int
	}{
		{nil, 0, -1},
		{[]Block{}, 0, -1},
		{[]Block{{}}, 0, -1},
		{[]Block{{State: Bad}, {State: Free}, {State: Spoilt}}, 0, -1},
		{[]Block{{State: Bad}, {State: Free}, {State: Spoilt}, mapped(0)}, 0, 3},
		{[]Block{{State: Bad, Leb: 3}, {State: Free, Leb: 3}, {State: Spoilt, Leb: 3}, {State: 5, Leb: 3}, {Leb: 3}, {State: -4, Leb: 3}}, 3, -1},
		{[]Block{mapped(0)}, 0, 0},
		{[]Block{mapped(0)}, 1, -1},
		{[]Block{mapped(2), mapped(1), mapped(0)}, 1, 1},
		{[]Block{mapped(2), mapped(1), mapped(1), mapped(1)}, 1, 1},
		{[]Block{mapped(2), {State: Mapped, Leb: 1, Seq: 1}, {State: Mapped, Leb: 1, Seq: 2}}, 1, 1},
		{[]Block{mapped(-1)}, -1, 0},
		{[]Block{mapped(-1)}, 1, -1},
		{[]Block{mapped(0), mapped(math.MaxInt)}, math.MaxInt, 1},
		{[]Block{mapped(0), mapped(math.MinInt)}, math.MinInt, 1},
		{[]Block{mapped(0)}, 1 << 32, -1},
		{append(slices.Repeat([]Block{mapped(1)}, 1000), mapped(0)), 0, 1000},
	} {
		was := slices.Clone(x.l)
		if got := Find(x.l, x.leb); got != x.want {
			t.Errorf("Find(%v, %d): %d, not %d", x.l, x.leb, got, x.want)
		}
		is(t, "the list is as it was", slices.Equal(x.l, was), true)
	}
}

// P702
func TestLeast(t *testing.T) {
	free := func(count int) Block { return Block{State: Free, Count: count} }
	for _, x := range []struct {
		l    []Block
		want int
	}{
		{nil, -1},
		{[]Block{}, -1},
		{[]Block{{}, {State: Bad}, {State: Spoilt}, {State: Mapped}, {State: 5}, {State: -2}}, -1},
		{[]Block{{}, {State: Bad}, {State: Spoilt}, {State: Mapped}, free(9)}, 4},
		{[]Block{free(0)}, 0},
		{[]Block{free(1), free(0)}, 1},
		{[]Block{free(0), free(1)}, 0},
		{[]Block{free(3), free(2), free(2), free(1), free(1), free(2)}, 3},
		{[]Block{free(2), free(2), free(2)}, 0},
		{[]Block{free(2), {State: Bad, Count: 1}, {State: Spoilt, Count: 1}, {State: Mapped, Count: 1}, free(2)}, 0},
		{[]Block{free(0), free(-1)}, 1},
		{[]Block{free(-1), free(0)}, 0},
		{[]Block{free(math.MaxInt)}, 0},
		{[]Block{free(math.MaxInt), free(math.MinInt)}, 1},
		{[]Block{free(math.MinInt), free(math.MaxInt)}, 0},
		{append(slices.Repeat([]Block{free(1)}, 1000), free(0)), 1000},
	} {
		was := slices.Clone(x.l)
		if got := Least(x.l); got != x.want {
			t.Errorf("Least(%v): %d, not %d", x.l, got, x.want)
		}
		is(t, "the list is as it was", slices.Equal(x.l, was), true)
	}
}

// P702
func TestGood(t *testing.T) {
	for _, x := range []struct {
		states []int
		want   int
	}{
		{nil, 0},
		{[]int{Bad}, 0},
		{[]int{Free}, 1},
		{[]int{Spoilt}, 1},
		{[]int{Mapped}, 1},
		{[]int{Bad, Free, Spoilt, Mapped}, 3},
		{[]int{Bad, Bad, Bad}, 0},
		{[]int{Free, Bad, Mapped, Bad, Spoilt}, 3},
		{[]int{0, -1, 5, math.MaxInt, math.MinInt, 1 + 1<<32}, 6},
		{slices.Repeat([]int{Free, Bad}, 1000), 1000},
	} {
		l := []Block{}
		for _, s := range x.states {
			l = append(l, Block{State: s, Count: 1, Leb: 1, Used: 1, Seq: 1, Closed: true})
		}
		was := slices.Clone(l)
		is(t, "Good", Good(l), x.want)
		is(t, "the list is as it was", slices.Equal(l, was), true)
	}
	is(t, "Good of no list", Good(nil), 0)
}
