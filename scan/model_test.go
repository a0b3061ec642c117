package scan

import (
	"math/rand"
	"testing"

	"pumice/header"
	"pumice/nand"
)

// drawn: a block as it was laid: what the chapter's words speak of, kept beside the chip.
type drawn struct {
	marked bool
	kinds  string // a letter for each page that was programmed: E a Count, M a Mapping, d others, x torn
	count  int    // of the first page, if it is E
	m      header.Map
}

// draw: a block by chance, likely one that matters.
func draw(r *rand.Rand) drawn {
	d := drawn{marked: r.Intn(10) == 0, count: r.Intn(20)}
	d.m = header.Map{Leb: r.Intn(4), Seq: uint64(r.Intn(4)), Pages: r.Intn(4)}
	if r.Intn(8) == 0 {
		d.m.Leb = smallLebs - 1 + r.Intn(2)
	}
	if r.Intn(8) == 0 {
		d.m.Pages = smallRoom - 1 + r.Intn(3)
	}
	sure := [2]string{"EEEEEEEEEEMdx", "MMMMMMMMMMEdx"}
	size := r.Intn(8)
	if r.Intn(4) == 0 {
		size = smallRoom + r.Intn(3)
	}
	for i := range size {
		letters := "dddddddddEMx"
		if i < 2 {
			letters = sure[i]
		}
		d.kinds += string(letters[r.Intn(len(letters))])
	}
	return d
}

// on: lays the block on a chip.
func (d drawn) on(t *testing.T, c *nand.Chip, n int) {
	t.Helper()
	for _, k := range d.kinds {
		p := map[rune]page{'E': counted(d.count), 'M': mapping(d.m.Leb, d.m.Seq, d.m.Pages), 'd': text(""), 'x': torn()}[k]
		lay(t, c, n, p)
	}
	if d.marked {
		c.Mark(n)
	}
}

func (d drawn) is(page int, kind byte) bool { return page < len(d.kinds) && d.kinds[page] == kind }

// used: pages behind the second, up to the first that is erased or torn.
func (d drawn) used() int {
	n := 0
	for n+2 < len(d.kinds) && d.kinds[n+2] != 'x' {
		n++
	}
	return n
}

// whole: a copy that counts, if no other one is newer.
func (d drawn) whole() bool {
	return !d.marked && d.is(0, 'E') && d.is(1, 'M') && d.m.Leb < smallLebs && d.m.Pages <= smallRoom && d.m.Pages <= d.used()
}

// beats: is the block n, as another whole copy, ahead of the block m?
func beats(all []drawn, n, m int) bool {
	a, b := all[n], all[m]
	return n != m && a.whole() && a.m.Leb == b.m.Leb && (a.m.Seq > b.m.Seq || a.m.Seq == b.m.Seq && n < m)
}

// mean: of all Counts that are told, without a sum's rest.
func mean(all []drawn) int {
	sum, told := 0, 0
	for _, d := range all {
		if d.is(0, 'E') && !d.marked {
			sum += d.count
			told++
		}
	}
	if told == 0 {
		return 0
	}
	return (sum - sum%told) / told
}

// expected: the block n by the chapter's words.
func expected(all []drawn, n int) Block {
	d := all[n]
	if d.marked {
		return Block{State: Bad}
	}
	b := Block{State: Spoilt, Count: mean(all)}
	if d.is(0, 'E') {
		b.Count = d.count
	}
	if d.kinds == "E" {
		b.State = Free
	}
	if !d.whole() {
		return b
	}
	for m := range all {
		if beats(all, m, n) {
			return b
		}
	}
	b.State, b.Leb, b.Seq, b.Used = Mapped, d.m.Leb, d.m.Seq, d.used()
	b.Closed = d.is(2+d.used(), 'x')
	return b
}

// P701 to P703: whatever stands on the chip, all blocks are as the chapter's words say.
func TestAgainstModel(t *testing.T) {
	states := map[int]int{}
	for seed := range int64(400) {
		r := rand.New(rand.NewSource(seed))
		c := made(t, small, nil)
		all := make([]drawn, small.Blocks)
		for n := range all {
			all[n] = draw(r)
			all[n].on(t, c, n)
		}
		lebs := map[int]int{}
		for n, b := range scanned(t, c) {
			states[b.State]++
			if want := expected(all, n); b != want {
				t.Fatalf("seed %d: block %d of %+v: %+v, not %+v", seed, n, all, b, want)
			}
			if b.State == Mapped {
				lebs[b.Leb]++
			}
		}
		for leb, times := range lebs {
			if times > 1 {
				t.Fatalf("seed %d: the Leb %d is Mapped %d times", seed, leb, times)
			}
		}
	}
	for _, s := range []int{Bad, Free, Spoilt, Mapped} {
		if states[s] < 100 {
			t.Errorf("only %d blocks have the state %d: the chance is badly laid", states[s], s)
		}
	}
}
