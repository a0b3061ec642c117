package cache

import (
	"fmt"
	"math/rand"
	"strings"
	"testing"

	"pumice/api"
)

// script: groups that bring a small chip to its limit again and again.
func script(size int) [][]api.Node {
	r := rand.New(rand.NewSource(7))
	var l [][]api.Node
	for n := range size {
		g := group(put(text(5, r.Intn(14)), text(50+r.Intn(207), n)))
		if n%3 == 1 {
			g = append(g, gone(text(6, r.Intn(14))), put(text(7, r.Intn(5)), text(r.Intn(40), n)))
		}
		if n%7 == 6 {
			g = group(gone(text(5, r.Intn(14))), gone(text(7, r.Intn(5))))
		}
		l = append(l, g)
	}
	return l
}

// steps: what is done behind the group n of a script, in some ways.
func steps(t *testing.T, x *Cache, way, n int) {
	t.Helper()
	s := x.Store()
	switch {
	case way == 1:
		x.Flush()
	case way == 2:
		is(t, "Sync", x.Sync(), api.OK)
	case way == 3 && n%10 == 9:
		for more := true; more; {
			more, _ = x.Flush()
		}
	case way == 4:
		x.Evict(0)
		x.Flush()
		s.Collect()
	case way == 5 && n%4 == 0:
		x.Flush()
		x.Flush()
		s.Commit()
		s.Wear()
		x.Evict(n % 5)
	}
}

// answers: of a script's groups, and of looks behind each of them.
func answers(t *testing.T, way int) []string {
	t.Helper()
	x := empty(t)
	var l []string
	for n, g := range script(150) {
		l = append(l, fmt.Sprint("Put ", n, ": ", int(x.Put(g)), ", Cost ", x.Cost()))
		steps(t, x, way, n)
		for k := range 4 {
			l = append(l, fmt.Sprint("Get: ", got(x, text(5+k%3, n*k%14))))
		}
		from := text(5+n%3, n%14)
		nodes := ranged(t, "Range", x, from, "", n%9)
		l = append(l, fmt.Sprint("Range: ", nodes), fmt.Sprint("Range: ", ranged(t, "Range", x, "", from, 3)))
	}
	return append(l, fmt.Sprint(whole(t, "at the end", x)))
}

// TestSteps: P1905: the same answers, whatever steps are made.
func TestSteps(t *testing.T) {
	want := answers(t, 0)
	fulls := 0
	for _, line := range want {
		if strings.HasPrefix(line, "Put") && strings.Contains(line, fmt.Sprint(": ", int(api.ENOSPC), ",")) {
			fulls++
		}
	}
	if fulls < 20 {
		t.Errorf("only %d Puts without room", fulls)
	}
	for way := 1; way <= 5; way++ {
		for i, line := range answers(t, way) {
			if line != want[i] {
				t.Fatalf("steps %d: %.300s, not %.300s", way, line, want[i])
			}
		}
	}
}

// TestCuts: P1906: each operation of a script is cut, in each way: the map is what it was behind some group, none that was synced missing, none of those that waited there.
func TestCuts(t *testing.T) {
	cut := 0
	for _, g := range []api.Geometry{small, least} {
		for at := 1; cutAt(t, g, at); at++ {
			cut++
		}
	}
	if cut < 120 {
		t.Errorf("only %d operations", cut)
	}
}

func cutAt(t *testing.T, g api.Geometry, at int) bool {
	t.Helper()
	for torn := range 3 {
		what := fmt.Sprint(g, " cut at ", at, ", torn ", torn)
		c := chip(t, g)
		p := &player{r: rand.New(rand.NewSource(1)), c: c, x: formatted(t, c), maps: []model{{}}}
		arm(t, c, api.Fault{At: at, Kind: api.Cut, Torn: torn})
		if !p.scripted(t, what) {
			return false
		}
		p.recover(t, what)
		p.now().held(t, what, p.x)
		p.scripted(t, what+", behind it")
		is(t, what+": Sync", p.x.Sync(), api.OK)
		p.now().held(t, what+", mounted", mounted(t, c))
		if t.Failed() {
			t.FailNow()
		}
	}
	return true
}

// scripted: groups, some of which wait, are flushed, or are synced; did the power go off?
func (p *player) scripted(t *testing.T, what string) bool {
	t.Helper()
	for n, g := range script(90) {
		want := p.now().answer(g, p.x.Limit())
		is(t, what, p.x.Put(g), want)
		if want == api.OK {
			p.maps = append(p.maps, p.now().with(g))
		}
		errno := api.OK
		switch {
		case n%11 == 10:
			errno = p.sync(t, what)
		case n%13 > 3:
			errno = p.flush(t, what)
		}
		if errno == api.ENXIO {
			return true
		}
	}
	return false
}

// TestAlwaysRoom: P1907: a chip is full, and its nodes change places in groups that wait, many at a time.
func TestAlwaysRoom(t *testing.T) {
	for _, g := range []api.Geometry{small, least, bare, middle} {
		x := formatted(t, chip(t, g))
		m := model{}
		size := api.MaxValue
		for n := 0; size >= 0; n++ {
			l := group(put(text(8, n), text(size, n)))
			if m.answer(l, x.Limit()) == api.OK {
				puts(t, x, l)
				m = m.with(l)
			} else {
				is(t, "Put beyond the limit", x.Put(l), api.ENOSPC)
				size -= 7
			}
		}
		is(t, "nearly full", x.Limit()-x.Cost() < 100, true)
		for round := range 30 {
			for key := range m {
				value := m[key]
				l := group(gone(key), put(key+"'", value[:max(len(value)-2, 0)]))
				if len(key) > 8 {
					l = group(gone(key), put(key[:8], value))
				}
				puts(t, x, l)
				m = m.with(l)
			}
			is(t, "they wait", x.Waiting() >= len(m), true)
			if round%2 == 0 {
				flushes(t, x, x.Waiting()/2)
			} else {
				is(t, "Sync", x.Sync(), api.OK)
			}
			m.held(t, fmt.Sprint(g, ", round ", round), x)
			if t.Failed() {
				t.FailNow()
			}
		}
	}
}

// TestManyWaiting: what thousands of groups that wait do together is known without going through them.
func TestManyWaiting(t *testing.T) {
	x := formatted(t, chip(t, great))
	const keys = 4000
	for n := range 3 * keys {
		puts(t, x, group(put(fmt.Sprintf("%05d", n*7919%keys), text(n%20, n))))
		if n%10 == 0 {
			x.Get(fmt.Sprintf("%05d", n%keys))
			from := fmt.Sprintf("%05d", n*31%keys)
			is(t, "Range", len(ranged(t, "Range", x, from, from+"x", 9)) <= 1, true)
		}
	}
	is(t, "Waiting", x.Waiting(), 3*keys)
	is(t, "Range", len(ranged(t, "Range", x, "", "", everything)), keys)
	flushes(t, x, 500)
	counts := map[int]int{}
	for _, c := range x.changes {
		counts[c.groups]++
	}
	is(t, "groups for each key", fmt.Sprint(counts), fmt.Sprint(map[int]int{2: 500, 3: keys - 500}))
	sound(t, "many waiting", x)
}
