package wbuf

import (
	"fmt"
	"math/rand"
	"testing"

	"pumice/api"
	"pumice/ebm"
	"pumice/nand"
)

// script: sizes of payloads that are appended one behind the other; 0: a Sync. Ends on a page's last byte, ahead of it and behind it, frames over one page's end and over several.
func script() []int { return []int{1, 20, 0, 57, 10, 100, 0, 0, 58, 56, 2, 0, 200, 64, 0, 30} }

// deeds: a script that is done to a log, as far as all is well.
type deeds struct {
	l        *Log
	appended []Frame // the one that was interrupted too
	synced   int     // how many of them a Sync that was OK had ahead
	errno    api.Errno
}

// done: till something goes wrong.
func done(l *Log, steps []int) *deeds {
	d := &deeds{l: l, appended: l.Frames()}
	d.synced = len(d.appended)
	for i, size := range steps {
		if d.errno = d.step(size, i); d.errno != api.OK {
			return d
		}
	}
	return d
}

func (d *deeds) step(size, seed int) api.Errno {
	if size == 0 {
		errno := d.l.Sync()
		if errno == api.OK {
			d.synced = len(d.appended)
		}
		return errno
	}
	d.appended = append(d.appended, Frame{d.l.End(), sample(size, seed)})
	_, errno := d.l.Append(sample(size, seed))
	return errno
}

// kept: a log that was opened behind a cut tells the first of the frames, at least those that were synced.
func (d *deeds) kept(t *testing.T, what string, l *Log) {
	t.Helper()
	got := l.Frames()
	if len(got) < d.synced || len(got) > len(d.appended) {
		t.Errorf("%s: %d frames, of %d that were appended and %d that were synced", what, len(got), len(d.appended), d.synced)
		return
	}
	alike(t, what, got, d.appended[:len(got)])
}

// spoiltNot: what other logical blocks have is as it was.
func spoiltNot(t *testing.T, what string, m *ebm.Manager, leb int, want map[int]string) {
	t.Helper()
	for n := range m.Lebs() {
		if n != leb {
			is(t, fmt.Sprint(what, ": leb ", n), string(onChip(t, m, n)), want[n])
		}
	}
}

// begun: a manager with some logs, and what their logical blocks have.
func begun(t *testing.T, g api.Geometry) (*ebm.Manager, map[int]string) {
	t.Helper()
	m := formatted(t, g)
	for leb := range 6 {
		l := opened(t, m, leb)
		for range leb {
			put(t, l, 30+10*leb)
		}
		is(t, "Sync", l.Sync(), api.OK)
	}
	had := map[int]string{}
	for leb := range m.Lebs() {
		had[leb] = string(onChip(t, m, leb))
	}
	return m, had
}

// recovered: the chip is on again, attached, and the log opened: it has what it must have, and goes on.
func recovered(t *testing.T, what string, c *nand.Chip, d *deeds, had map[int]string) {
	t.Helper()
	is(t, what+": On", c.On(), false)
	c.Power()
	m := attached(t, c)
	l := opened(t, m, d.l.leb)
	d.kept(t, what, l)
	spoiltNot(t, what, m, d.l.leb, had)
	is(t, what+": Wrong", c.Wrong(), 0)
	goesOn(t, what, l)
	spoiltNot(t, what, m, d.l.leb, had)
}

// lost: a log within whose call the power went off is as it was, and says ENXIO where it needs the chip.
func lost(t *testing.T, what string, d *deeds) {
	t.Helper()
	l := d.l
	is(t, what, d.errno, api.ENXIO)
	was := len(l.Frames())
	if was != len(d.appended) && was != len(d.appended)-1 {
		t.Errorf("%s: %d frames of %d", what, was, len(d.appended))
	}
	alike(t, what, l.Frames(), d.appended[:was])
	end := l.End()
	is(t, what+": Append", appendTo(l, 500), api.ENXIO)
	is(t, what+": Broken", l.Broken(), false)
	is(t, what+": End", l.End(), end)
	is(t, what+": frames", len(l.Frames()), was)
	if len(l.kept()) > 0 {
		is(t, what+": Sync", l.Sync(), api.ENXIO)
	} else {
		is(t, what+": Sync", l.Sync(), api.OK)
	}
	is(t, what+": End", l.End(), end)
}

// TestCuts: the power goes off at each operation of Append and Sync, torn in each way, in a log that is new and in one that is begun.
func TestCuts(t *testing.T) {
	m, had := begun(t, small)
	for _, leb := range []int{3, 9} {
		twin := m.Chip().Clone()
		whole := done(opened(t, attached(t, twin), leb), script())
		is(t, "script", whole.errno, api.OK)
		ops := twin.Ops() - m.Chip().Ops()
		if ops < 12 {
			t.Fatalf("%d operations", ops)
		}
		for at := 1; at <= ops; at++ {
			for torn := range 3 {
				what := fmt.Sprint("leb ", leb, ", cut at ", at, " torn ", torn)
				c := m.Chip().Clone()
				l := opened(t, attached(t, c), leb)
				arm(t, c, api.Fault{At: at, Kind: api.Cut, Torn: torn})
				d := done(l, script())
				lost(t, what, d)
				recovered(t, what, c, d, had)
			}
		}
	}
}

// TestCutTells: what a cut leaves of a frame over three pages, of which Append writes the first two, Sync the third.
func TestCutTells(t *testing.T) {
	for _, c := range []struct {
		at, torn, frames, end int
		broken                bool
	}{
		{1, 0, 1, 64, false},
		{1, 1, 1, 64, true}, // closed
		{1, 2, 2, 75, true}, // the frame that was kept is whole, the next one is cut short
		{2, 0, 2, 75, true},
		{2, 1, 2, 75, true},
		{2, 2, 2, 75, true},
		{3, 0, 2, 75, true},
		{3, 1, 2, 75, true},
		{3, 2, 3, 256, false},
	} {
		l := fresh(t)
		put(t, l, 10)
		is(t, "Sync", l.Sync(), api.OK)
		is(t, "Append", put(t, l, 5), 64)
		arm(t, l.m.Chip(), api.Fault{At: c.at, Kind: api.Cut, Torn: c.torn})
		what := fmt.Sprint("cut at ", c.at, " torn ", c.torn)
		pos, errno := l.Append(sample(150, 0))
		if c.at < 3 {
			is(t, what+": Append", errno, api.ENXIO)
			is(t, what+": Append", pos, 0)
			is(t, what+": End", l.End(), 75)
			is(t, what+": frames", len(l.Frames()), 2)
		} else {
			is(t, what+": Append", errno, api.OK)
			is(t, what+": Append", pos, 75)
			is(t, what+": Sync", l.Sync(), api.ENXIO)
			is(t, what+": End", l.End(), 231)
			is(t, what+": frames", len(l.Frames()), 3)
		}
		l.m.Chip().Power()
		l = opened(t, attached(t, l.m.Chip()), 1)
		alike(t, what+", opened", l.Frames(), []Frame{{0, sample(10, 0)}, {64, sample(5, 0)}, {75, sample(150, 0)}}[:c.frames])
		is(t, what+", opened: End", l.End(), c.end)
		is(t, what+", opened: Broken", l.Broken(), c.broken)
	}
}

// TestCutsBehindFailures: a program fails, and the power goes off in what that made.
func TestCutsBehindFailures(t *testing.T) {
	m, had := begun(t, small)
	for fail := 1; fail <= 10; fail += 3 {
		for at := fail + 1; at <= fail+14; at++ {
			for torn := range 3 {
				what := fmt.Sprint("failing at ", fail, ", cut at ", at, " torn ", torn)
				c := m.Chip().Clone()
				l := opened(t, attached(t, c), 3)
				arm(t, c, api.Fault{At: fail, Kind: api.Fail}, api.Fault{At: at, Kind: api.Cut, Torn: torn})
				d := done(l, script())
				if d.errno == api.OK {
					continue // it was done ahead of the cut
				}
				is(t, what, d.errno, api.ENXIO)
				recovered(t, what, c, d, had)
			}
		}
	}
}

// TestTwoLogs: of one manager, one of them cut: the other has what it had, and what it kept is gone.
func TestTwoLogs(t *testing.T) {
	for at := 1; at <= 4; at++ {
		for torn := range 3 {
			what := fmt.Sprint("cut at ", at, " torn ", torn)
			m := formatted(t, small)
			a, b := opened(t, m, 4), opened(t, m, 5)
			put(t, a, 100)
			put(t, b, 110)
			is(t, "Sync", a.Sync(), api.OK)
			is(t, "Sync", b.Sync(), api.OK)
			put(t, b, 5)
			end, frames := b.End(), b.Frames()
			arm(t, m.Chip(), api.Fault{At: at, Kind: api.Cut, Torn: torn})
			d := done(a, []int{20, 0, 300})
			is(t, what, d.errno, api.ENXIO)
			is(t, what+": End of the other", b.End(), end)
			alike(t, what+": Frames of the other", b.Frames(), frames)
			is(t, what+": Sync of the other", b.Sync(), api.ENXIO)
			m.Chip().Power()
			m = attached(t, m.Chip())
			d.kept(t, what, opened(t, m, 4))
			alike(t, what+": the other, opened", opened(t, m, 5).Frames(), frames[:1])
			goesOn(t, what+": the other", opened(t, m, 5))
		}
	}
}

// TestNoOtherLog: what is done with one log changes nothing of others.
func TestNoOtherLog(t *testing.T) {
	m, had := begun(t, small)
	l := opened(t, m, 2)
	others := map[int]*Log{}
	for leb := range m.Lebs() {
		others[leb] = opened(t, m, leb)
	}
	for i, size := range append(script(), 1024, 2000, 0, 300, 0, 1024) {
		if size == 0 {
			l.Sync()
		} else {
			l.Append(sample(size, i))
		}
		l.Frames()
		l.Read(l.End())
		spoiltNot(t, fmt.Sprint("step ", i), m, 2, had)
	}
	for leb, o := range others {
		if leb != 2 {
			again := opened(t, m, leb)
			alike(t, "another", o.Frames(), again.Frames())
			is(t, "another: End", o.End(), again.End())
		}
	}
}

// TestModel: several logs of one manager, driven by chance, with faults, beside what they should have.
func TestModel(t *testing.T) {
	for _, g := range []api.Geometry{small, {Blocks: 16, Pages: 8, Page: 256, Reserve: 4}, {Blocks: 20, Pages: 16, Page: 128, Reserve: 5}, {Blocks: 16, Pages: 64, Page: 512, Reserve: 4}} {
		for seed := range 12 {
			p := &player{r: rand.New(rand.NewSource(int64(seed)))}
			p.open(t, formatted(t, g))
			for range 150 {
				p.play(t)
				if t.Failed() {
					t.Fatalf("%+v, seed %d", g, seed)
				}
			}
			is(t, "Wrong", p.m.Chip().Wrong(), 0)
		}
	}
}

// player: logs of one manager, and what they should have.
type player struct {
	r      *rand.Rand
	m      *ebm.Manager
	logs   [3]*Log
	models [3]*model
	synced [3]int // frames ahead of the last Sync that was OK
	word   int
}

// open: all logs anew.
func (p *player) open(t *testing.T, m *ebm.Manager) {
	t.Helper()
	p.m = m
	for n := range p.logs {
		l := opened(t, m, n+2)
		p.logs[n] = l
		old := p.models[n]
		p.models[n] = modelled(l)
		if old != nil {
			p.reconcile(t, n, old)
		}
	}
}

// reconcile: a log that was opened behind a cut, with what it had ahead of it.
func (p *player) reconcile(t *testing.T, n int, old *model) {
	t.Helper()
	data := onChip(t, p.m, n+2)
	frames, end, broken := told(data, p.m.Page())
	l, now := p.logs[n], p.models[n]
	if len(frames) < p.synced[n] || len(frames) > len(old.frames) {
		t.Errorf("log %d: %d frames, of %d with %d synced", n, len(frames), len(old.frames), p.synced[n])
		return
	}
	alike(t, "opened", frames, old.frames[:len(frames)])
	now.bytes, now.written, now.frames = data[:end], len(data), frames
	now.broken = broken || p.m.Closed(n+2)
	held(t, "opened", l, now)
	p.synced[n] = len(frames)
}

// play: one call, perhaps with a fault in it.
func (p *player) play(t *testing.T) {
	t.Helper()
	n := p.r.Intn(len(p.logs))
	l, m := p.logs[n], p.models[n]
	switch p.r.Intn(25) {
	case 0, 1:
		arm(t, p.m.Chip(), api.Fault{At: 1 + p.r.Intn(3), Kind: api.Cut, Torn: p.r.Intn(3)})
	case 2:
		arm(t, p.m.Chip(), api.Fault{At: 1 + p.r.Intn(3), Kind: api.Fail})
	}
	spent := p.m.Spent()
	switch k := p.r.Intn(20); {
	case k == 0 && !spent:
		p.drop(t, n)
	case k < 5:
		p.sync(t, n, l, m, spent)
	default:
		p.append(t, n, l, m, spent)
	}
	arm(t, p.m.Chip())
}

// drop: the log begins anew.
func (p *player) drop(t *testing.T, n int) {
	t.Helper()
	arm(t, p.m.Chip())
	is(t, "Unmap", p.m.Unmap(n+2), api.OK)
	p.logs[n] = opened(t, p.m, n+2)
	p.models[n] = modelled(p.logs[n])
	p.synced[n] = 0
}

func (p *player) sync(t *testing.T, n int, l *Log, m *model, spent bool) {
	t.Helper()
	kept := m.written < len(m.bytes)
	switch errno := l.Sync(); {
	case spent && kept:
		is(t, "Sync", errno, api.EROFS)
	case errno == api.ENXIO && kept:
		p.recover(t)
	case errno == api.EROFS && kept:
		is(t, "Sync: Spent", p.m.Spent(), true)
	default:
		is(t, "Sync", errno, api.OK)
		m.sync()
		p.synced[n] = len(m.frames)
		held(t, "Sync", l, m)
	}
}

func (p *player) append(t *testing.T, n int, l *Log, m *model, spent bool) {
	t.Helper()
	p.word++
	payload := sample(1+p.r.Intn(1+p.r.Intn(300)), p.word)
	pos, errno := l.Append(payload)
	switch {
	case spent:
		is(t, "Append", errno, api.EROFS)
	case !m.fits(len(payload)):
		is(t, "Append", errno, api.ENOSPC)
	case errno == api.ENXIO:
		m.append(payload) // it may be there, or not
		p.recover(t)
		return
	case errno == api.EROFS:
		is(t, "Append: Spent", p.m.Spent(), true)
	default:
		is(t, "Append", errno, api.OK)
		is(t, "Append", pos, len(m.bytes))
		m.append(payload)
	}
	held(t, "Append", l, m)
}

// recover: behind a cut.
func (p *player) recover(t *testing.T) {
	t.Helper()
	c := p.m.Chip()
	is(t, "On", c.On(), false)
	c.Power()
	arm(t, c)
	p.open(t, attached(t, c))
}
