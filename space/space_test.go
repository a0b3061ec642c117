package space

import (
	"fmt"
	"math"
	"strings"
	"testing"

	"pumice/api"
	"pumice/nand"
	"pumice/node"
)

func is[T comparable](t *testing.T, what string, got, want T) {
	t.Helper()
	if got != want {
		t.Errorf("%s: %v, not %v", what, got, want)
	}
}

// tells: what the four functions answer of a geometry.
func tells(t *testing.T, g api.Geometry, lebs, bytes, limit, most int) {
	t.Helper()
	is(t, fmt.Sprintf("Lebs of %+v", g), Lebs(g), lebs)
	is(t, fmt.Sprintf("Bytes of %+v", g), Bytes(g), bytes)
	is(t, fmt.Sprintf("Limit of %+v", g), Limit(g), limit)
	is(t, fmt.Sprintf("Most of %+v", g), Most(g), most)
}

// F16.1

// TestGeometries: numbers that were reckoned by hand.
func TestGeometries(t *testing.T) {
	for _, c := range []struct {
		g                        api.Geometry
		lebs, bytes, limit, most int
	}{
		// The chapter's, and the same with one block more or less for nodes: L - 5 is odd, then even.
		{api.Geometry{Blocks: 16, Pages: 16, Page: 128, Reserve: 2}, 12, 1792, 3 * 896, 2048},
		{api.Geometry{Blocks: 16, Pages: 16, Page: 128, Reserve: 3}, 11, 1792, 3 * 896, 2048},
		{api.Geometry{Blocks: 16, Pages: 16, Page: 128, Reserve: 4}, 10, 1792, 2 * 896, 2048},
		{api.Geometry{Blocks: 16, Pages: 16, Page: 128, Reserve: 1}, 13, 1792, 4 * 896, 2048},
		{api.Geometry{Blocks: 16, Pages: 16, Page: 128, Reserve: 0}, 14, 1792, 4 * 896, 2048},
		{api.Geometry{Blocks: 17, Pages: 16, Page: 128, Reserve: 0}, 15, 1792, 5 * 896, 2176},
		// The least: fewest logical blocks, fewest bytes of one.
		{api.Geometry{Blocks: 16, Pages: 8, Page: 256, Reserve: 4}, 10, 1536, 2 * 768, 1024},
		{api.Geometry{Blocks: 16, Pages: 8, Page: 256, Reserve: 0}, 14, 1536, 4 * 768, 1024},
		{api.Geometry{Blocks: 16, Pages: 32, Page: 64, Reserve: 4}, 10, 1920, 2 * 960, 4096},
		{api.Geometry{Blocks: 16, Pages: 8, Page: 512, Reserve: 4}, 10, 3072, 2 * 1536, 1024},
		// The greatest.
		{api.Geometry{Blocks: 256, Pages: 64, Page: 512, Reserve: 0}, 254, 31744, 124 * 15872, 131072},
		{api.Geometry{Blocks: 256, Pages: 64, Page: 512, Reserve: 64}, 190, 31744, 92 * 15872, 131072},
		{api.Geometry{Blocks: 255, Pages: 64, Page: 512, Reserve: 63}, 190, 31744, 92 * 15872, 130560},
		{api.Geometry{Blocks: 256, Pages: 64, Page: 64, Reserve: 0}, 254, 3968, 124 * 1984, 131072},
	} {
		tells(t, c.g, c.lebs, c.bytes, c.limit, c.most)
	}
}

// rightGeometries: all that there are.
func rightGeometries() []api.Geometry {
	var l []api.Geometry
	for blocks := 16; blocks <= 256; blocks++ {
		for pages := 8; pages <= 64; pages *= 2 {
			for page := 64; page <= 512; page *= 2 {
				for reserve := 0; reserve <= blocks/4; reserve++ {
					if g := (api.Geometry{Blocks: blocks, Pages: pages, Page: page, Reserve: reserve}); nand.Right(g) {
						l = append(l, g)
					}
				}
			}
		}
	}
	return l
}

// TestAllGeometries: the chapter's words on each. The bytes of a logical block are always even: Page is.
func TestAllGeometries(t *testing.T) {
	all := rightGeometries()
	if len(all) < 50000 {
		t.Errorf("only %d right geometries", len(all))
	}
	for _, g := range all {
		lebs := g.Blocks - g.Reserve - 2
		bytes := (g.Pages - 2) * g.Page
		is(t, "odd bytes", bytes%2, 0)
		pairs := 0
		for 2*(pairs+1) <= lebs-5 {
			pairs++
		}
		tells(t, g, lebs, bytes, pairs*bytes/2, g.Blocks*g.Pages*8)
	}
}

func TestWrongGeometries(t *testing.T) {
	right := api.Geometry{Blocks: 16, Pages: 16, Page: 128, Reserve: 2}
	with := func(change func(*api.Geometry, int), numbers ...int) []api.Geometry {
		var l []api.Geometry
		for _, n := range append(numbers, -1, -16, math.MinInt, math.MinInt+1, math.MaxInt, math.MaxInt-1, 1<<32+16, 1<<62) {
			g := right
			change(&g, n)
			l = append(l, g)
		}
		return l
	}
	wrong := []api.Geometry{{}, {Blocks: 16, Pages: 8, Page: 64}, {Blocks: 16, Pages: 8, Page: 128}, {Blocks: 16, Pages: 16, Page: 64}}
	wrong = append(wrong, with(func(g *api.Geometry, n int) { g.Blocks = n }, 0, 1, 7, 15, 257, 512)...)
	wrong = append(wrong, with(func(g *api.Geometry, n int) { g.Pages = n }, 0, 1, 2, 4, 7, 9, 15, 17, 24, 48, 63, 65, 128)...)
	wrong = append(wrong, with(func(g *api.Geometry, n int) { g.Page = n }, 0, 1, 32, 63, 65, 96, 127, 129, 511, 513, 1024)...)
	wrong = append(wrong, with(func(g *api.Geometry, n int) { g.Reserve = n }, 5, 6, 14, 16)...)
	for _, n := range []int{math.MinInt, -1, 0, 1, math.MaxInt} {
		wrong = append(wrong, api.Geometry{Blocks: n, Pages: n, Page: n, Reserve: n})
	}
	for _, g := range wrong {
		tells(t, g, 0, 0, 0, 0)
	}
}

// P1601

// TestLeast: the longest name and a whole block, on every chip.
func TestLeast(t *testing.T) {
	name := strings.Repeat("n", api.MaxName)
	dir := api.Inode{Ino: 1, Kind: api.Dir, Mode: 493, Links: 2}
	file := api.Inode{Ino: 2, Kind: api.File, Mode: 420, Links: 1, Size: api.Unit}
	l := []api.Node{
		must(t)(node.Inode(dir)), must(t)(node.Entry(1, api.Entry{Name: name, Ino: 2, Kind: api.File})),
		must(t)(node.Inode(file)), must(t)(node.Block(2, 0, make([]byte, api.Unit))),
	}
	is(t, "what it costs", Nodes(l), 2*Inode()+Entry(name)+File(api.Unit))
	for _, g := range rightGeometries() {
		is(t, fmt.Sprintf("Room on %+v", g), Room(nil, l, Limit(g)), api.OK)
	}
}

// must: a node that can be made.
func must(t *testing.T) func(api.Node, api.Errno) api.Node {
	return func(n api.Node, errno api.Errno) api.Node {
		t.Helper()
		is(t, "a node's errno", errno, api.OK)
		return n
	}
}
