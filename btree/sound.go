package btree

// Sound: are these the Shapes of a tree of that fan?
func Sound(l []Shape, fan int) bool {
	if !rightFan(fan) || !filled(l, fan) || !risen(l) {
		return false
	}
	rows, ok := parted(l)
	return ok && levelled(rows) && led(rows)
}

// filled: has each node as many keys as it may have? The first one is the root.
func filled(l []Shape, fan int) bool {
	for i, s := range l {
		least := fan / 2
		switch {
		case i == 0 && s.Level == 0:
			least = 0
		case i == 0:
			least = 2
		}
		if len(s.Keys) < least || len(s.Keys) > fan {
			return false
		}
	}
	return true
}

// parted: the nodes of each level, the root's first: as many on each as there are keys on the one above; false, if that does not come out even at the leaves.
func parted(l []Shape) ([][]Shape, bool) {
	var rows [][]Shape
	for width := 1; width <= len(l); {
		row := l[:width]
		rows = append(rows, row)
		l = l[width:]
		if row[0].Level == 0 {
			return rows, len(l) == 0
		}
		// An inner node that is filled has keys: so this comes to an end.
		width = count(row)
	}
	return nil, false
}

// count: how many keys a level has.
func count(row []Shape) int {
	sum := 0
	for _, s := range row {
		sum += len(s.Keys)
	}
	return sum
}

// levelled: do the levels fall by one, to 0?
func levelled(rows [][]Shape) bool {
	for i, row := range rows {
		for _, s := range row {
			if s.Level != len(rows)-1-i {
				return false
			}
		}
	}
	return true
}

// risen: do keys that may be rise within each node?
func risen(l []Shape) bool {
	for _, s := range l {
		last := ""
		for _, key := range s.Keys {
			if !rightKey(key) || key <= last {
				return false
			}
			last = key
		}
	}
	return true
}

// led: do the keys of inner nodes lead to the leaves under their kids, and is a node dirty above each that is? (Leaves rise all through then: a key stands between each two of them.)
func led(rows [][]Shape) bool {
	leaves := rows[len(rows)-1]
	first := make([]int, len(leaves)) // the number of the first leaf under each node of the level below
	for i := range first {
		first[i] = i
	}
	for i := len(rows) - 2; i >= 0; i-- {
		var above []int
		kid := 0
		for _, s := range rows[i] {
			above = append(above, first[kid])
			for _, key := range s.Keys {
				if !leads(key, leaves, first[kid]) || rows[i+1][kid].Dirty && !s.Dirty {
					return false
				}
				kid++
			}
		}
		first = above
	}
	return true
}

// leads: does a key part the leaf with that number, and those behind it, from the one ahead?
func leads(key string, leaves []Shape, leaf int) bool {
	if key > leaves[leaf].Keys[0] {
		return false
	}
	if leaf == 0 {
		return true
	}
	ahead := leaves[leaf-1].Keys
	return key > ahead[len(ahead)-1]
}
