package impl

const MaxLabels = 16

const maxEdges = 100

type Lat struct {
	N  int
	Up []uint64
}

type Edge struct {
	Lo int
	Hi int
}

func LatOf(n int, edges []Edge) (Lat, bool) {
	if n < 1 || n > MaxLabels || len(edges) > maxEdges {
		return Lat{}, false
	}
	up := make([]uint64, n)
	for a := range n {
		up[a] = labelBit(a)
	}
	for i := range len(edges) {
		e := edges[i]
		if !isLabel(n, e.Lo) || !isLabel(n, e.Hi) {
			return Lat{}, false
		}
		up[e.Lo] |= labelBit(e.Hi)
	}
	closeRows(up)
	l := Lat{N: n, Up: up}
	if !LatOk(l) {
		return Lat{}, false
	}
	return l, true
}

func LatOk(l Lat) bool {
	if !rowsFit(l) || !rowsOrdered(l.Up) {
		return false
	}
	return rowsBounded(l.Up) && rowsBounded(flipRows(l.Up))
}

func LatLe(l Lat, a int, b int) bool {
	return LatOk(l) && isLabel(l.N, a) && isLabel(l.N, b) && hasLabel(l.Up[a], b)
}

func LatJoin(l Lat, a int, b int) int {
	if !LatOk(l) || !isLabel(l.N, a) || !isLabel(l.N, b) {
		return -1
	}
	return leastIn(l.Up, l.Up[a]&l.Up[b])
}

func LatMeet(l Lat, a int, b int) int {
	if !LatOk(l) || !isLabel(l.N, a) || !isLabel(l.N, b) {
		return -1
	}
	down := flipRows(l.Up)
	return leastIn(down, down[a]&down[b])
}

func LatEnds(l Lat) (int, int) {
	if !LatOk(l) {
		return -1, -1
	}
	all := allLabels(l.N)
	return leastIn(l.Up, all), leastIn(flipRows(l.Up), all)
}

func LatDown(l Lat, c int) []int {
	if !LatOk(l) || !isLabel(l.N, c) {
		return nil
	}
	var list []int
	for a := range l.N {
		if hasLabel(l.Up[a], c) {
			list = append(list, a)
		}
	}
	return list
}

func LatJoinAll(l Lat, list []int) int {
	if !LatOk(l) {
		return -1
	}
	// The join of no labels is the bottom, so the bottom is where every join starts.
	join := leastIn(l.Up, allLabels(l.N))
	for _, a := range list {
		if !isLabel(l.N, a) {
			return -1
		}
		join = leastIn(l.Up, l.Up[join]&l.Up[a])
	}
	return join
}

func LatEdges(l Lat) []Edge {
	if !LatOk(l) {
		return nil
	}
	down := flipRows(l.Up)
	var edges []Edge
	for a := range l.N {
		for b := range l.N {
			// The labels from a to b are only these two if nothing lies between them.
			if a != b && l.Up[a]&down[b] == labelBit(a)|labelBit(b) {
				edges = append(edges, Edge{Lo: a, Hi: b})
			}
		}
	}
	return edges
}

func isLabel(n int, a int) bool { return a >= 0 && a < n }

func labelBit(a int) uint64 { return uint64(1) << uint(a) }

func hasLabel(row uint64, a int) bool { return row>>uint(a)&1 == 1 }

func allLabels(n int) uint64 { return labelBit(n) - 1 }

// closeRows makes the relation transitive: each label in turn becomes a step of the paths through it.
func closeRows(rows []uint64) {
	for step := range len(rows) {
		for a := range len(rows) {
			if hasLabel(rows[a], step) {
				rows[a] |= rows[step]
			}
		}
	}
}

// flipRows returns the rows of the reverse relation, in which joins are meets.
func flipRows(rows []uint64) []uint64 {
	flip := make([]uint64, len(rows))
	for a := range len(rows) {
		for b := range len(rows) {
			if hasLabel(rows[a], b) {
				flip[b] |= labelBit(a)
			}
		}
	}
	return flip
}

func rowsFit(l Lat) bool {
	if l.N < 1 || l.N > MaxLabels || len(l.Up) != l.N {
		return false
	}
	for _, row := range l.Up {
		if row&^allLabels(l.N) != 0 {
			return false
		}
	}
	return true
}

func rowsOrdered(rows []uint64) bool {
	for a := range len(rows) {
		if !hasLabel(rows[a], a) {
			return false
		}
		for b := range len(rows) {
			if a == b || !hasLabel(rows[a], b) {
				continue
			}
			// If row b lies within row a, everything above b is above a, so no third label has to be tried.
			if hasLabel(rows[b], a) || rows[b]&^rows[a] != 0 {
				return false
			}
		}
	}
	return true
}

func rowsBounded(rows []uint64) bool {
	for a := range len(rows) {
		for b := range a {
			if leastIn(rows, rows[a]&rows[b]) < 0 {
				return false
			}
		}
	}
	return true
}

// leastIn returns the label of set whose row holds all of set, or -1. An order has at most one,
// so the first one found is the answer.
func leastIn(rows []uint64, set uint64) int {
	for a := range len(rows) {
		if hasLabel(set, a) && set&^rows[a] == 0 {
			return a
		}
	}
	return -1
}
