package tests

import (
	"fmt"
	"math"
	"math/big"
	"slices"
	"testing"

	"loop.example/g01056/impl"
)

// curve is all that chapter 8 tells of one plane polynomial, but for single places.
type curve struct {
	vertices []impl.Spot
	// ends has one list for each vertex.
	ends     [][][]int
	segments [][]int
	lengths  []impl.Frac
	rays     [][]int
	loops    int
	text     string
}

// spot returns the point x/xd, y/yd, valid or not.
func spot(x int, xd int, y int, yd int) impl.Spot {
	return impl.Spot{X: frac(x, xd), Y: frac(y, yd)}
}

// spots returns points with whole coordinates, two numbers each.
func spots(numbers ...int) []impl.Spot {
	var l []impl.Spot
	for n := 0; n < len(numbers); n += 2 {
		l = append(l, spot(numbers[n], 1, numbers[n+1], 1))
	}
	return l
}

// rows returns lists of so many numbers each.
func rows(width int, numbers ...int) [][]int {
	return slices.Collect(slices.Chunk(numbers, width))
}

// spotOfRats returns a point if both coordinates are fractions.
func spotOfRats(x *big.Rat, y *big.Rat) (impl.Spot, bool) {
	ofX, isX := fracOfRat(x)
	ofY, isY := fracOfRat(y)
	return impl.Spot{X: ofX, Y: ofY}, isX && isY
}

// timesRat returns so many times a fraction, of any size.
func timesRat(times int, f *big.Rat) *big.Rat {
	return new(big.Rat).Mul(big.NewRat(int64(times), 1), f)
}

// spotBehind returns the point to which one comes from another one by so many times a direction.
func spotBehind(from impl.Spot, times *big.Rat, dx int, dy int) impl.Spot {
	x := new(big.Rat).Add(ratOf(from.X), timesRat(dx, times))
	y := new(big.Rat).Add(ratOf(from.Y), timesRat(dy, times))
	s, ok := spotOfRats(x, y)
	if !ok {
		panic(fmt.Sprint("is no spot: ", x, y))
	}
	return s
}

// vertexByValues returns the place where three terms of a cell, whose points are not on a line, have equal values.
func vertexByValues(l []impl.Term, cell []int) impl.Spot {
	for _, a := range cell {
		for _, b := range cell {
			for _, c := range cell {
				if x, y, d := placeWhereEqual(l[a], l[b], l[c]); d != 0 {
					s, _ := spotOfRats(big.NewRat(int64(x), int64(d)), big.NewRat(int64(y), int64(d)))
					return s
				}
			}
		}
	}
	panic("is no cell")
}

// directionByValues looks for the direction of the end of a side among all short ones.
func directionByValues(l []impl.Term, cell []int, i int, k int) (int, int) {
	for dx := -mostTotal; dx <= mostTotal; dx++ {
		for dy := -mostTotal; dy <= mostTotal; dy++ {
			rise := func(term int) int { return dx*(l[term].I-l[i].I) + dy*(l[term].J-l[i].J) }
			becomesLess := func(term int) bool { return rise(term) < 0 }
			if lengthOf(impl.Point{}, impl.Point{X: dx, Y: dy}) == 1 && rise(k) == 0 && !slices.ContainsFunc(cell, becomesLess) {
				return dx, dy
			}
		}
	}
	panic("the side has no end")
}

// endsByValues says again what the ends at the vertex of a cell are.
func endsByValues(l []impl.Term, cell []int) [][]int {
	var ends [][]int
	for _, i := range cell {
		for _, k := range cell {
			pair := pointsAt(l, []int{i, k})
			if i < k && isSide(pointsAt(l, cell), pair[0], pair[1]) {
				dx, dy := directionByValues(l, cell, i, k)
				ends = append(ends, []int{i, k, dx, dy, lengthOf(pair[0], pair[1])})
			}
		}
	}
	return ends
}

// lengthByRats returns how often a direction leads from one point to another one.
func lengthByRats(from impl.Spot, to impl.Spot, dx int, dy int) impl.Frac {
	wayX := new(big.Rat).Sub(ratOf(to.X), ratOf(from.X))
	wayY := new(big.Rat).Sub(ratOf(to.Y), ratOf(from.Y))
	// The way is a multiple of the direction, so that the sums of absolute values are in the same proportion.
	way := new(big.Rat).Add(wayX.Abs(wayX), wayY.Abs(wayY))
	length, ok := fracOfRat(way.Quo(way, big.NewRat(int64(max(dx, -dx)+max(dy, -dy)), 1)))
	if !ok || spotBehind(from, ratOf(length), dx, dy) != to {
		panic("the direction does not lead there")
	}
	return length
}

// addEdge adds the segment or the ray of an edge.
func (c *curve) addEdge(edge []int) {
	var cells, end []int
	for n, ends := range c.ends {
		for _, e := range ends {
			if slices.Equal(e[:2], edge) {
				cells = append(cells, n)
				end = e
			}
		}
	}
	if len(cells) == 1 {
		c.rays = append(c.rays, []int{end[0], end[1], cells[0], end[2], end[3], end[4]})
		return
	}
	c.segments = append(c.segments, []int{edge[0], edge[1], cells[0], cells[1]})
	// This end is that at the second vertex.
	c.lengths = append(c.lengths, lengthByRats(c.vertices[cells[1]], c.vertices[cells[0]], end[2], end[3]))
}

// boundedTerms counts the points inside of the Newton polygon that are corners of cells: where their terms have the least value, the curve goes around.
func boundedTerms(l []impl.Term, s subdivision) int {
	count := 0
	for _, p := range pointsAt(l, allIndices(l)) {
		isCorner := slices.ContainsFunc(s.polygons, func(polygon []impl.Point) bool { return slices.Contains(polygon, p) })
		if isCorner && placeOf(hullBySides(pointsAt(l, allIndices(l))), p) == inside {
			count++
		}
	}
	return count
}

func textOfFrac(f impl.Frac) string {
	if f.Den == 1 {
		return fmt.Sprint(f.Num)
	}
	return fmt.Sprintf("%d/%d", f.Num, f.Den)
}

// curveByValues says again all that chapter 8 tells, by plain definitions.
func curveByValues(l []impl.Term) curve {
	var c curve
	s := subdivisionByValues(l)
	for _, cell := range s.cells {
		vertex := vertexByValues(l, cell)
		c.vertices = append(c.vertices, vertex)
		c.ends = append(c.ends, endsByValues(l, cell))
		c.text += textOfFrac(vertex.X) + "," + textOfFrac(vertex.Y) + ";"
	}
	for _, edge := range s.edges {
		c.addEdge(edge)
	}
	c.loops = boundedTerms(l, s)
	return c
}

// checkSpot fails the test unless a call gave the expected point and success.
func checkSpot(t *testing.T, call string, got impl.Spot, gotOK bool, want impl.Spot, wantOK bool) {
	t.Helper()
	if got != want || gotOK != wantOK {
		t.Errorf("%s: got %v, %t; want %v, %t", call, got, gotOK, want, wantOK)
	}
}

// checkText fails the test unless a call gave the expected text and success.
func checkText(t *testing.T, call string, got string, gotOK bool, want string, wantOK bool) {
	t.Helper()
	if got != want || gotOK != wantOK {
		t.Errorf("%s: got %q, %t; want %q, %t", call, got, gotOK, want, wantOK)
	}
}

// checkCurve fails the test unless all functions of chapter 8 that take one plane polynomial tell what is expected, or nothing if wantOK is false.
func checkCurve(t *testing.T, l []impl.Term, want curve, wantOK bool) {
	t.Helper()
	vertices, ok := impl.VerticesOf(l)
	checkList(t, fmt.Sprint("VerticesOf", l), vertices, ok, want.vertices, wantOK)
	segments, ok := impl.SegmentsOf(l)
	checkLists(t, fmt.Sprint("SegmentsOf", l), segments, ok, want.segments, wantOK)
	rays, ok := impl.RaysOfCurve(l)
	checkLists(t, fmt.Sprint("RaysOfCurve", l), rays, ok, want.rays, wantOK)
	loops, ok := impl.LoopsOf(l)
	checkNumber(t, fmt.Sprint("LoopsOf", l), loops, ok, want.loops, wantOK)
	text, ok := impl.CurveText(l)
	checkText(t, fmt.Sprint("CurveText", l), text, ok, want.text, wantOK)
	for n := -2; n <= len(want.vertices)+2; n++ {
		if n < 0 || n >= len(want.vertices) {
			checkNoVertex(t, l, n)
			continue
		}
		vertex, ok := impl.VertexOf(l, n)
		checkSpot(t, fmt.Sprint("VertexOf", l, n), vertex, ok, want.vertices[n], true)
		ends, ok := impl.EndsAt(l, n)
		checkLists(t, fmt.Sprint("EndsAt", l, n), ends, ok, want.ends[n], true)
		checkBalance(t, l, n, true)
	}
	checkSegmentLengths(t, l, want.segments, want.lengths)
}

// checkBalance fails the test unless both sums are 0, and the call succeeds if there is such a vertex.
func checkBalance(t *testing.T, l []impl.Term, n int, wantOK bool) {
	t.Helper()
	x, y, ok := impl.BalanceAt(l, n)
	if x != 0 || y != 0 || ok != wantOK {
		t.Errorf("BalanceAt%v %d: got %d, %d, %t; want 0, 0, %t", l, n, x, y, ok, wantOK)
	}
}

// checkNoVertex fails the test if something is told of a vertex that there is not.
func checkNoVertex(t *testing.T, l []impl.Term, n int) {
	t.Helper()
	vertex, ok := impl.VertexOf(l, n)
	checkSpot(t, fmt.Sprint("VertexOf", l, n), vertex, ok, impl.Spot{}, false)
	ends, ok := impl.EndsAt(l, n)
	checkLists(t, fmt.Sprint("EndsAt", l, n), ends, ok, nil, false)
	checkBalance(t, l, n, false)
}

// checkSegmentLengths fails the test unless all segments have the expected lengths, and all other pairs have none.
func checkSegmentLengths(t *testing.T, l []impl.Term, segments [][]int, lengths []impl.Frac) {
	t.Helper()
	beyond := min(len(l), mostTerms) + 1
	for i := -2; i <= beyond; i++ {
		for k := -2; k <= beyond; k++ {
			length, isSegment := impl.Frac{}, false
			for n, segment := range segments {
				if segment[0] == i && segment[1] == k {
					length, isSegment = lengths[n], true
				}
			}
			got, ok := impl.SegmentLength(l, i, k)
			checkFrac(t, fmt.Sprint("SegmentLength", l, i, k), got, ok, length, isSegment)
		}
	}
}

// namedCurve is a plane polynomial with all that chapter 8 tells of it, written out.
type namedCurve struct {
	name  string
	terms []impl.Term
	curve
}

// curvesWithoutSegments are curves without vertices, and with one alone.
func curvesWithoutSegments() []namedCurve {
	return []namedCurve{
		{"one term", plane(2, 3, 5), curve{}},
		{"two terms", plane(0, 0, 1, 4, 1, -7), curve{}},
		{"three terms on one line", plane(0, 0, 5, 1, 1, -3, 2, 2, 8), curve{}},
		{"three terms on one line, and lifted on one too", plane(0, 6, 2, 3, 3, 5, 6, 0, 8), curve{}},
		{"seven terms with I = 0", plane(0, 0, 3, 0, 1, 0, 0, 2, -2, 0, 3, most, 0, 4, -most, 0, 5, 1, 0, 6, 1), curve{}},
		{"the example", plane(0, 0, 0, 0, 1, 0, 1, 0, 0), curve{
			vertices: spots(0, 0), ends: [][][]int{rows(5, 0, 1, 1, 0, 1, 0, 2, 0, 1, 1, 1, 2, -1, -1, 1)}, rays: rows(6, 0, 1, 0, 1, 0, 1, 0, 2, 0, 0, 1, 1, 1, 2, 0, -1, -1, 1), text: "0,0;"}},
		{"the upper triangle", plane(0, 1, 0, 1, 0, 0, 1, 1, 5), curve{
			vertices: spots(-5, -5), ends: [][][]int{rows(5, 0, 1, 1, 1, 1, 0, 2, 0, -1, 1, 1, 2, -1, 0, 1)}, rays: rows(6, 0, 1, 0, 1, 1, 1, 0, 2, 0, 0, -1, 1, 1, 2, 0, -1, 0, 1), text: "-5,-5;"}},
		{"the greatest weights", plane(0, 0, most, 0, 6, -most, 6, 0, 4), curve{
			vertices: []impl.Spot{spot(166666, 1, most, 3)}, ends: [][][]int{rows(5, 0, 1, 1, 0, 6, 0, 2, 0, 1, 6, 1, 2, -1, -1, 6)}, rays: rows(6, 0, 1, 0, 1, 0, 6, 0, 2, 0, 0, 1, 6, 1, 2, 0, -1, -1, 6), text: "166666,1000000/3;"}},
		{"no whole vertex, and directions of all lengths", plane(0, 1, 1, 2, 4, 0, 5, 0, -2), curve{
			vertices: []impl.Spot{spot(10, 17, -1, 17)}, ends: [][][]int{rows(5, 0, 1, 3, -2, 1, 0, 2, 1, 5, 1, 1, 2, -4, -3, 1)}, rays: rows(6, 0, 1, 0, 3, -2, 1, 0, 2, 0, 1, 5, 1, 1, 2, 0, -4, -3, 1), text: "10/17,-1/17;"}},
		{"a flat square", plane(0, 0, 0, 0, 1, 0, 1, 0, 0, 1, 1, 0), curve{
			vertices: spots(0, 0), ends: [][][]int{rows(5, 0, 1, 1, 0, 1, 0, 2, 0, 1, 1, 1, 3, 0, -1, 1, 2, 3, -1, 0, 1)}, rays: rows(6, 0, 1, 0, 1, 0, 1, 0, 2, 0, 0, 1, 1, 1, 3, 0, 0, -1, 1, 2, 3, 0, -1, 0, 1), text: "0,0;"}},
		{"a tilted square", plane(0, 0, most, 0, 2, 0, 2, 0, 0, 2, 2, -most), curve{
			vertices: spots(most/2, most/2), ends: [][][]int{rows(5, 0, 1, 1, 0, 2, 0, 2, 0, 1, 2, 1, 3, 0, -1, 2, 2, 3, -1, 0, 2)}, rays: rows(6, 0, 1, 0, 1, 0, 2, 0, 2, 0, 0, 1, 2, 1, 3, 0, 0, -1, 2, 2, 3, 0, -1, 0, 2), text: "500000,500000;"}},
		{"points between corners on a tilted plane", plane(0, 0, 1, 0, 1, -1, 0, 2, -3, 1, 0, 4, 1, 1, 2, 2, 0, 7), curve{
			vertices: spots(-3, 2), ends: [][][]int{rows(5, 0, 2, 1, 0, 2, 0, 5, 0, 1, 2, 2, 5, -1, -1, 2)}, rays: rows(6, 0, 2, 0, 1, 0, 2, 0, 5, 0, 0, 1, 2, 2, 5, 0, -1, -1, 2), text: "-3,2;"}},
		{"a point inside above the plane", plane(0, 0, 2, 0, 3, 2, 1, 1, 3, 3, 0, 2), curve{
			vertices: spots(0, 0), ends: [][][]int{rows(5, 0, 1, 1, 0, 3, 0, 3, 0, 1, 3, 1, 3, -1, -1, 3)}, rays: rows(6, 0, 1, 0, 1, 0, 3, 0, 3, 0, 0, 1, 3, 1, 3, 0, -1, -1, 3), text: "0,0;"}},
		{"the most terms on one plane", allExponents()[:12], curve{
			vertices: spots(0, 0), ends: [][][]int{rows(5, 0, 6, 1, 0, 6, 0, 7, 0, 1, 1, 6, 11, -2, -1, 1, 7, 11, -1, 0, 4)}, rays: rows(6, 0, 6, 0, 1, 0, 6, 0, 7, 0, 0, 1, 1, 6, 11, 0, -2, -1, 1, 7, 11, 0, -1, 0, 4), text: "0,0;"}},
	}
}

// squareCurve returns the curve of a square with two cells, that are divided from the upper left to the lower right corner, of which both sides and the diagonal have the same weight.
func squareCurve(vertices []impl.Spot, length impl.Frac, weight int, text string) curve {
	w := weight
	return curve{
		vertices: vertices, ends: [][][]int{rows(5, 0, 1, 1, 0, w, 0, 2, 0, 1, w, 1, 2, -1, -1, w), rows(5, 1, 2, 1, 1, w, 1, 3, 0, -1, w, 2, 3, -1, 0, w)},
		segments: rows(4, 1, 2, 0, 1), lengths: []impl.Frac{length}, rays: rows(6, 0, 1, 0, 1, 0, w, 0, 2, 0, 0, 1, w, 1, 3, 1, 0, -1, w, 2, 3, 1, -1, 0, w), text: text,
	}
}

// loopCurve returns the curve of a triangle with three cells around the point 1, 1.
func loopCurve(vertices []impl.Spot, length impl.Frac, text string) curve {
	return curve{
		vertices: vertices, ends: [][][]int{rows(5, 0, 1, 1, 0, 3, 0, 2, -1, 1, 1, 1, 2, -2, -1, 1), rows(5, 0, 2, 1, -1, 1, 0, 3, 0, 1, 3, 2, 3, -1, -2, 1), rows(5, 1, 2, 2, 1, 1, 1, 3, -1, -1, 3, 2, 3, 1, 2, 1)},
		segments: rows(4, 0, 2, 0, 1, 1, 2, 0, 2, 2, 3, 1, 2), lengths: []impl.Frac{length, length, length}, rays: rows(6, 0, 1, 0, 1, 0, 3, 0, 3, 1, 0, 1, 3, 1, 3, 2, -1, -1, 3), loops: 1, text: text,
	}
}

// curvesWithSegments are curves with several vertices.
func curvesWithSegments() []namedCurve {
	rising := func(vertices []impl.Spot, length int, text string) curve {
		return curve{
			vertices: vertices, ends: [][][]int{rows(5, 0, 1, 1, 0, 1, 0, 3, -1, 1, 1, 1, 3, 0, -1, 1), rows(5, 0, 2, 0, 1, 1, 0, 3, 1, -1, 1, 2, 3, -1, 0, 1)},
			segments: rows(4, 0, 3, 0, 1), lengths: []impl.Frac{frac(length, 1)}, rays: rows(6, 0, 1, 0, 1, 0, 1, 0, 2, 1, 0, 1, 1, 1, 3, 0, 0, -1, 1, 2, 3, 1, -1, 0, 1), text: text,
		}
	}
	return []namedCurve{
		{"the example of chapter 7", plane(0, 0, 0, 0, 1, 0, 1, 0, 0, 1, 1, 5), squareCurve(spots(0, 0, -5, -5), frac(5, 1), 1, "0,0;-5,-5;")},
		{"the other diagonal", plane(0, 0, 0, 0, 1, 0, 1, 0, 0, 1, 1, -5), rising(spots(5, 0, 0, 5), 5, "5,0;0,5;")},
		{"the greatest differences", plane(0, 0, most, 0, 1, -most, 1, 0, -most, 1, 1, most), squareCurve(spots(2*most, 2*most, -2*most, -2*most), frac(4*most, 1), 1, "2000000,2000000;-2000000,-2000000;")},
		{"the greatest differences, the other way around", plane(0, 0, -most, 0, 1, most, 1, 0, most, 1, 1, -most), rising(spots(2*most, -2*most, -2*most, 2*most), 4*most, "2000000,-2000000;-2000000,2000000;")},
		{"a short segment with a great weight", plane(0, 0, 0, 0, 2, 0, 2, 0, 0, 2, 2, 1), squareCurve([]impl.Spot{spot(0, 1, 0, 1), spot(-1, 2, -1, 2)}, frac(1, 2), 2, "0,0;-1/2,-1/2;")},
		{"a shorter segment with a greater weight", plane(0, 0, 0, 0, 3, 0, 3, 0, 0, 3, 3, 1), squareCurve([]impl.Spot{spot(0, 1, 0, 1), spot(-1, 3, -1, 3)}, frac(1, 3), 3, "0,0;-1/3,-1/3;")},
		{"a loop", plane(0, 0, 2, 0, 3, 2, 1, 1, 1, 3, 0, 2), loopCurve(spots(1, 0, 0, 1, -1, -1), frac(1, 1), "1,0;0,1;-1,-1;")},
		{"a loop with segments whose length is no whole number", plane(0, 0, 2, 0, 3, 3, 1, 1, 1, 3, 0, 2), loopCurve([]impl.Spot{spot(4, 3, -1, 3), spot(0, 1, 1, 1), spot(-4, 3, -5, 3)}, frac(4, 3), "4/3,-1/3;0,1;-4/3,-5/3;")},
		{"two flat triangles with a point between the corners of both", plane(0, 0, 1, 0, 2, 0, 1, 0, 7, 1, 1, 0, 2, 0, 0, 2, 2, 1), curve{
			vertices: []impl.Spot{spot(1, 2, 1, 2), spot(-1, 2, -1, 2)}, ends: [][][]int{rows(5, 0, 1, 1, 0, 2, 0, 4, 0, 1, 2, 1, 4, -1, -1, 2), rows(5, 1, 4, 1, 1, 2, 1, 5, 0, -1, 2, 4, 5, -1, 0, 2)},
			segments: rows(4, 1, 4, 0, 1), lengths: []impl.Frac{frac(1, 1)}, rays: rows(6, 0, 1, 0, 1, 0, 2, 0, 4, 0, 0, 1, 2, 1, 5, 1, 0, -1, 2, 4, 5, 1, -1, 0, 2), text: "1/2,1/2;-1/2,-1/2;"}},
		{"a triangle beside a square", plane(0, 0, 0, 0, 1, 0, 1, 0, 0, 1, 1, 0, 2, 0, 3), curve{
			vertices: spots(0, 0, -3, 0), ends: [][][]int{rows(5, 0, 1, 1, 0, 1, 0, 2, 0, 1, 1, 1, 3, 0, -1, 1, 2, 3, -1, 0, 1), rows(5, 2, 3, 1, 0, 1, 2, 4, 0, 1, 1, 3, 4, -1, -1, 1)},
			segments: rows(4, 2, 3, 0, 1), lengths: []impl.Frac{frac(3, 1)}, rays: rows(6, 0, 1, 0, 1, 0, 1, 0, 2, 0, 0, 1, 1, 1, 3, 0, 0, -1, 1, 2, 4, 1, 0, 1, 1, 3, 4, 1, -1, -1, 1), text: "0,0;-3,0;"}},
		{"a smooth conic", plane(0, 0, 0, 0, 1, 1, 0, 2, 4, 1, 0, 1, 1, 1, 3, 2, 0, 4), curve{
			vertices: spots(-1, -1, -2, -3, -2, -2, -3, -2),
			ends:     [][][]int{rows(5, 0, 1, 1, 0, 1, 0, 3, 0, 1, 1, 1, 3, -1, -1, 1), rows(5, 1, 2, 1, 0, 1, 1, 4, 0, 1, 1, 2, 4, -1, -1, 1), rows(5, 1, 3, 1, 1, 1, 1, 4, 0, -1, 1, 3, 4, -1, 0, 1), rows(5, 3, 4, 1, 0, 1, 3, 5, 0, 1, 1, 4, 5, -1, -1, 1)},
			segments: rows(4, 1, 3, 0, 2, 1, 4, 1, 2, 3, 4, 2, 3), lengths: []impl.Frac{frac(1, 1), frac(1, 1), frac(1, 1)},
			rays: rows(6, 0, 1, 0, 1, 0, 1, 0, 3, 0, 0, 1, 1, 1, 2, 1, 1, 0, 1, 2, 4, 1, -1, -1, 1, 3, 5, 3, 0, 1, 1, 4, 5, 3, -1, -1, 1), text: "-1,-1;-2,-3;-2,-2;-3,-2;"}},
	}
}

func TestNamedCurves(t *testing.T) {
	for _, c := range append(curvesWithoutSegments(), curvesWithSegments()...) {
		if !impl.IsPlane(c.terms) {
			t.Error("is no plane polynomial:", c.name)
		}
		checkCurve(t, c.terms, c.curve, true)
		if fmt.Sprint(curveByValues(c.terms)) != fmt.Sprint(c.curve) {
			t.Error(c.name, "is by values", curveByValues(c.terms))
		}
	}
}

// mostCells is a plane polynomial with the most terms, of which nine are inside of a triangle and all are corners of cells.
func mostCells() []impl.Term {
	inner := slices.DeleteFunc(allExponents(), func(t impl.Term) bool { return t.I == 0 || t.J == 0 || t.I+t.J == mostTotal || t.I == 4 })
	l := slices.Concat(plane(0, 0, 0, 0, 6, 0), inner, plane(6, 0, 0))
	return withCoefficients(l, func(n int) int { return 1000 * round(l[n]) })
}

func TestLoopsOf(t *testing.T) {
	rectangle := slices.DeleteFunc(allExponents(), func(t impl.Term) bool { return t.I > 3 || t.J > 2 })
	for _, c := range []struct {
		l     []impl.Term
		loops int
	}{
		{plane(0, 0, 0), 0}, {plane(0, 0, 0, 0, 1, 0), 0}, {plane(0, 0, 0, 1, 1, 3, 2, 2, 0), 0}, {plane(0, 0, 0, 0, 1, 0, 1, 0, 0), 0}, {plane(0, 0, 0, 0, 1, 0, 1, 0, 0, 1, 1, 5), 0}, {degreePlane(2, round), 0},
		// The point inside is that of a term below the plane of the others, on it, and above it.
		{plane(0, 0, 2, 0, 3, 2, 1, 1, 1, 3, 0, 2), 1}, {plane(0, 0, 2, 0, 3, 2, 1, 1, 2, 3, 0, 2), 0}, {plane(0, 0, 2, 0, 3, 2, 1, 1, 3, 3, 0, 2), 0}, {plane(0, 0, 2, 0, 3, 2, 1, 1, -most, 3, 0, 2), 1},
		{degreePlane(3, round), 1}, {degreePlane(3, func(t impl.Term) int { return 0 }), 0}, {degreePlane(3, func(t impl.Term) int { return t.I*t.I + t.J*t.J }), 1}, {degreePlane(3, func(t impl.Term) int { return -round(t) }), 0},
		{withCoefficients(rectangle, func(n int) int { return round(rectangle[n]) }), 2}, {withCoefficients(rectangle, func(n int) int { return (2 - rectangle[n].J) * rectangle[n].J }), 0}, {withCoefficients(rectangle, func(n int) int { return rectangle[n].J * rectangle[n].J }), 0}, {mostCells(), 9},
	} {
		got, ok := impl.LoopsOf(c.l)
		checkNumber(t, fmt.Sprint("LoopsOf", c.l), got, ok, c.loops, true)
	}
}

// hasFraction reports whether a fraction is no whole number.
func hasFraction(l []impl.Frac) bool {
	return slices.ContainsFunc(l, func(f impl.Frac) bool { return f.Den != 1 })
}

// coordinatesOf returns both coordinates of all points.
func coordinatesOf(l []impl.Spot) []impl.Frac {
	var fracs []impl.Frac
	for _, s := range l {
		fracs = append(fracs, s.X, s.Y)
	}
	return fracs
}

// manyCurved returns plane polynomials with all kinds of curves.
func manyCurved() [][]impl.Term {
	return append(manySubdivided(), mostCells())
}

func TestManyCurves(t *testing.T) {
	empty, single, looped, divided, short := [2]int{}, [2]int{}, [2]int{}, [2]int{}, [2]int{}
	directions, weights := map[[2]int]int{}, map[int]int{}
	for _, l := range manyCurved() {
		want := curveByValues(l)
		checkCurve(t, l, want, true)
		countOf(&empty, len(want.vertices) == 0)
		countOf(&single, len(want.vertices) == 1)
		countOf(&looped, want.loops > 0)
		countOf(&divided, hasFraction(coordinatesOf(want.vertices)))
		countOf(&short, hasFraction(want.lengths))
		for _, end := range slices.Concat(want.ends...) {
			directions[[2]int{sign(end[2]), sign(end[3])}]++
			weights[end[4]]++
		}
	}
	for name, counts := range map[string][2]int{"without vertices": empty, "with one vertex": single, "with loops": looped, "with vertices that are no whole numbers": divided, "with segments whose length is no whole number": short} {
		if min(counts[0], counts[1]) < 50 {
			t.Error("too few are", name, "or too few are not:", counts)
		}
	}
	if len(directions) != 8 || len(weights) != mostTotal {
		t.Error("there are not ends in all directions, or not with all weights:", directions, weights)
	}
}

func sign(n int) int {
	return min(max(n, -1), 1)
}

// isSpot says again which points have valid fractions, apart from the program.
func isSpot(s impl.Spot) bool {
	for _, f := range []impl.Frac{s.X, s.Y} {
		if f.Den < 1 {
			return false
		}
		if lowest, ok := fracOfRat(ratOf(f)); !ok || lowest != f {
			return false
		}
	}
	return true
}

// ratValue says again what the value of a term at a point is, of any size; it tells also whether this and all on the way are fractions.
func ratValue(term impl.Term, s impl.Spot) (*big.Rat, bool) {
	ofX, ofY := timesRat(term.I, ratOf(s.X)), timesRat(term.J, ratOf(s.Y))
	ofBoth := new(big.Rat).Add(ofX, ofY)
	value := new(big.Rat).Add(ofBoth, big.NewRat(int64(term.C), 1))
	areFracs := true
	for _, part := range []*big.Rat{ofX, ofY, ofBoth, value} {
		_, ok := fracOfRat(part)
		areFracs = areFracs && ok
	}
	return value, areFracs
}

// leastAt says again which terms have the least value at a point. It fails if a value, or what is on the way to it, is no fraction.
func leastAt(l []impl.Term, s impl.Spot) ([]int, bool) {
	if !isPlane(l) || !isSpot(s) {
		return nil, false
	}
	var values []*big.Rat
	for _, term := range l {
		value, ok := ratValue(term, s)
		if !ok {
			return nil, false
		}
		values = append(values, value)
	}
	least := slices.MinFunc(values, (*big.Rat).Cmp)
	return slices.DeleteFunc(allIndices(l), func(n int) bool { return values[n].Cmp(least) != 0 }), true
}

// checkOnCurve fails the test unless IsOnCurveAt tells the expected, and success.
func checkOnCurve(t *testing.T, l []impl.Term, s impl.Spot, want bool, wantOK bool) {
	t.Helper()
	got, ok := impl.IsOnCurveAt(l, s)
	checkFlag(t, fmt.Sprint("IsOnCurveAt", l, s), got, ok, want, wantOK)
}

func TestIsOnCurveAt(t *testing.T) {
	line := plane(0, 0, 0, 0, 1, 0, 1, 0, 0)
	square := plane(0, 0, 0, 0, 1, 0, 1, 0, 0, 1, 1, 5)
	for _, c := range []struct {
		l    []impl.Term
		s    impl.Spot
		want bool
	}{
		// At vertices, within the segment, and behind both of its ends.
		{line, spot(0, 1, 0, 1), true}, {square, spot(0, 1, 0, 1), true}, {square, spot(-5, 1, -5, 1), true}, {square, spot(-5, 2, -5, 2), true}, {square, spot(-1, 3, -1, 3), true}, {square, spot(-14, 3, -14, 3), true}, {square, spot(-4999, 1000, -4999, 1000), true},
		{square, spot(-6, 1, -6, 1), false}, {square, spot(-5001, 1000, -5001, 1000), false}, {square, spot(1, 1, 1, 1), false}, {square, spot(1, 1000, 1, 1000), false},
		// On rays, and beside them.
		{line, spot(1, 2, 0, 1), true}, {line, spot(0, 1, 7, 3), true}, {line, spot(-7, 3, -7, 3), true}, {line, spot(-1, 2, 0, 1), false}, {line, spot(0, 1, -7, 3), false}, {line, spot(7, 3, 7, 3), false}, {line, spot(mostFrac, 1, 0, 1), true}, {line, spot(0, 1, mostFrac, 1), true}, {line, spot(-mostFrac, 1, -mostFrac, 1), true},
		{line, spot(mostFrac, 1, 1, mostFrac), false}, {line, spot(1, 2, -1, mostFrac), false}, {line, spot(1, mostFrac, 1, mostFrac), false}, {line, spot(-1, mostFrac, -1, mostFrac), true}, {line, spot(-1, mostFrac, -1, mostFrac-1), false}, {line, spot(0, 1, 1, mostFrac), true}, {line, spot(-1, mostFrac, 1, mostFrac), false},
		{square, spot(1, 2, 0, 1), true}, {square, spot(0, 1, 7, 3), true}, {square, spot(-5, 1, -11, 2), true}, {square, spot(-11, 2, -5, 1), true}, {square, spot(-5, 1, -9, 2), false}, {square, spot(-9, 2, -5, 1), false}, {square, spot(-1, 1, -2, 1), false}, {square, spot(-2, 1, -1, 1), false}, {square, spot(-1, 2, -1, 3), false},
		// One term alone has no curve; two have a line, and more of them several ones.
		{plane(0, 0, 5), spot(0, 1, 0, 1), false}, {plane(2, 3, 5), spot(1, 7, -2, 3), false}, {plane(0, 0, 1, 0, 3, 0), spot(22, 7, 1, 3), true}, {plane(0, 0, 1, 0, 3, 0), spot(22, 7, 1, 2), false}, {plane(0, 0, 1, 0, 3, 0), spot(1, 3, 22, 7), false}, {plane(1, 0, 1, 2, 3, 0), spot(1, 1, 0, 1), true}, {plane(1, 0, 1, 2, 3, 0), spot(-1, 2, 1, 2), true}, {plane(1, 0, 1, 2, 3, 0), spot(-1, 2, 1, 3), false},
		{plane(0, 0, 0, 1, 1, -1, 2, 2, 1), spot(1, 2, 1, 2), true}, {plane(0, 0, 0, 1, 1, -1, 2, 2, 1), spot(-1, 1, -1, 1), true}, {plane(0, 0, 0, 1, 1, -1, 2, 2, 1), spot(0, 1, 0, 1), false}, {plane(0, 0, 0, 1, 1, 1, 2, 2, 1), spot(-1, 4, -1, 4), true}, {plane(0, 0, 0, 1, 1, 1, 2, 2, 1), spot(-1, 1, 0, 1), false},
		// Two terms are equal there, but a third one is less.
		{square, spot(-1, 1, 3, 1), false}, {plane(0, 0, 0, 0, 1, 1, 0, 2, 0), spot(3, 1, -1, 1), false}, {plane(0, 0, 0, 0, 1, 1, 0, 2, 0), spot(3, 1, 0, 1), true},
		{plane(0, 0, most, 1, 0, -most), spot(2*most, 1, 5, 3), true}, {plane(0, 0, -most, 6, 0, most), spot(-most, 3, 5, 3), true}, {plane(0, 0, -most, 6, 0, most), spot(-most/4, 1, 5, 3), false},
	} {
		checkOnCurve(t, c.l, c.s, c.want, true)
	}
}

func TestIsOnCurveAtWithoutFractions(t *testing.T) {
	m := mostFrac
	for _, c := range []struct {
		l        []impl.Term
		s        impl.Spot
		want, ok bool
	}{
		// Products of I and X, or of J and Y, also where the sum of both would be a fraction.
		{plane(1, 0, 0), spot(m, 1, 0, 1), false, true}, {plane(2, 0, 0), spot(m/2, 1, 0, 1), false, true}, {plane(2, 0, 0), spot(m/2+1, 1, 0, 1), false, false}, {plane(2, 0, 0), spot(-m/2-1, 1, 0, 1), false, false}, {plane(0, 2, 0), spot(0, 1, m/2, 1), false, true}, {plane(0, 2, 0), spot(0, 1, m/2+1, 1), false, false}, {plane(0, 2, 0), spot(0, 1, -m/2-1, 1), false, false},
		{plane(2, 2, 0), spot(m, 1, -m, 1), false, false}, {plane(2, 1, 0), spot(m/2, 1, -m, 1), false, true}, {plane(2, 1, 0), spot(m/2+1, 1, -m, 1), false, false}, {plane(1, 2, 0), spot(m, 1, -m/2-1, 1), false, false}, {plane(2, 0, -most), spot(m/2+1, 1, 0, 1), false, false}, {plane(0, 2, most), spot(0, 1, -m/2-1, 1), false, false},
		{plane(2, 0, 0), spot(m-1, 2, 0, 1), false, true}, {plane(3, 0, 0), spot(m-1, 2, 0, 1), false, false}, {plane(6, 0, 0), spot(1, m, 0, 1), false, true}, {plane(0, 6, 0), spot(m-1, m, 5, 6), false, true},
		// Sums of both products, also where the coefficient would make them less.
		{plane(1, 1, 0), spot(m, 1, 0, 1), false, true}, {plane(1, 1, 0), spot(m, 1, 1, 1), false, false}, {plane(1, 1, -1), spot(m, 1, 1, 1), false, false}, {plane(1, 1, 1), spot(-m, 1, -1, 1), false, false}, {plane(1, 1, 0), spot(m/2, 1, m/2, 1), false, true}, {plane(1, 1, 0), spot(m/2, 1, m/2+1, 1), false, false},
		{plane(1, 1, 0), spot(1, m, 1, m-1), false, false}, {plane(1, 0, 0), spot(1, m, 1, m-1), false, true}, {plane(0, 1, 0), spot(1, m, 1, m-1), false, true}, {plane(1, 1, 0), spot(1, 31622, 1, 31623), false, true}, {plane(1, 1, 0), spot(1, 31623, 1, 31624), false, false}, {plane(1, 1, 0), spot(1, m, -1, m), false, true},
		// The sum and the coefficient, while X, or Y, and it alone would be too much.
		{plane(1, 0, 1), spot(m, 1, 0, 1), false, false}, {plane(1, 0, -1), spot(m, 1, 0, 1), false, true}, {plane(1, 0, -1), spot(-m, 1, 0, 1), false, false}, {plane(1, 1, 1), spot(m, 1, -1, 1), false, true}, {plane(1, 1, 1), spot(-1, 1, m, 1), false, true}, {plane(1, 1, 2), spot(m, 1, -1, 1), false, false}, {plane(0, 1, most), spot(0, 1, m-most, 1), false, true}, {plane(0, 1, most), spot(0, 1, m-most+1, 1), false, false},
		{plane(1, 0, 1), spot(1, m, 0, 1), false, false}, {plane(1, 0, -1), spot(1, m, 0, 1), false, true}, {plane(1, 0, -2), spot(1, m, 0, 1), false, false}, {plane(0, 1, most), spot(0, 1, 1, 1000), false, false}, {plane(0, 1, most), spot(0, 1, 1, 999), false, true}, {plane(0, 1, -most), spot(0, 1, 1, 1000), false, true}, {plane(0, 1, -most), spot(0, 1, -1, 1000), false, false},
		// One term of several, that has not the least value.
		{plane(0, 0, 0, 0, 1, 0, 6, 0, 0), spot(m/6, 1, 0, 1), true, true}, {plane(0, 0, 0, 0, 1, 0, 6, 0, 0), spot(m/6+1, 1, 0, 1), false, false}, {plane(0, 0, 0, 0, 1, 0, 1, 0, most), spot(m-most, 1, 0, 1), true, true}, {plane(0, 0, 0, 0, 1, 0, 1, 0, most), spot(m-most+1, 1, 0, 1), false, false}, {plane(0, 0, 0, 0, 1, 0, 1, 0, 0, 1, 1, 0), spot(m, 1, 0, 1), true, true}, {plane(0, 0, 0, 0, 1, 0, 1, 0, 0, 1, 1, 1), spot(m, 1, 0, 1), false, false},
		// The first one, and the last one.
		{plane(1, 5, 0, 2, 0, 0, 3, 0, 0), spot(0, 1, m/5, 1), true, true}, {plane(1, 5, 0, 2, 0, 0, 3, 0, 0), spot(0, 1, m/5+1, 1), false, false}, {plane(0, 0, 0, 0, 1, 0, 0, 6, 0), spot(5, 7, -m/6, 1), false, true}, {plane(0, 0, 0, 0, 1, 0, 0, 6, 0), spot(5, 7, -m/6-1, 1), false, false},
	} {
		if least, ok := leastAt(c.l, c.s); ok != c.ok || len(least) > 1 != c.want {
			t.Error("is by values", c.l, c.s, least, ok)
		}
		checkOnCurve(t, c.l, c.s, c.want, c.ok)
	}
}

// spotsNear returns the vertices of a curve, places on its segments and rays, and places beside all of them.
func spotsNear(c curve) []impl.Spot {
	on := append(slices.Clone(c.vertices), spots(0, 0, 3, -1)...)
	for n, segment := range c.segments {
		from, to := c.vertices[segment[2]], c.vertices[segment[3]]
		for _, end := range c.ends[segment[2]] {
			if slices.Equal(end[:2], segment[:2]) && spotBehind(from, ratOf(c.lengths[n]), end[2], end[3]) == to {
				on = append(on, spotBehind(from, timesRat(1, new(big.Rat).Quo(ratOf(c.lengths[n]), big.NewRat(3, 1))), end[2], end[3]), spotBehind(to, big.NewRat(1, 5), end[2], end[3]))
			}
		}
	}
	for _, ray := range c.rays {
		on = append(on, spotBehind(c.vertices[ray[2]], big.NewRat(7, 4), ray[3], ray[4]))
	}
	var all []impl.Spot
	for _, s := range on {
		all = append(all, s, spotBehind(s, big.NewRat(1, 7), 0, 1), spotBehind(s, big.NewRat(-1, 3), 1, 2), impl.Spot{X: s.Y, Y: s.X})
	}
	return all
}

func TestManyPlacesOnCurves(t *testing.T) {
	counts := [2]int{}
	for _, l := range manyCurved() {
		for _, s := range spotsNear(curveByValues(l)) {
			least, ok := leastAt(l, s)
			countOf(&counts, len(least) > 1)
			checkOnCurve(t, l, s, len(least) > 1, ok)
		}
	}
	if min(counts[0], counts[1]) < 5000 {
		t.Error("too few places are on a curve, or too few are not:", counts)
	}
}

func TestManyPlacesWithGreatFractions(t *testing.T) {
	counts := [2]int{}
	planes := manyCurved()
	fracs := goodFracs()
	for n, x := range fracs {
		for k, y := range fracs {
			l, s := planes[(n*len(fracs)+k)*7%len(planes)], impl.Spot{X: x, Y: y}
			least, ok := leastAt(l, s)
			countOf(&counts, ok)
			checkOnCurve(t, l, s, len(least) > 1, ok)
		}
	}
	if min(counts[0], counts[1]) < 500 {
		t.Error("too few places have values, or too few have none:", counts)
	}
}

// On places with whole numbers, chapter 5 tells the same.
func TestIsOnCurveAtTellsTheSameAsIsOnCurve(t *testing.T) {
	count := 0
	for _, l := range manyCurved() {
		for _, at := range placesInPlane() {
			want, isValue := impl.IsOnCurve(l, at[0], at[1])
			got, ok := impl.IsOnCurveAt(l, spot(at[0], 1, at[1], 1))
			if isValue {
				count++
				checkFlag(t, fmt.Sprint("IsOnCurveAt", l, at), got, ok, want, true)
			}
		}
	}
	if count < 5000 {
		t.Error("too few places have a value:", count)
	}
}

// Guarantee 8: vertices are on the curve, and the ends at them are balanced. All terms of the cell, and no others, have the least value there.
func TestVerticesAreOnTheCurveAndEndsAreBalanced(t *testing.T) {
	for _, l := range manyCurved() {
		cells, _ := impl.CellsOf(l)
		vertices, ok := impl.VerticesOf(l)
		checkNumber(t, fmt.Sprint("VerticesOf", l), len(vertices), ok, len(cells), true)
		for n, cell := range cells {
			vertex, ok := impl.VertexOf(l, n)
			checkSpot(t, fmt.Sprint("VertexOf", l, n), vertex, ok, vertices[n], true)
			least, isValue := leastAt(l, vertex)
			checkList(t, fmt.Sprint("terms at the vertex", l, n), least, isValue, cell, true)
			checkOnCurve(t, l, vertex, true, true)
			checkBalance(t, l, n, true)
			ends, ok := impl.EndsAt(l, n)
			polygon, _ := impl.CellPolygon(l, n)
			checkNumber(t, fmt.Sprint("EndsAt", l, n), len(ends), ok, len(polygon), true)
			x, y := sumOfEnds(ends, 2)
			if x != 0 || y != 0 {
				t.Error("the ends are not balanced:", l, n, ends)
			}
		}
	}
}

// sumOfEnds returns the sums of dx and of dy, which stand at a place and behind it, times the weights, which come next.
func sumOfEnds(ends [][]int, at int) (int, int) {
	x, y := 0, 0
	for _, end := range ends {
		x += end[at] * end[at+2]
		y += end[at+1] * end[at+2]
	}
	return x, y
}

// endOf returns dx, dy and the weight of the end of a side at a vertex.
func endOf(t *testing.T, l []impl.Term, n int, i int, k int) []int {
	t.Helper()
	ends, ok := impl.EndsAt(l, n)
	for _, end := range ends {
		if ok && end[0] == i && end[1] == k {
			weight, isEdge := impl.EdgeLength(l, i, k)
			checkNumber(t, fmt.Sprint("the weight of the end", l, n, i, k), end[4], true, weight, isEdge)
			return end[2:]
		}
	}
	t.Fatal("there is no end:", l, n, i, k)
	return nil
}

// checkWay fails the test unless just both terms of a side have the least value there, so that the place is on the curve.
func checkWay(t *testing.T, l []impl.Term, s impl.Spot, side []int) {
	t.Helper()
	checkOnCurve(t, l, s, true, true)
	least, ok := leastAt(l, s)
	if !ok || !slices.Contains(least, side[0]) || !slices.Contains(least, side[1]) {
		t.Error("the terms of the side have not the least value:", l, s, side, least)
	}
}

// Segments lead from vertex to vertex, in opposite directions from both, and each place on them is on the curve.
func TestSegmentsLeadFromVertexToVertex(t *testing.T) {
	count := 0
	for _, l := range manyCurved() {
		vertices, _ := impl.VerticesOf(l)
		segments, _ := impl.SegmentsOf(l)
		inner, ok := impl.InnerEdges(l)
		checkNumber(t, fmt.Sprint("SegmentsOf", l), len(segments), ok, len(inner), true)
		for n, segment := range segments {
			checkList(t, fmt.Sprint("terms of a segment", l), segment[:2], true, inner[n], true)
			one, other := segment[2], segment[3]
			end, back := endOf(t, l, one, segment[0], segment[1]), endOf(t, l, other, segment[0], segment[1])
			checkList(t, fmt.Sprint("the end at the other vertex", l, segment), back, true, []int{-end[0], -end[1], end[2]}, one < other)
			length, ok := impl.SegmentLength(l, segment[0], segment[1])
			isThere := ok && length.Num > 0 && spotBehind(vertices[one], ratOf(length), end[0], end[1]) == vertices[other]
			if !isThere {
				t.Error("the length does not lead there:", l, segment, length)
			}
			middle := new(big.Rat).Quo(ratOf(length), big.NewRat(2, 1))
			checkWay(t, l, spotBehind(vertices[one], middle, end[0], end[1]), segment)
			count++
		}
	}
	if count < 1000 {
		t.Error("too few segments:", count)
	}
}

// Rays go on for ever, and all of them together are balanced too.
func TestRaysGoOnForEver(t *testing.T) {
	count := 0
	for _, l := range manyCurved() {
		vertices, _ := impl.VerticesOf(l)
		segments, _ := impl.SegmentsOf(l)
		edges, _ := impl.EdgesOfCells(l)
		rays, ok := impl.RaysOfCurve(l)
		checkNumber(t, fmt.Sprint("RaysOfCurve", l), len(rays)+len(segments), ok, len(edges), true)
		if x, y := sumOfEnds(rays, 3); x != 0 || y != 0 {
			t.Error("the rays are not balanced:", l, rays)
		}
		for _, ray := range rays {
			end := endOf(t, l, ray[2], ray[0], ray[1])
			checkList(t, fmt.Sprint("the end of a ray", l, ray), ray[3:], true, end, true)
			for _, times := range []*big.Rat{big.NewRat(1, 3), big.NewRat(5, 1), big.NewRat(1000, 1)} {
				checkWay(t, l, spotBehind(vertices[ray[2]], times, ray[3], ray[4]), ray)
			}
			count++
		}
	}
	if count < 1000 {
		t.Error("too few rays:", count)
	}
}

// A moved polynomial has a moved curve.
func TestCurvesOfMovedPlanes(t *testing.T) {
	count := 0
	for n, l := range manyCurved() {
		moved, ok := impl.MovePlane(l, 3, -5)
		if !ok || n%4 != 0 {
			continue
		}
		count++
		want := curveByValues(l)
		want.text = ""
		for n, vertex := range want.vertices {
			vertex = spotBehind(vertex, big.NewRat(1, 1), -3, 5)
			want.vertices[n] = vertex
			want.text += textOfFrac(vertex.X) + "," + textOfFrac(vertex.Y) + ";"
		}
		checkCurve(t, moved, want, true)
	}
	if count < 200 {
		t.Error("too few are moved:", count)
	}
}

func TestNumbersBeyondAllVerticesAndTerms(t *testing.T) {
	for _, l := range [][]impl.Term{plane(0, 0, 0, 0, 1, 0, 1, 0, 0, 1, 1, 5), plane(0, 0, 0), plane(0, 0, 0, 0, 6, 0, 6, 0, 0), degreePlane(3, round), mostCells()} {
		vertices := len(cellsByValues(l))
		for _, n := range append(edgeNumbers(), 4, 6, 8, 9, 10, 11, 12, 13, 18) {
			if n < 0 || n >= vertices {
				checkNoVertex(t, l, n)
			}
			if n < 0 || n >= len(l) {
				for _, pair := range [][2]int{{n, 0}, {0, n}, {n, 1}, {1, n}, {n, n}, {-1, n}, {n, len(l) - 1}, {n, math.MaxInt}, {math.MinInt, n}} {
					got, ok := impl.SegmentLength(l, pair[0], pair[1])
					checkFrac(t, fmt.Sprint("SegmentLength", l, pair), got, ok, impl.Frac{}, false)
				}
			}
		}
	}
}

func TestSegmentLengthOfOtherPairs(t *testing.T) {
	loop := plane(0, 0, 2, 0, 3, 3, 1, 1, 1, 3, 0, 2)
	square := plane(0, 0, 0, 0, 1, 0, 1, 0, 0, 1, 1, 5)
	for _, c := range []struct {
		l    []impl.Term
		i, k int
		want impl.Frac
	}{
		{loop, 0, 2, frac(4, 3)}, {loop, 1, 2, frac(4, 3)}, {loop, 2, 3, frac(4, 3)}, {square, 1, 2, frac(5, 1)},
		// An edge of one cell alone, no edge, the wrong way around, twice the same.
		{loop, 0, 1, impl.Frac{}}, {loop, 0, 3, impl.Frac{}}, {loop, 1, 3, impl.Frac{}}, {square, 0, 3, impl.Frac{}}, {loop, 2, 0, impl.Frac{}}, {loop, 3, 2, impl.Frac{}}, {square, 2, 1, impl.Frac{}}, {square, 1, 1, impl.Frac{}}, {loop, 2, 2, impl.Frac{}}, {square, 1, -2, impl.Frac{}}, {square, 1, 4, impl.Frac{}},
		// A part of an inner edge, and neighbours on one line.
		{plane(0, 0, 1, 0, 2, 0, 1, 0, 7, 1, 1, 0, 2, 0, 0, 2, 2, 1), 1, 3, impl.Frac{}}, {plane(0, 0, 1, 0, 2, 0, 1, 0, 7, 1, 1, 0, 2, 0, 0, 2, 2, 1), 1, 4, frac(1, 1)}, {plane(0, 0, 0, 1, 1, 0, 2, 2, 0), 0, 1, impl.Frac{}}, {plane(0, 0, 0, 1, 1, -4, 2, 2, 0), 0, 1, impl.Frac{}}, {plane(0, 0, 0), 0, 0, impl.Frac{}},
	} {
		got, ok := impl.SegmentLength(c.l, c.i, c.k)
		checkFrac(t, fmt.Sprint("SegmentLength", c.l, c.i, c.k), got, ok, c.want, c.want.Den > 0)
	}
}

func TestCurvesOfBadPlanes(t *testing.T) {
	for _, bad := range badPlanes() {
		checkCurve(t, bad, curve{}, false)
		for _, s := range []impl.Spot{spot(0, 1, 0, 1), spot(1, 2, -1, 3), spot(0, 0, 0, 0)} {
			checkOnCurve(t, bad, s, false, false)
		}
	}
}

func TestPlacesThatAreNoSpots(t *testing.T) {
	planes := [][]impl.Term{plane(0, 0, 0), plane(1, 0, 0), plane(0, 1, 0), plane(0, 0, 0, 0, 1, 0, 1, 0, 0), plane(0, 0, 0, 1, 1, 0, 2, 2, 0), allExponents()[:12], mostCells()}
	for _, bad := range badFracs() {
		for _, l := range planes {
			for _, good := range fracsOf([][2]int{{0, 1}, {1, 2}, {-7, 3}, {1, 1}}) {
				checkOnCurve(t, l, impl.Spot{X: bad, Y: good}, false, false)
				checkOnCurve(t, l, impl.Spot{X: good, Y: bad}, false, false)
			}
			checkOnCurve(t, l, impl.Spot{X: bad, Y: bad}, false, false)
		}
	}
	for _, l := range planes {
		checkOnCurve(t, l, impl.Spot{}, false, false)
	}
}
