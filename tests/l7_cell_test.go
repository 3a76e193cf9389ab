package tests

import (
	"fmt"
	"math"
	"slices"
	"testing"

	"loop.example/g01056/impl"
)

// subdivision is all that chapter 7 tells of one plane polynomial.
type subdivision struct {
	cells    [][]int
	polygons [][]impl.Point
	areas    []int
	edges    [][]int
	inner    [][]int
	lengths  []int
	unused   []int
}

// isTriangulated says again what it means; it is true also where there are no cells.
func (s subdivision) isTriangulated() bool {
	return !slices.ContainsFunc(s.cells, func(cell []int) bool { return len(cell) != 3 })
}

func (s subdivision) isSmooth() bool {
	return len(s.cells) > 0 && !slices.ContainsFunc(s.areas, func(area int) bool { return area != 1 })
}

// pointsAt returns the points of the terms with some indices.
func pointsAt(l []impl.Term, indices []int) []impl.Point {
	var points []impl.Point
	for _, n := range indices {
		points = append(points, impl.Point{X: l[n].I, Y: l[n].J})
	}
	return points
}

// allIndices returns the indices of all terms.
func allIndices(l []impl.Term) []int {
	var indices []int
	for n := range l {
		indices = append(indices, n)
	}
	return indices
}

// placeWhereEqual returns x, y and d so that the values of three terms are equal at x/d, y/d by Cramer's rule; d is 0 if there is not one such place, and positive otherwise.
func placeWhereEqual(a impl.Term, b impl.Term, c impl.Term) (int, int, int) {
	d := (b.I-a.I)*(c.J-a.J) - (c.I-a.I)*(b.J-a.J)
	x := (a.C-b.C)*(c.J-a.J) - (a.C-c.C)*(b.J-a.J)
	y := (b.I-a.I)*(a.C-c.C) - (c.I-a.I)*(a.C-b.C)
	if d < 0 {
		return -x, -y, -d
	}
	return x, y, d
}

// leastWhereEqual returns the terms with the least value at the place where the values of three terms are equal, or nil if there is not one such place.
func leastWhereEqual(l []impl.Term, a impl.Term, b impl.Term, c impl.Term) []int {
	x, y, d := placeWhereEqual(a, b, c)
	if d == 0 {
		return nil
	}
	// All values are compared d times.
	var values []int
	for _, t := range l {
		values = append(values, t.C*d+t.I*x+t.J*y)
	}
	var least []int
	for n, value := range values {
		if value == slices.Min(values) {
			least = append(least, n)
		}
	}
	return least
}

// cellsByValues says again what the cells are: all terms with the least value at a place, if three of their points are not on a line.
func cellsByValues(l []impl.Term) [][]int {
	var cells [][]int
	for a := range l {
		for b := a + 1; b < len(l); b++ {
			for c := b + 1; c < len(l); c++ {
				cell := leastWhereEqual(l, l[a], l[b], l[c])
				if slices.Contains(cell, a) && slices.Contains(cell, b) && slices.Contains(cell, c) {
					cells = append(cells, cell)
				}
			}
		}
	}
	slices.SortFunc(cells, slices.Compare[[]int])
	return slices.CompactFunc(cells, slices.Equal[[]int])
}

// isSide reports whether two points are the ends of a side of the hull of all: these are at one side, or between both.
func isSide(l []impl.Point, p impl.Point, q impl.Point) bool {
	atLeft, atRight := false, false
	for _, r := range l {
		side := sideOf(p, q, r)
		if side == 0 && !isBetween(p, q, r) {
			return false
		}
		atLeft, atRight = atLeft || side > 0, atRight || side < 0
	}
	return !atLeft || !atRight
}

// lengthOf counts the steps from lattice point to lattice point between two points.
func lengthOf(p impl.Point, q impl.Point) int {
	length := 0
	for parts := 1; parts <= mostTotal; parts++ {
		if (q.X-p.X)%parts == 0 && (q.Y-p.Y)%parts == 0 {
			length = parts
		}
	}
	return length
}

// subdivisionByValues says again all that chapter 7 tells, by plain definitions.
func subdivisionByValues(l []impl.Term) subdivision {
	s := subdivision{cells: cellsByValues(l)}
	for _, cell := range s.cells {
		s.polygons = append(s.polygons, hullBySides(pointsAt(l, cell)))
		s.areas = append(s.areas, areaByTriangles(s.polygons[len(s.polygons)-1]))
	}
	for i := range l {
		for k := i + 1; k < len(l); k++ {
			s.addEdge(l, i, k)
		}
		if !slices.ContainsFunc(s.cells, func(cell []int) bool { return slices.Contains(cell, i) }) {
			s.unused = append(s.unused, i)
		}
	}
	return s
}

// addEdge adds a pair of terms if it is an edge.
func (s *subdivision) addEdge(l []impl.Term, i int, k int) {
	pair := pointsAt(l, []int{i, k})
	count := 0
	for _, cell := range s.cells {
		if slices.Contains(cell, i) && slices.Contains(cell, k) && isSide(pointsAt(l, cell), pair[0], pair[1]) {
			count++
		}
	}
	if count > 0 {
		s.edges = append(s.edges, []int{i, k})
		s.lengths = append(s.lengths, lengthOf(pair[0], pair[1]))
	}
	if count > 1 {
		s.inner = append(s.inner, []int{i, k})
	}
}

// scatteredPlanes returns plane polynomials of all sizes, whose exponents follow no plain rule, and whose coefficients are 0..greatest, plus what another rule gives.
func scatteredPlanes(count int, greatest int, more func(t impl.Term) int) [][]impl.Term {
	var planes [][]impl.Term
	state := 4321 + greatest
	below := func(limit int) int {
		state = (state*1103515245 + 12345) % 2147483648
		return state / 65536 % limit
	}
	for n := range count {
		l := allExponents()
		for len(l) > n%mostTerms+1 {
			at := below(len(l))
			l = slices.Delete(l, at, at+1)
		}
		planes = append(planes, withCoefficients(l, func(n int) int { return below(greatest+1) + more(l[n]) }))
	}
	return planes
}

// round is a coefficient with which all terms of a full triangle are corners of cells.
func round(t impl.Term) int {
	return t.I*t.I + t.I*t.J + t.J*t.J
}

// degreePlane returns the plane polynomial with all terms up to a degree, at most 3.
func degreePlane(degree int, coefficient func(t impl.Term) int) []impl.Term {
	l := slices.DeleteFunc(allExponents(), func(t impl.Term) bool { return t.I+t.J > degree })
	return withCoefficients(l, func(n int) int { return coefficient(l[n]) })
}

// bentPlanes returns plane polynomials with flat and bent parts, and with the greatest differences of coefficients.
func bentPlanes() [][]impl.Term {
	flat := func(t impl.Term) int { return 0 }
	tilted := func(t impl.Term) int { return 7*t.I - 4*t.J - 3 }
	hollow := func(t impl.Term) int { return -round(t) }
	steep := func(t impl.Term) int { return (2*((t.I*5+t.J*3)%2) - 1) * most }
	planes := [][]impl.Term{degreePlane(3, steep), degreePlane(2, steep), withCoefficients(allExponents()[:12], func(n int) int { return (n%3 - 1) * most }), withCoefficients(allExponents()[16:], func(n int) int { return (n*n%3 - 1) * most })}
	for degree := range 4 {
		planes = append(planes, degreePlane(degree, flat), degreePlane(degree, tilted), degreePlane(degree, round), degreePlane(degree, hollow))
	}
	for _, more := range []func(t impl.Term) int{flat, tilted, round, hollow} {
		for _, greatest := range []int{0, 1, 2, 9} {
			planes = append(planes, scatteredPlanes(60, greatest, more)...)
		}
	}
	return append(planes, scatteredPlanes(60, 2*most, func(impl.Term) int { return -most })...)
}

// manySubdivided returns plane polynomials with all kinds of subdivisions.
func manySubdivided() [][]impl.Term {
	return append(goodPlanes(), bentPlanes()...)
}

// checkLists fails the test unless a call gave the expected lists and success; nil and an empty list are the same.
func checkLists(t *testing.T, call string, got [][]int, gotOK bool, want [][]int, wantOK bool) {
	t.Helper()
	if !slices.EqualFunc(got, want, slices.Equal[[]int]) || gotOK != wantOK {
		t.Errorf("%s: got %v, %t; want %v, %t", call, got, gotOK, want, wantOK)
	}
}

// checkSubdivision fails the test unless all functions of chapter 7 that take one plane polynomial tell what is expected, or nothing if wantOK is false.
func checkSubdivision(t *testing.T, l []impl.Term, want subdivision, wantOK bool) {
	t.Helper()
	cells, ok := impl.CellsOf(l)
	checkLists(t, fmt.Sprint("CellsOf", l), cells, ok, want.cells, wantOK)
	areas, ok := impl.CellAreas(l)
	checkList(t, fmt.Sprint("CellAreas", l), areas, ok, want.areas, wantOK)
	edges, ok := impl.EdgesOfCells(l)
	checkLists(t, fmt.Sprint("EdgesOfCells", l), edges, ok, want.edges, wantOK)
	inner, ok := impl.InnerEdges(l)
	checkLists(t, fmt.Sprint("InnerEdges", l), inner, ok, want.inner, wantOK)
	unused, ok := impl.UnusedTerms(l)
	checkList(t, fmt.Sprint("UnusedTerms", l), unused, ok, want.unused, wantOK)
	is, ok := impl.IsTriangulated(l)
	checkFlag(t, fmt.Sprint("IsTriangulated", l), is, ok, wantOK && want.isTriangulated(), wantOK)
	is, ok = impl.IsSmooth(l)
	checkFlag(t, fmt.Sprint("IsSmooth", l), is, ok, wantOK && want.isSmooth(), wantOK)
	checkCellPolygons(t, l, want.polygons)
	checkEdgeLengths(t, l, want.edges, want.lengths)
}

// checkCellPolygons fails the test unless all cells have the expected polygons, and there are no more of them.
func checkCellPolygons(t *testing.T, l []impl.Term, want [][]impl.Point) {
	t.Helper()
	for n := -2; n <= mostTerms+2; n++ {
		var polygon []impl.Point
		if n >= 0 && n < len(want) {
			polygon = want[n]
		}
		got, ok := impl.CellPolygon(l, n)
		checkList(t, fmt.Sprint("CellPolygon", l, n), got, ok, polygon, polygon != nil)
	}
}

// checkEdgeLengths fails the test unless all edges have the expected lengths, and all other pairs have none.
func checkEdgeLengths(t *testing.T, l []impl.Term, edges [][]int, lengths []int) {
	t.Helper()
	beyond := min(len(l), mostTerms) + 1
	for i := -2; i <= beyond; i++ {
		for k := -2; k <= beyond; k++ {
			length, isEdge := 0, false
			for n, edge := range edges {
				if edge[0] == i && edge[1] == k {
					length, isEdge = lengths[n], true
				}
			}
			got, ok := impl.EdgeLength(l, i, k)
			checkNumber(t, fmt.Sprint("EdgeLength", l, i, k), got, ok, length, isEdge)
		}
	}
}

// namedSubdivision is a plane polynomial with all that chapter 7 tells of it, written out.
type namedSubdivision struct {
	name  string
	terms []impl.Term
	subdivision
}

// flatSubdivisions are subdivisions without cells, and with one alone.
func flatSubdivisions() []namedSubdivision {
	return []namedSubdivision{
		{"one term", plane(2, 3, 5), subdivision{unused: []int{0}}},
		{"two terms", plane(0, 0, 1, 4, 1, -7), subdivision{unused: []int{0, 1}}},
		{"three terms on one line", plane(0, 0, 5, 1, 1, -3, 2, 2, 8), subdivision{unused: []int{0, 1, 2}}},
		{"three terms on one line, and lifted on one too", plane(0, 6, 2, 3, 3, 5, 6, 0, 8), subdivision{unused: []int{0, 1, 2}}},
		{"seven terms with I = 0", plane(0, 0, 3, 0, 1, 0, 0, 2, -2, 0, 3, most, 0, 4, -most, 0, 5, 1, 0, 6, 1), subdivision{unused: []int{0, 1, 2, 3, 4, 5, 6}}},
		{"seven terms with J = 0", plane(0, 0, 0, 1, 0, 0, 2, 0, 0, 3, 0, 0, 4, 0, 0, 5, 0, 0, 6, 0, 0), subdivision{unused: []int{0, 1, 2, 3, 4, 5, 6}}},
		{"the longest edges", plane(0, 0, most, 0, 6, -most, 6, 0, 3), subdivision{cells: [][]int{{0, 1, 2}}, polygons: [][]impl.Point{points(0, 0, 6, 0, 0, 6)}, areas: []int{36}, edges: [][]int{{0, 1}, {0, 2}, {1, 2}}, lengths: []int{6, 6, 6}}},
		{"edges without a common divisor", plane(0, 1, 0, 2, 4, 0, 5, 0, 0), subdivision{cells: [][]int{{0, 1, 2}}, polygons: [][]impl.Point{points(0, 1, 5, 0, 2, 4)}, areas: []int{17}, edges: [][]int{{0, 1}, {0, 2}, {1, 2}}, lengths: []int{1, 1, 1}}},
		{"a flat square", plane(0, 0, 0, 0, 1, 0, 1, 0, 0, 1, 1, 0), subdivision{cells: [][]int{{0, 1, 2, 3}}, polygons: [][]impl.Point{points(0, 0, 1, 0, 1, 1, 0, 1)}, areas: []int{2}, edges: [][]int{{0, 1}, {0, 2}, {1, 3}, {2, 3}}, lengths: []int{1, 1, 1, 1}}},
		{"a tilted square", plane(0, 0, most, 0, 2, 0, 2, 0, 0, 2, 2, -most), subdivision{cells: [][]int{{0, 1, 2, 3}}, polygons: [][]impl.Point{points(0, 0, 2, 0, 2, 2, 0, 2)}, areas: []int{8}, edges: [][]int{{0, 1}, {0, 2}, {1, 3}, {2, 3}}, lengths: []int{2, 2, 2, 2}}},
		{"points between corners on a tilted plane", plane(0, 0, 1, 0, 1, -1, 0, 2, -3, 1, 0, 4, 1, 1, 2, 2, 0, 7), subdivision{cells: [][]int{{0, 1, 2, 3, 4, 5}}, polygons: [][]impl.Point{points(0, 0, 2, 0, 0, 2)}, areas: []int{4}, edges: [][]int{{0, 2}, {0, 5}, {2, 5}}, lengths: []int{2, 2, 2}}},
		{"a point inside", plane(0, 0, 2, 0, 3, 2, 1, 1, 2, 3, 0, 2), subdivision{cells: [][]int{{0, 1, 2, 3}}, polygons: [][]impl.Point{points(0, 0, 3, 0, 0, 3)}, areas: []int{9}, edges: [][]int{{0, 1}, {0, 3}, {1, 3}}, lengths: []int{3, 3, 3}}},
		{"a point inside above the plane", plane(0, 0, 2, 0, 3, 2, 1, 1, 3, 3, 0, 2), subdivision{cells: [][]int{{0, 1, 3}}, polygons: [][]impl.Point{points(0, 0, 3, 0, 0, 3)}, areas: []int{9}, edges: [][]int{{0, 1}, {0, 3}, {1, 3}}, lengths: []int{3, 3, 3}, unused: []int{2}}},
		{"a point between corners above the plane", plane(0, 0, 0, 0, 1, 1, 0, 2, 0, 1, 0, 0), subdivision{cells: [][]int{{0, 2, 3}}, polygons: [][]impl.Point{points(0, 0, 1, 0, 0, 2)}, areas: []int{2}, edges: [][]int{{0, 2}, {0, 3}, {2, 3}}, lengths: []int{2, 1, 1}, unused: []int{1}}},
		{"the most terms on one plane", allExponents()[:12], subdivision{cells: [][]int{{0, 1, 2, 3, 4, 5, 6, 7, 8, 9, 10, 11}}, polygons: [][]impl.Point{points(0, 0, 1, 0, 1, 4, 0, 6)}, areas: []int{10}, edges: [][]int{{0, 6}, {0, 7}, {6, 11}, {7, 11}}, lengths: []int{6, 1, 1, 4}}},
	}
}

// bentSubdivisions are subdivisions with several cells.
func bentSubdivisions() []namedSubdivision {
	square := [][]impl.Point{points(0, 0, 1, 0, 0, 1), points(0, 1, 1, 0, 1, 1)}
	other := [][]impl.Point{points(0, 0, 1, 1, 0, 1), points(0, 0, 1, 0, 1, 1)}
	one := []int{1, 1, 1, 1, 1}
	falling := subdivision{cells: [][]int{{0, 1, 2}, {1, 2, 3}}, polygons: square, areas: []int{1, 1}, edges: [][]int{{0, 1}, {0, 2}, {1, 2}, {1, 3}, {2, 3}}, inner: [][]int{{1, 2}}, lengths: one}
	rising := subdivision{cells: [][]int{{0, 1, 3}, {0, 2, 3}}, polygons: other, areas: []int{1, 1}, edges: [][]int{{0, 1}, {0, 2}, {0, 3}, {1, 3}, {2, 3}}, inner: [][]int{{0, 3}}, lengths: one}
	return []namedSubdivision{
		{"the example", plane(0, 0, 0, 0, 1, 0, 1, 0, 0, 1, 1, 5), falling},
		{"the other diagonal", plane(0, 0, 0, 0, 1, 0, 1, 0, 0, 1, 1, -5), rising},
		{"the greatest differences", plane(0, 0, most, 0, 1, -most, 1, 0, -most, 1, 1, most), falling},
		{"the greatest differences, the other way around", plane(0, 0, -most, 0, 1, most, 1, 0, most, 1, 1, -most), rising},
		{"the least difference of the greatest", plane(0, 0, most, 0, 1, most, 1, 0, most, 1, 1, most-1), rising},
		{"the least difference of the least", plane(0, 0, -most, 0, 1, -most, 1, 0, -most, 1, 1, 1-most), falling},
		{"a point inside below the plane", plane(0, 0, 2, 0, 3, 2, 1, 1, 1, 3, 0, 2), subdivision{
			cells: [][]int{{0, 1, 2}, {0, 2, 3}, {1, 2, 3}}, polygons: [][]impl.Point{points(0, 0, 1, 1, 0, 3), points(0, 0, 3, 0, 1, 1), points(0, 3, 1, 1, 3, 0)}, areas: []int{3, 3, 3},
			edges: [][]int{{0, 1}, {0, 2}, {0, 3}, {1, 2}, {1, 3}, {2, 3}}, inner: [][]int{{0, 2}, {1, 2}, {2, 3}}, lengths: []int{3, 1, 3, 1, 3, 1}}},
		{"a point between corners below the plane", plane(0, 0, 0, 0, 1, -1, 0, 2, 0, 1, 0, 0), subdivision{
			cells: [][]int{{0, 1, 3}, {1, 2, 3}}, polygons: [][]impl.Point{points(0, 0, 1, 0, 0, 1), points(0, 1, 1, 0, 0, 2)}, areas: []int{1, 1},
			edges: [][]int{{0, 1}, {0, 3}, {1, 2}, {1, 3}, {2, 3}}, inner: [][]int{{1, 3}}, lengths: one}},
		// The inner edge has the point of the term 3 between its ends, and both cells have this term.
		{"two flat triangles with a point between the corners of both", plane(0, 0, 1, 0, 2, 0, 1, 0, 7, 1, 1, 0, 2, 0, 0, 2, 2, 1), subdivision{
			cells: [][]int{{0, 1, 3, 4}, {1, 3, 4, 5}}, polygons: [][]impl.Point{points(0, 0, 2, 0, 0, 2), points(0, 2, 2, 0, 2, 2)}, areas: []int{4, 4},
			edges: [][]int{{0, 1}, {0, 4}, {1, 4}, {1, 5}, {4, 5}}, inner: [][]int{{1, 4}}, lengths: []int{2, 2, 2, 2, 2}, unused: []int{2}}},
		{"a triangle beside a square", plane(0, 0, 0, 0, 1, 0, 1, 0, 0, 1, 1, 0, 2, 0, 3), subdivision{
			cells: [][]int{{0, 1, 2, 3}, {2, 3, 4}}, polygons: [][]impl.Point{points(0, 0, 1, 0, 1, 1, 0, 1), points(1, 0, 2, 0, 1, 1)}, areas: []int{2, 1},
			edges: [][]int{{0, 1}, {0, 2}, {1, 3}, {2, 3}, {2, 4}, {3, 4}}, inner: [][]int{{2, 3}}, lengths: []int{1, 1, 1, 1, 1, 1}}},
		{"a smooth conic", plane(0, 0, 0, 0, 1, 1, 0, 2, 4, 1, 0, 1, 1, 1, 3, 2, 0, 4), subdivision{
			cells: [][]int{{0, 1, 3}, {1, 2, 4}, {1, 3, 4}, {3, 4, 5}}, polygons: [][]impl.Point{points(0, 0, 1, 0, 0, 1), points(0, 1, 1, 1, 0, 2), points(0, 1, 1, 0, 1, 1), points(1, 0, 2, 0, 1, 1)}, areas: []int{1, 1, 1, 1},
			edges: [][]int{{0, 1}, {0, 3}, {1, 2}, {1, 3}, {1, 4}, {2, 4}, {3, 4}, {3, 5}, {4, 5}}, inner: [][]int{{1, 3}, {1, 4}, {3, 4}}, lengths: []int{1, 1, 1, 1, 1, 1, 1, 1, 1}}},
		{"cells whose order is not that of their first three terms", plane(0, 0, 0, 0, 1, 0, 0, 2, 0, 1, 0, 0, 1, 2, 1), subdivision{
			cells: [][]int{{0, 1, 2, 3}, {2, 3, 4}}, polygons: [][]impl.Point{points(0, 0, 1, 0, 0, 2), points(0, 2, 1, 0, 1, 2)}, areas: []int{2, 2},
			edges: [][]int{{0, 2}, {0, 3}, {2, 3}, {2, 4}, {3, 4}}, inner: [][]int{{2, 3}}, lengths: []int{2, 1, 1, 1, 2}}},
	}
}

func TestNamedSubdivisions(t *testing.T) {
	for _, c := range append(flatSubdivisions(), bentSubdivisions()...) {
		if !impl.IsPlane(c.terms) {
			t.Error("is no plane polynomial:", c.name)
		}
		checkSubdivision(t, c.terms, c.subdivision, true)
		if fmt.Sprint(subdivisionByValues(c.terms)) != fmt.Sprint(c.subdivision) {
			t.Error(c.name, "is by values", subdivisionByValues(c.terms))
		}
	}
}

func TestTriangulatedAndSmooth(t *testing.T) {
	for _, c := range []struct {
		l                []impl.Term
		isTriangulated   bool
		isSmooth         bool
		numberOfAllCells int
	}{
		// Without cells there is none with more than three terms, but also none with the double area 1.
		{plane(0, 0, 0), true, false, 0}, {plane(0, 0, 0, 0, 1, 0), true, false, 0}, {plane(0, 0, 0, 1, 1, 3, 2, 2, 0), true, false, 0},
		{plane(0, 0, 0, 0, 1, 0, 1, 0, 0), true, true, 1}, {plane(0, 0, 0, 0, 2, 0, 1, 0, 0), true, false, 1}, {plane(0, 0, 0, 0, 1, 0, 1, 0, 0, 1, 1, 5), true, true, 2}, {plane(0, 0, 0, 0, 1, 0, 1, 0, 0, 1, 1, 0), false, false, 1},
		// One cell of several is the one that has more terms, or a greater area.
		{plane(0, 0, 0, 0, 1, 0, 1, 0, 0, 1, 1, 0, 2, 0, 3), false, false, 2}, {plane(0, 0, 3, 0, 1, 0, 1, 0, 0, 1, 1, 0), true, true, 2}, {plane(0, 0, 1, 0, 1, 0, 1, 0, 0, 2, 1, 0), true, false, 2}, {plane(0, 0, 0, 0, 1, 0, 1, 0, 0, 1, 2, 9), true, false, 2},
		{degreePlane(3, round), true, true, 9}, {degreePlane(2, round), true, true, 4}, {degreePlane(3, func(impl.Term) int { return 0 }), false, false, 1}, {degreePlane(3, func(t impl.Term) int { return t.I*t.I + t.J*t.J }), false, false, 6}, {degreePlane(3, func(t impl.Term) int { return -round(t) }), true, false, 1},
		// Terms above all planes are in no cell, so that a cell around them may have just three terms, but not the double area 1.
		{plane(0, 0, 0, 0, 3, 0, 1, 1, 5, 3, 0, 0), true, false, 1}, {plane(0, 0, 0, 0, 1, 9, 0, 2, 0, 1, 0, 0), true, false, 1},
	} {
		is, ok := impl.IsTriangulated(c.l)
		checkFlag(t, fmt.Sprint("IsTriangulated", c.l), is, ok, c.isTriangulated, true)
		is, ok = impl.IsSmooth(c.l)
		checkFlag(t, fmt.Sprint("IsSmooth", c.l), is, ok, c.isSmooth, true)
		cells, ok := impl.CellsOf(c.l)
		checkNumber(t, fmt.Sprint("CellsOf", c.l), len(cells), ok, c.numberOfAllCells, true)
	}
}

func TestManySubdivisions(t *testing.T) {
	triangulated, smooth, unused, inner, flat := [2]int{}, [2]int{}, [2]int{}, [2]int{}, [2]int{}
	for _, l := range manySubdivided() {
		want := subdivisionByValues(l)
		checkSubdivision(t, l, want, true)
		countOf(&triangulated, want.isTriangulated())
		countOf(&smooth, want.isSmooth())
		countOf(&unused, len(want.unused) > 0)
		countOf(&inner, len(want.inner) > 0)
		countOf(&flat, len(want.cells) == 0)
	}
	for name, counts := range map[string][2]int{"triangulated": triangulated, "smooth": smooth, "with unused terms": unused, "with inner edges": inner, "without cells": flat} {
		if min(counts[0], counts[1]) < 30 {
			t.Error("too few are", name, "or too few are not:", counts)
		}
	}
}

// Guarantee 7: the areas of all cells are together that of the Newton polygon.
func TestAreasOfCellsAreThatOfTheNewtonPolygon(t *testing.T) {
	for _, l := range manySubdivided() {
		hull, ok := impl.NewtonPolygon(l)
		checkList(t, fmt.Sprint("NewtonPolygon", l), hull, ok, hullBySides(pointsAt(l, allIndices(l))), true)
		area, isPolygon := impl.DoubleArea(hull)
		areas, ok := impl.CellAreas(l)
		sum := 0
		for n, part := range areas {
			polygon, isCell := impl.CellPolygon(l, n)
			ofPolygon, isArea := impl.DoubleArea(polygon)
			checkNumber(t, fmt.Sprint("DoubleArea of CellPolygon", l, n), ofPolygon, isCell && isArea, part, true)
			sum += part
		}
		checkNumber(t, fmt.Sprint("the sum of CellAreas", l), sum, ok, area, isPolygon)
	}
}

// The cells cover the Newton polygon: each lattice point in it is in the polygon of a cell, and each one inside of such a polygon is in no other one.
func TestCellsCoverTheNewtonPolygon(t *testing.T) {
	for _, l := range manySubdivided() {
		hull, _ := impl.NewtonPolygon(l)
		cells, _ := impl.CellsOf(l)
		for _, term := range allExponents() {
			counts := [3]int{}
			p := impl.Point{X: term.I, Y: term.J}
			for n := range cells {
				polygon, _ := impl.CellPolygon(l, n)
				counts[placeOf(polygon, p)]++
			}
			isIn := len(cells) > 0 && placeOf(hull, p) != outside
			if isIn != (counts[inside]+counts[onBoundary] > 0) || counts[inside] > 1 || counts[inside] == 1 && counts[onBoundary] > 0 {
				t.Error("the point is in too few cells, or in too many:", l, p, counts)
			}
		}
	}
}

// Each side of a cell is an inner edge, and that of another cell too, or it is on the boundary of the Newton polygon, and no inner one is.
func TestEdgesThatAreNotInnerAreOnTheBoundary(t *testing.T) {
	for _, l := range manySubdivided() {
		hull, _ := impl.NewtonPolygon(l)
		edges, _ := impl.EdgesOfCells(l)
		inner, _ := impl.InnerEdges(l)
		for _, edge := range edges {
			ends := pointsAt(l, edge)
			onSide := false
			for n, corner := range hull {
				after := hull[(n+1)%len(hull)]
				onSide = onSide || isBetween(corner, after, ends[0]) && isBetween(corner, after, ends[1])
			}
			isInner := slices.ContainsFunc(inner, func(other []int) bool { return slices.Equal(edge, other) })
			if isInner == onSide {
				t.Error("is inner and on the boundary, or none of both:", l, edge)
			}
		}
	}
}

func TestNewtonPolygon(t *testing.T) {
	for _, c := range []struct {
		l    []impl.Term
		want []impl.Point
	}{
		{plane(2, 3, 5), points(2, 3)}, {plane(0, 0, 1, 0, 6, 1), points(0, 0, 0, 6)}, {plane(0, 3, 1, 1, 2, 9, 3, 0, 1), points(0, 3, 3, 0)}, {plane(0, 0, 0, 0, 1, 0, 1, 0, 0, 1, 1, 5), points(0, 0, 1, 0, 1, 1, 0, 1)},
		// Terms that are in no cell count too, as they are in the hull all the same.
		{plane(0, 0, 0, 0, 3, 0, 1, 1, most, 3, 0, 0), points(0, 0, 3, 0, 0, 3)}, {plane(1, 1, most, 1, 2, -most, 2, 1, most), points(1, 1, 2, 1, 1, 2)}, {plane(0, 0, 0, 0, 6, 0, 6, 0, 0), points(0, 0, 6, 0, 0, 6)}, {plane(0, 2, 0, 1, 0, 0, 1, 5, 0, 3, 1, 0, 4, 2, 0), points(0, 2, 1, 0, 3, 1, 4, 2, 1, 5)},
		{allExponents()[:12], points(0, 0, 1, 0, 1, 4, 0, 6)},
	} {
		got, ok := impl.NewtonPolygon(c.l)
		checkList(t, fmt.Sprint("NewtonPolygon", c.l), got, ok, c.want, true)
	}
}

// checkSame fails the test unless HaveSameCells tells the same of two plane polynomials in both orders.
func checkSame(t *testing.T, a []impl.Term, b []impl.Term, want bool, wantOK bool) {
	t.Helper()
	got, ok := impl.HaveSameCells(a, b)
	checkFlag(t, fmt.Sprint("HaveSameCells", a, b), got, ok, want, wantOK)
	got, ok = impl.HaveSameCells(b, a)
	checkFlag(t, fmt.Sprint("HaveSameCells", b, a), got, ok, want, wantOK)
}

func TestHaveSameCells(t *testing.T) {
	square := func(c int) []impl.Term { return plane(0, 0, 0, 0, 1, 0, 1, 0, 0, 1, 1, c) }
	for _, c := range []struct {
		a, b []impl.Term
		want bool
	}{
		// Equal cells with other coefficients.
		{square(5), square(5), true}, {square(5), square(1), true}, {square(5), square(most), true}, {square(-5), square(-most), true}, {square(0), plane(0, 0, 4, 0, 1, 7, 1, 0, -2, 1, 1, 1), true}, {plane(3, 1, 4), plane(3, 1, -9), true}, {plane(0, 0, 2, 0, 3, 2, 1, 1, 3, 3, 0, 2), plane(0, 0, 2, 0, 3, 2, 1, 1, most, 3, 0, 2), true},
		{plane(0, 0, 0, 0, 1, 1), plane(0, 0, 5, 0, 1, -most), true}, {plane(0, 0, 0, 1, 1, 1, 2, 2, 0), plane(0, 0, 0, 1, 1, -1, 2, 2, 0), true}, {degreePlane(3, round), degreePlane(3, func(t impl.Term) int { return 3*round(t) + t.I }), true},
		// The same points in different cells.
		{square(5), square(-5), false}, {square(5), square(0), false}, {square(0), square(-1), false}, {plane(0, 0, 2, 0, 3, 2, 1, 1, 3, 3, 0, 2), plane(0, 0, 2, 0, 3, 2, 1, 1, 2, 3, 0, 2), false}, {plane(0, 0, 2, 0, 3, 2, 1, 1, 1, 3, 0, 2), plane(0, 0, 2, 0, 3, 2, 1, 1, 2, 3, 0, 2), false}, {degreePlane(3, round), degreePlane(3, func(t impl.Term) int { return t.I*t.I + t.J*t.J }), false},
		// Equal cells of other points, also where there are none of them.
		{plane(0, 0, 0, 0, 1, 0, 1, 0, 0), plane(0, 0, 0, 0, 2, 0, 1, 0, 0), false}, {square(5), plane(0, 0, 0, 0, 1, 0, 1, 0, 0, 2, 1, 5), false}, {square(5), plane(1, 0, 0, 1, 1, 0, 2, 0, 0, 2, 1, 5), false}, {plane(0, 0, 0), plane(0, 1, 0), false}, {plane(0, 0, 0, 0, 1, 0), plane(0, 0, 0, 1, 0, 0), false}, {plane(0, 0, 0, 0, 1, 0), plane(0, 0, 0, 0, 2, 0), false},
		// Another number of terms, with equal cells or others.
		{plane(0, 0, 0, 0, 1, 0, 1, 0, 0), square(5), false}, {plane(0, 0, 0), plane(0, 0, 0, 0, 1, 0), false}, {plane(0, 0, 0, 0, 2, 0, 2, 0, 0), plane(0, 0, 0, 0, 2, 0, 2, 0, 0, 3, 0, 9), false}, {plane(0, 0, 0, 0, 3, 0, 3, 0, 0), plane(0, 0, 0, 0, 3, 0, 3, 0, 0, 3, 1, 9), false},
	} {
		checkSame(t, c.a, c.b, c.want, true)
	}
}

func TestHaveSameCellsOfManyPlanes(t *testing.T) {
	counts := [2]int{}
	planes := manySubdivided()
	for n, a := range planes {
		others := [][]impl.Term{a, planes[(n*7+3)%len(planes)], withCoefficients(a, func(int) int { return 0 }), withCoefficients(a, func(i int) int { return (i * n) % 5 })}
		for _, by := range [][2]int{{1, 2}, {-most / 12, 3}, {5, -7}} {
			// The cells stay as they are when the curve is moved.
			if moved, ok := impl.MovePlane(a, by[0], by[1]); ok {
				checkSame(t, a, moved, true, true)
			}
		}
		for _, b := range others {
			want := slices.Equal(pointsAt(a, allIndices(a)), pointsAt(b, allIndices(b))) && slices.EqualFunc(cellsByValues(a), cellsByValues(b), slices.Equal[[]int])
			checkSame(t, a, b, want, true)
			countOf(&counts, want)
		}
	}
	if min(counts[0], counts[1]) < 300 {
		t.Error("too few are the same, or too few are not:", counts)
	}
}

func TestIndicesBeyondAllCellsAndTerms(t *testing.T) {
	for _, l := range [][]impl.Term{plane(0, 0, 0, 0, 1, 0, 1, 0, 0, 1, 1, 5), plane(0, 0, 0), plane(0, 0, 0, 0, 6, 0, 6, 0, 0), degreePlane(3, round), allExponents()[:12]} {
		cells := cellsByValues(l)
		for _, n := range append(edgeNumbers(), 4, 6, 8, 9, 10, 11, 12, 13) {
			if n < 0 || n >= len(cells) {
				got, ok := impl.CellPolygon(l, n)
				checkList(t, fmt.Sprint("CellPolygon", l, n), got, ok, nil, false)
			}
			if n < 0 || n >= len(l) {
				for _, pair := range [][2]int{{n, 0}, {0, n}, {n, 1}, {1, n}, {n, n}, {-1, n}, {n, len(l) - 1}, {n, math.MaxInt}, {math.MinInt, n}} {
					got, ok := impl.EdgeLength(l, pair[0], pair[1])
					checkNumber(t, fmt.Sprint("EdgeLength", l, pair), got, ok, 0, false)
				}
			}
		}
	}
}

func TestSubdivisionsOfBadPlanes(t *testing.T) {
	square := plane(0, 0, 0, 0, 1, 0, 1, 0, 0, 1, 1, 5)
	for _, bad := range badPlanes() {
		checkSubdivision(t, bad, subdivision{}, false)
		hull, ok := impl.NewtonPolygon(bad)
		checkList(t, fmt.Sprint("NewtonPolygon", bad), hull, ok, nil, false)
		for _, other := range [][]impl.Term{square, plane(0, 0, 0), bad, nil, badPlanes()[2]} {
			checkSame(t, bad, other, false, false)
		}
	}
}
