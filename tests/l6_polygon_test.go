package tests

import (
	"cmp"
	"fmt"
	"math"
	"slices"
	"strings"
	"testing"

	"loop.example/g01056/impl"
)

const (
	mostCoord  = 100
	mostPoints = 40
)

// points returns a list of points from their coordinates, two numbers each.
func points(numbers ...int) []impl.Point {
	var l []impl.Point
	for n := 0; n < len(numbers); n += 2 {
		l = append(l, impl.Point{X: numbers[n], Y: numbers[n+1]})
	}
	return l
}

// pointsInRow returns so many points that begin at a point and have the same step between each two of them.
func pointsInRow(count int, from impl.Point, step impl.Point) []impl.Point {
	var l []impl.Point
	for n := range count {
		l = append(l, impl.Point{X: from.X + n*step.X, Y: from.Y + n*step.Y})
	}
	return l
}

// movedPoints returns all points with the same step added to each one.
func movedPoints(l []impl.Point, by impl.Point) []impl.Point {
	var there []impl.Point
	for _, p := range l {
		there = append(there, impl.Point{X: p.X + by.X, Y: p.Y + by.Y})
	}
	return there
}

func orderOfPoints(a impl.Point, b impl.Point) int {
	return cmp.Or(cmp.Compare(a.X, b.X), cmp.Compare(a.Y, b.Y))
}

// sideOf is positive if r is at the left of the way from p to q, negative if it is at the right, and 0 if it is on the line through both.
func sideOf(p impl.Point, q impl.Point, r impl.Point) int {
	return (q.X-p.X)*(r.Y-p.Y) - (q.Y-p.Y)*(r.X-p.X)
}

// isBetween reports whether r is on the segment from p to q.
func isBetween(p impl.Point, q impl.Point, r impl.Point) bool {
	inX := min(p.X, q.X) <= r.X && r.X <= max(p.X, q.X)
	inY := min(p.Y, q.Y) <= r.Y && r.Y <= max(p.Y, q.Y)
	return inX && inY && sideOf(p, q, r) == 0
}

// hullBySides says again what the hull of any points is: they have a side from p to q if none of them is at its right, or on its line but not between both.
func hullBySides(l []impl.Point) []impl.Point {
	first := slices.MinFunc(l, orderOfPoints)
	next := map[impl.Point]impl.Point{}
	for _, p := range l {
		for _, q := range l {
			isOut := func(r impl.Point) bool {
				side := sideOf(p, q, r)
				return side < 0 || side == 0 && !isBetween(p, q, r)
			}
			if p != q && !slices.ContainsFunc(l, isOut) {
				next[p] = q
			}
		}
	}
	hull := []impl.Point{first}
	for len(next) > 0 && next[hull[len(hull)-1]] != first {
		hull = append(hull, next[hull[len(hull)-1]])
	}
	return hull
}

// A point is outside, on the boundary or inside of a polygon.
const (
	outside = iota
	onBoundary
	inside
)

// placeOf says where a point is, side by side.
func placeOf(l []impl.Point, p impl.Point) int {
	place := inside
	for n, corner := range l {
		after := l[(n+1)%len(l)]
		if isBetween(corner, after, p) {
			return onBoundary
		}
		if len(l) < 3 || sideOf(corner, after, p) < 0 {
			place = outside
		}
	}
	return place
}

// countPlaces counts the lattice points on the boundary and inside, one by one.
func countPlaces(l []impl.Point) (int, int) {
	counts := [3]int{}
	for x := l[0].X; x <= slices.MaxFunc(l, orderOfPoints).X; x++ {
		for y := -mostCoord; y <= mostCoord; y++ {
			counts[placeOf(l, impl.Point{X: x, Y: y})]++
		}
	}
	return counts[onBoundary], counts[inside]
}

// areaByTriangles says again what the double area is: that of all triangles with the first corner.
func areaByTriangles(l []impl.Point) int {
	area := 0
	for n := 2; n < len(l); n++ {
		area += sideOf(l[0], l[n-1], l[n])
	}
	return area
}

// directions returns all steps without a common divisor that are not longer than so much in X and Y, one of each two opposite ones, by their angles.
func directions(longest int) []impl.Point {
	steps := points(0, 1)
	for x := 1; x <= longest; x++ {
		for y := -longest; y <= longest; y++ {
			isPrimitive := true
			for divisor := 2; divisor <= x; divisor++ {
				isPrimitive = isPrimitive && (x%divisor != 0 || y%divisor != 0)
			}
			if isPrimitive {
				steps = append(steps, impl.Point{X: x, Y: y})
			}
		}
	}
	slices.SortFunc(steps, func(a impl.Point, b impl.Point) int { return -sideOf(impl.Point{}, a, b) })
	return steps
}

// roundPolygon returns the polygon from a point on with two opposite edges for each step of a list that is in the order of directions.
func roundPolygon(from impl.Point, steps []impl.Point) []impl.Point {
	l := []impl.Point{from}
	for _, sign := range []int{1, -1} {
		for _, step := range steps {
			last := l[len(l)-1]
			l = append(l, impl.Point{X: last.X + sign*step.X, Y: last.Y + sign*step.Y})
		}
	}
	return l[:len(l)-1]
}

// without returns all steps but some.
func without(steps []impl.Point, some ...impl.Point) []impl.Point {
	return slices.DeleteFunc(slices.Clone(steps), func(step impl.Point) bool { return slices.Contains(some, step) })
}

// twentySteps returns 20 directions, among them those of both axes and of 1, 1, but not 1, -1.
func twentySteps() []impl.Point {
	steps := without(directions(4), points(1, -1, 4, 3, 3, 4, 3, -4)...)
	if len(steps) != 20 {
		panic("there are not 20 steps")
	}
	return steps
}

// mixedUp returns the same points in another order.
func mixedUp(l []impl.Point) []impl.Point {
	var other []impl.Point
	for n := range l {
		other = slices.Insert(other, (n*7+3)%(n+1), l[n])
	}
	return other
}

// gridLists returns all lists of points of a grid of 3 times 3 points.
func gridLists() [][]impl.Point {
	var lists [][]impl.Point
	for set := 1; set < 512; set++ {
		var l []impl.Point
		for n := range 9 {
			if set>>n&1 == 1 {
				l = append(l, impl.Point{X: n/3 - 1, Y: n%3 - 1})
			}
		}
		lists = append(lists, l)
	}
	return lists
}

// scatteredLists returns lists of 1..MaxPoints points whose coordinates follow no plain rule and are at most so great.
func scatteredLists(greatest int) [][]impl.Point {
	var lists [][]impl.Point
	state := 12345 + greatest
	coordinate := func() int {
		state = (state*1103515245 + 12345) % 2147483648
		return state/65536%(2*greatest+1) - greatest
	}
	for count := 1; count <= mostPoints; count++ {
		var l []impl.Point
		for range count {
			l = append(l, impl.Point{X: coordinate(), Y: coordinate()})
		}
		lists = append(lists, l)
	}
	return lists
}

// smallPolygons returns all polygons with corners in a grid of 3 times 3 points.
func smallPolygons() [][]impl.Point {
	var polygons [][]impl.Point
	seen := map[string]bool{}
	for _, l := range gridLists() {
		hull := hullBySides(l)
		if text := fmt.Sprint(hull); !seen[text] {
			seen[text] = true
			polygons = append(polygons, hull)
		}
	}
	return polygons
}

// greatPolygons returns polygons with points, segments and corners at the limits, with the most corners, and with scattered ones.
func greatPolygons() [][]impl.Point {
	m := mostCoord
	polygons := [][]impl.Point{
		points(m, m), points(-m, -m), points(m, -m), points(-m, m), points(-m, 0, m, 0), points(0, -m, 0, m), points(-m, -m, m, m), points(-m, m, m, -m), points(-m, 1, m, 0), points(m-1, m, m, -m),
		points(-m, -m, m, -m, m, m, -m, m), points(-m, -m, m, -m, m, m), points(-m, 0, 0, -m, m, 0, 0, m), points(-m, m-1, m, m, 99-m, m), points(0, 0, 3, 1, 1, 2), points(-5, 7, 2, -9, 40, -3, 33, 20, -1, 25),
		roundPolygon(points(-50, 0)[0], twentySteps()), roundPolygon(points(-50, 0)[0], directions(2)), roundPolygon(points(-5, 0)[0], directions(1)), roundPolygon(points(20, 30)[0], without(directions(3), points(0, 1)...)),
	}
	for _, greatest := range []int{5, 30, m} {
		for n, l := range scatteredLists(greatest) {
			if n%4 == 2 {
				polygons = append(polygons, hullBySides(l))
			}
		}
	}
	return polygons
}

func goodPolygons() [][]impl.Point {
	return append(smallPolygons(), greatPolygons()...)
}

// badPoints returns points with a coordinate that is too great or too small.
func badPoints() []impl.Point {
	var l []impl.Point
	for _, n := range append(edgeNumbers(), -mostCoord-1, mostCoord+1, 2*mostCoord) {
		if n < -mostCoord || n > mostCoord {
			l = append(l, points(n, 0, 0, n, n, n, n, -5, 100, n)...)
		}
	}
	return append(l, points(math.MaxInt, math.MinInt, math.MinInt, math.MaxInt)...)
}

// badPointLists returns lists that have no hull: without points, with too many, or with one that is none.
func badPointLists() [][]impl.Point {
	full := pointsInRow(mostPoints, impl.Point{X: -20, Y: 3}, impl.Point{X: 1})
	lists := [][]impl.Point{nil, {}, append(slices.Clone(full), full[39]), append(slices.Clone(full), points(0, 0)...), slices.Repeat(points(1, 2), mostPoints+1), slices.Repeat(full, 50)}
	for _, bad := range badPoints() {
		lists = append(lists, []impl.Point{bad}, []impl.Point{{}, bad}, []impl.Point{bad, {}}, []impl.Point{{}, {X: 2}, bad, {Y: 2}}, []impl.Point{bad, bad}, append(slices.Clone(full[:39]), bad))
	}
	return lists
}

// nearlyPolygons returns lists of points that are no polygons: with another order, with points twice, or with points that are no corners.
func nearlyPolygons() [][]impl.Point {
	lists := [][]impl.Point{
		points(0, 0, 0, 0), points(2, 0, 0, 0), points(0, 2, 0, 0), points(0, 0, 1, 0, 2, 0), points(0, 0, 2, 0, 1, 0), points(0, 0, 2, 0, 0, 0), points(0, 0, 1, 1, 2, 2), points(0, 0, 0, 1, 0, 2), points(0, 2, 2, 0, 1, 1),
		points(0, 0, 0, 2, 2, 0), points(2, 0, 0, 2, 0, 0), points(0, 2, 0, 0, 2, 0), points(0, 0, 1, 0, 2, 0, 0, 2), points(0, 0, 2, 0, 1, 1, 0, 2), points(0, 0, 2, 0, 0, 2, 0, 1), points(0, 0, 2, 0, 0, 2, 0, 0),
		points(0, 0, 3, 0, 3, 3, 1, 1), points(0, 0, 4, 0, 1, 1, 0, 4), points(0, 0, 2, 2, 2, 0, 0, 2), points(0, 0, 2, 0, 0, 2, 2, 2), points(0, 0, 4, 1, 1, 4, 2, 0, 3, 5),
		slices.Repeat(points(1, 1), mostPoints), slices.Repeat(points(0, 0, 2, 0, 0, 2), 2), pointsInRow(mostPoints, impl.Point{X: -20}, impl.Point{X: 1, Y: 1}),
	}
	for _, l := range goodPolygons() {
		backwards := slices.Clone(l)
		slices.Reverse(backwards)
		for n := range l {
			if n > 0 {
				lists = append(lists, slices.Concat(l[n:], l[:n]))
			}
			// A point and a segment are the same the other way around.
			if len(l) > 2 {
				lists = append(lists, slices.Concat(backwards[n:], backwards[:n]))
			}
		}
		lists = append(lists, append(slices.Clone(l), l[0]), append(slices.Clone(l), l[len(l)-1]))
	}
	return lists
}

// badPolygons returns lists that are no polygons.
func badPolygons() [][]impl.Point {
	return append(badPointLists(), nearlyPolygons()...)
}

func TestLimitsOfPoints(t *testing.T) {
	if impl.MaxCoord != mostCoord || impl.MaxPoints != mostPoints {
		t.Error("limits", impl.MaxCoord, impl.MaxPoints)
	}
}

func TestIsPoint(t *testing.T) {
	for _, x := range append(edgeNumbers(), -101, -100, -99, 99, 100, 101) {
		for _, y := range append(edgeNumbers(), -101, -100, -99, 99, 100, 101) {
			want := -100 <= x && x <= 100 && -100 <= y && y <= 100
			if impl.IsPoint(impl.Point{X: x, Y: y}) != want {
				t.Error("IsPoint", x, y, !want)
			}
		}
	}
}

// checkHull fails the test unless points have a hull, in whatever order they are, also with points twice.
func checkHull(t *testing.T, l []impl.Point, want []impl.Point) {
	t.Helper()
	backwards := slices.Clone(l)
	slices.Reverse(backwards)
	for _, other := range [][]impl.Point{l, backwards, mixedUp(l), slices.Concat(l, l), slices.Concat(l[:1], backwards), slices.Concat(l, l[len(l)/2:])} {
		if len(other) > mostPoints {
			continue
		}
		got, ok := impl.HullOf(other)
		checkList(t, fmt.Sprint("HullOf", other), got, ok, want, true)
	}
}

func TestHullOf(t *testing.T) {
	m := mostCoord
	for _, c := range []struct{ l, want []impl.Point }{
		{points(0, 0), points(0, 0)}, {points(m, -m), points(m, -m)}, {points(3, 4, 3, 4), points(3, 4)}, {slices.Repeat(points(-7, 2), mostPoints), points(-7, 2)},
		{points(0, 0, 2, 0), points(0, 0, 2, 0)}, {points(2, 0, 0, 0), points(0, 0, 2, 0)}, {points(1, 5, 1, -3), points(1, -3, 1, 5)}, {points(0, 3, 2, -1, 0, 3), points(0, 3, 2, -1)}, {points(-m, m, m, -m), points(-m, m, m, -m)},
		{points(2, 0, 0, 0, 1, 0), points(0, 0, 2, 0)}, {points(0, 1, 0, 0, 0, 2, 0, 1), points(0, 0, 0, 2)}, {points(1, 1, 3, 3, 2, 2, -4, -4), points(-4, -4, 3, 3)}, {points(0, 3, 1, 2, 3, 0, 2, 1), points(0, 3, 3, 0)}, {points(4, 2, 0, 0, 2, 1, 6, 3), points(0, 0, 6, 3)}, {points(0, 9, 1, 6, 2, 3, 3, 0), points(0, 9, 3, 0)}, {points(0, 0, 1, 5, 2, 10), points(0, 0, 2, 10)},
		{points(0, 2, 1, 0, 2, 0, 0, 0), points(0, 0, 2, 0, 0, 2)}, {points(0, 0, 0, 2, 2, 0), points(0, 0, 2, 0, 0, 2)}, {points(2, 2, 0, 2, 2, 0, 0, 0, 1, 1), points(0, 0, 2, 0, 2, 2, 0, 2)}, {points(0, 0, 0, 1, 0, 2, 1, 0, 1, 1, 1, 2, 2, 0, 2, 1, 2, 2), points(0, 0, 2, 0, 2, 2, 0, 2)},
		{points(0, 5, 1, 0, 3, 9, -2, 4), points(-2, 4, 1, 0, 3, 9)}, {points(0, 0, 1, 0, 0, 1, -1, 0, 0, -1), points(-1, 0, 0, -1, 1, 0, 0, 1)}, {points(0, 0, 4, 0, 2, 1, 2, -1), points(0, 0, 2, -1, 4, 0, 2, 1)}, {points(0, 0, 4, 0, 2, 1, 2, 3), points(0, 0, 4, 0, 2, 3)}, {points(0, 0, 3, 1, 1, 2, 1, 1, 2, 1), points(0, 0, 3, 1, 1, 2)},
		{points(-m, -m, m, -m, m, m, -m, m, 0, 0, m, 0, 0, m), points(-m, -m, m, -m, m, m, -m, m)}, {points(-m, m, m, m, 0, m-1), points(-m, m, 0, m-1, m, m)}, {points(-m, -m, m, m, 0, 1), points(-m, -m, m, m, 0, 1)}, {points(-m, -m, m, m, 1, 0), points(-m, -m, 1, 0, m, m)},
	} {
		checkHull(t, c.l, c.want)
	}
	for _, bad := range badPointLists() {
		got, ok := impl.HullOf(bad)
		checkList(t, fmt.Sprint("HullOf", bad), got, ok, nil, false)
	}
}

func TestHullsOfPointsOnOneLine(t *testing.T) {
	for _, step := range append(directions(2), points(0, -1, -1, 0, -1, -1, -2, 1, 5, 2, -3, 5)...) {
		for _, count := range []int{2, 3, 5, 19} {
			l := pointsInRow(count, impl.Point{X: 3, Y: -2}, step)
			ends := []impl.Point{l[0], l[count-1]}
			slices.SortFunc(ends, orderOfPoints)
			checkHull(t, l, ends)
		}
	}
	for _, step := range points(1, 0, 0, 1, 0, 2, 1, 1, 1, -1, 2, -1, 2, 2) {
		l := pointsInRow(mostPoints, impl.Point{X: 10, Y: -3}, step)
		checkHull(t, l, []impl.Point{l[0], l[39]})
	}
}

func TestHullsOfManyLists(t *testing.T) {
	lists := gridLists()
	for _, greatest := range []int{2, 4, 20, mostCoord} {
		lists = append(lists, scatteredLists(greatest)...)
	}
	for _, l := range lists {
		checkHull(t, l, hullBySides(l))
	}
}

// Guarantee 6: hulls have all points, and are polygons of some of them.
func TestHullsHaveAllPoints(t *testing.T) {
	lists := append(gridLists(), append(scatteredLists(3), scatteredLists(mostCoord)...)...)
	for _, l := range lists {
		hull, ok := impl.HullOf(l)
		if !ok || !impl.IsPolygon(hull) {
			t.Error("has no hull, or this is no polygon:", l, hull)
		}
		for _, p := range l {
			has, ok := impl.HasPoint(hull, p)
			checkFlag(t, fmt.Sprint("HasPoint", hull, p), has, ok, true, true)
		}
		for _, corner := range hull {
			if !slices.Contains(l, corner) {
				t.Error("a corner is no point of the list:", l, corner)
			}
		}
		again, ok := impl.HullOf(hull)
		checkList(t, fmt.Sprint("HullOf", hull), again, ok, hull, true)
	}
}

func TestIsPolygon(t *testing.T) {
	for _, l := range append(goodPolygons(), points(0, 0), points(0, 0, 2, 0), points(0, 0, 0, 2), points(0, 2, 2, 0), points(0, 0, 2, 0, 0, 2), points(0, 0, 2, 0, 2, 2, 0, 2)) {
		if !impl.IsPolygon(l) {
			t.Error("is no polygon:", l)
		}
	}
	for _, l := range badPolygons() {
		if impl.IsPolygon(l) {
			t.Error("is a polygon:", l)
		}
	}
	count := 0
	for _, l := range goodPolygons() {
		if len(l) == mostPoints {
			count++
		}
	}
	if count < 1 {
		t.Error("no polygon has the most corners")
	}
}

func TestAreasAndPoints(t *testing.T) {
	m := mostCoord
	for _, c := range []struct {
		l                    []impl.Point
		area, border, inside int
	}{
		{points(0, 0), 0, 1, 0}, {points(m, -m), 0, 1, 0}, {points(0, 0, 1, 0), 0, 2, 0}, {points(0, 0, 2, 0), 0, 3, 0}, {points(0, -3, 0, 5), 0, 9, 0}, {points(0, 0, 2, 1), 0, 2, 0}, {points(0, 6, 4, 0), 0, 3, 0}, {points(-4, -4, 2, 5), 0, 4, 0}, {points(-m, m, m, -m), 0, 201, 0}, {points(-m, 1, m, 0), 0, 2, 0}, {points(0, 3, 6, 6), 0, 4, 0},
		{points(0, 0, 2, 0, 0, 2), 4, 6, 0}, {points(0, 0, 1, 0, 0, 1), 1, 3, 0}, {points(0, 0, 3, 0, 0, 3), 9, 9, 1}, {points(0, 0, 2, 0, 2, 2, 0, 2), 8, 8, 1}, {points(0, 0, 3, 1, 1, 2), 5, 3, 2}, {points(-1, 0, 0, -1, 1, 0, 0, 1), 4, 4, 1}, {points(0, 0, 1, 2, 2, 5), 1, 3, 0}, {points(-1, -1, 2, -1, -1, 2), 9, 9, 1}, {points(-5, -5, -2, -5, -2, -3, -5, -3), 12, 10, 2},
		{points(-m, -m, m, -m, m, m, -m, m), 80000, 800, 39601}, {points(-m, 0, 0, -m, m, 0, 0, m), 40000, 400, 19801}, {points(-m, -m, m, m, m-1, m), 200, 202, 0}, {points(0, 0, m, 1, 99, 1), 1, 3, 0},
	} {
		area, ok := impl.DoubleArea(c.l)
		checkNumber(t, fmt.Sprint("DoubleArea", c.l), area, ok, c.area, true)
		border, ok := impl.BoundaryPoints(c.l)
		checkNumber(t, fmt.Sprint("BoundaryPoints", c.l), border, ok, c.border, true)
		inner, ok := impl.InnerPoints(c.l)
		checkNumber(t, fmt.Sprint("InnerPoints", c.l), inner, ok, c.inside, true)
	}
}

// Guarantee 6: areas follow from the points.
func TestAreasFollowFromThePoints(t *testing.T) {
	flat := 0
	for _, l := range goodPolygons() {
		border, inner := countPlaces(l)
		got, ok := impl.BoundaryPoints(l)
		checkNumber(t, fmt.Sprint("BoundaryPoints", l), got, ok, border, true)
		got, ok = impl.InnerPoints(l)
		checkNumber(t, fmt.Sprint("InnerPoints", l), got, ok, inner, true)
		got, ok = impl.DoubleArea(l)
		checkNumber(t, fmt.Sprint("DoubleArea", l), got, ok, areaByTriangles(l), true)
		if len(l) > 2 {
			checkNumber(t, fmt.Sprint("DoubleArea by points ", l), got, ok, 2*inner+border-2, true)
			continue
		}
		flat++
		checkNumber(t, fmt.Sprint("DoubleArea", l), got, ok, 0, true)
	}
	if flat < 40 {
		t.Error("too few points and segments:", flat)
	}
}

func TestHasPoint(t *testing.T) {
	triangle, round, m := points(0, 0, 4, 0, 0, 4), roundPolygon(impl.Point{X: -20}, twentySteps()), mostCoord
	for _, c := range []struct {
		l    []impl.Point
		p    impl.Point
		want bool
	}{
		{triangle, impl.Point{X: 1, Y: 1}, true}, {triangle, impl.Point{X: 0, Y: 0}, true}, {triangle, impl.Point{X: 4, Y: 0}, true}, {triangle, impl.Point{X: 0, Y: 4}, true}, {triangle, impl.Point{X: 2, Y: 2}, true}, {triangle, impl.Point{X: 2, Y: 0}, true}, {triangle, impl.Point{X: 0, Y: 3}, true},
		{triangle, impl.Point{X: 3, Y: 2}, false}, {triangle, impl.Point{X: -1, Y: 0}, false}, {triangle, impl.Point{X: 5, Y: 0}, false}, {triangle, impl.Point{X: 0, Y: 5}, false}, {triangle, impl.Point{X: 5, Y: -1}, false}, {triangle, impl.Point{X: -1, Y: 5}, false}, {triangle, impl.Point{X: 0, Y: -1}, false}, {triangle, impl.Point{X: m, Y: m}, false}, {triangle, impl.Point{X: -m, Y: -m}, false},
		{points(3, 4), impl.Point{X: 3, Y: 4}, true}, {points(3, 4), impl.Point{X: 4, Y: 3}, false}, {points(3, 4), impl.Point{X: 3, Y: 5}, false}, {points(3, 4), impl.Point{X: 2, Y: 4}, false}, {points(m, m), impl.Point{X: m, Y: m}, true},
		{points(0, 0, 4, 2), impl.Point{X: 0, Y: 0}, true}, {points(0, 0, 4, 2), impl.Point{X: 4, Y: 2}, true}, {points(0, 0, 4, 2), impl.Point{X: 2, Y: 1}, true}, {points(0, 0, 4, 2), impl.Point{X: 6, Y: 3}, false}, {points(0, 0, 4, 2), impl.Point{X: -2, Y: -1}, false}, {points(0, 0, 4, 2), impl.Point{X: 1, Y: 1}, false}, {points(0, 0, 4, 2), impl.Point{X: 3, Y: 1}, false}, {points(0, -2, 0, 2), impl.Point{X: 0, Y: 3}, false}, {points(0, -2, 0, 2), impl.Point{X: 0, Y: -2}, true}, {points(0, -2, 0, 2), impl.Point{X: 0, Y: 1}, true},
		{points(-m, -m, m, m, m-1, m), impl.Point{X: 0, Y: 0}, true}, {points(-m, -m, m, m, m-1, m), impl.Point{X: 0, Y: 1}, false}, {points(-m, -m, m, -m, m, m, -m, m), impl.Point{X: m, Y: m}, true}, {points(-m, -m, m, -m, m, m, -m, m), impl.Point{X: -m, Y: 7}, true}, {round, impl.Point{}, true}, {round, impl.Point{X: -20, Y: 0}, true}, {round, impl.Point{X: -20, Y: 1}, true}, {round, impl.Point{X: -20, Y: 2}, false}, {round, impl.Point{X: -20, Y: -1}, false}, {round, impl.Point{X: -21, Y: 0}, false},
	} {
		if !impl.IsPolygon(c.l) {
			t.Error("is no polygon:", c.l)
		}
		got, ok := impl.HasPoint(c.l, c.p)
		checkFlag(t, fmt.Sprint("HasPoint", c.l, c.p), got, ok, c.want, true)
	}
	for _, bad := range badPoints() {
		for _, l := range goodPolygons() {
			got, ok := impl.HasPoint(l, bad)
			checkFlag(t, fmt.Sprint("HasPoint", l, bad), got, ok, false, false)
		}
	}
}

func TestPolygonsHaveTheirPoints(t *testing.T) {
	for _, l := range smallPolygons() {
		for x := -3; x <= 3; x++ {
			for y := -3; y <= 3; y++ {
				p := impl.Point{X: x, Y: y}
				got, ok := impl.HasPoint(l, p)
				checkFlag(t, fmt.Sprint("HasPoint", l, p), got, ok, placeOf(l, p) != outside, true)
			}
		}
	}
	for n, l := range greatPolygons() {
		for x := -mostCoord + n%3; x <= mostCoord; x += 5 {
			for y := -mostCoord + n%4; y <= mostCoord; y += 4 {
				p := impl.Point{X: x, Y: y}
				got, ok := impl.HasPoint(l, p)
				checkFlag(t, fmt.Sprint("HasPoint", l, p), got, ok, placeOf(l, p) != outside, true)
			}
		}
	}
}

func TestEdgesOf(t *testing.T) {
	m := mostCoord
	for _, c := range []struct{ l, want []impl.Point }{
		{points(0, 0), nil}, {points(-m, m), nil}, {points(0, 0, 2, 0), points(2, 0, -2, 0)}, {points(1, 5, 3, -2), points(2, -7, -2, 7)}, {points(4, -1, 4, 6), points(0, 7, 0, -7)},
		{points(0, 0, 2, 0, 0, 2), points(2, 0, -2, 2, 0, -2)}, {points(5, 7, 8, 8, 6, 9), points(3, 1, -2, 1, -1, -2)}, {points(-1, 0, 0, -1, 1, 0, 0, 1), points(1, -1, 1, 1, -1, 1, -1, -1)},
		// The edges of a polygon are given even where they are longer than any coordinate.
		{points(-m, -m, m, -m, m, m, -m, m), points(200, 0, 0, 200, -200, 0, 0, -200)}, {points(-m, m, m, -m), points(200, -200, -200, 200)}, {points(0, 0, m, 0), points(m, 0, -m, 0)}, {points(-1, 0, m, 0), points(101, 0, -101, 0)},
	} {
		got, ok := impl.EdgesOf(c.l)
		checkList(t, fmt.Sprint("EdgesOf", c.l), got, ok, c.want, true)
	}
	for _, l := range goodPolygons() {
		var want []impl.Point
		for n := 0; n < len(l) && len(l) > 1; n++ {
			after := l[(n+1)%len(l)]
			want = append(want, impl.Point{X: after.X - l[n].X, Y: after.Y - l[n].Y})
		}
		got, ok := impl.EdgesOf(l)
		checkList(t, fmt.Sprint("EdgesOf", l), got, ok, want, true)
	}
}

// checkSum fails the test unless a sum of polygons, and that with both exchanged, is as expected; nil if there is none.
// The mixed area has to be what is left of its area.
func checkSum(t *testing.T, a []impl.Point, b []impl.Point, want []impl.Point) {
	t.Helper()
	area := 0
	if want != nil {
		area = (areaByTriangles(want) - areaByTriangles(a) - areaByTriangles(b)) / 2
	}
	for _, pair := range [][2][]impl.Point{{a, b}, {b, a}} {
		got, ok := impl.SumOfPolygons(pair[0], pair[1])
		checkList(t, fmt.Sprint("SumOfPolygons", pair), got, ok, want, want != nil)
		mixed, ok := impl.MixedArea(pair[0], pair[1])
		checkNumber(t, fmt.Sprint("MixedArea", pair), mixed, ok, area, want != nil)
	}
}

func TestSumOfPolygons(t *testing.T) {
	triangle, square, m := points(0, 0, 2, 0, 0, 2), points(0, 0, 1, 0, 1, 1, 0, 1), mostCoord
	for _, c := range []struct{ a, b, want []impl.Point }{
		{points(0, 0), points(0, 0), points(0, 0)}, {points(3, -4), points(5, 9), points(8, 5)}, {points(3, -4), triangle, points(3, -4, 5, -4, 3, -2)}, {points(0, 0), square, square}, {points(1, 2), points(0, 0, 3, 0), points(1, 2, 4, 2)},
		{points(0, 0, 1, 0), points(0, 0, 0, 1), square}, {points(0, 0, 1, 0), points(0, 0, 2, 0), points(0, 0, 3, 0)}, {points(0, 3, 2, -1), points(0, 2, 1, 0), points(0, 5, 3, -1)}, {points(0, 0, 1, 1), points(0, 1, 1, 0), points(0, 1, 1, 0, 2, 1, 1, 2)}, {points(-1, -2, 1, 2), points(-1, -2, 1, 2), points(-2, -4, 2, 4)}, {points(0, 0, 2, 1), points(0, 0, 1, 3), points(0, 0, 2, 1, 3, 4, 1, 3)},
		{triangle, triangle, points(0, 0, 4, 0, 0, 4)}, {triangle, square, points(0, 0, 3, 0, 3, 1, 1, 3, 0, 3)}, {triangle, points(-2, 0, 0, -2, 0, 0), points(-2, 0, 0, -2, 2, -2, 2, 0, 0, 2, -2, 2)}, {triangle, points(0, 0, 5, 0), points(0, 0, 7, 0, 5, 2, 0, 2)}, {triangle, points(-5, 0, 0, 0), points(-5, 0, 2, 0, 0, 2, -5, 2)}, {triangle, points(0, 1, 1, 0), points(0, 1, 1, 0, 3, 0, 0, 3)}, {square, square, points(0, 0, 2, 0, 2, 2, 0, 2)}, {square, points(0, 0, 1, 1), points(0, 0, 1, 0, 2, 1, 2, 2, 1, 2, 0, 1)},
		// Corners of a sum may be at the limits, but not beyond them.
		{points(60, 1), points(40, 1), points(m, 2)}, {points(60, 1), points(41, 1), nil}, {points(1, -60), points(1, -40), points(2, -m)}, {points(1, -60), points(1, -41), nil}, {points(-m, 0), points(0, m), points(-m, m)}, {points(-m, 0), points(-1, 0), nil}, {points(m, m), points(-m, -m), points(0, 0)}, {points(0, m), points(0, m), nil},
		{points(0, 0, 60, 0), points(0, 0, 40, 0), points(0, 0, m, 0)}, {points(0, 0, 60, 0), points(0, 0, 41, 0), nil}, {points(0, -99, 0, 99), points(0, -1, 0, 1), points(0, -m, 0, m)}, {points(0, -99, 0, 99), points(0, -1, 0, 2), nil}, {points(0, -99, 0, 99), points(0, -2, 0, 1), nil}, {points(-m, -m, m, -m, m, m, -m, m), points(0, 0), points(-m, -m, m, -m, m, m, -m, m)}, {points(-m, -m, m, -m, m, m, -m, m), points(0, 0, 0, 1), nil}, {points(-m, -m, m, -m, m, m, -m, m), points(0, 1), nil}, {points(0, 0, m, 0, 0, m), points(0, 0, 0, 1), nil}, {points(0, 0, 99, 0, 0, 99), points(0, 0, 1, 0, 0, 1), points(0, 0, m, 0, 0, m)},
	} {
		checkSum(t, c.a, c.b, c.want)
	}
}

func TestSumsWithManyCorners(t *testing.T) {
	from := impl.Point{X: -20, Y: 3}
	steps := twentySteps()
	full := roundPolygon(from, steps)
	if len(full) != mostPoints || !impl.IsPolygon(full) {
		t.Error("is no polygon with the most corners:", full)
	}
	var odd, even, twice []impl.Point
	for n, step := range steps {
		if n%2 == 0 {
			even = append(even, step)
		} else {
			odd = append(odd, step)
		}
		twice = append(twice, impl.Point{X: 2 * step.X, Y: 2 * step.Y})
	}
	checkSum(t, roundPolygon(impl.Point{X: -30, Y: 5}, odd), roundPolygon(impl.Point{X: 10, Y: -2}, even), full)
	checkSum(t, full, full, roundPolygon(impl.Point{X: -40, Y: 6}, twice))
	checkSum(t, full, points(7, -5), movedPoints(full, impl.Point{X: 7, Y: -5}))
	// These polygons have only edges that go along those of the other one.
	for _, b := range [][]impl.Point{points(0, 0, 1, 0), points(0, 2, 1, 0), points(0, 0, 1, 0, 1, 1), points(0, 0, 1, 0, 1, 1, 0, 1), roundPolygon(from, odd)} {
		want := sumBySides(full, b)
		if len(want) != mostPoints {
			t.Error("the sum has not the most corners:", b)
		}
		checkSum(t, full, b, want)
	}
	// Each of these ones gives the sum one corner or two corners more.
	for _, b := range [][]impl.Point{points(0, 1, 1, 0), points(0, 0, 1, 0, 0, 1), points(0, 0, 3, 4), points(-1, 0, 0, -1, 1, 0, 0, 1), roundPolygon(from, directions(4)), points(0, 0, 9, 1, 2, 8)} {
		checkSum(t, full, b, nil)
	}
	less := roundPolygon(from, without(steps, impl.Point{X: 1, Y: 4}))
	checkSum(t, less, points(0, 0, 1, 0, 0, 1), sumBySides(less, points(0, 0, 1, 0, 0, 1)))
	checkSum(t, less, points(0, 1, 1, 0), sumBySides(less, points(0, 1, 1, 0)))
	checkSum(t, less, points(0, 0, 1, 4), full)
}

// sumBySides says again what the sum of two lists of points is: the hull of all sums, without a bound.
func sumBySides(a []impl.Point, b []impl.Point) []impl.Point {
	var sums []impl.Point
	for _, p := range a {
		sums = append(sums, movedPoints(b, p)...)
	}
	slices.SortFunc(sums, orderOfPoints)
	return hullBySides(slices.Compact(sums))
}

// latticePoints returns all points of a polygon that are not far from the point 0, 0.
func latticePoints(l []impl.Point) []impl.Point {
	var all []impl.Point
	for x := -2; x <= 2; x++ {
		for y := -2; y <= 2; y++ {
			if p := (impl.Point{X: x, Y: y}); placeOf(l, p) != outside {
				all = append(all, p)
			}
		}
	}
	return all
}

func TestSumsHaveAllSumsOfPoints(t *testing.T) {
	polygons := smallPolygons()
	for n, a := range polygons {
		for m := n % 3; m < len(polygons); m += 3 {
			b := polygons[m]
			checkSum(t, a, b, sumBySides(latticePoints(a), latticePoints(b)))
		}
	}
}

func TestSumsOfGreatPolygons(t *testing.T) {
	counts := [2]int{}
	polygons := greatPolygons()
	for n, a := range polygons {
		for m := n % 3; m < len(polygons); m += 3 {
			want := sumBySides(a, polygons[m])
			isNone := func(p impl.Point) bool { return !impl.IsPoint(p) }
			fine := len(want) <= mostPoints && !slices.ContainsFunc(want, isNone)
			if !fine {
				want = nil
			}
			checkSum(t, a, polygons[m], want)
			countOf(&counts, fine)
		}
	}
	if min(counts[0], counts[1]) < 100 {
		t.Error("too few sums, or too few failures:", counts)
	}
}

func TestMixedArea(t *testing.T) {
	triangle, square, m := points(0, 0, 2, 0, 0, 2), points(0, 0, 1, 0, 1, 1, 0, 1), mostCoord
	for _, c := range []struct {
		a, b []impl.Point
		want int
	}{
		{triangle, triangle, 4}, {square, square, 2}, {triangle, square, 4}, {points(0, 0, 1, 0, 0, 1), points(0, 0, 1, 0, 0, 1), 1}, {points(0, 0, 1, 0), points(0, 0, 0, 1), 1}, {points(0, 0, 1, 0), points(0, 0, 1, 0), 0}, {points(0, 0, 3, 0), points(-2, 0, 0, 0), 0}, {points(0, 0, 2, 1), points(0, 0, 1, 3), 5}, {points(0, 0), points(7, 7), 0},
		{points(5, 5), triangle, 0}, {points(0, 0, 1, 0), triangle, 2}, {points(0, 0, 1, 1), square, 2}, {points(0, 1, 1, 0), triangle, 2}, {points(0, 0, 1, 1), triangle, 4}, {triangle, points(-2, 0, 0, -2, 0, 0), 8}, {points(-m/2, -m/2, m/2, -m/2, m/2, m/2, -m/2, m/2), points(-m/2, -m/2, m/2, -m/2, m/2, m/2, -m/2, m/2), 20000}, {points(-m, -m, m, -m, m, m, -m, m), points(0, 0), 0}, {points(-m, 0, m, 0), points(0, -m, 0, m), 40000},
	} {
		for _, pair := range [][2][]impl.Point{{c.a, c.b}, {c.b, c.a}} {
			got, ok := impl.MixedArea(pair[0], pair[1])
			checkNumber(t, fmt.Sprint("MixedArea", pair), got, ok, c.want, true)
		}
	}
}

// mixedBySides says again what the mixed area is: for each edge of one polygon how far the other one goes outwards from it.
func mixedBySides(a []impl.Point, b []impl.Point) int {
	area := 0
	for n, corner := range b {
		after := b[(n+1)%len(b)]
		var sums []int
		for _, p := range a {
			sums = append(sums, (after.Y-corner.Y)*p.X-(after.X-corner.X)*p.Y)
		}
		area += slices.Max(sums)
	}
	return area
}

func TestMixedAreasOfManyPolygons(t *testing.T) {
	polygons := append(smallPolygons(), greatPolygons()...)
	areas := 0
	for n, a := range polygons {
		for m := n % 4; m < len(polygons); m += 4 {
			got, ok := impl.MixedArea(a, polygons[m])
			if _, isSum := impl.SumOfPolygons(a, polygons[m]); !isSum {
				checkNumber(t, fmt.Sprint("MixedArea", a, polygons[m]), got, ok, 0, false)
				continue
			}
			areas++
			checkNumber(t, fmt.Sprint("MixedArea", a, polygons[m]), got, ok, mixedBySides(a, polygons[m]), true)
		}
		if twice, ok := impl.MixedArea(a, a); ok {
			checkNumber(t, fmt.Sprint("MixedArea", a, a), twice, ok, areaByTriangles(a), true)
		}
	}
	if areas < 1000 {
		t.Error("too few mixed areas:", areas)
	}
}

func TestWidthIn(t *testing.T) {
	triangle, m := points(0, 0, 2, 0, 0, 2), mostCoord
	for _, c := range []struct {
		l    []impl.Point
		d    impl.Point
		want int
	}{
		{triangle, impl.Point{X: 1, Y: 0}, 2}, {triangle, impl.Point{X: 0, Y: 1}, 2}, {triangle, impl.Point{X: -1, Y: 0}, 2}, {triangle, impl.Point{X: 0, Y: -1}, 2}, {triangle, impl.Point{X: 1, Y: 1}, 2}, {triangle, impl.Point{X: 1, Y: -1}, 4}, {triangle, impl.Point{X: -1, Y: 1}, 4}, {triangle, impl.Point{X: -1, Y: -1}, 2}, {triangle, impl.Point{X: 0, Y: 0}, 0}, {triangle, impl.Point{X: 3, Y: -5}, 16}, {triangle, impl.Point{X: -3, Y: -5}, 10},
		{points(5, -7), impl.Point{X: 3, Y: 8}, 0}, {points(5, -7), impl.Point{}, 0}, {points(m, m), impl.Point{X: m, Y: m}, 0}, {points(0, 0, 2, 1), impl.Point{X: 1, Y: -2}, 0}, {points(0, 0, 2, 1), impl.Point{X: 2, Y: 1}, 5}, {points(0, 0, 2, 1), impl.Point{X: -2, Y: -1}, 5}, {points(3, 9, 4, 2), impl.Point{X: 7, Y: 1}, 0}, {points(3, 9, 4, 2), impl.Point{X: 1, Y: 0}, 1},
		{points(5, 5, 8, 5, 5, 9), impl.Point{X: -1, Y: 0}, 3}, {points(5, 5, 8, 5, 5, 9), impl.Point{X: 0, Y: -2}, 8}, {points(-9, -9, -5, -9, -9, -2), impl.Point{X: 1, Y: 0}, 4}, {points(-m, -m, m, m), impl.Point{X: m, Y: m}, 40000}, {points(-m, -m, m, m), impl.Point{X: -m, Y: -m}, 40000}, {points(-m, -m, m, -m, m, m, -m, m), impl.Point{X: m, Y: -m}, 40000}, {points(-m, -m, m, m), impl.Point{X: m, Y: -m}, 0},
	} {
		got, ok := impl.WidthIn(c.l, c.d)
		checkNumber(t, fmt.Sprint("WidthIn", c.l, c.d), got, ok, c.want, true)
	}
	for _, l := range goodPolygons() {
		for _, d := range append(points(0, 0, 1, 0, 0, -1, -3, 4, mostCoord, -mostCoord, -mostCoord, mostCoord-1), directions(2)...) {
			want := 0
			for _, p := range l {
				for _, q := range l {
					want = max(want, d.X*(p.X-q.X)+d.Y*(p.Y-q.Y))
				}
			}
			got, ok := impl.WidthIn(l, d)
			checkNumber(t, fmt.Sprint("WidthIn", l, d), got, ok, want, true)
		}
		for _, bad := range badPoints() {
			got, ok := impl.WidthIn(l, bad)
			checkNumber(t, fmt.Sprint("WidthIn", l, bad), got, ok, 0, false)
		}
	}
}

func TestCallsOfBadPolygons(t *testing.T) {
	triangle := points(0, 0, 2, 0, 0, 2)
	for _, bad := range badPolygons() {
		for name, call := range map[string]func([]impl.Point) (int, bool){"DoubleArea": impl.DoubleArea, "BoundaryPoints": impl.BoundaryPoints, "InnerPoints": impl.InnerPoints} {
			got, ok := call(bad)
			checkNumber(t, fmt.Sprint(name, bad), got, ok, 0, false)
		}
		for _, p := range points(0, 0, 1, 1, -1, 2, 1, 0) {
			has, ok := impl.HasPoint(bad, p)
			checkFlag(t, fmt.Sprint("HasPoint", bad, p), has, ok, false, false)
			width, ok := impl.WidthIn(bad, p)
			checkNumber(t, fmt.Sprint("WidthIn", bad, p), width, ok, 0, false)
		}
		edges, ok := impl.EdgesOf(bad)
		checkList(t, fmt.Sprint("EdgesOf", bad), edges, ok, nil, false)
		for _, other := range [][]impl.Point{triangle, points(0, 0), bad, nil} {
			checkSum(t, bad, other, nil)
		}
		if text, ok := impl.PolygonText(bad); text != "" || ok {
			t.Errorf("PolygonText%v: got %q, %t", bad, text, ok)
		}
	}
}

func TestPolygonTextsAreReadBack(t *testing.T) {
	for text, l := range map[string][]impl.Point{
		"0,0;2,0;0,2;": points(0, 0, 2, 0, 0, 2), "0,0;": points(0, 0), "-7,100;": points(-7, 100), "-100,-100;": points(-100, -100), "-1,10;99,-10;": points(-1, 10, 99, -10), "-1,0;0,-1;1,0;0,1;": points(-1, 0, 0, -1, 1, 0, 0, 1), "-100,-100;100,-100;100,100;-100,100;": points(-100, -100, 100, -100, 100, 100, -100, 100),
	} {
		got, ok := impl.PolygonText(l)
		if got != text || !ok {
			t.Errorf("PolygonText%v: got %q, %t", l, got, ok)
		}
		back, ok := impl.ParsePolygon(text)
		checkList(t, fmt.Sprintf("ParsePolygon(%q)", text), back, ok, l, true)
	}
	for _, l := range goodPolygons() {
		text, ok := impl.PolygonText(l)
		if text != textOfPoints(l) || !ok {
			t.Errorf("PolygonText%v: got %q, %t", l, text, ok)
		}
		back, ok := impl.ParsePolygon(text)
		checkList(t, fmt.Sprintf("ParsePolygon(%q)", text), back, ok, l, true)
	}
}

// textOfPoints says again what the text of points is, whether they are a polygon or not.
func textOfPoints(l []impl.Point) string {
	text := ""
	for _, p := range l {
		text += fmt.Sprintf("%d,%d;", p.X, p.Y)
	}
	return text
}

// nearlyPolygonTexts are texts of no polygon, many of which are nearly right.
func nearlyPolygonTexts() []string {
	texts := []string{
		"", ";", ";;", ",", ",;", "0", "0;", "0,", "0,;", ",0;", "0,0", "0,0;;", ";0,0;", "0,0;0", "0,0;0,", "0,0;2,0", "0,0;2,0;0,2", "0,0;2,0;0,2;;", "0,0;;2,0;", "0,02,0;", "0,0 2,0;", "0,0,2,0;", "0,0,0;", "0,0,;", ",0,0;", "0,,0;", "0;0;", "0;0,0;", "0.0;", "0:0;", "0,0:", "0,0.", "0,0,", "0,0|", "0 0;", "0:0,0;",
		" 0,0;", "0 ,0;", "0, 0;", "0,0 ;", "0,0; ", "0,0;\n", "\n0,0;", "0,0;\x00", "\x000,0;", "0,0; 2,0;", "0,0;\n2,0;", "(0,0);", "[0,0;]", "0，0;", "0,0；", "٠,0;", "0,０;", "\xff,0;", "0,\xff;",
		"+0,0;", "0,+0;", "+1,0;", "0,+1;", "-0,0;", "0,-0;", "-0,-0;", "00,0;", "0,00;", "01,0;", "0,01;", "-01,0;", "0,-01;", "--1,0;", "-,0;", "0,-;", "- 1,0;", "1-,0;", "1e1,0;", "1_0,0;", "0x1,0;", "0,0x1;", "a,0;", "0,a;", "1.0,0;", "1/2,0;", "inf,0;", "0,inf;", "inf,inf;", "-inf,0;", "Inf,0;",
		"101,0;", "0,101;", "-101,0;", "0,-101;", "0100,0;", "1000,0;", "1000000,0;", "0,-1000000;", "1000000000,0;", "9223372036854775808,0;", "0,18446744073709551616;", "4294967296,0;", "0,0;101,0;", "0,0;2,0;0,101;",
		"0,0;0,0;", "2,0;0,0;", "0,2;0,0;", "0,0;1,0;2,0;", "0,0;2,0;1,0;", "0,0;0,2;2,0;", "2,0;0,2;0,0;", "0,2;0,0;2,0;", "0,0;2,0;0,2;0,0;", "0,0;1,0;2,0;0,2;", "0,0;2,0;1,1;0,2;", "0,0;2,0;2,0;0,2;", "0,0;3,0;1,1;0,3;",
		"0,0;2,0;0,2;0", "0,0;2,0;0,2;0,1", "0,0;2,0;0,2;,", strings.Repeat("0,0;", mostPoints), strings.Repeat("0,0;", mostPoints+1), strings.Repeat("0,0;", 1000), strings.Repeat(";", 1000), strings.Repeat(",", 1000), strings.Repeat("9", 1000) + ",0;", strings.Repeat("0", 100) + ",0;",
	}
	for _, l := range badPolygons() {
		texts = append(texts, textOfPoints(l))
	}
	full := textOfPoints(roundPolygon(impl.Point{X: -20}, twentySteps()))
	return append(texts, full[:len(full)-1], full+";", full+"0", full+"-20,0", full+"-20,0;", ";"+full, full+full)
}

func TestParsePolygon(t *testing.T) {
	for _, s := range nearlyPolygonTexts() {
		got, ok := impl.ParsePolygon(s)
		checkList(t, fmt.Sprintf("ParsePolygon(%q)", s), got, ok, nil, false)
	}
}
