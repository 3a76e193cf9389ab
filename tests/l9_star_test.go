package tests

import (
	"cmp"
	"fmt"
	"math"
	"slices"
	"strings"
	"testing"

	"loop.example/g01056/impl"
)

const (
	mostRays   = 10
	mostStep   = 20
	mostWeight = 20
)

// star returns a list of rays in the order of their texts: the weight and both steps, three numbers each.
func star(numbers ...int) []impl.Ray {
	var l []impl.Ray
	for n := 0; n < len(numbers); n += 3 {
		l = append(l, impl.Ray{W: numbers[n], DX: numbers[n+1], DY: numbers[n+2]})
	}
	return l
}

// textOfRays says again what the text of rays is, whether they are a star or not.
func textOfRays(l []impl.Ray) string {
	text := ""
	for _, r := range l {
		text += fmt.Sprintf("%d*%d,%d;", r.W, r.DX, r.DY)
	}
	return text
}

// arePrimitive reports whether two steps within the limits have no common divisor, trying one after the other.
func arePrimitive(dx int, dy int) bool {
	for divisor := 2; divisor <= mostStep; divisor++ {
		if dx%divisor == 0 && dy%divisor == 0 {
			return false
		}
	}
	return true
}

// isGoodRay says again which rays are valid, apart from the program.
func isGoodRay(r impl.Ray) bool {
	inSteps := -mostStep <= min(r.DX, r.DY) && max(r.DX, r.DY) <= mostStep
	return inSteps && 1 <= r.W && r.W <= mostWeight && arePrimitive(r.DX, r.DY)
}

func orderOfRays(a impl.Ray, b impl.Ray) int {
	return cmp.Or(cmp.Compare(a.DX, b.DX), cmp.Compare(a.DY, b.DY))
}

// starOfWeights returns the rays with the weights of all steps, in order, if they are a star.
func starOfWeights(weights map[[2]int]int) ([]impl.Ray, bool) {
	var l []impl.Ray
	for steps, w := range weights {
		l = append(l, impl.Ray{DX: steps[0], DY: steps[1], W: w})
	}
	slices.SortFunc(l, orderOfRays)
	if len(l) > mostRays || slices.ContainsFunc(l, func(r impl.Ray) bool { return !isGoodRay(r) }) {
		return nil, false
	}
	return l, true
}

func sumOfRays(l []impl.Ray) (int, int) {
	x, y := 0, 0
	for _, r := range l {
		for range r.W {
			x += r.DX
			y += r.DY
		}
	}
	return x, y
}

// starOfPolygon returns the star whose dual polygon has the sides of a polygon, if there is one.
func starOfPolygon(l []impl.Point) ([]impl.Ray, bool) {
	weights := map[[2]int]int{}
	for n, corner := range l {
		after := l[(n+1)%len(l)]
		dx, dy := corner.Y-after.Y, after.X-corner.X
		w := 1
		for divisor := 2; divisor <= 2*mostCoord; divisor++ {
			if dx%divisor == 0 && dy%divisor == 0 {
				w = divisor
			}
		}
		weights[[2]int{dx / w, dy / w}] += w
	}
	return starOfWeights(weights)
}

// dualByAngles says again what the dual polygon of a balanced star is, without any limit.
func dualByAngles(l []impl.Ray) []impl.Point {
	sides := slices.Clone(l)
	angle := func(r impl.Ray) float64 { return math.Atan2(float64(-r.DX), float64(r.DY)) }
	slices.SortFunc(sides, func(a impl.Ray, b impl.Ray) int { return cmp.Compare(angle(a), angle(b)) })
	var at impl.Point
	var corners []impl.Point
	for _, r := range sides {
		corners = append(corners, at)
		at = impl.Point{X: at.X + r.W*r.DY, Y: at.Y - r.W*r.DX}
	}
	return fromLeast(corners)
}

// fromLeast moves a polygon to the axes and begins at its first corner in the order of points.
func fromLeast(l []impl.Point) []impl.Point {
	left := slices.MinFunc(l, orderOfPoints)
	low := slices.MinFunc(l, func(a impl.Point, b impl.Point) int { return cmp.Compare(a.Y, b.Y) })
	first := slices.Index(l, left)
	return movedPoints(slices.Concat(l[first:], l[:first]), impl.Point{X: -left.X, Y: -low.Y})
}

// scatteredStars returns stars of 0..MaxRays rays that follow no plain rule, with steps and weights that are at most so great.
func scatteredStars(greatestStep int, greatestWeight int) [][]impl.Ray {
	var stars [][]impl.Ray
	state := 4711 + greatestStep*100 + greatestWeight
	next := func(below int) int {
		state = (state*1103515245 + 12345) % 2147483648
		return state / 65536 % below
	}
	for n := range 8 * (mostRays + 1) {
		weights := map[[2]int]int{}
		// There are eight short directions only.
		for len(weights) < min(n%(mostRays+1), 4*greatestStep+4) {
			dx, dy := next(2*greatestStep+1)-greatestStep, next(2*greatestStep+1)-greatestStep
			if arePrimitive(dx, dy) {
				weights[[2]int{dx, dy}] = next(greatestWeight) + 1
			}
		}
		l, ok := starOfWeights(weights)
		if !ok {
			panic("is no star")
		}
		stars = append(stars, l)
	}
	return stars
}

// fullStar has as many rays as there can be, with steps and weights at their limits.
func fullStar() []impl.Ray {
	return star(20, -20, -19, 1, -20, 19, 20, -1, 0, 3, -1, 20, 20, 0, -1, 7, 0, 1, 1, 1, -20, 20, 1, 0, 5, 19, 20, 20, 20, 19)
}

// plainStars returns written-out stars, most of which are not balanced.
func plainStars() [][]impl.Ray {
	return [][]impl.Ray{
		nil, {}, star(1, -1, -1, 1, 0, 1, 1, 1, 0), fullStar(), fullStar()[:9], fullStar()[1:], star(1, 1, 0), star(20, 0, -1), star(20, 20, 19), star(1, -20, 1), star(1, 1, -20), star(7, -3, 5), star(2, -1, 0, 2, 1, 0), star(20, 0, -1, 20, 0, 1), star(1, -1, -1, 1, 1, 1), star(1, 0, -1, 1, 0, 1, 1, 1, 0), star(2, -1, -1, 1, 0, 1, 1, 1, 0), star(1, -1, 0, 2, 1, 0),
		star(1, -1, 0, 1, 0, -1, 1, 0, 1, 1, 1, 0), star(3, -1, -1, 3, 0, 1, 3, 1, 0), star(1, -2, -1, 1, 1, -1, 1, 1, 2), star(20, -20, 1, 20, 19, 20), star(1, 0, -1, 2, 0, 1), star(1, -1, 1, 1, 0, -1, 1, 0, 1, 1, 1, -1),
	}
}

// balancedStars returns those of polygons, written-out ones, and opposite rays of all weights in many directions.
func balancedStars() [][]impl.Ray {
	stars := [][]impl.Ray{star(1, -1, -1, 1, 0, 1, 1, 1, 0), star(5, -20, -1, 5, 20, 1), star(5, -1, -20, 5, 1, 20), star(6, -20, -1, 6, 20, 1), star(6, -1, 20, 6, 1, -20), star(20, -20, -1, 20, -1, -20, 20, 1, 20, 20, 20, 1)}
	for _, l := range append(goodPolygons(), widePolygons()...) {
		if l, ok := starOfPolygon(l); ok && len(l) > 1 {
			stars = append(stars, l)
		}
	}
	for n, step := range append(directions(2), directions(mostStep)[40:60]...) {
		for w := n%3 + 1; w <= mostWeight; w += 3 {
			stars = append(stars, star(w, -step.X, -step.Y, w, step.X, step.Y))
		}
	}
	for _, l := range stars {
		slices.SortFunc(l, orderOfRays)
	}
	return stars
}

// widePolygons returns polygons whose width or height is about the limit of a point, each with sides that belong to rays.
func widePolygons() [][]impl.Point {
	var polygons [][]impl.Point
	for rest := 1; rest <= 8; rest++ {
		for _, steps := range [][]impl.Point{
			points(rest, 0, 96, 6), points(96, -6, rest, 0), points(6, 96, 0, rest), points(rest, -3*rest, 96, 0, rest, rest), points(6, -96, 2, 0, 0, rest), points(48, -3, rest, -1, 48, 3), points(96, -16, 0, rest, 0, 20), points(90, -9, 6, 10, rest, 90),
		} {
			polygons = append(polygons, hullBySides(roundPolygon(impl.Point{}, steps)), hullBySides(append(roundPolygon(impl.Point{}, steps), impl.Point{X: 96 + rest, Y: -5})))
		}
	}
	return polygons
}

func goodStars() [][]impl.Ray {
	stars := append(plainStars(), balancedStars()...)
	for _, limits := range [][2]int{{1, 2}, {3, 3}, {5, mostWeight}, {mostStep, 10}, {mostStep, mostWeight}} {
		stars = append(stars, scatteredStars(limits[0], limits[1])...)
	}
	return stars
}

// badRays returns rays with a step or a weight beyond the limits, with a common divisor, or without a direction.
func badRays() []impl.Ray {
	l := star(1, 0, 0, 20, 0, 0, 1, 2, 0, 1, 0, -2, 1, 0, 20, 1, 20, 20, 1, -20, 10, 1, 2, 2, 1, -3, 6, 1, 15, -20, 1, 7, 14, 1, 9, 6, 0, 1, 0, 21, 1, 0, -1, 1, 0, 0, 0, 0, 1, 21, 1, 1, 1, -21, 1, -21, 20, 1, 20, 21)
	for _, n := range edgeNumbers() {
		if n < -mostStep || n > mostStep {
			l = append(l, star(1, n, 1, 1, 1, n, 1, n, 0, 1, 0, n, 1, n, n, 2, n, -n, 1, n, n+1)...)
		}
		if n < 1 || n > mostWeight {
			l = append(l, star(n, 1, 0, n, 0, 1, n, -20, 19, n, n, n)...)
		}
	}
	return append(l, star(1, math.MinInt, math.MinInt, 1, math.MinInt, math.MaxInt, 1, math.MaxInt, math.MinInt, math.MinInt, math.MinInt, math.MinInt)...)
}

// badStars returns lists that are no stars: with too many rays, with one that is none, or in another order.
func badStars() [][]impl.Ray {
	full := fullStar()
	lists := [][]impl.Ray{
		append(slices.Clone(full), star(1, 20, 20)...), slices.Concat(star(1, -20, -21), full), slices.Repeat(full, 2), slices.Repeat(full, 50), slices.Repeat(star(1, 1, 0), 2), slices.Repeat(star(1, 1, 0), 10), star(1, 0, 1, 2, 0, 1), star(2, 0, 1, 1, 0, 1), star(1, 1, 0, 1, 0, 1), star(1, 0, 1, 1, 0, -1), star(1, 1, 2, 1, 1, 1), star(1, -1, -1, 1, 1, 0, 1, 0, 1), star(1, 0, 1, 1, -1, -1, 1, 1, 0), star(1, -1, 0, 1, -1, 1, 1, -1, 0), star(1, 0, 1, 1, 1, 0, 1, 1, 0),
	}
	for x := -5; x <= 5; x++ {
		// These are eleven rays in order, so that only their number is too great.
		lists = append(lists, slices.Concat(star(1, -6, x*5+1), star(1, -5, -1, 1, -4, -1, 1, -3, -1, 1, -2, -1, 1, -1, 0, 1, 0, 1, 1, 1, 0, 1, 2, 1, 1, 3, 2, 1, 4, 3)))
	}
	for n, bad := range badRays() {
		lists = append(lists, []impl.Ray{bad}, append(star(1, -20, -19), bad), append([]impl.Ray{bad}, star(1, 20, 19)...), slices.Concat(star(1, -20, -19), []impl.Ray{bad}, star(1, 20, 19)), slices.Concat(full[:9-n%5], []impl.Ray{bad}))
	}
	for _, l := range goodStars() {
		if len(l) > 1 {
			backwards := slices.Clone(l)
			slices.Reverse(backwards)
			lists = append(lists, backwards, append(slices.Clone(l), l[len(l)-1]), append(slices.Clone(l[:1]), l...), slices.Concat(l[1:], l[:1]))
		}
	}
	return lists
}

func checkRay(t *testing.T, call string, got impl.Ray, gotOK bool, want impl.Ray, wantOK bool) {
	t.Helper()
	if got != want || gotOK != wantOK {
		t.Errorf("%s: got %v, %t; want %v, %t", call, got, gotOK, want, wantOK)
	}
}

func TestLimitsOfStars(t *testing.T) {
	if impl.MaxRays != mostRays || impl.MaxStep != mostStep || impl.MaxWeight != mostWeight {
		t.Error("limits", impl.MaxRays, impl.MaxStep, impl.MaxWeight)
	}
}

func TestPrimitiveRay(t *testing.T) {
	for _, c := range []struct{ dx, dy, x, y, w int }{
		{1, 0, 1, 0, 1}, {0, -1, 0, -1, 1}, {20, 0, 1, 0, 20}, {-20, 0, -1, 0, 20}, {0, 20, 0, 1, 20}, {0, -20, 0, -1, 20}, {20, 20, 1, 1, 20}, {-20, 20, -1, 1, 20}, {-20, -20, -1, -1, 20}, {20, -10, 2, -1, 10}, {-6, -9, -2, -3, 3}, {7, -14, 1, -2, 7}, {20, 19, 20, 19, 1}, {-19, 20, -19, 20, 1}, {12, 18, 2, 3, 6}, {-2, 3, -2, 3, 1}, {0, 6, 0, 1, 6},
	} {
		got, ok := impl.PrimitiveRay(c.dx, c.dy)
		checkRay(t, fmt.Sprint("PrimitiveRay ", c.dx, c.dy), got, ok, impl.Ray{DX: c.x, DY: c.y, W: c.w}, true)
	}
	for _, dx := range append(edgeNumbers(), 15, -15, 12, -12) {
		for _, dy := range append(edgeNumbers(), 15, -15, 12, -12) {
			got, ok := impl.PrimitiveRay(dx, dy)
			call := fmt.Sprint("PrimitiveRay ", dx, dy)
			if min(dx, dy) < -mostStep || max(dx, dy) > mostStep || dx == 0 && dy == 0 {
				checkRay(t, call, got, ok, impl.Ray{}, false)
			} else if !ok || got.W*got.DX != dx || got.W*got.DY != dy || !isGoodRay(got) {
				t.Error(call, "gives", got, ok)
			}
		}
	}
}

func TestIsStar(t *testing.T) {
	for _, l := range goodStars() {
		if !impl.IsStar(l) {
			t.Error("is no star:", l)
		}
	}
	for _, l := range badStars() {
		if impl.IsStar(l) {
			t.Error("is a star:", l)
		}
	}
	for dx := -mostStep - 1; dx <= mostStep+1; dx++ {
		for dy := -mostStep - 1; dy <= mostStep+1; dy++ {
			for _, w := range []int{-1, 0, 1, 2, 20, 21} {
				r := impl.Ray{DX: dx, DY: dy, W: w}
				if impl.IsStar([]impl.Ray{r}) != isGoodRay(r) {
					t.Error("is it a star?", r)
				}
			}
		}
	}
}

func checkStarSum(t *testing.T, l []impl.Ray, wantX int, wantY int, wantOK bool) {
	t.Helper()
	x, y, ok := impl.StarSum(l)
	if x != wantX || y != wantY || ok != wantOK {
		t.Errorf("StarSum%v: got %d %d, %t; want %d %d, %t", l, x, y, ok, wantX, wantY, wantOK)
	}
	balanced, ok := impl.IsBalanced(l)
	checkFlag(t, fmt.Sprint("IsBalanced", l), balanced, ok, wantOK && wantX == 0 && wantY == 0, wantOK)
}

func TestStarSumAndIsBalanced(t *testing.T) {
	for _, c := range []struct {
		l    []impl.Ray
		x, y int
	}{
		{nil, 0, 0}, {star(1, -1, -1, 1, 0, 1, 1, 1, 0), 0, 0}, {star(1, 1, 0), 1, 0}, {star(20, 20, -19), 400, -380}, {star(2, -1, 0, 2, 1, 0), 0, 0}, {star(2, -1, 0, 1, 1, 0), -1, 0}, {star(1, 0, -1, 2, 0, 1), 0, 1}, {star(1, -2, -1, 1, 1, -1, 1, 1, 2), 0, 0}, {star(3, -1, -1, 3, 0, 1, 2, 1, 0), -1, 0}, {star(3, -1, -1, 2, 0, 1, 3, 1, 0), 0, -1},
	} {
		checkStarSum(t, c.l, c.x, c.y, true)
	}
	for _, l := range goodStars() {
		x, y := sumOfRays(l)
		checkStarSum(t, l, x, y, true)
	}
	for _, l := range balancedStars() {
		checkStarSum(t, l, 0, 0, true)
	}
	for _, l := range badStars() {
		checkStarSum(t, l, 0, 0, false)
	}
}

// missingBySearch says again which ray is missing, if one is, trying all weights.
func missingBySearch(l []impl.Ray) (impl.Ray, bool) {
	x, y := sumOfRays(l)
	for w := 1; w <= mostWeight; w++ {
		r := impl.Ray{DX: -x / w, DY: -y / w, W: w}
		if r.W*r.DX == -x && r.W*r.DY == -y && isGoodRay(r) {
			return r, true
		}
	}
	return impl.Ray{}, false
}

func TestMissingRay(t *testing.T) {
	for _, c := range []struct {
		l       []impl.Ray
		x, y, w int
	}{
		{star(1, 0, 1, 1, 1, 0), -1, -1, 1}, {star(1, 1, 0), -1, 0, 1}, {star(20, 20, 19), -20, -19, 20}, {star(3, 0, 1, 3, 1, 0), -1, -1, 3}, {star(1, 0, 1, 2, 1, 0), -2, -1, 1}, {star(6, -3, 1, 4, 1, 2), 1, -1, 14}, {star(20, 0, -1), 0, 1, 20}, {star(2, -1, 0, 1, 1, 0), 1, 0, 1}, {star(10, 0, 1, 20, 1, 0, 10, 1, 1), -3, -2, 10}, {star(20, 0, 1, 19, 1, 0), -19, -20, 1},
	} {
		got, ok := impl.MissingRay(c.l)
		checkRay(t, fmt.Sprint("MissingRay", c.l), got, ok, impl.Ray{DX: c.x, DY: c.y, W: c.w}, true)
	}
	for _, l := range append(balancedStars(), nil, star(20, 0, 1, 1, 1, 20), star(1, 1, 0, 1, 20, 1), star(1, 0, 1, 20, 1, -1, 1, 1, 0), star(11, 1, -10, 11, 1, 10), star(20, 0, 1, 20, 1, 0, 1, 1, 1), star(20, 0, 1, 1, 1, 1), star(1, -1, -1, 20, -1, 0, 1, -1, 1)) {
		got, ok := impl.MissingRay(l)
		checkRay(t, fmt.Sprint("MissingRay", l), got, ok, impl.Ray{}, false)
	}
	found := map[bool]int{}
	for _, l := range goodStars() {
		want, wantOK := missingBySearch(l)
		got, ok := impl.MissingRay(l)
		checkRay(t, fmt.Sprint("MissingRay", l), got, ok, want, wantOK)
		found[ok]++
	}
	if found[true] < 50 || found[false] < 50 {
		t.Error("too few are missing, or too few are not:", found)
	}
	for _, l := range badStars() {
		got, ok := impl.MissingRay(l)
		checkRay(t, fmt.Sprint("MissingRay", l), got, ok, impl.Ray{}, false)
	}
}

// Sums with a step of 21 or a weight of 21 have no missing ray, those with 20 have one.
func TestMissingRayAtTheLimits(t *testing.T) {
	for _, c := range []struct {
		l    []impl.Ray
		want impl.Ray
	}{
		{star(1, 0, 1, 20, 1, 0), impl.Ray{DX: -20, DY: -1, W: 1}}, {star(1, 1, 0, 1, 20, 1), impl.Ray{}}, {star(1, 0, 1, 1, 1, 20), impl.Ray{}}, {star(20, 0, 1, 1, 1, 0), impl.Ray{DX: -1, DY: -20, W: 1}}, {star(1, 0, -1, 20, 1, 0), impl.Ray{DX: -20, DY: 1, W: 1}}, {star(20, -1, 0, 1, -1, 1), impl.Ray{}}, {star(1, -1, -1, 20, 0, -1), impl.Ray{}},
		{star(20, 1, 0, 20, 20, 1), impl.Ray{}}, {star(20, 0, 1, 20, 1, 0), impl.Ray{DX: -1, DY: -1, W: 20}}, {star(19, 0, 1, 19, 1, 0, 1, 1, 1), impl.Ray{DX: -1, DY: -1, W: 20}}, {star(20, 0, 1, 20, 1, 0, 1, 1, 1), impl.Ray{}}, {star(1, -1, 1, 20, 0, -1, 20, 1, -1), impl.Ray{}}, {star(1, 19, 1, 20, 20, 1), impl.Ray{}}, {star(7, 2, 1, 7, 4, -1), impl.Ray{}},
	} {
		got, ok := impl.MissingRay(c.l)
		checkRay(t, fmt.Sprint("MissingRay", c.l), got, ok, c.want, c.want != impl.Ray{})
	}
}

// addedByWeights says again what the star with the rays of both is.
func addedByWeights(a []impl.Ray, b []impl.Ray) ([]impl.Ray, bool) {
	weights := map[[2]int]int{}
	for _, r := range slices.Concat(a, b) {
		weights[[2]int{r.DX, r.DY}] += r.W
	}
	return starOfWeights(weights)
}

func checkAddedStars(t *testing.T, a []impl.Ray, b []impl.Ray, want []impl.Ray, wantOK bool) bool {
	t.Helper()
	got, ok := impl.AddStars(a, b)
	checkList(t, fmt.Sprint("AddStars", a, b), got, ok, want, wantOK)
	return ok
}

func TestAddStars(t *testing.T) {
	line := star(1, -1, -1, 1, 0, 1, 1, 1, 0)
	for _, c := range []struct{ a, b, want []impl.Ray }{
		{nil, nil, nil}, {line, nil, line}, {nil, line, line}, {line, line, star(2, -1, -1, 2, 0, 1, 2, 1, 0)}, {star(1, 1, 0), star(1, 0, 1), star(1, 0, 1, 1, 1, 0)}, {star(1, 0, 1), star(1, 1, 0), star(1, 0, 1, 1, 1, 0)}, {line, star(1, -1, 0, 4, 0, 1), star(1, -1, -1, 1, -1, 0, 5, 0, 1, 1, 1, 0)}, {star(19, 2, 1), star(1, 2, 1), star(20, 2, 1)}, {star(10, 0, -1), star(10, 0, -1), star(20, 0, -1)},
		{fullStar()[:5], fullStar()[5:], fullStar()}, {fullStar(), nil, fullStar()}, {star(1, -1, 0), star(1, 1, 0), star(1, -1, 0, 1, 1, 0)}, {star(1, 0, -1, 1, 0, 1), star(1, -1, 0, 1, 1, 0), star(1, -1, 0, 1, 0, -1, 1, 0, 1, 1, 1, 0)}, {star(1, 1, 1, 2, 1, 2), star(1, 1, -1, 2, 1, 2), star(1, 1, -1, 1, 1, 1, 4, 1, 2)},
	} {
		checkAddedStars(t, c.a, c.b, c.want, true)
	}
	for _, pair := range [][2][]impl.Ray{{star(20, 1, 0), star(1, 1, 0)}, {star(11, 2, 1), star(10, 2, 1)}, {fullStar(), fullStar()}, {fullStar(), star(1, 2, 1)}, {star(1, -19, -20), fullStar()}, {line, star(20, 0, 1)}, {star(20, 1, 0), star(20, 1, 0)}, {fullStar()[:8], star(1, 2, 1, 1, 3, 1, 1, 4, 1)}} {
		checkAddedStars(t, pair[0], pair[1], nil, false)
		checkAddedStars(t, pair[1], pair[0], nil, false)
	}
	stars, succeeded := goodStars(), 0
	for n, a := range stars {
		for _, b := range [][]impl.Ray{a, stars[n*7%len(stars)], stars[n*11%len(stars)], stars[n%24]} {
			want, wantOK := addedByWeights(a, b)
			if checkAddedStars(t, a, b, want, wantOK) {
				succeeded++
			}
		}
	}
	if succeeded < 500 || succeeded > 4*len(stars)-500 {
		t.Error("calls that succeed:", succeeded, "of", 4*len(stars))
	}
	for _, bad := range badStars() {
		for _, other := range [][]impl.Ray{nil, line, bad} {
			checkAddedStars(t, bad, other, nil, false)
			checkAddedStars(t, other, bad, nil, false)
		}
	}
}

// Guarantee 9: sums are added.
func TestSumsOfStarsAreAdded(t *testing.T) {
	stars, added := goodStars(), 0
	for n, a := range stars {
		for _, b := range [][]impl.Ray{a, stars[n*3%len(stars)], stars[n*5%len(stars)]} {
			sum, ok := impl.AddStars(a, b)
			if !ok {
				continue
			}
			added++
			ax, ay, _ := impl.StarSum(a)
			bx, by, _ := impl.StarSum(b)
			checkStarSum(t, sum, ax+bx, ay+by, true)
		}
	}
	if added < 500 {
		t.Error("too few are added:", added)
	}
}

// Guarantee 9: missing rays balance a star.
func TestMissingRaysBalance(t *testing.T) {
	balanced := 0
	for _, l := range goodStars() {
		missing, ok := impl.MissingRay(l)
		if !ok {
			continue
		}
		if sum, ok := impl.AddStars(l, []impl.Ray{missing}); ok {
			balanced++
			checkStarSum(t, sum, 0, 0, true)
		}
	}
	if balanced < 50 {
		t.Error("too few are balanced:", balanced)
	}
}

func TestScaleStar(t *testing.T) {
	succeeded := 0
	for n, l := range goodStars() {
		numbers := append(edgeNumbers()[n%3*4:], 4, 6, 10)
		for _, k := range append(numbers, 1, 2, 3, 20, 21, 0) {
			weights := map[[2]int]int{}
			for _, r := range l {
				// Each product with a number beyond these limits is beyond them, too.
				weights[[2]int{r.DX, r.DY}] = r.W * min(max(k, -1), 21)
			}
			want, wantOK := starOfWeights(weights)
			if k < 1 || k > mostWeight {
				want, wantOK = nil, false
			}
			got, ok := impl.ScaleStar(l, k)
			checkList(t, fmt.Sprint("ScaleStar", l, k), got, ok, want, wantOK)
			if ok && k > 1 {
				succeeded++
			}
		}
	}
	if succeeded < 500 {
		t.Error("too few are scaled:", succeeded)
	}
	for _, l := range badStars() {
		for _, k := range []int{0, 1, 2, 20} {
			got, ok := impl.ScaleStar(l, k)
			checkList(t, fmt.Sprint("ScaleStar", l, k), got, ok, nil, false)
		}
	}
}

func TestScaleStarAtTheLimits(t *testing.T) {
	for _, c := range []struct {
		l    []impl.Ray
		k    int
		want []impl.Ray
	}{
		{star(1, 0, 1, 1, 1, 0), 20, star(20, 0, 1, 20, 1, 0)}, {star(5, 20, 19), 4, star(20, 20, 19)}, {star(1, 0, 1, 2, 1, 0), 10, star(10, 0, 1, 20, 1, 0)}, {fullStar(), 1, fullStar()}, {nil, 20, nil}, {star(3, -1, 2), 6, star(18, -1, 2)},
	} {
		got, ok := impl.ScaleStar(c.l, c.k)
		checkList(t, fmt.Sprint("ScaleStar", c.l, c.k), got, ok, c.want, true)
	}
	for _, c := range []struct {
		l []impl.Ray
		k int
	}{
		{star(1, 0, 1, 2, 1, 0), 11}, {star(3, 0, 1), 7}, {star(20, 0, 1), 2}, {nil, 0}, {nil, 21}, {nil, -1}, {star(1, 0, 1), 21}, {star(1, 0, 1), 0}, {fullStar(), 2}, {star(2, 0, 1), math.MinInt}, {star(2, 0, 1), math.MaxInt}, {star(4, 0, 1), 1 << 62}, {star(2, 0, 1), 1<<63 - 1},
	} {
		got, ok := impl.ScaleStar(c.l, c.k)
		checkList(t, fmt.Sprint("ScaleStar", c.l, c.k), got, ok, nil, false)
	}
}

// matrices returns the four numbers of all maps within -4..4, and of some far beyond.
func matrices() [][4]int {
	var all [][4]int
	for n := range 9 * 9 * 9 * 9 {
		all = append(all, [4]int{n%9 - 4, n/9%9 - 4, n/81%9 - 4, n/729 - 4})
	}
	for n, number := range edgeNumbers() {
		for place := range 4 {
			far := [4]int{1, 0, n % 2, 1}
			far[place] = number
			all = append(all, far)
		}
		all = append(all, [4]int{number, number, number, number}, [4]int{number, number - 1, 1, 1}, [4]int{number, 1, -1, 0})
	}
	return all
}

// isMap says again which numbers map a star.
func isMap(m [4]int) bool {
	for _, n := range m {
		if n < -3 || n > 3 {
			return false
		}
	}
	determinant := m[0]*m[3] - m[1]*m[2]
	return determinant == 1 || determinant == -1
}

func mappedByWeights(l []impl.Ray, m [4]int) ([]impl.Ray, bool) {
	weights := map[[2]int]int{}
	for _, r := range l {
		weights[[2]int{m[0]*r.DX + m[1]*r.DY, m[2]*r.DX + m[3]*r.DY}] = r.W
	}
	return starOfWeights(weights)
}

func TestMapStar(t *testing.T) {
	line := star(1, -1, -1, 2, 0, 1, 3, 1, 0)
	for _, c := range []struct {
		l    []impl.Ray
		m    [4]int
		want []impl.Ray
	}{
		{line, [4]int{1, 0, 0, 1}, line}, {line, [4]int{0, 1, 1, 0}, star(1, -1, -1, 3, 0, 1, 2, 1, 0)}, {line, [4]int{-1, 0, 0, -1}, star(3, -1, 0, 2, 0, -1, 1, 1, 1)}, {line, [4]int{0, -1, 1, 0}, star(2, -1, 0, 3, 0, 1, 1, 1, -1)}, {line, [4]int{1, 0, 0, -1}, star(1, -1, 1, 2, 0, -1, 3, 1, 0)}, {line, [4]int{2, 3, 1, 2}, star(1, -5, -3, 3, 2, 1, 2, 3, 2)}, {line, [4]int{3, 2, 1, 1}, star(1, -5, -2, 2, 2, 1, 3, 3, 1)}, {line, [4]int{1, 3, 0, 1}, star(1, -4, -1, 3, 1, 0, 2, 3, 1)}, {line, [4]int{1, 0, -3, 1}, star(1, -1, 2, 2, 0, 1, 3, 1, -3)}, {line, [4]int{3, -2, -2, 1}, star(2, -2, 1, 1, -1, 1, 3, 3, -2)},
		{nil, [4]int{3, -2, -2, 1}, nil}, {star(20, 6, 1), [4]int{3, 2, 1, 1}, star(20, 20, 7)}, {star(20, -6, -1), [4]int{-3, -2, -1, -1}, star(20, 20, 7)}, {star(20, 20, 19), [4]int{-1, 1, 0, -1}, star(20, -1, -19)},
	} {
		got, ok := impl.MapStar(c.l, c.m[0], c.m[1], c.m[2], c.m[3])
		checkList(t, fmt.Sprint("MapStar", c.l, c.m), got, ok, c.want, true)
	}
	// One step more than these examples have is beyond the limit.
	for _, l := range [][]impl.Ray{star(20, 7, 0), star(1, 7, 1), star(1, 5, 3), star(1, -7, -1), star(1, 0, 1, 1, 7, 1), star(1, 20, 19)} {
		got, ok := impl.MapStar(l, 3, 2, 1, 1)
		checkList(t, fmt.Sprint("MapStar", l), got, ok, nil, false)
		got, ok = impl.MapStar(l, 1, 1, 3, 2)
		checkList(t, fmt.Sprint("MapStar", l), got, ok, nil, false)
	}
}

func TestMapStarByAllNumbers(t *testing.T) {
	stars := append(plainStars(), append(scatteredStars(3, 5)[:22], scatteredStars(8, 20)[:22]...)...)
	succeeded := map[int]int{}
	for n, m := range matrices() {
		for _, l := range [][]impl.Ray{star(1, -1, -1, 2, 0, 1, 3, 1, 0), nil, stars[n%len(stars)]} {
			want, wantOK := mappedByWeights(l, m)
			if !isMap(m) {
				want, wantOK = nil, false
			}
			got, ok := impl.MapStar(l, m[0], m[1], m[2], m[3])
			checkList(t, fmt.Sprint("MapStar", l, m), got, ok, want, wantOK)
			if ok {
				succeeded[m[0]*m[3]-m[1]*m[2]]++
			}
		}
	}
	if succeeded[1] < 100 || succeeded[-1] < 100 || len(succeeded) != 2 {
		t.Error("calls that succeed:", succeeded)
	}
	for n, l := range badStars() {
		m := [][4]int{{1, 0, 0, 1}, {0, 1, 1, 0}, {-1, 0, 0, -1}, {2, 1, 1, 1}}[n%4]
		got, ok := impl.MapStar(l, m[0], m[1], m[2], m[3])
		checkList(t, fmt.Sprint("MapStar", l, m), got, ok, nil, false)
	}
}

func TestMapsOfStarsAreMappedBack(t *testing.T) {
	for _, m := range matrices() {
		if !isMap(m) {
			continue
		}
		determinant := m[0]*m[3] - m[1]*m[2]
		for _, l := range plainStars() {
			if there, ok := impl.MapStar(l, m[0], m[1], m[2], m[3]); ok {
				back, ok := impl.MapStar(there, determinant*m[3], -determinant*m[1], -determinant*m[2], determinant*m[0])
				checkList(t, fmt.Sprint("MapStar", there, m), back, ok, l, true)
			}
		}
	}
}

func TestSupportOf(t *testing.T) {
	line := star(1, -1, -1, 1, 0, 1, 1, 1, 0)
	for _, c := range []struct {
		l            []impl.Ray
		dx, dy, want int
	}{
		{line, 1, 0, 1}, {line, 0, 1, 1}, {line, 1, 1, 2}, {line, -1, -1, 2}, {line, -1, 0, 1}, {line, 1, -1, 1}, {line, 2, 3, 5}, {line, -20, 20, 20}, {nil, 1, 0, 0}, {nil, -20, 20, 0}, {star(3, 2, 1), 1, 1, 9}, {star(3, 2, 1), -1, -1, 0}, {star(3, 2, 1), -1, 2, 0}, {star(3, 2, 1), -1, 1, 0}, {star(3, 2, 1), 1, -1, 3}, {star(1, 0, 1, 1, 1, 0), -1, -20, 0}, {star(1, 0, 1, 1, 1, 0), -1, 0, 0}, {star(20, 19, 20, 20, 20, 19), 20, 20, 31200}, {star(20, -20, 1), -20, -20, 7600}, {star(5, 1, 0, 7, 1, 1), 2, -1, 17},
	} {
		got, ok := impl.SupportOf(c.l, c.dx, c.dy)
		checkNumber(t, fmt.Sprint("SupportOf", c.l, c.dx, c.dy), got, ok, c.want, true)
	}
	numbers := append(edgeNumbers(), 4, -4, -3, 7)
	for n, l := range goodStars() {
		for m, dx := range numbers {
			dy := numbers[(n+m*5)%len(numbers)]
			got, ok := impl.SupportOf(l, dx, dy)
			want, wantOK := 0, min(dx, dy) >= -mostStep && max(dx, dy) <= mostStep && (dx != 0 || dy != 0)
			for _, r := range l {
				if rise := r.DX*dx + r.DY*dy; wantOK && rise > 0 {
					want += r.W * rise
				}
			}
			checkNumber(t, fmt.Sprint("SupportOf", l, dx, dy), got, ok, want, wantOK)
		}
	}
	for _, l := range append(badStars(), badStars()[0]) {
		for _, step := range points(1, 0, 0, 0, -1, 20) {
			got, ok := impl.SupportOf(l, step.X, step.Y)
			checkNumber(t, fmt.Sprint("SupportOf", l, step), got, ok, 0, false)
		}
	}
	for _, step := range points(0, 0, 21, 0, 0, 21, -21, 1, 1, -21, math.MinInt, math.MinInt, math.MaxInt, 1) {
		for _, l := range [][]impl.Ray{nil, line} {
			got, ok := impl.SupportOf(l, step.X, step.Y)
			checkNumber(t, fmt.Sprint("SupportOf", l, step), got, ok, 0, false)
		}
	}
}

func TestDualPolygon(t *testing.T) {
	for _, c := range []struct {
		l    []impl.Ray
		want []impl.Point
	}{
		{star(1, -1, -1, 1, 0, 1, 1, 1, 0), points(0, 0, 1, 0, 0, 1)}, {star(3, -1, -1, 3, 0, 1, 3, 1, 0), points(0, 0, 3, 0, 0, 3)}, {star(1, -1, 0, 1, 0, -1, 1, 1, 1), points(0, 1, 1, 0, 1, 1)}, {star(1, -1, 0, 1, 0, -1, 1, 0, 1, 1, 1, 0), points(0, 0, 1, 0, 1, 1, 0, 1)}, {star(2, -1, 0, 3, 0, -1, 3, 0, 1, 2, 1, 0), points(0, 0, 3, 0, 3, 2, 0, 2)}, {star(1, -2, -1, 1, 1, -1, 1, 1, 2), points(0, 1, 2, 0, 1, 2)}, {star(1, -1, 2, 1, 0, -1, 1, 1, -1), points(0, 0, 2, 1, 1, 1)},
		{star(1, -1, 0, 1, 1, 0), points(0, 0, 0, 1)}, {star(7, -1, 0, 7, 1, 0), points(0, 0, 0, 7)}, {star(1, 0, -1, 1, 0, 1), points(0, 0, 1, 0)}, {star(20, 0, -1, 20, 0, 1), points(0, 0, 20, 0)}, {star(2, -1, -1, 2, 1, 1), points(0, 2, 2, 0)}, {star(2, -1, 1, 2, 1, -1), points(0, 0, 2, 2)}, {star(5, -1, -20, 5, 1, 20), points(0, 5, 100, 0)}, {star(5, -20, -1, 5, 20, 1), points(0, 100, 5, 0)}, {star(5, -20, 1, 5, 20, -1), points(0, 0, 5, 100)},
		{star(1, -1, -1, 1, -1, 0, 1, -1, 1, 1, 0, -1, 1, 0, 1, 1, 1, -1, 1, 1, 0, 1, 1, 1), points(0, 1, 1, 0, 2, 0, 3, 1, 3, 2, 2, 3, 1, 3, 0, 2)},
	} {
		got, ok := impl.DualPolygon(c.l)
		checkList(t, fmt.Sprint("DualPolygon", c.l), got, ok, c.want, true)
	}
	for _, l := range append(badStars(), nil, star(6, -1, -20, 6, 1, 20), star(6, -20, 1, 6, 20, -1), star(20, -1, -20, 20, 1, 20), star(1, 1, 0), star(1, 0, 1, 1, 1, 0), star(2, -1, -1, 1, 0, 1, 1, 1, 0), star(1, -1, 0, 2, 1, 0), star(1, 0, -1, 2, 0, 1), star(1, -1, -1, 1, 1, 1, 1, 1, 2), fullStar()) {
		got, ok := impl.DualPolygon(l)
		checkList(t, fmt.Sprint("DualPolygon", l), got, ok, nil, false)
	}
}

func TestDualPolygonsOfManyStars(t *testing.T) {
	succeeded := map[bool]int{}
	for _, l := range goodStars() {
		x, y := sumOfRays(l)
		if x != 0 || y != 0 || len(l) == 0 {
			got, ok := impl.DualPolygon(l)
			checkList(t, fmt.Sprint("DualPolygon", l), got, ok, nil, false)
			continue
		}
		want, wantOK := dualByAngles(l), true
		for _, p := range want {
			wantOK = wantOK && p.X <= mostCoord && p.Y <= mostCoord
		}
		if !wantOK {
			want = nil
		}
		got, ok := impl.DualPolygon(l)
		checkList(t, fmt.Sprint("DualPolygon", l), got, ok, want, wantOK)
		succeeded[ok]++
	}
	if succeeded[true] < 200 || succeeded[false] < 20 {
		t.Error("balanced stars with a dual polygon, and without one:", succeeded)
	}
}

// The star whose rays stand on the sides of a polygon has this polygon as its dual one, if that is not too great.
func TestDualPolygonsOfPolygons(t *testing.T) {
	atLimit := map[int]int{}
	for _, l := range append(goodPolygons(), widePolygons()...) {
		rays, ok := starOfPolygon(l)
		if !ok || len(l) < 2 {
			continue
		}
		want := fromLeast(l)
		greatest := 0
		for _, p := range want {
			greatest = max(greatest, p.X, p.Y)
		}
		atLimit[greatest]++
		if greatest > mostCoord {
			want = nil
		}
		got, ok := impl.DualPolygon(rays)
		checkList(t, fmt.Sprint("DualPolygon", rays), got, ok, want, greatest <= mostCoord)
	}
	if atLimit[mostCoord] == 0 || atLimit[mostCoord+1] == 0 {
		t.Error("no polygon is at the limit, or none just beyond:", atLimit)
	}
}

// A dual polygon is one of chapter 6, and is as wide in each direction as its star supports the one that is turned.
func TestDualPolygonsAreAsWideAsSupports(t *testing.T) {
	for _, l := range balancedStars() {
		dual, ok := impl.DualPolygon(l)
		if !ok {
			continue
		}
		if !impl.IsPolygon(dual) {
			t.Error("is no polygon:", dual)
		}
		for _, d := range points(1, 0, 0, 1, 1, 1, -3, 2, 20, -19) {
			width, _ := impl.WidthIn(dual, d)
			support, ok := impl.SupportOf(l, -d.Y, d.X)
			checkNumber(t, fmt.Sprint("SupportOf", l, d), support, ok, width, true)
		}
	}
}

func TestStarTextsAreReadBack(t *testing.T) {
	for text, l := range map[string][]impl.Ray{
		"": nil, "1*-1,-1;1*0,1;1*1,0;": star(1, -1, -1, 1, 0, 1, 1, 1, 0), "20*-20,-19;": star(20, -20, -19), "1*-1,0;": star(1, -1, 0), "7*0,-1;": star(7, 0, -1), "10*19,-20;3*20,1;": star(10, 19, -20, 3, 20, 1),
	} {
		got, ok := impl.StarText(l)
		checkText(t, fmt.Sprint("StarText", l), got, ok, text, true)
		back, ok := impl.ParseStar(text)
		checkList(t, fmt.Sprintf("ParseStar(%q)", text), back, ok, l, true)
	}
	for _, l := range goodStars() {
		text, ok := impl.StarText(l)
		checkText(t, fmt.Sprint("StarText", l), text, ok, textOfRays(l), true)
		back, ok := impl.ParseStar(text)
		checkList(t, fmt.Sprintf("ParseStar(%q)", text), back, ok, l, true)
	}
	for _, l := range badStars() {
		text, ok := impl.StarText(l)
		checkText(t, fmt.Sprint("StarText", l), text, ok, "", false)
	}
}

// nearlyStarTexts are texts of no star, many of which are nearly right.
func nearlyStarTexts() []string {
	texts := []string{
		";", ";;", "*", ",", "*;", "*,;", "1", "1;", "1*", "1*;", "1*1", "1*1;", "1*1,", "1*1,;", "1*,0;", "1*,;", "*1,0;", "1,1,0;", "1,0;", "1*1*0;", "1,1*0;", "1*1,0", "1*1,0;;", ";1*1,0;", "1*1,0,;", "1*1,0,0;", "1*1*1,0;", "1**1,0;", "1*1,,0;", "*1*1,0;", "1*,1,0;", "1*1,0*;", "1*1.0;", "1.1,0;", "1:1,0;", "1*1:0;", "1*1,0:", "1*1,0.", "1*1,0,", "1*1,0|", "1 1,0;", "1*1 0;", "11,0;", "1*10;",
		"1*0,1;1*1,0", "1*0,1;;1*1,0;", "1*0,11*1,0;", "1*0,1 1*1,0;", "1*0,1; 1*1,0;", "1*0,1;\n1*1,0;", "1*0,1,1*1,0;", "1*0,1;1*1;", "1*0,1;1,0;", "1*0,1;*1,0;", " 1*1,0;", "1 *1,0;", "1* 1,0;", "1*1 ,0;", "1*1, 0;", "1*1,0 ;", "1*1,0; ", "1*1,0;\n", "\n1*1,0;", "1*1,0;\x00", "\x001*1,0;", "(1*1,0);", "[1*1,0;]", "1×1,0;", "1*1，0;", "1*1,0；", "１*1,0;", "1*١,0;", "\xff*1,0;", "1*\xff,0;",
		"+1*1,0;", "1*+1,0;", "1*1,+0;", "1*0,+1;", "1*1,-0;", "1*-0,1;", "-1*1,0;", "--1*1,0;", "1*--1,0;", "1*-,1;", "1*1,-;", "-*1,0;", "1*- 1,0;", "1*1-,0;", "01*1,0;", "1*01,0;", "1*1,00;", "1*00,1;", "1*-01,0;", "1*0,-01;", "0*1,0;", "00*1,0;", "-0*1,0;", "021*1,0;", "1e1*1,0;", "1_0*1,0;", "0x1*1,0;", "1*0x1,0;", "a*1,0;", "1*a,0;", "1.0*1,0;", "1*1.0,0;", "1/1*1,0;", "inf*1,0;", "1*inf,0;", "1*0,inf;", "1*inf,inf;", "-inf*1,0;", "Inf*1,0;",
		"1*0,0;", "1*2,0;", "1*0,2;", "1*2,2;", "1*-4,6;", "1*20,20;", "1*0,20;", "21*1,0;", "20*21,1;", "1*21,1;", "1*1,21;", "1*-21,1;", "1*1,-21;", "1*1,-20;1*1,21;", "200*1,0;", "1000000*1,0;", "1000001*1,0;", "1000000000*1,0;", "9223372036854775808*1,0;", "18446744073709551617*1,0;", "4294967297*1,0;", "1*18446744073709551617,0;", "1*4294967297,0;", "257*1,0;", "1*257,0;",
		"1*1,0;1*1,0;", "1*1,0;2*1,0;", "1*1,0;1*0,1;", "1*0,1;1*0,-1;", "1*-1,-1;1*1,0;1*0,1;", "1*0,1;1*-1,-1;1*1,0;", "1*-1,-1;1*0,1;1*1,0;1*1,0;", strings.Repeat("1*1,0;", 10), strings.Repeat("1*1,0;", 1000), strings.Repeat(";", 1000), strings.Repeat(",", 1000), strings.Repeat("*", 1000), strings.Repeat("9", 1000) + "*1,0;", strings.Repeat("0", 100) + "1*1,0;",
	}
	for _, l := range badStars() {
		texts = append(texts, textOfRays(l))
	}
	full := textOfRays(fullStar())
	return append(texts, full[:len(full)-1], full+";", full+"1", full+"1*20,20", full+"1*20,20;", ";"+full, full+full)
}

func TestParseStar(t *testing.T) {
	for _, s := range nearlyStarTexts() {
		got, ok := impl.ParseStar(s)
		checkList(t, fmt.Sprintf("ParseStar(%q)", s), got, ok, nil, false)
	}
}
