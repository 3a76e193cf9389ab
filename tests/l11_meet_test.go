package tests

import (
	"fmt"
	"math"
	"math/big"
	"slices"
	"testing"

	"loop.example/g01056/impl"
)

const (
	mostMove  = 1000
	mostTable = 6
)

// ray returns the ray with this weight and these steps.
func ray(w int, dx int, dy int) impl.Ray {
	return impl.Ray{DX: dx, DY: dy, W: w}
}

// opposite returns the ray that goes the other way.
func opposite(r impl.Ray) impl.Ray {
	return ray(r.W, -r.DX, -r.DY)
}

// lineRays returns the star of the line with a weight, which is at most the greatest one.
func lineRays(w int) []impl.Ray {
	return star(w, -1, -1, w, 0, 1, w, 1, 0)
}

// crossRays returns the star of both axes.
func crossRays() []impl.Ray {
	return star(1, -1, 0, 1, 0, -1, 1, 0, 1, 1, 1, 0)
}

// tenPairs returns a balanced star with as many rays as there can be, with steps and weights at their limits.
func tenPairs() []impl.Ray {
	return star(20, -20, -19, 7, -20, 19, 20, -1, 0, 3, -1, 20, 20, 0, -1, 20, 0, 1, 3, 1, -20, 20, 1, 0, 7, 20, -19, 20, 20, 19)
}

// tenRays returns a balanced star with as many rays as there can be, most of which have no opposite one.
func tenRays() []impl.Ray {
	return star(2, -3, 1, 1, -2, -1, 1, -1, -1, 5, -1, 4, 1, 0, 1, 5, 1, -4, 1, 1, -1, 1, 1, 0, 1, 1, 2, 2, 3, -1)
}

// goodRays returns rays in all short directions and some long ones, with the weight 1, the greatest one and others.
func goodRays() []impl.Ray {
	var l []impl.Ray
	steps := append(directions(3), points(20, 19, 19, 20, 20, -19, 1, 20, 20, 1, 20, -1, 13, 8)...)
	for n, step := range steps {
		w := []int{1, mostWeight, 2, 13}[n%4]
		l = append(l, ray(w, step.X, step.Y), ray(mostWeight+1-w, -step.X, -step.Y))
	}
	return l
}

// isGoodMove says again which moves there are.
func isGoodMove(vx int, vy int) bool {
	return -mostMove <= min(vx, vy) && max(vx, vy) <= mostMove && (vx != 0 || vy != 0)
}

// goodMoves returns all short moves, among them those by 0 in one coordinate, moves along good rays, and moves at the limits.
func goodMoves() [][2]int {
	var moves [][2]int
	for _, numbers := range [][]int{{-3, -2, -1, 0, 1, 2, 3}, {-mostMove, -mostMove + 1, -500, -19, 0, 1, 7, 500, mostMove - 1, mostMove}} {
		for _, vx := range numbers {
			for _, vy := range numbers {
				if vx != 0 || vy != 0 {
					moves = append(moves, [2]int{vx, vy})
				}
			}
		}
	}
	for n, r := range goodRays() {
		times := []int{1, 2, 50, 17}[n%4]
		moves = append(moves, [2]int{times * r.DX, times * r.DY}, [2]int{times*r.DX + 1, times * r.DY}, [2]int{times * r.DX, times*r.DY - 1})
	}
	return slices.DeleteFunc(moves, func(v [2]int) bool { return !isGoodMove(v[0], v[1]) })
}

// badMoves returns moves beyond the limits, and the one by 0 and 0.
func badMoves() [][2]int {
	moves := [][2]int{{0, 0}, {math.MinInt, math.MaxInt}, {math.MinInt, math.MinInt}, {math.MaxInt, math.MinInt}}
	for _, n := range append(edgeNumbers(), -mostMove-1, mostMove+1) {
		if !isGoodMove(n, 1) {
			moves = append(moves, [2]int{n, 0}, [2]int{0, n}, [2]int{n, 1}, [2]int{-1, n}, [2]int{n, n}, [2]int{mostMove, n}, [2]int{n, -mostMove})
		}
	}
	return moves
}

// haveOppositeSteps says again which rays are parallel.
func haveOppositeSteps(a impl.Ray, b impl.Ray) bool {
	return a.DX == b.DX && a.DY == b.DY || a.DX == -b.DX && a.DY == -b.DY
}

// multiplicityByArea says again what the multiplicity is: twice the area of a triangle with two weighted sides.
func multiplicityByArea(a impl.Ray, b impl.Ray) int {
	l := points(0, 0, a.W*a.DX, a.W*a.DY, b.W*b.DX, b.W*b.DY)
	return max(areaByTriangles(l), areaByTriangles([]impl.Point{l[0], l[2], l[1]}))
}

// timesToMeet tells how many times the steps of two rays that are not parallel lead from 0, 0 and from another point to where their lines meet.
func timesToMeet(a impl.Ray, b impl.Ray, v [2]int) (*big.Rat, *big.Rat) {
	if a.DX == 0 {
		// Of the equations s a.DX = vx + t b.DX and s a.DY = vy + t b.DY the first one has no s.
		t := big.NewRat(int64(-v[0]), int64(b.DX))
		s := timesRat(b.DY, t)
		s.Add(s, big.NewRat(int64(v[1]), 1))
		return s.Quo(s, big.NewRat(int64(a.DY), 1)), t
	}
	slope := big.NewRat(int64(a.DY), int64(a.DX))
	t := new(big.Rat).Sub(big.NewRat(int64(v[1]), 1), timesRat(v[0], slope))
	t.Quo(t, new(big.Rat).Sub(timesRat(b.DX, slope), big.NewRat(int64(b.DY), 1)))
	s := timesRat(b.DX, t)
	s.Add(s, big.NewRat(int64(v[0]), 1))
	return s.Quo(s, big.NewRat(int64(a.DX), 1)), t
}

// meetsByTimes says again whether a ray meets another one that is moved.
func meetsByTimes(a impl.Ray, b impl.Ray, v [2]int) bool {
	if haveOppositeSteps(a, b) {
		return false
	}
	s, t := timesToMeet(a, b, v)
	return s.Sign() > 0 && t.Sign() > 0
}

// turnTo returns the angle by which steps are turned to the left, or if it is negative to the right, to get to others.
func turnTo(dx int, dy int, otherX int, otherY int) float64 {
	angle := math.Atan2(float64(otherY), float64(otherX)) - math.Atan2(float64(dy), float64(dx))
	return math.Remainder(angle, 2*math.Pi)
}

// meetsByAngles says again, faster, whether a ray meets another one: the move is between the ray and the opposite of the other one. No two angles of different directions are nearly equal.
func meetsByAngles(a impl.Ray, b impl.Ray, v [2]int) bool {
	const little = 0.000001
	whole, part := turnTo(a.DX, a.DY, -b.DX, -b.DY), turnTo(a.DX, a.DY, v[0], v[1])
	if whole < 0 {
		whole, part = -whole, -part
	}
	return whole < math.Pi-little && little < part && part < whole-little
}

// isAlong reports whether a move leads along the line of a ray, trying all multiples.
func isAlong(v [2]int, r impl.Ray) bool {
	for times := -mostMove; times <= mostMove; times++ {
		if times*r.DX == v[0] && times*r.DY == v[1] {
			return true
		}
	}
	return false
}

// pairsByAngles says again which rays meet, unless the move is along one of them, and what the sum of their multiplicities is.
func pairsByAngles(a []impl.Ray, b []impl.Ray, v [2]int) ([][]int, int, bool) {
	if slices.ContainsFunc(slices.Concat(a, b), func(r impl.Ray) bool { return isAlong(v, r) }) {
		return nil, 0, false
	}
	var pairs [][]int
	sum := 0
	for n := range a {
		for k := range b {
			if meetsByAngles(a[n], b[k], v) {
				pairs = append(pairs, []int{n, k})
				sum += multiplicityByArea(a[n], b[k])
			}
		}
	}
	return pairs, sum, true
}

// countBySides says again what the count of two balanced stars is: the mixed area of their dual polygons, however great these are.
func countBySides(a []impl.Ray, b []impl.Ray) int {
	if len(a) == 0 || len(b) == 0 {
		return 0
	}
	return mixedBySides(dualByAngles(a), dualByAngles(b))
}

// degreeByWidths says again what the degree of a balanced star is: the size of the least triangle around its dual polygon.
func degreeByWidths(l []impl.Ray) int {
	if len(l) == 0 {
		return 0
	}
	var sums []int
	// The dual polygon begins at the axes.
	for _, p := range dualByAngles(l) {
		sums = append(sums, p.X+p.Y)
	}
	return slices.Max(sums)
}

// isEven reports whether a star is balanced.
func isEven(l []impl.Ray) bool {
	x, y := sumOfRays(l)
	return x == 0 && y == 0
}

// evenStars returns balanced stars of all kinds, the empty one among them.
func evenStars() [][]impl.Ray {
	return append(balancedStars(), nil, []impl.Ray{}, crossRays(), tenPairs(), tenRays(), star(mostWeight, -20, -19, mostWeight, 20, 19), star(mostWeight, -20, 19, mostWeight, 20, -19), lineRays(mostWeight))
}

// unevenStars returns stars that are not balanced.
func unevenStars() [][]impl.Ray {
	return slices.DeleteFunc(goodStars(), isEven)
}

func checkPair(t *testing.T, a impl.Ray, b impl.Ray, want int, wantParallel bool, wantOK bool) {
	t.Helper()
	got, ok := impl.PairMultiplicity(a, b)
	checkNumber(t, fmt.Sprint("PairMultiplicity ", a, b), got, ok, want, wantOK)
	are, ok := impl.AreParallel(a, b)
	checkFlag(t, fmt.Sprint("AreParallel ", a, b), are, ok, wantParallel, wantOK)
}

func checkMeets(t *testing.T, a impl.Ray, b impl.Ray, v [2]int, want bool, wantOK bool) {
	t.Helper()
	meets, ok := impl.MeetsWhenMoved(a, b, v[0], v[1])
	checkFlag(t, fmt.Sprint("MeetsWhenMoved ", a, b, v), meets, ok, want, wantOK)
}

// checkPairs checks which rays meet, and the sum of their multiplicities.
func checkPairs(t *testing.T, a []impl.Ray, b []impl.Ray, v [2]int, want [][]int, wantSum int, wantOK bool) {
	t.Helper()
	pairs, ok := impl.MeetingPairs(a, b, v[0], v[1])
	checkLists(t, fmt.Sprint("MeetingPairs ", a, b, v), pairs, ok, want, wantOK)
	sum, ok := impl.MeetSum(a, b, v[0], v[1])
	checkNumber(t, fmt.Sprint("MeetSum ", a, b, v), sum, ok, wantSum, wantOK)
}

// checkCounts checks what two stars have together: their count, the product of their degrees, and the difference of both.
func checkCounts(t *testing.T, a []impl.Ray, b []impl.Ray, wantCount int, wantBezout int, wantOK bool) {
	t.Helper()
	count, ok := impl.MeetCount(a, b)
	checkNumber(t, fmt.Sprint("MeetCount ", a, b), count, ok, wantCount, wantOK)
	bezout, ok := impl.BezoutOf(a, b)
	checkNumber(t, fmt.Sprint("BezoutOf ", a, b), bezout, ok, wantBezout, wantOK)
	defect, ok := impl.MeetDefect(a, b)
	checkNumber(t, fmt.Sprint("MeetDefect ", a, b), defect, ok, wantBezout-wantCount, wantOK)
}

// checkOwnCounts checks what one star has: its count with itself, and its degree.
func checkOwnCounts(t *testing.T, l []impl.Ray, wantCount int, wantDegree int, wantOK bool) {
	t.Helper()
	count, ok := impl.SelfCount(l)
	checkNumber(t, fmt.Sprint("SelfCount ", l), count, ok, wantCount, wantOK)
	degree, ok := impl.StarDegree(l)
	checkNumber(t, fmt.Sprint("StarDegree ", l), degree, ok, wantDegree, wantOK)
}

func checkTable(t *testing.T, l [][]impl.Ray, want [][]int, wantOK bool) {
	t.Helper()
	got, ok := impl.MeetTable(l)
	checkLists(t, fmt.Sprint("MeetTable ", l), got, ok, want, wantOK)
}

func TestLimitOfMoves(t *testing.T) {
	if impl.MaxMove != mostMove {
		t.Error("limit", impl.MaxMove)
	}
}

// The example of the document.
func TestLineMeetsItselfOnce(t *testing.T) {
	l, ok := impl.ParseStar("1*-1,-1;1*0,1;1*1,0;")
	checkList(t, "ParseStar", l, ok, lineRays(1), true)
	checkOwnCounts(t, l, 1, 1, true)
	checkCounts(t, l, l, 1, 1, true)
	checkPair(t, ray(1, 1, 0), ray(1, 1, 2), 2, false, true)
}

func TestPairMultiplicityAndAreParallel(t *testing.T) {
	for _, c := range []struct {
		a, b     impl.Ray
		want     int
		parallel bool
	}{
		{ray(1, 1, 0), ray(1, 0, 1), 1, false}, {ray(1, 0, 1), ray(1, 0, -1), 0, true}, {ray(1, 1, 2), ray(1, 1, 2), 0, true}, {ray(20, 1, 2), ray(3, 1, 2), 0, true}, {ray(20, -3, 2), ray(20, 3, -2), 0, true}, {ray(1, 1, 2), ray(1, 2, 1), 3, false}, {ray(1, 1, 2), ray(1, -1, 2), 4, false}, {ray(1, 1, 2), ray(1, 1, -2), 4, false}, {ray(2, 1, 0), ray(3, 0, 1), 6, false}, {ray(2, 1, 1), ray(3, -1, 1), 12, false}, {ray(20, 1, 0), ray(1, 0, 1), 20, false}, {ray(1, -1, -1), ray(20, 0, 1), 20, false},
		{ray(20, 1, 0), ray(20, 0, -1), 400, false}, {ray(20, 20, 19), ray(20, 20, -19), 304000, false}, {ray(20, 20, 19), ray(20, -19, 20), 304400, false}, {ray(1, 20, 19), ray(1, -19, 20), 761, false}, {ray(1, 20, 19), ray(1, 19, 18), 1, false}, {ray(7, 2, 3), ray(5, 3, 2), 175, false}, {ray(1, 20, -1), ray(1, 1, -20), 399, false}, {ray(1, 0, 1), ray(1, 1, 20), 1, false},
	} {
		checkPair(t, c.a, c.b, c.want, c.parallel, true)
		checkPair(t, c.b, c.a, c.want, c.parallel, true)
		checkPair(t, opposite(c.a), c.b, c.want, c.parallel, true)
	}
	for _, a := range goodRays() {
		for _, b := range goodRays() {
			checkPair(t, a, b, multiplicityByArea(a, b), haveOppositeSteps(a, b), true)
		}
	}
}

// Each ray within the limits is taken, and no other one.
func TestRaysOfAllSteps(t *testing.T) {
	for dx := -mostStep - 2; dx <= mostStep+2; dx++ {
		for dy := -mostStep - 2; dy <= mostStep+2; dy++ {
			for _, w := range []int{-1, 0, 1, mostWeight, mostWeight + 1} {
				for n, other := range []impl.Ray{ray(1, 1, 0), ray(2, -1, 3)} {
					r := ray(w, dx, dy)
					if !isGoodRay(r) {
						checkPair(t, r, other, 0, false, false)
						checkMeets(t, r, other, [2]int{n, 1}, false, false)
						continue
					}
					checkPair(t, r, other, multiplicityByArea(r, other), haveOppositeSteps(r, other), true)
				}
			}
		}
	}
}

func TestRaysThatMeetAndThatDoNot(t *testing.T) {
	right, up, m := ray(1, 1, 0), ray(1, 0, 1), mostMove
	for _, c := range []struct {
		a, b  impl.Ray
		v     [2]int
		meets bool
	}{
		// They cross.
		{right, up, [2]int{1, -1}, true}, {right, up, [2]int{m, -m}, true}, {right, up, [2]int{1, -m}, true}, {right, up, [2]int{m, -1}, true}, {up, right, [2]int{-1, 1}, true}, {right, ray(1, -1, 2), [2]int{1, -1}, true}, {ray(20, 1, 0), ray(20, 0, 1), [2]int{2, -3}, true}, {ray(1, 1, 1), up, [2]int{2, 1}, true}, {ray(1, 1, 2), ray(1, -2, -1), [2]int{5, 4}, true}, {ray(1, -1, -1), ray(1, -1, 0), [2]int{-1, -2}, true}, {ray(1, 20, 19), ray(1, 19, 18), [2]int{1, 1}, true}, {right, ray(1, -1, -20), [2]int{m, m}, true},
		// One begins on the other one.
		{right, up, [2]int{1, 0}, false}, {right, up, [2]int{m, 0}, false}, {right, up, [2]int{0, -1}, false}, {right, up, [2]int{0, -m}, false}, {ray(1, 1, 2), right, [2]int{1, 2}, false}, {ray(1, 1, 2), right, [2]int{500, m}, false}, {right, ray(1, -1, -2), [2]int{1, 2}, false}, {right, ray(1, -1, 2), [2]int{1, -2}, false}, {ray(1, 20, -19), ray(3, 1, 0), [2]int{1000, -950}, false},
		// They pass each other: only their lines cross.
		{right, up, [2]int{-1, -1}, false}, {right, up, [2]int{1, 1}, false}, {right, up, [2]int{-1, 1}, false}, {right, up, [2]int{-1, 0}, false}, {right, up, [2]int{0, 1}, false}, {right, up, [2]int{-m, -m}, false}, {right, up, [2]int{m, m}, false}, {right, ray(1, -1, 1), [2]int{1, -1}, false}, {right, ray(1, -1, 1), [2]int{1, -2}, false}, {right, ray(1, -1, -20), [2]int{50, m}, false}, {right, ray(1, -1, -20), [2]int{49, m}, false}, {right, ray(1, -1, -20), [2]int{51, m}, true}, {ray(1, 20, 19), ray(1, 19, 18), [2]int{-1, -1}, false},
		// They are parallel, some of them on one line.
		{right, right, [2]int{0, 1}, false}, {right, right, [2]int{3, 0}, false}, {right, right, [2]int{-3, 0}, false}, {right, ray(1, -1, 0), [2]int{5, 0}, false}, {right, ray(1, -1, 0), [2]int{-5, 0}, false}, {right, ray(1, -1, 0), [2]int{5, 2}, false}, {right, ray(9, 1, 0), [2]int{5, -2}, false}, {ray(1, 2, -3), ray(1, -2, 3), [2]int{4, -6}, false}, {ray(1, 2, -3), ray(1, -2, 3), [2]int{3, 2}, false},
	} {
		checkMeets(t, c.a, c.b, c.v, c.meets, true)
		checkMeets(t, c.b, c.a, [2]int{-c.v[0], -c.v[1]}, c.meets, true)
		checkMeets(t, opposite(c.a), opposite(c.b), [2]int{-c.v[0], -c.v[1]}, c.meets, true)
		if c.meets {
			checkMeets(t, opposite(c.a), c.b, c.v, false, true)
			checkMeets(t, c.a, opposite(c.b), c.v, false, true)
		}
	}
}

func TestManyRaysMeet(t *testing.T) {
	rays, moves, met := goodRays(), goodMoves(), 0
	for n, a := range rays {
		for k, b := range rays {
			for i := (n + k*3) % 7; i < len(moves); i += 7 {
				want := meetsByTimes(a, b, moves[i])
				checkMeets(t, a, b, moves[i], want, true)
				if want != meetsByAngles(a, b, moves[i]) {
					t.Fatal("the tests do not agree:", a, b, moves[i])
				}
				if want {
					met++
				}
			}
		}
	}
	if met < 10000 {
		t.Error("too few meet:", met)
	}
}

func TestRaysAndMovesThatAreNone(t *testing.T) {
	for _, bad := range badRays() {
		for _, other := range []impl.Ray{ray(1, 1, 0), ray(20, -20, 19), bad, {}} {
			for _, v := range [][2]int{{1, 2}, {-mostMove, mostMove}, {0, 0}} {
				checkMeets(t, bad, other, v, false, false)
				checkMeets(t, other, bad, v, false, false)
			}
			checkPair(t, bad, other, 0, false, false)
			checkPair(t, other, bad, 0, false, false)
		}
	}
	for n, v := range badMoves() {
		checkMeets(t, ray(1, 1, 0), ray(1, 0, 1), v, false, false)
		checkMeets(t, goodRays()[n%20], goodRays()[n*7%20], v, false, false)
		for _, l := range [][]impl.Ray{nil, lineRays(1), tenPairs(), star(1, 3, 2)} {
			checkPairs(t, l, lineRays(1), v, nil, 0, false)
			checkPairs(t, nil, l, v, nil, 0, false)
			checkPairs(t, l, l, v, nil, 0, false)
		}
	}
}

func TestMeetingPairs(t *testing.T) {
	line, right, m := lineRays(1), star(1, 1, 0), mostMove
	for _, c := range []struct {
		a, b []impl.Ray
		v    [2]int
		want [][]int
		sum  int
	}{
		{line, line, [2]int{m, 1}, rows(2, 2, 0), 1}, {line, line, [2]int{1, 2}, rows(2, 1, 0), 1}, {line, line, [2]int{-1, 1}, rows(2, 1, 2), 1}, {line, line, [2]int{-2, -1}, rows(2, 0, 2), 1}, {line, line, [2]int{-1, -2}, rows(2, 0, 1), 1}, {line, line, [2]int{1, -1}, rows(2, 2, 1), 1}, {line, line, [2]int{m, m - 1}, rows(2, 2, 0), 1}, {line, line, [2]int{-m, m}, rows(2, 1, 2), 1},
		{lineRays(3), lineRays(20), [2]int{1, -1}, rows(2, 2, 1), 60}, {crossRays(), crossRays(), [2]int{1, 1}, rows(2, 2, 0, 3, 1), 2}, {crossRays(), crossRays(), [2]int{-m, 1}, rows(2, 0, 1, 2, 3), 2}, {crossRays(), line, [2]int{-1, 2}, rows(2, 0, 0, 2, 2), 2}, {line, crossRays(), [2]int{-1, 2}, rows(2, 0, 1, 1, 3), 2}, {star(1, -1, 0, 1, 1, 0), star(1, 0, -1, 1, 0, 1), [2]int{1, 1}, rows(2, 1, 0), 1},
		{star(2, -2, -1, 2, 1, -1, 2, 1, 2), line, [2]int{-5, 1}, rows(2, 0, 0, 2, 2), 6},
		// These are not balanced: it depends on the move which rays meet.
		{right, star(1, 0, 1), [2]int{1, -1}, rows(2, 0, 0), 1}, {right, star(1, 0, 1), [2]int{1, 1}, nil, 0}, {right, star(1, 0, 1), [2]int{-1, -1}, nil, 0}, {star(20, 20, 19), star(20, 20, -19), [2]int{m, 949}, nil, 0}, {star(20, 20, 19), star(20, 20, -19), [2]int{m, 951}, rows(2, 0, 0), 304000}, {star(3, 1, 0), star(5, 0, -1, 7, 0, 1), [2]int{1, -1}, rows(2, 0, 1), 21}, {star(3, 1, 0), star(5, 0, -1, 7, 0, 1), [2]int{1, 1}, rows(2, 0, 0), 15}, {star(1, 0, 1, 1, 1, 0), star(1, -1, -1), [2]int{1, 2}, rows(2, 0, 0), 1}, {star(1, -1, -1), star(1, 0, 1, 1, 1, 0), [2]int{1, 2}, nil, 0},
		// One star or both are empty.
		{nil, nil, [2]int{1, 0}, nil, 0}, {nil, line, [2]int{1, 2}, nil, 0}, {line, nil, [2]int{-m, m}, nil, 0}, {nil, right, [2]int{0, 1}, nil, 0}, {tenPairs(), nil, [2]int{m, 1}, nil, 0},
		// Nothing can meet: all rays are parallel.
		{right, right, [2]int{1, 2}, nil, 0}, {star(1, -1, 0, 1, 1, 0), right, [2]int{0, m}, nil, 0},
	} {
		checkPairs(t, c.a, c.b, c.v, c.want, c.sum, true)
	}
}

func TestMovesAlongRays(t *testing.T) {
	a, b, m := star(1, 2, 1), star(5, 0, 1), mostMove
	for _, v := range [][2]int{{2, 1}, {-2, -1}, {4, 2}, {m, m / 2}, {-m, -m / 2}, {0, 1}, {0, -1}, {0, m}, {0, -m}, {0, 5}} {
		checkPairs(t, a, b, v, nil, 0, false)
		checkPairs(t, b, a, v, nil, 0, false)
		checkPairs(t, slices.Concat(b, a), nil, v, nil, 0, false)
		checkPairs(t, nil, slices.Concat(b, a), v, nil, 0, false)
	}
	for _, v := range [][2]int{{1, 2}, {2, 2}, {m, m/2 - 1}, {-m, -m/2 + 1}, {1, 0}, {-m, 0}, {1, m}, {-1, m}, {2, -1}} {
		meets := v[0] > 0 && 2*v[1] < v[0]
		want, sum := [][]int(nil), 0
		if meets {
			want, sum = rows(2, 0, 0), 10
		}
		checkPairs(t, a, b, v, want, sum, true)
	}
	// One ray among ten is enough, and the move may be many times its steps.
	for n, r := range tenRays() {
		for _, times := range []int{1, -1, 2, -3, 50, -200, 250} {
			v := [2]int{times * r.DX, times * r.DY}
			isMove := isGoodMove(v[0], v[1])
			checkPairs(t, tenRays(), star(1, 7, 5), v, nil, 0, false)
			checkPairs(t, star(1, 7, 5), tenRays(), v, nil, 0, false)
			checkPairs(t, tenRays()[n:n+1], nil, v, nil, 0, false)
			checkPairs(t, star(1, 7, 5), nil, v, nil, 0, isMove)
			checkMeets(t, r, ray(1, 7, 5), v, false, isMove)
			checkMeets(t, ray(1, 7, 5), r, v, false, isMove)
		}
	}
}

func TestPairsOfManyStars(t *testing.T) {
	stars, moves := append(goodStars(), evenStars()...), goodMoves()
	succeeded := map[bool]int{}
	for n, a := range stars {
		for k, b := range [][]impl.Ray{a, stars[(n*7+1)%len(stars)], stars[(n*31+5)%len(stars)], stars[n%24], stars[(n+1)%24]} {
			for _, v := range [][2]int{moves[(n+k*5)%len(moves)], moves[n*11%len(moves)], {mostMove, 1}} {
				want, sum, wantOK := pairsByAngles(a, b, v)
				checkPairs(t, a, b, v, want, sum, wantOK)
				if len(want) > 1 || !wantOK {
					succeeded[wantOK]++
				}
			}
		}
	}
	if succeeded[true] < 2000 || succeeded[false] < 500 {
		t.Error("too few pairs, or too few failures:", succeeded)
	}
}

func TestCallsOfBadStars(t *testing.T) {
	for n, bad := range badStars() {
		checkOwnCounts(t, bad, 0, 0, false)
		checkTable(t, [][]impl.Ray{bad}, nil, false)
		for _, other := range [][]impl.Ray{nil, lineRays(1), tenPairs(), bad} {
			v := [][2]int{{1, 2}, {mostMove, 1}, {-7, 5}}[n%3]
			checkPairs(t, bad, other, v, nil, 0, false)
			checkPairs(t, other, bad, v, nil, 0, false)
			checkCounts(t, bad, other, 0, 0, false)
			checkCounts(t, other, bad, 0, 0, false)
		}
	}
}

// Counts are those of balanced stars only, while all stars have pairs.
func TestCountsOfUnbalancedStars(t *testing.T) {
	for _, l := range unevenStars() {
		checkOwnCounts(t, l, 0, 0, false)
		checkTable(t, [][]impl.Ray{l}, nil, false)
		want, sum, ok := pairsByAngles(l, lineRays(1), [2]int{mostMove, 1})
		checkPairs(t, l, lineRays(1), [2]int{mostMove, 1}, want, sum, ok)
		for _, other := range [][]impl.Ray{nil, lineRays(1), tenRays(), l} {
			checkCounts(t, l, other, 0, 0, false)
			checkCounts(t, other, l, 0, 0, false)
		}
	}
}

func TestCountsOfTwoStars(t *testing.T) {
	axis, other, thin := star(1, -1, 0, 1, 1, 0), star(1, 0, -1, 1, 0, 1), star(1, -2, -1, 1, 1, -1, 1, 1, 2)
	back := star(1, -1, 0, 1, 0, -1, 1, 1, 1)
	for _, c := range []struct {
		a, b          []impl.Ray
		count, bezout int
	}{
		{lineRays(1), lineRays(1), 1, 1}, {lineRays(2), lineRays(3), 6, 6}, {lineRays(20), lineRays(20), 400, 400}, {lineRays(1), back, 2, 2}, {back, back, 1, 4}, {lineRays(1), crossRays(), 2, 2}, {crossRays(), crossRays(), 2, 4}, {axis, other, 1, 1}, {axis, axis, 0, 1}, {other, other, 0, 1}, {axis, lineRays(1), 1, 1}, {other, lineRays(7), 7, 7}, {axis, crossRays(), 1, 2}, {thin, thin, 3, 9}, {thin, lineRays(1), 3, 3}, {thin, axis, 2, 3}, {thin, other, 2, 3}, {star(4, -1, -1, 4, 1, 1), lineRays(1), 4, 4}, {star(4, -1, 1, 4, 1, -1), lineRays(1), 8, 8}, {star(4, -1, 1, 4, 1, -1), star(4, -1, -1, 4, 1, 1), 32, 32},
		{star(20, -20, -19, 20, 20, 19), star(20, -20, 19, 20, 20, -19), 304000, 312000}, {star(20, -20, 19, 20, 20, -19), star(20, -20, 19, 20, 20, -19), 0, 608400}, {star(20, -20, 19, 20, 20, -19), lineRays(1), 780, 780}, {star(20, -20, -19, 20, 20, 19), lineRays(1), 400, 400},
		{nil, nil, 0, 0}, {nil, lineRays(1), 0, 0}, {nil, tenRays(), 0, 0}, {tenPairs(), nil, 0, 0},
	} {
		checkCounts(t, c.a, c.b, c.count, c.bezout, true)
		checkCounts(t, c.b, c.a, c.count, c.bezout, true)
	}
	for _, c := range []struct {
		l             []impl.Ray
		count, degree int
	}{
		{nil, 0, 0}, {lineRays(1), 1, 1}, {lineRays(2), 4, 2}, {lineRays(20), 400, 20}, {axis, 0, 1}, {other, 0, 1}, {star(4, -1, 1, 4, 1, -1), 0, 8}, {crossRays(), 2, 2}, {back, 1, 2}, {thin, 3, 3}, {star(20, -20, 19, 20, 20, -19), 0, 780}, {star(20, -20, -19, 20, 20, 19), 0, 400}, {star(5, -1, -20, 5, 1, 20), 0, 100},
	} {
		checkOwnCounts(t, c.l, c.count, c.degree, true)
	}
}

func TestCountsOfManyStars(t *testing.T) {
	stars := evenStars()
	defects := map[bool]int{}
	for n, a := range stars {
		checkOwnCounts(t, a, countBySides(a, a), degreeByWidths(a), true)
		for k := n % 5; k < len(stars); k += 5 {
			count, bezout := countBySides(a, stars[k]), degreeByWidths(a)*degreeByWidths(stars[k])
			checkCounts(t, a, stars[k], count, bezout, true)
			if count > bezout {
				t.Fatal("the count is greater than the bound:", a, stars[k])
			}
			defects[count < bezout]++
		}
	}
	if defects[true] < 1000 || defects[false] < 100 {
		t.Error("too few defects that are greater than 0, or that are 0:", defects)
	}
}

// Guarantee 11: the sum of multiplicities is the same for each move.
func TestSumsOfMultiplicitiesAreTheSameForEachMove(t *testing.T) {
	stars, moves := evenStars(), goodMoves()
	sums := 0
	for n, a := range stars {
		for k, b := range [][]impl.Ray{a, stars[n*3%len(stars)], stars[(n*17+2)%len(stars)], lineRays(1), tenRays(), tenPairs()} {
			count, ok := impl.MeetCount(a, b)
			if !ok {
				t.Fatal("there is no count:", a, b)
			}
			for i := (n + k) % 5; i < len(moves); i += 5 {
				v := moves[i]
				if sum, ok := impl.MeetSum(a, b, v[0], v[1]); ok {
					sums++
					checkNumber(t, fmt.Sprint("MeetSum ", a, b, v), sum, ok, count, true)
				}
			}
		}
	}
	if sums < 50000 {
		t.Error("too few moves:", sums)
	}
}

// Guarantee 11: it is the mixed area of the dual polygons.
func TestSumsOfMultiplicitiesAreMixedAreas(t *testing.T) {
	stars := evenStars()
	areas := 0
	for n, a := range stars {
		for k := n % 3; k < len(stars); k += 3 {
			dualA, isA := impl.DualPolygon(a)
			dualB, isB := impl.DualPolygon(stars[k])
			area, isArea := impl.MixedArea(dualA, dualB)
			if !isA || !isB || !isArea {
				continue
			}
			areas++
			count, ok := impl.MeetCount(a, stars[k])
			checkNumber(t, fmt.Sprint("MeetCount ", a, stars[k]), count, ok, area, true)
		}
	}
	if areas < 1000 {
		t.Error("too few mixed areas:", areas)
	}
}

func TestMeetTable(t *testing.T) {
	axis, other, thin := star(1, -1, 0, 1, 1, 0), star(1, 0, -1, 1, 0, 1), star(1, -2, -1, 1, 1, -1, 1, 1, 2)
	for _, c := range []struct {
		l    [][]impl.Ray
		want [][]int
	}{
		{nil, nil}, {[][]impl.Ray{}, nil}, {[][]impl.Ray{nil}, rows(1, 0)}, {[][]impl.Ray{lineRays(1)}, rows(1, 1)}, {[][]impl.Ray{lineRays(20)}, rows(1, 400)}, {[][]impl.Ray{lineRays(1), lineRays(1)}, rows(2, 1, 1, 1, 1)}, {[][]impl.Ray{lineRays(1), nil}, rows(2, 1, 0, 0, 0)}, {[][]impl.Ray{axis, other}, rows(2, 0, 1, 1, 0)}, {[][]impl.Ray{lineRays(3), crossRays(), thin}, rows(3, 9, 6, 9, 6, 2, 4, 9, 4, 3)},
		{[][]impl.Ray{lineRays(1), lineRays(2), axis, other, thin, crossRays()}, rows(6, 1, 2, 1, 1, 3, 2, 2, 4, 2, 2, 6, 4, 1, 2, 0, 1, 2, 1, 1, 2, 1, 0, 2, 1, 3, 6, 2, 2, 3, 4, 2, 4, 1, 1, 4, 2)},
		{make([][]impl.Ray, mostTable), rows(6, repeated(36, 0)...)},
	} {
		checkTable(t, c.l, c.want, true)
	}
	for _, count := range []int{mostTable + 1, mostTable + 2, 50} {
		checkTable(t, slices.Repeat([][]impl.Ray{lineRays(1)}, count), nil, false)
		checkTable(t, make([][]impl.Ray, count), nil, false)
	}
}

// One star that has no counts is enough, wherever it is.
func TestMeetTableOfBadStars(t *testing.T) {
	full := [][]impl.Ray{lineRays(1), nil, crossRays(), tenRays(), tenPairs(), lineRays(20)}
	if table, ok := impl.MeetTable(full); !ok || len(table) != mostTable {
		t.Error("there is no table of six stars")
	}
	lists := append(badStars()[:40], unevenStars()[:40]...)
	lists = append(lists, star(2, -1, -1, 1, 0, 1, 1, 1, 0), star(1, 1, 0, 1, 0, 1, 1, -1, -1), star(1, 1, 0))
	for _, bad := range lists {
		for n := range full {
			l := slices.Clone(full)
			l[n] = bad
			checkTable(t, l, nil, false)
			checkTable(t, l[n:n+1], nil, false)
			checkTable(t, l[:n], tableBySides(l[:n]), true)
			checkTable(t, l[n:], nil, false)
		}
	}
}

// tableBySides says again what the counts of balanced stars with each other are.
func tableBySides(l [][]impl.Ray) [][]int {
	var table [][]int
	for _, a := range l {
		var row []int
		for _, b := range l {
			row = append(row, countBySides(a, b))
		}
		table = append(table, row)
	}
	return table
}

func TestManyMeetTables(t *testing.T) {
	stars := evenStars()
	for n := range stars {
		for count := range mostTable + 1 {
			l := slices.Concat(stars[n:], stars)[:count]
			checkTable(t, l, tableBySides(l), true)
		}
	}
}
