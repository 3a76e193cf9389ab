package tests

import (
	"slices"
	"strings"
	"testing"

	"loop.example/g01056/impl"
)

// Guarantee 33, chapter 5: every function accepts all arguments without panicking and modifies none of them.

// planeCall is a function of chapter 5 that takes a plane polynomial, with one more of them and two numbers for those that need them.
type planeCall func(a []impl.Term, b []impl.Term, x int, y int) outcome

// callsOnPlanes lists the functions of chapter 5 that take a plane polynomial.
func callsOnPlanes() map[string]planeCall {
	calls := map[string]planeCall{
		"IsPlane": func(a []impl.Term, _ []impl.Term, _ int, _ int) outcome { return outcome{ok: impl.IsPlane(a)} },
		"PlaneValue": func(a []impl.Term, _ []impl.Term, x int, y int) outcome {
			n, ok := impl.PlaneValue(a, x, y)
			return outcome{numbers: []int{n}, ok: ok}
		},
		"PlaneLeast": func(a []impl.Term, _ []impl.Term, x int, y int) outcome {
			l, ok := impl.PlaneLeast(a, x, y)
			return outcome{numbers: l, ok: ok}
		},
		"IsOnCurve": func(a []impl.Term, _ []impl.Term, x int, y int) outcome {
			is, ok := impl.IsOnCurve(a, x, y)
			return outcome{flags: []bool{is}, ok: ok}
		},
		"TotalDegree": func(a []impl.Term, _ []impl.Term, _ int, _ int) outcome {
			n, ok := impl.TotalDegree(a)
			return outcome{numbers: []int{n}, ok: ok}
		},
		"RowOf": func(a []impl.Term, _ []impl.Term, j int, _ int) outcome {
			l, ok := impl.RowOf(a, j)
			return outcome{numbers: l, ok: ok}
		},
		"NewtonPoints": func(a []impl.Term, _ []impl.Term, _ int, _ int) outcome {
			points, ok := impl.NewtonPoints(a)
			return outcome{numbers: numbersOfPoints(points), ok: ok}
		},
		"PlaneText": func(a []impl.Term, _ []impl.Term, _ int, _ int) outcome {
			s, ok := impl.PlaneText(a)
			return outcome{text: s, ok: ok}
		},
	}
	for name, call := range callsWithPlanes() {
		calls[name] = func(a []impl.Term, b []impl.Term, x int, y int) outcome {
			l, ok := call(a, b, x, y)
			return outcome{numbers: numbersOfTerms(l), ok: ok}
		}
	}
	return calls
}

// callsWithPlanes lists the functions of chapter 5 that take a plane polynomial and whose result is one, too.
func callsWithPlanes() map[string]func(a []impl.Term, b []impl.Term, x int, y int) ([]impl.Term, bool) {
	return map[string]func([]impl.Term, []impl.Term, int, int) ([]impl.Term, bool){
		"PlaneSum":     func(a []impl.Term, b []impl.Term, _ int, _ int) ([]impl.Term, bool) { return impl.PlaneSum(a, b) },
		"PlaneProduct": func(a []impl.Term, b []impl.Term, _ int, _ int) ([]impl.Term, bool) { return impl.PlaneProduct(a, b) },
		"MovePlane":    func(a []impl.Term, _ []impl.Term, x int, y int) ([]impl.Term, bool) { return impl.MovePlane(a, x, y) },
		"SwapPlane":    func(a []impl.Term, _ []impl.Term, _ int, _ int) ([]impl.Term, bool) { return impl.SwapPlane(a) },
	}
}

func numbersOfTerms(l []impl.Term) []int {
	var numbers []int
	for _, t := range l {
		numbers = append(numbers, t.I, t.J, t.C)
	}
	return numbers
}

func numbersOfPoints(l []impl.Point) []int {
	var numbers []int
	for _, p := range l {
		numbers = append(numbers, p.X, p.Y)
	}
	return numbers
}

// checkPlaneCall makes one call with nothing behind its lists, and then with two different terms behind them.
func checkPlaneCall(t *testing.T, name string, call planeCall, l []impl.Term, m []impl.Term, x int, y int) {
	t.Helper()
	first := call(slices.Clip(slices.Clone(l)), slices.Clip(slices.Clone(m)), x, y)
	if !first.ok && !first.isZero() {
		t.Errorf("%s%v%v %d %d fails with %v", name, l, m, x, y, first)
	}
	for _, spare := range []impl.Term{{I: 5, J: 1, C: -most}, {I: -1, J: 9, C: 77}} {
		a, b := withSpare(l, spare), withSpare(m, spare)
		if got := call(a, b, x, y); !got.equals(first) {
			t.Errorf("%s%v%v %d %d depends on what is behind the lists: %v, %v", name, l, m, x, y, first, got)
		}
		if !isUntouched(a, l, spare) || !isUntouched(b, m, spare) {
			t.Errorf("%s%v%v %d %d changes an argument", name, l, m, x, y)
		}
	}
}

func TestPlaneCallsAreTotalAndModifyNothing(t *testing.T) {
	planes := append(goodPlanes(), badPlanes()...)
	numbers := edgeNumbers()
	for name, call := range callsOnPlanes() {
		for i, a := range planes {
			for j, b := range [][]impl.Term{a, planes[(i*7+3)%len(planes)], plane(0, 0, 4, 2, 1, -1), nil} {
				checkPlaneCall(t, name, call, a, b, numbers[(i+j*5)%len(numbers)], j-2)
				checkPlaneCall(t, name, call, b, a, j-1, numbers[(i*3+j)%len(numbers)])
			}
		}
	}
}

func TestPlaneCallsTakeAllNumbers(t *testing.T) {
	planes := append(greatPlanes()[:20], plane(0, 0, 3), plane(0, 0, 0, 0, 1, 0, 1, 0, 0), plane(0, 1, 0, 0, 0, 0), nil)
	numbers := append(edgeNumbers(), 4, 6, 7)
	for name, call := range callsOnPlanes() {
		for _, l := range planes {
			for n, x := range numbers {
				checkPlaneCall(t, name, call, l, plane(1, 0, 1), x, numbers[n*5%len(numbers)])
				checkPlaneCall(t, name, call, l, plane(1, 0, 1), numbers[n*11%len(numbers)], x)
			}
		}
	}
}

// Both arguments are one and the same list here: a call neither changes it nor gives out a part of it.
func TestPlanesOfResultsAreNew(t *testing.T) {
	changes := [2]impl.Term{{I: 9, J: 9, C: 99}, {I: 1, J: 2, C: 77}}
	for name, call := range callsWithPlanes() {
		lists := 0
		for _, l := range goodPlanes() {
			if checkNewList(t, name, l, changes, func(argument []impl.Term) ([]impl.Term, bool) { return call(argument, argument, 0, 0) }) {
				lists++
			}
		}
		if lists < 100 {
			t.Error(name, "succeeds too seldom:", lists)
		}
	}
}

func TestSumsWithTermsOfOneSideAreNew(t *testing.T) {
	short, long := plane(0, 0, 5), plane(0, 1, 3, 1, 0, 4, 2, 0, 1)
	for _, pair := range [][2][]impl.Term{{short, long}, {long, short}} {
		for _, call := range []func([]impl.Term, []impl.Term) ([]impl.Term, bool){impl.PlaneSum, impl.PlaneProduct} {
			result, ok := call(pair[0], pair[1])
			if !ok {
				t.Error("fails", pair)
			}
			fill(result, impl.Term{I: 9})
			if !slices.Equal(short, plane(0, 0, 5)) || !slices.Equal(long, plane(0, 1, 3, 1, 0, 4, 2, 0, 1)) {
				t.Error("the result shares memory with an argument:", pair)
			}
		}
	}
}

func TestPlacesPointsAndRowsAreNew(t *testing.T) {
	l := plane(0, 0, 0, 0, 1, 0, 1, 0, 0)
	places, _ := impl.PlaneLeast(l, 0, 0)
	row, _ := impl.RowOf(l, 0)
	points, _ := impl.NewtonPoints(l)
	places[0], row[0], points[0] = 9, 9, impl.Point{X: 9, Y: 9}
	again, ok := impl.PlaneLeast(l, 0, 0)
	checkList(t, "PlaneLeast", again, ok, []int{0, 1, 2}, true)
	again, ok = impl.RowOf(l, 0)
	checkList(t, "RowOf", again, ok, []int{0, 0}, true)
	checkNewtonPoints(t, l, []impl.Point{{X: 0, Y: 0}, {X: 0, Y: 1}, {X: 1, Y: 0}}, true)
}

func TestParsePlaneIsTotal(t *testing.T) {
	texts := append(nearlyPlaneTexts(), strings.Repeat("9", 100000), strings.Repeat(";", 100000), strings.Repeat("0:0,0;", 100000), strings.Repeat("\x00", 50), strings.Repeat("inf", 10000))
	texts = append(texts, textsOf([]string{"-", "+", " ", "0", "1", "7", ":", ",", ";", "inf", "\x00", "\xff"}, 4)...)
	texts = append(texts, textsOf([]string{"0:0,0;", "-1:0,1;", "2:1,0;", "0:0", "0,1", ";", ":", ","}, 5)...)
	read := 0
	for _, s := range texts {
		l, ok := impl.ParsePlane(s)
		text, fine := impl.PlaneText(l)
		if ok != fine || !ok && len(l) != 0 || ok && text != s {
			t.Errorf("ParsePlane(%q): got %v, %t", s, l, ok)
		}
		if ok {
			read++
		}
	}
	if read < 7 {
		t.Error("too few texts are read:", read)
	}
}

func TestParsedPlanesAreNew(t *testing.T) {
	first, _ := impl.ParsePlane("0:0,0;-2:0,1;")
	second, ok := impl.ParsePlane("0:0,0;-2:0,1;")
	fill(first, impl.Term{I: 9})
	checkPlane(t, "ParsePlane", second, ok, plane(0, 0, 0, 0, 1, -2), true)
}
