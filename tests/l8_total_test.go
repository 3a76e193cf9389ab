package tests

import (
	"slices"
	"testing"

	"loop.example/g01056/impl"
)

// Guarantee 33, chapter 8: every function accepts all arguments without panicking and modifies none of them.

func numbersOfSpots(l []impl.Spot) []int {
	var numbers []int
	for _, s := range l {
		numbers = append(numbers, s.X.Num, s.X.Den, s.Y.Num, s.Y.Den)
	}
	return numbers
}

// callsOnCurves lists the functions of chapter 8 with one point for the one that takes one, as calls like those of chapter 5.
func callsOnCurves(s impl.Spot) map[string]planeCall {
	calls := map[string]planeCall{
		"VertexOf": func(a []impl.Term, _ []impl.Term, x int, _ int) outcome {
			vertex, ok := impl.VertexOf(a, x)
			return outcome{numbers: numbersOfSpots([]impl.Spot{vertex}), ok: ok}
		},
		"VerticesOf": func(a []impl.Term, _ []impl.Term, _ int, _ int) outcome {
			vertices, ok := impl.VerticesOf(a)
			return outcome{numbers: numbersOfSpots(vertices), ok: ok}
		},
		"BalanceAt": func(a []impl.Term, _ []impl.Term, x int, _ int) outcome {
			dx, dy, ok := impl.BalanceAt(a, x)
			return outcome{numbers: []int{dx, dy}, ok: ok}
		},
		"SegmentLength": func(a []impl.Term, _ []impl.Term, x int, y int) outcome {
			return fracOutcome(impl.SegmentLength(a, x, y))
		},
		"LoopsOf": func(a []impl.Term, _ []impl.Term, _ int, _ int) outcome {
			loops, ok := impl.LoopsOf(a)
			return outcome{numbers: []int{loops}, ok: ok}
		},
		"IsOnCurveAt": func(a []impl.Term, _ []impl.Term, _ int, _ int) outcome {
			is, ok := impl.IsOnCurveAt(a, s)
			return outcome{flags: []bool{is}, ok: ok}
		},
		"CurveText": func(a []impl.Term, _ []impl.Term, _ int, _ int) outcome {
			text, ok := impl.CurveText(a)
			return outcome{text: text, ok: ok}
		},
	}
	for name, call := range curveCallsWithLists() {
		calls[name] = func(a []impl.Term, _ []impl.Term, x int, _ int) outcome {
			lists, ok := call(a, x)
			return outcome{numbers: numbersOfLists(lists), ok: ok}
		}
	}
	return calls
}

// curveCallsWithLists lists the functions of chapter 8 whose result are lists of numbers.
func curveCallsWithLists() map[string]func(l []impl.Term, n int) ([][]int, bool) {
	return map[string]func([]impl.Term, int) ([][]int, bool){
		"SegmentsOf":  func(l []impl.Term, _ int) ([][]int, bool) { return impl.SegmentsOf(l) },
		"RaysOfCurve": func(l []impl.Term, _ int) ([][]int, bool) { return impl.RaysOfCurve(l) },
		"EndsAt":      impl.EndsAt,
	}
}

func TestCurveCallsAreTotalAndModifyNothing(t *testing.T) {
	planes := slices.Concat(goodPlanes(), bentPlanes()[:300], badPlanes(), [][]impl.Term{mostCells()})
	numbers := append(edgeNumbers(), 4, 6, 7, 11, 12, 18, 19)
	fracs := allFracs()
	for i, l := range planes {
		s := impl.Spot{X: fracs[i*7%len(fracs)], Y: fracs[i*3%len(fracs)]}
		for name, call := range callsOnCurves(s) {
			checkPlaneCall(t, name, call, l, nil, numbers[i%len(numbers)], numbers[i*5%len(numbers)])
			checkPlaneCall(t, name, call, l, nil, i%5, i%7)
		}
	}
}

func TestCurveCallsTakeAllNumbers(t *testing.T) {
	planes := append(bentPlanes()[:10], plane(0, 0, 3), plane(0, 0, 0, 0, 1, 0, 1, 0, 0, 1, 1, 5), plane(0, 1, 0, 0, 0, 0), mostCells(), nil)
	calls := callsOnCurves(spot(0, 1, 0, 1))
	for _, l := range planes {
		for _, x := range edgeNumbers() {
			for _, name := range []string{"VertexOf", "EndsAt", "BalanceAt"} {
				checkPlaneCall(t, name, calls[name], l, nil, x, 0)
			}
			for _, y := range edgeNumbers() {
				checkPlaneCall(t, "SegmentLength", calls["SegmentLength"], l, nil, x, y)
			}
		}
	}
}

func TestIsOnCurveAtTakesAllSpots(t *testing.T) {
	planes := append(bentPlanes()[:10], plane(0, 0, 3), plane(0, 0, 0, 0, 1, 0, 1, 0, 0, 1, 1, 5), plane(0, 1, 0, 0, 0, 0), mostCells(), nil)
	fracs := anyFracs()
	for n, x := range fracs {
		for _, y := range []impl.Frac{x, fracs[n*7%len(fracs)], fracs[n*11%len(fracs)], {Num: 1, Den: 2}, {}} {
			for _, s := range []impl.Spot{{X: x, Y: y}, {X: y, Y: x}} {
				l := planes[n%len(planes)]
				least, ok := leastAt(l, s)
				checkOnCurve(t, l, s, len(least) > 1, ok)
			}
		}
	}
}

// The same terms in a list with room behind it and in one without give the same curve, also where the terms behind the list would change it.
func TestCurvesDoNotReadBehindTheList(t *testing.T) {
	l := plane(0, 0, 0, 0, 1, 0, 1, 0, 0, 1, 1, -5, 2, 0, -20)
	text, ok := impl.CurveText(l[:3])
	checkText(t, "CurveText", text, ok, "0,0;", true)
	text, ok = impl.CurveText(l[:2])
	checkText(t, "CurveText", text, ok, "", true)
	segments, ok := impl.SegmentsOf(l[:4])
	checkLists(t, "SegmentsOf", segments, ok, rows(4, 0, 3, 0, 1), true)
	checkOnCurve(t, l[:3], spot(7, 2, 0, 1), true, true)
	checkOnCurve(t, l, spot(7, 2, 0, 1), false, true)
}

func TestSegmentsRaysAndEndsOfResultsAreNew(t *testing.T) {
	for name, call := range curveCallsWithLists() {
		lists := 0
		for _, l := range manyCurved() {
			// A curve without vertices has no ends to look at.
			if _, ok := call(l, 0); ok {
				lists += checkNewLists(t, name, l, changedTerms(), func(l []impl.Term) ([][]int, bool) { return call(l, 0) })
			}
		}
		if lists < 1000 {
			t.Error(name, "has too few lists:", lists)
		}
	}
}

func TestVerticesOfResultsAreNew(t *testing.T) {
	for _, l := range manyCurved() {
		checkNewResult(t, "VerticesOf", spot(9, 1, 9, 1), func() ([]impl.Spot, bool) { return impl.VerticesOf(l) })
	}
}
