package tests

import (
	"slices"
	"testing"

	"loop.example/g01056/impl"
)

// Guarantee 33, chapter 4: every function accepts all arguments without panicking and modifies none of them.

// callsOnRoots lists the functions of chapter 4, with one fraction for those that take one.
func callsOnRoots(f impl.Frac) map[string]func(p []int, q []int, n int) outcome {
	calls := map[string]func([]int, []int, int) outcome{
		"RootsOf": func(p []int, _ []int, _ int) outcome {
			roots, ok := impl.RootsOf(p)
			return outcome{numbers: numbersOfRoots(roots), ok: ok}
		},
		"TimesOfRoot": func(p []int, _ []int, _ int) outcome {
			n, ok := impl.TimesOfRoot(p, f)
			return outcome{numbers: []int{n}, ok: ok}
		},
		"ValueAtFrac":  func(p []int, _ []int, _ int) outcome { return fracOutcome(impl.ValueAtFrac(p, f)) },
		"ValueByRoots": func(p []int, _ []int, x int) outcome { return fracOutcome(impl.ValueByRoots(p, x)) },
		"SameFunction": func(p []int, q []int, _ int) outcome {
			is, ok := impl.SameFunction(p, q)
			return outcome{flags: []bool{is}, ok: ok}
		},
		"RootsText": func(p []int, _ []int, _ int) outcome {
			s, ok := impl.RootsText(p)
			return outcome{text: s, ok: ok}
		},
	}
	for name, call := range polyListsOfRoots() {
		calls[name] = func(p []int, q []int, n int) outcome {
			l, ok := call(p, q, n)
			return outcome{numbers: l, ok: ok}
		}
	}
	return calls
}

// polyListsOfRoots lists the functions of chapter 4 whose result is a list of whole numbers.
func polyListsOfRoots() map[string]func(p []int, q []int, n int) ([]int, bool) {
	return map[string]func([]int, []int, int) ([]int, bool){
		"CornersOf":         func(p []int, _ []int, _ int) ([]int, bool) { return impl.CornersOf(p) },
		"NeedlessTerms":     func(p []int, _ []int, _ int) ([]int, bool) { return impl.NeedlessTerms(p) },
		"LeastCoefficients": func(p []int, _ []int, _ int) ([]int, bool) { return impl.LeastCoefficients(p) },
		"PolyFromRoots":     func(roots []int, _ []int, lead int) ([]int, bool) { return impl.PolyFromRoots(lead, roots) },
	}
}

func numbersOfRoots(roots []impl.Root) []int {
	var numbers []int
	for _, root := range roots {
		numbers = append(numbers, root.At.Num, root.At.Den, root.Times)
	}
	return numbers
}

func TestRootCallsAreTotalAndModifyNothing(t *testing.T) {
	polys := append(anyPolys(), bentPolys()...)
	numbers := edgeNumbers()
	fracs := anyFracs()
	for i, p := range polys {
		q := polys[(i*7+3)%len(polys)]
		for name, call := range callsOnRoots(fracs[(i*11+5)%len(fracs)]) {
			checkPolyCall(t, name, call, p, q, numbers[i%len(numbers)])
			checkPolyCall(t, name, call, p, p, numbers[(i*3+1)%len(numbers)])
		}
	}
}

func TestRootCallsTakeAllNumbersAndFracs(t *testing.T) {
	polys := append(longPolys(), []int{3}, []int{inf, 2}, []int{-1, 4, 0}, []int{0, inf}, nil)
	numbers := edgeNumbers()
	for i, f := range anyFracs() {
		for name, call := range callsOnRoots(f) {
			checkPolyCall(t, name, call, polys[i%len(polys)], []int{1, 0}, numbers[i%len(numbers)])
		}
	}
	for name, call := range callsOnRoots(frac(1, 2)) {
		for _, p := range polys {
			for _, n := range numbers {
				checkPolyCall(t, name, call, p, []int{1, 0}, n)
			}
		}
	}
}

// A call gives out neither its argument nor a part of it, and no two calls share memory.
func TestListsOfRootsAreNew(t *testing.T) {
	for name, call := range polyListsOfRoots() {
		lists := 0
		for _, p := range append(goodPolys(), bentPolys()...) {
			if checkNewList(t, name, p, [2]int{123, 77}, func(argument []int) ([]int, bool) { return call(argument, argument, 2) }) {
				lists++
			}
		}
		if lists < 100 {
			t.Error(name, "succeeds too seldom:", lists)
		}
	}
}

func TestRootsOfCallsAreNew(t *testing.T) {
	for _, p := range bentPolys() {
		first, _ := impl.RootsOf(p)
		second, ok := impl.RootsOf(p)
		want := slices.Clone(second)
		for i := range first {
			first[i] = impl.Root{At: frac(9, 1), Times: 99}
		}
		checkRoots(t, "RootsOf", second, ok, want, true)
	}
}

// A list of roots stays in its order, although it is not increasing.
func TestListsOfRootsStayInOrder(t *testing.T) {
	roots := []int{5, -1, 3, 5, -7}
	p, ok := impl.PolyFromRoots(2, roots)
	checkList(t, "PolyFromRoots", p, ok, []int{7, 2, -3, -6, -5, 2}, true)
	checkList(t, "the list of roots", roots, true, []int{5, -1, 3, 5, -7}, true)
}
