package tests

import (
	"slices"
	"strings"
	"testing"

	"loop.example/g01056/impl"
)

// Guarantee 33, chapter 3: every function accepts all arguments without panicking and modifies none of them.

// callsOnPolys lists the functions of chapter 3 that take a polynomial, with one more of them and a number for those that need them.
func callsOnPolys() map[string]func(p []int, q []int, n int) outcome {
	calls := map[string]func([]int, []int, int) outcome{
		"IsPoly": func(p []int, _ []int, _ int) outcome { return outcome{ok: impl.IsPoly(p)} },
		"PolyValue": func(p []int, _ []int, x int) outcome {
			n, ok := impl.PolyValue(p, x)
			return outcome{numbers: []int{n}, ok: ok}
		},
		"SlopesAt": func(p []int, _ []int, x int) outcome {
			left, right, ok := impl.SlopesAt(p, x)
			return outcome{numbers: []int{left, right}, ok: ok}
		},
		"EndTerms": func(p []int, _ []int, _ int) outcome {
			least, greatest, ok := impl.EndTerms(p)
			return outcome{numbers: []int{least, greatest}, ok: ok}
		},
		"PolyText": func(p []int, _ []int, _ int) outcome {
			s, ok := impl.PolyText(p)
			return outcome{text: s, ok: ok}
		},
	}
	for name, call := range polyCallsWithLists() {
		calls[name] = func(p []int, q []int, n int) outcome {
			l, ok := call(p, q, n)
			return outcome{numbers: l, ok: ok}
		}
	}
	return calls
}

// polyCallsWithLists lists the functions of chapter 3 that take a polynomial and whose result is a list.
func polyCallsWithLists() map[string]func(p []int, q []int, n int) ([]int, bool) {
	return map[string]func([]int, []int, int) ([]int, bool){
		"LeastTerms":  func(p []int, _ []int, x int) ([]int, bool) { return impl.LeastTerms(p, x) },
		"PolySum":     func(p []int, q []int, _ int) ([]int, bool) { return impl.PolySum(p, q) },
		"PolyProduct": func(p []int, q []int, _ int) ([]int, bool) { return impl.PolyProduct(p, q) },
		"PolyPower":   func(p []int, _ []int, k int) ([]int, bool) { return impl.PolyPower(p, k) },
		"MovePoly":    func(p []int, _ []int, by int) ([]int, bool) { return impl.MovePoly(p, by) },
		"MirrorPoly":  func(p []int, _ []int, _ int) ([]int, bool) { return impl.MirrorPoly(p) },
	}
}

// anyPolys returns polynomials, and lists of all kinds that are none.
func anyPolys() [][]int {
	return slices.Concat(goodPolys(), badPolys(), allLists())
}

func TestPolyCallsAreTotalAndModifyNothing(t *testing.T) {
	polys := anyPolys()
	numbers := edgeNumbers()
	for name, call := range callsOnPolys() {
		for i, p := range polys {
			for j, q := range [][]int{p, polys[(i*7+3)%len(polys)], {0, inf, 5}, nil} {
				checkPolyCall(t, name, call, p, q, numbers[(i+j*5)%len(numbers)])
				checkPolyCall(t, name, call, q, p, numbers[(i*3+j)%len(numbers)])
			}
		}
	}
}

func TestPolyCallsTakeAllNumbers(t *testing.T) {
	polys := append(longPolys(), []int{3}, []int{inf, 2}, []int{-1, 4, 0}, []int{0, inf}, nil)
	for name, call := range callsOnPolys() {
		for _, p := range polys {
			for _, n := range append(edgeNumbers(), 11, 12, 13) {
				checkPolyCall(t, name, call, p, []int{1, 0}, n)
			}
		}
	}
}

// checkPolyCall makes one call with nothing behind its lists, and then with two different numbers behind them.
func checkPolyCall(t *testing.T, name string, call func([]int, []int, int) outcome, p []int, q []int, n int) {
	t.Helper()
	first := call(slices.Clip(slices.Clone(p)), slices.Clip(slices.Clone(q)), n)
	if !first.ok && !first.isZero() {
		t.Errorf("%s%v%v %d fails with %v", name, p, q, n, first)
	}
	for _, spare := range []int{-most, 77} {
		a, b := withSpare(p, spare), withSpare(q, spare)
		if got := call(a, b, n); !got.equals(first) {
			t.Errorf("%s%v%v %d depends on what is behind the lists: %v, %v", name, p, q, n, first, got)
		}
		if !isUntouched(a, p, spare) || !isUntouched(b, q, spare) {
			t.Errorf("%s%v%v %d changes an argument", name, p, q, n)
		}
	}
}

// Both arguments are one and the same list here: a call neither changes it nor gives out a part of it.
func TestPolysOfResultsAreNew(t *testing.T) {
	for name, call := range polyCallsWithLists() {
		lists := 0
		for _, p := range goodPolys() {
			for n := range 3 {
				if checkNewList(t, name, p, [2]int{123, 77}, func(argument []int) ([]int, bool) { return call(argument, argument, n) }) {
					lists++
				}
			}
		}
		if lists < 100 {
			t.Error(name, "succeeds too seldom:", lists)
		}
	}
}

func TestSumsWithOneTermAreNew(t *testing.T) {
	short, long := []int{5}, []int{3, inf, 2}
	for _, pair := range [][2][]int{{short, long}, {long, short}} {
		for _, call := range []func([]int, []int) ([]int, bool){impl.PolySum, impl.PolyProduct} {
			result, ok := call(pair[0], pair[1])
			if !ok {
				t.Error("fails", pair)
			}
			for i := range result {
				result[i] = 99
			}
			if !slices.Equal(short, []int{5}) || !slices.Equal(long, []int{3, inf, 2}) {
				t.Error("the result shares memory with an argument:", pair)
			}
		}
	}
}

func TestParsePolyIsTotal(t *testing.T) {
	texts := append(nearlyPolyTexts(), strings.Repeat("9", 100000), strings.Repeat(",", 100000), strings.Repeat("0,", 100000), strings.Repeat("\x00", 50), strings.Repeat("inf", 10000))
	texts = append(texts, textsOf([]string{"-", "+", " ", "0", "1", "20", ",", "inf", ";", "\x00", "\xff"}, 4)...)
	read := 0
	for _, s := range texts {
		p, ok := impl.ParsePoly(s)
		text, fine := impl.PolyText(p)
		if ok != fine || !ok && len(p) != 0 || ok && text != s {
			t.Errorf("ParsePoly(%q): got %v, %t", s, p, ok)
		}
		if ok {
			read++
		}
	}
	if read < 50 {
		t.Error("too few texts are read:", read)
	}
}

func TestParsedPolysAreNew(t *testing.T) {
	first, _ := impl.ParsePoly("0,1,inf,0")
	second, ok := impl.ParsePoly("0,1,inf,0")
	first[0], first[3] = 8, 9
	checkList(t, "ParsePoly", second, ok, []int{0, 1, inf, 0}, true)
}
