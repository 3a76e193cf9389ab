package tests

import (
	"fmt"
	"math"
	"slices"
	"strconv"
	"strings"
	"testing"

	"loop.example/g01056/impl"
)

const (
	most = 1000000
	inf  = 1000000000
)

// isNumber says again what a number is, apart from the program.
func isNumber(n int) bool {
	return n == inf || n >= -most && n <= most
}

func TestLimitsOfNumbers(t *testing.T) {
	if impl.MaxNumber != most || impl.Infinity != inf || impl.MaxList != 20 {
		t.Error("limits", impl.MaxNumber, impl.Infinity, impl.MaxList)
	}
}

func TestIsNumber(t *testing.T) {
	for _, n := range []int{0, 1, -1, 999999, most, -999999, -most, inf} {
		if !impl.IsNumber(n) {
			t.Error("is no number:", n)
		}
	}
	for _, n := range []int{most + 1, -most - 1, inf - 1, inf + 1, -inf, math.MaxInt, math.MinInt} {
		if impl.IsNumber(n) {
			t.Error("is a number:", n)
		}
	}
}

func TestTropSum(t *testing.T) {
	for _, c := range []struct {
		a, b, want int
		ok         bool
	}{
		{3, 5, 3, true}, {5, 3, 3, true}, {-2, -7, -7, true}, {4, 4, 4, true},
		{inf, 5, 5, true}, {5, inf, 5, true}, {inf, inf, inf, true},
		{most, -most, -most, true}, {most, most, most, true}, {most, inf, most, true},
		{most + 1, 0, 0, false}, {0, most + 1, 0, false}, {-most - 1, 0, 0, false}, {0, -most - 1, 0, false},
		{inf + 1, 3, 0, false}, {3, inf - 1, 0, false}, {math.MinInt, 1, 0, false}, {1, math.MaxInt, 0, false},
	} {
		got, ok := impl.TropSum(c.a, c.b)
		checkNumber(t, fmt.Sprintf("TropSum(%d, %d)", c.a, c.b), got, ok, c.want, c.ok)
	}
}

func TestTropProduct(t *testing.T) {
	for _, c := range []struct {
		a, b, want int
		ok         bool
	}{
		{3, 5, 8, true}, {-3, 5, 2, true}, {0, 7, 7, true}, {7, 0, 7, true},
		{inf, 5, inf, true}, {5, inf, inf, true}, {inf, inf, inf, true}, {inf, -most, inf, true}, {-most, inf, inf, true}, {most, inf, inf, true},
		{most, 0, most, true}, {most - 1, 1, most, true}, {most, 1, 0, false}, {500000, 500000, most, true}, {500001, 500000, 0, false},
		{-most, 0, -most, true}, {1 - most, -1, -most, true}, {-most, -1, 0, false}, {most, most, 0, false}, {-most, -most, 0, false},
		{most, -most, 0, true}, {-most, most, 0, true},
		{most + 1, -5, 0, false}, {-5, most + 1, 0, false}, {-most - 1, 5, 0, false}, {5, -most - 1, 0, false},
		{most + 1, inf, 0, false}, {inf, most + 1, 0, false}, {inf + 1, 0, 0, false}, {0, inf - 1, 0, false},
		{math.MaxInt, 1, 0, false}, {math.MinInt, -1, 0, false}, {math.MinInt, inf, 0, false},
	} {
		got, ok := impl.TropProduct(c.a, c.b)
		checkNumber(t, fmt.Sprintf("TropProduct(%d, %d)", c.a, c.b), got, ok, c.want, c.ok)
	}
}

func TestTropQuotient(t *testing.T) {
	for _, c := range []struct {
		a, b, want int
		ok         bool
	}{
		{8, 5, 3, true}, {3, 5, -2, true}, {3, -5, 8, true}, {7, 0, 7, true}, {4, 4, 0, true},
		{inf, 5, inf, true}, {inf, most, inf, true}, {inf, -most, inf, true}, {inf, 0, inf, true},
		{5, inf, 0, false}, {inf, inf, 0, false}, {0, inf, 0, false}, {-most, inf, 0, false},
		{most, 0, most, true}, {most, -1, 0, false}, {most - 1, -1, most, true}, {most, most, 0, true}, {most, -most, 0, false},
		{-most, 0, -most, true}, {-most, 1, 0, false}, {1 - most, 1, -most, true}, {-most, -most, 0, true}, {-most, most, 0, false},
		{most + 1, 5, 0, false}, {-most - 1, -5, 0, false}, {5, most + 1, 0, false}, {-5, -most - 1, 0, false},
		{inf, most + 1, 0, false}, {inf, -most - 1, 0, false}, {inf + 1, 0, 0, false}, {inf - 1, 0, 0, false}, {5, inf - 1, 0, false}, {5, inf + 1, 0, false},
		{0, math.MinInt, 0, false}, {-1, math.MinInt, 0, false}, {inf, math.MinInt, 0, false}, {math.MinInt, math.MinInt, 0, false}, {math.MaxInt, math.MaxInt, 0, false},
	} {
		got, ok := impl.TropQuotient(c.a, c.b)
		checkNumber(t, fmt.Sprintf("TropQuotient(%d, %d)", c.a, c.b), got, ok, c.want, c.ok)
	}
}

// Guarantee 1: quotients undo products, and products undo quotients.
func TestQuotientsUndoProducts(t *testing.T) {
	products, quotients := 0, 0
	for _, a := range edgeNumbers() {
		for _, b := range edgeNumbers() {
			if p, ok := impl.TropProduct(a, b); ok && b != inf {
				products++
				back, ok := impl.TropQuotient(p, b)
				checkNumber(t, fmt.Sprintf("TropQuotient(%d, %d)", p, b), back, ok, a, true)
			}
			if q, ok := impl.TropQuotient(a, b); ok {
				quotients++
				back, ok := impl.TropProduct(q, b)
				checkNumber(t, fmt.Sprintf("TropProduct(%d, %d)", q, b), back, ok, a, true)
			}
		}
	}
	if products < 100 || quotients < 100 {
		t.Error("too few calls succeeded:", products, quotients)
	}
}

func TestTropPower(t *testing.T) {
	for _, c := range []struct {
		a, k, want int
		ok         bool
	}{
		{-2, 3, -6, true}, {5, 1, 5, true}, {5, 2, 10, true}, {5, 0, 0, true}, {0, 20, 0, true}, {7, 20, 140, true}, {-7, 20, -140, true},
		{inf, 0, 0, true}, {inf, 1, inf, true}, {inf, 2, inf, true}, {inf, 20, inf, true},
		{50000, 20, most, true}, {50001, 20, 0, false}, {-50000, 20, -most, true}, {-50001, 20, 0, false},
		{most, 0, 0, true}, {most, 1, most, true}, {most, 2, 0, false}, {most, 20, 0, false},
		{-most, 0, 0, true}, {-most, 1, -most, true}, {-most, 2, 0, false}, {-most, 20, 0, false},
		{500000, 2, most, true}, {500001, 2, 0, false}, {333333, 3, 999999, true}, {333334, 3, 0, false},
		{1, 21, 0, false}, {0, 21, 0, false}, {inf, 21, 0, false}, {1, -1, 0, false}, {0, -1, 0, false}, {inf, -1, 0, false},
		{1, math.MaxInt, 0, false}, {1, math.MinInt, 0, false},
		{most + 1, 0, 0, false}, {-most - 1, 0, 0, false}, {inf + 1, 0, 0, false}, {most + 1, 1, 0, false}, {math.MaxInt, 2, 0, false}, {math.MinInt, 2, 0, false},
	} {
		got, ok := impl.TropPower(c.a, c.k)
		checkNumber(t, fmt.Sprintf("TropPower(%d, %d)", c.a, c.k), got, ok, c.want, c.ok)
	}
}

// manyLists returns valid lists: all short ones of a few numbers, and some with the greatest length.
func manyLists() [][]int {
	numbers := []int{-most, -1, 0, 2, most, inf}
	lists := [][]int{nil, {}}
	layer := [][]int{{}}
	for range 4 {
		var next [][]int
		for _, l := range layer {
			for _, n := range numbers {
				next = append(next, append(slices.Clone(l), n))
			}
		}
		lists = append(lists, next...)
		layer = next
	}
	for _, n := range numbers {
		lists = append(lists, repeated(20, n), append(repeated(19, n), -2), append([]int{-2}, repeated(19, n)...))
	}
	return lists
}

// badLists returns lists that are too long or have an element that is no number, first, last or alone.
func badLists() [][]int {
	lists := [][]int{repeated(21, 1), repeated(21, inf), repeated(22, 0), repeated(1000, 5)}
	for _, n := range edgeNumbers() {
		if !isNumber(n) {
			lists = append(lists, []int{n}, []int{n, 3}, []int{3, n}, []int{inf, n}, append(repeated(19, 1), n), append([]int{n}, repeated(19, inf)...))
		}
	}
	return lists
}

func TestTropSumOf(t *testing.T) {
	for _, c := range []struct {
		l    []int
		want int
	}{
		{nil, inf}, {[]int{}, inf}, {[]int{7}, 7}, {[]int{inf}, inf}, {[]int{inf, inf}, inf}, {[]int{4, 2, inf, 2}, 2},
		{[]int{most}, most}, {[]int{-most}, -most}, {[]int{most, inf}, most}, {[]int{3, -most, 5}, -most},
		{repeated(20, 5), 5}, {append(repeated(19, 5), 4), 4}, {append([]int{4}, repeated(19, 5)...), 4},
	} {
		got, ok := impl.TropSumOf(c.l)
		checkNumber(t, fmt.Sprint("TropSumOf", c.l), got, ok, c.want, true)
	}
	for _, l := range manyLists() {
		got, ok := impl.TropSumOf(l)
		checkNumber(t, fmt.Sprint("TropSumOf", l), got, ok, slices.Min(append([]int{inf}, l...)), true)
	}
	for _, l := range badLists() {
		got, ok := impl.TropSumOf(l)
		checkNumber(t, fmt.Sprint("TropSumOf", l), got, ok, 0, false)
	}
}

func TestLeastPlaces(t *testing.T) {
	for _, c := range []struct{ l, want []int }{
		{nil, nil}, {[]int{}, nil}, {[]int{7}, []int{0}}, {[]int{inf}, []int{0}}, {[]int{inf, inf, inf}, []int{0, 1, 2}},
		{[]int{4, 2, inf, 2}, []int{1, 3}}, {[]int{most, inf}, []int{0}}, {[]int{-1, 0, -1}, []int{0, 2}},
		{[]int{-most, most, -most}, []int{0, 2}}, {append(repeated(19, 5), 4), []int{19}},
		{repeated(20, 3), []int{0, 1, 2, 3, 4, 5, 6, 7, 8, 9, 10, 11, 12, 13, 14, 15, 16, 17, 18, 19}},
	} {
		got, ok := impl.LeastPlaces(c.l)
		checkList(t, fmt.Sprint("LeastPlaces", c.l), got, ok, c.want, true)
	}
	for _, l := range manyLists() {
		var want []int
		for i, n := range l {
			if n == slices.Min(l) {
				want = append(want, i)
			}
		}
		got, ok := impl.LeastPlaces(l)
		checkList(t, fmt.Sprint("LeastPlaces", l), got, ok, want, true)
	}
	for _, l := range badLists() {
		got, ok := impl.LeastPlaces(l)
		checkList(t, fmt.Sprint("LeastPlaces", l), got, ok, nil, false)
	}
}

// Guarantee 1: lists vanish if the least number is there twice; those whose sum is Infinity do too.
func TestDoesVanish(t *testing.T) {
	for _, c := range []struct {
		l    []int
		want bool
	}{
		{nil, true}, {[]int{}, true}, {[]int{inf}, true}, {[]int{inf, inf}, true}, {repeated(20, inf), true},
		{[]int{7}, false}, {[]int{most}, false}, {[]int{7, 7}, true}, {[]int{7, 8}, false}, {[]int{8, 7, 8}, false}, {[]int{7, 7, 7}, true},
		{[]int{4, 2, inf, 2}, true}, {[]int{4, 2, inf, 3}, false}, {[]int{inf, 5, inf}, false}, {[]int{-most, 0, -most}, true},
		{repeated(20, 1), true}, {append(repeated(19, 1), 0), false}, {append(repeated(18, 1), 0, 0), true},
	} {
		got, ok := impl.DoesVanish(c.l)
		if got != c.want || !ok {
			t.Errorf("DoesVanish%v: got %t, %t", c.l, got, ok)
		}
	}
	for _, l := range manyLists() {
		sum, _ := impl.TropSumOf(l)
		places, _ := impl.LeastPlaces(l)
		got, ok := impl.DoesVanish(l)
		if want := sum == inf || len(places) > 1; got != want || !ok {
			t.Errorf("DoesVanish%v: got %t, %t", l, got, ok)
		}
	}
	for _, l := range badLists() {
		if got, ok := impl.DoesVanish(l); got || ok {
			t.Errorf("DoesVanish%v: got %t, %t", l, got, ok)
		}
	}
}

func TestTropDot(t *testing.T) {
	for _, c := range []struct {
		a, b []int
		want int
		ok   bool
	}{
		{nil, nil, inf, true}, {[]int{}, nil, inf, true}, {[]int{3}, []int{5}, 8, true}, {[]int{1, 2, 3}, []int{6, 4, 5}, 6, true},
		{[]int{inf, 2}, []int{-5, 4}, 6, true}, {[]int{inf, 2}, []int{-5, inf}, inf, true}, {[]int{inf}, []int{-most}, inf, true}, {[]int{inf}, []int{inf}, inf, true},
		{[]int{most, 0}, []int{most, 5}, 5, true}, {[]int{0, most}, []int{5, 1}, 5, true}, {[]int{most, most - 1}, []int{1, 1}, most, true},
		{[]int{most, inf}, []int{1, 0}, 0, false}, {[]int{most, most}, []int{1, most}, 0, false}, {[]int{most}, []int{most}, 0, false},
		{[]int{-most, 0}, []int{-1, 5}, 0, false}, {[]int{0, -most}, []int{5, -most}, 0, false}, {[]int{-most, 3}, []int{0, 5}, -most, true},
		{repeated(20, 3), repeated(20, 4), 7, true}, {repeated(20, 3), append(repeated(19, 4), 1), 4, true},
		{[]int{1}, nil, 0, false}, {nil, []int{1}, 0, false}, {[]int{1, 2}, []int{1}, 0, false}, {[]int{inf}, []int{inf, inf}, 0, false}, {repeated(19, 1), repeated(20, 1), 0, false},
	} {
		got, ok := impl.TropDot(c.a, c.b)
		checkNumber(t, fmt.Sprint("TropDot", c.a, c.b), got, ok, c.want, c.ok)
	}
	for _, l := range badLists() {
		for _, other := range [][]int{l, repeated(len(l), 0), repeated(len(l), inf)} {
			got, ok := impl.TropDot(l, other)
			checkNumber(t, fmt.Sprint("TropDot", l, other), got, ok, 0, false)
			got, ok = impl.TropDot(other, l)
			checkNumber(t, fmt.Sprint("TropDot", other, l), got, ok, 0, false)
		}
	}
}

func TestShiftList(t *testing.T) {
	for _, c := range []struct {
		l    []int
		by   int
		want []int
		ok   bool
	}{
		{nil, 5, nil, true}, {[]int{}, -most, nil, true}, {[]int{1, 2, 3}, 4, []int{5, 6, 7}, true}, {[]int{1, inf}, -4, []int{-3, inf}, true}, {[]int{4, 5}, 0, []int{4, 5}, true},
		{[]int{inf, inf}, most, []int{inf, inf}, true}, {[]int{inf}, -most, []int{inf}, true},
		{[]int{0, -most}, most, []int{most, 0}, true}, {[]int{0, 1}, most, nil, false}, {[]int{1, 0}, most, nil, false},
		{[]int{0, most}, -most, []int{-most, 0}, true}, {[]int{0, -1}, -most, nil, false}, {[]int{-1, 0}, -most, nil, false},
		{repeated(20, 1), 2, repeated(20, 3), true}, {append(repeated(19, 1), most), 1, nil, false},
		{[]int{1}, inf, nil, false}, {nil, inf, nil, false}, {[]int{inf}, inf, nil, false}, {[]int{1}, most + 1, nil, false}, {nil, most + 1, nil, false}, {[]int{inf}, -most - 1, nil, false},
		{[]int{-5}, most + 1, nil, false}, {[]int{5}, -most - 1, nil, false}, {nil, math.MinInt, nil, false}, {nil, math.MaxInt, nil, false}, {nil, inf + 1, nil, false}, {nil, inf - 1, nil, false},
	} {
		got, ok := impl.ShiftList(c.l, c.by)
		checkList(t, fmt.Sprint("ShiftList", c.l, c.by), got, ok, c.want, c.ok)
	}
	for _, l := range badLists() {
		for _, by := range []int{0, -5, 5, -most, most} {
			got, ok := impl.ShiftList(l, by)
			checkList(t, fmt.Sprint("ShiftList", l, by), got, ok, nil, false)
		}
	}
}

func TestNormalList(t *testing.T) {
	for _, c := range []struct {
		l, want []int
		before  int
		ok      bool
	}{
		{[]int{4, 2, inf, 2}, []int{2, 0, inf, 0}, 2, true}, {[]int{-3, 5}, []int{0, 8}, -3, true}, {[]int{0, 5}, []int{0, 5}, 0, true}, {[]int{7}, []int{0}, 7, true},
		{[]int{most}, []int{0}, most, true}, {[]int{-most}, []int{0}, -most, true}, {[]int{inf, -most}, []int{inf, 0}, -most, true}, {[]int{-most, 0}, []int{0, most}, -most, true},
		{[]int{-most, 1}, nil, 0, false}, {[]int{most, -1}, nil, 0, false}, {[]int{most, -most}, nil, 0, false}, {[]int{1, most}, []int{0, most - 1}, 1, true},
		{nil, nil, 0, false}, {[]int{}, nil, 0, false}, {[]int{inf}, nil, 0, false}, {repeated(20, inf), nil, 0, false},
		{repeated(20, 3), repeated(20, 0), 3, true}, {append(repeated(19, 9), 8), append(repeated(19, 1), 0), 8, true},
	} {
		got, before, ok := impl.NormalList(c.l)
		checkList(t, fmt.Sprint("NormalList", c.l), got, ok, c.want, c.ok)
		checkNumber(t, fmt.Sprint("NormalList", c.l), before, ok, c.before, c.ok)
	}
	for _, l := range badLists() {
		got, before, ok := impl.NormalList(l)
		checkList(t, fmt.Sprint("NormalList", l), got, ok, nil, false)
		checkNumber(t, fmt.Sprint("NormalList", l), before, ok, 0, false)
	}
	for _, l := range manyLists() {
		normal, before, ok := impl.NormalList(l)
		if !ok {
			continue
		}
		sum, fine := impl.TropSumOf(normal)
		checkNumber(t, fmt.Sprint("TropSumOf", normal), sum, fine, 0, true)
		back, fine := impl.ShiftList(normal, before)
		checkList(t, fmt.Sprint("ShiftList", normal, before), back, fine, l, true)
	}
}

func TestNumberText(t *testing.T) {
	for n, want := range map[int]string{0: "0", 5: "5", -5: "-5", 10: "10", -100: "-100", 123456: "123456", most: "1000000", -most: "-1000000", inf: "inf"} {
		if got, ok := impl.NumberText(n); got != want || !ok {
			t.Errorf("NumberText(%d): got %q, %t", n, got, ok)
		}
	}
	for _, n := range edgeNumbers() {
		if got, ok := impl.NumberText(n); ok != isNumber(n) || !ok && got != "" {
			t.Errorf("NumberText(%d): got %q, %t", n, got, ok)
		}
	}
}

func TestNumberTextsAreReadBack(t *testing.T) {
	numbers := append(edgeNumbers(), inf)
	for n := -most; n <= most; n += 97 {
		numbers = append(numbers, n)
	}
	for n := -1100; n <= 1100; n++ {
		numbers = append(numbers, n)
	}
	for _, n := range numbers {
		text, ok := impl.NumberText(n)
		if !ok {
			continue
		}
		if n != inf && text != strconv.Itoa(n) {
			t.Errorf("NumberText(%d): got %q", n, text)
		}
		back, ok := impl.ParseNumber(text)
		checkNumber(t, fmt.Sprintf("ParseNumber(%q)", text), back, ok, n, true)
	}
}

func TestParseNumber(t *testing.T) {
	for s, want := range map[string]int{"0": 0, "7": 7, "-7": -7, "120": 120, "1000000": most, "-1000000": -most, "999999": 999999, "inf": inf} {
		got, ok := impl.ParseNumber(s)
		checkNumber(t, fmt.Sprintf("ParseNumber(%q)", s), got, ok, want, true)
	}
	for _, s := range []string{
		"", "-", "+", "--1", "-+1", "+1", "+0", "-0", "00", "01", "-01", "007", "0000000", "-00", "00000001",
		" ", " 1", "1 ", "1\n", "\t1", "1\x00", "\x001", "1 2", "1,", "1;", "1.0", "1.", ".1", "1e3", "1_000", "0x1", "0b1", "0o1", "1a", "a", "١", "１", "−1", "\xff", "1\xff",
		"1000001", "-1000001", "999999999", "1000000000", "1000000001", "-1000000000", "9223372036854775807", "9223372036854775808", "-9223372036854775808", "18446744073709551616", "18446744073709551617",
		"Inf", "INF", "inF", "in", "nf", "i", "infi", "infinity", "-inf", "+inf", "inf ", " inf", "inf\x00", "infinf", "inf0", "0inf", "nan",
		strings.Repeat("0", 1000), strings.Repeat("9", 1000), "-" + strings.Repeat("9", 1000), strings.Repeat("0", 100) + "5", strings.Repeat("inf", 100),
	} {
		got, ok := impl.ParseNumber(s)
		checkNumber(t, fmt.Sprintf("ParseNumber(%q)", s), got, ok, 0, false)
	}
}
