package tests

import (
	"fmt"
	"math"
	"slices"
	"strconv"
	"strings"
	"testing"

	"loop.example/g01056/impl"
)

const mostDegree = 12

// isPoly says again what a polynomial is, apart from the program.
func isPoly(p []int) bool {
	if len(p) == 0 || len(p) > mostDegree+1 || p[len(p)-1] == inf {
		return false
	}
	return !slices.ContainsFunc(p, func(n int) bool { return !isNumber(n) })
}

// shortPolys returns all polynomials with up to three coefficients out of a few numbers.
func shortPolys() [][]int {
	var polys [][]int
	for _, l := range manyLists() {
		if len(l) <= 3 && isPoly(l) {
			polys = append(polys, l)
		}
	}
	return polys
}

// longPolys returns polynomials with four coefficients and more, many of them with the greatest degree.
func longPolys() [][]int {
	polys := [][]int{
		{0, 1, inf, 0}, {inf, inf, inf, 3}, {3, inf, inf, inf, -2}, {inf, 4, inf, 0, inf, 4}, {5, 4, 3, 2, 1, 0, -1}, {0, 1, 3, 6, 10, 15, 21}, {9, inf, 3, inf, 1, inf, 0},
		{most, inf, inf, -most}, {-most, inf, inf, most}, {most, -most, most, -most, most}, {-100000, 600000, inf, -100000}, {most / 2, most / 3, most / 4, most / 5},
	}
	for _, n := range []int{-most, -most / 12, -5, 0, 5, most / 12, most / 2, most} {
		polys = append(polys, repeated(13, n), append(repeated(12, inf), n), append(repeated(12, 2), n), append([]int{n}, repeated(12, 1)...), append(append([]int{n}, repeated(11, inf)...), n), repeated(7, n))
	}
	return polys
}

func goodPolys() [][]int {
	return append(shortPolys(), longPolys()...)
}

// badPolys returns lists that are no polynomials: without or with too many coefficients, with Infinity as the last one, or with one that is no number.
func badPolys() [][]int {
	lists := [][]int{
		nil, {}, {inf}, {inf, inf}, {0, inf}, {0, 1, inf}, {3, inf, inf}, repeated(13, inf), append(repeated(12, 0), inf), append(repeated(13, 0), inf),
		repeated(14, 0), repeated(14, 7), append(repeated(13, inf), 0), repeated(15, 1), repeated(20, 1), repeated(21, 1), repeated(1000, 5),
	}
	for _, n := range edgeNumbers() {
		if !isNumber(n) {
			lists = append(lists, []int{n}, []int{n, 3}, []int{3, n}, []int{inf, n}, []int{0, n, 0}, []int{n, inf}, append(repeated(12, 1), n), append([]int{n}, repeated(12, 1)...))
		}
	}
	return lists
}

// someX are numbers at which polynomials are tried.
func someX() []int {
	return []int{0, 1, -1, 2, -2, 7, -7, 1000, -1000, most / 12, -most / 12, most/12 + 1, -most/12 - 1, most/2 - 1, -most / 2, most - 1, 1 - most, most, -most}
}

// badX are no numbers, or Infinity.
func badX() []int {
	xs := []int{inf}
	for _, n := range edgeNumbers() {
		if !isNumber(n) {
			xs = append(xs, n)
		}
	}
	return xs
}

// freeValue says again what the least value of all terms is, and which terms have it, without a bound.
func freeValue(p []int, x int) (int, []int) {
	var values, exponents []int
	for i, c := range p {
		if c != inf {
			values, exponents = append(values, c+i*x), append(exponents, i)
		}
	}
	least := slices.Min(values)
	var places []int
	for i, v := range values {
		if v == least {
			places = append(places, exponents[i])
		}
	}
	return least, places
}

// freeProductOf says again what the product of two polynomials is, without a bound.
func freeProductOf(p []int, q []int) []int {
	product := repeated(len(p)+len(q)-1, inf)
	for i, a := range p {
		for k, b := range q {
			if a != inf && b != inf {
				product[i+k] = min(product[i+k], a+b)
			}
		}
	}
	return product
}

func TestLimitsOfPolys(t *testing.T) {
	if impl.MaxDegree != mostDegree {
		t.Error("limit", impl.MaxDegree)
	}
}

func TestIsPoly(t *testing.T) {
	for _, p := range [][]int{
		{0}, {5}, {-5}, {most}, {-most}, {0, 1, inf, 0}, {inf, 0}, {inf, inf, inf, 7}, {0, inf, 0}, {most, -most},
		repeated(13, 0), repeated(13, most), repeated(13, -most), append(repeated(12, inf), 0), append(repeated(12, inf), most),
	} {
		if !impl.IsPoly(p) {
			t.Error("is no polynomial:", p)
		}
	}
	for _, p := range badPolys() {
		if impl.IsPoly(p) {
			t.Error("is a polynomial:", p)
		}
	}
	for _, p := range append(allLists(), goodPolys()...) {
		if got := impl.IsPoly(p); got != isPoly(p) {
			t.Errorf("IsPoly%v: got %t", p, got)
		}
	}
}

func TestPolyValue(t *testing.T) {
	for _, c := range []struct {
		p       []int
		x, want int
		ok      bool
	}{
		{[]int{0, 1, inf, 0}, 1, 0, true}, {[]int{0, 1, inf, 0}, -1, -3, true}, {[]int{0, 1, inf, 0}, 0, 0, true}, {[]int{0, 1, inf, 0}, -2, -6, true},
		{[]int{7}, 0, 7, true}, {[]int{7}, most, 7, true}, {[]int{7}, -most, 7, true}, {[]int{most}, most, most, true}, {[]int{-most}, -most, -most, true},
		{[]int{3, 1}, 5, 3, true}, {[]int{3, 1}, 2, 3, true}, {[]int{3, 1}, 1, 2, true}, {[]int{3, 1}, -4, -3, true},
		{[]int{inf, 0}, 5, 5, true}, {[]int{inf, 0}, most, most, true}, {[]int{inf, 1}, most, 0, false}, {[]int{inf, 0}, -most, -most, true}, {[]int{inf, -1}, -most, 0, false}, {[]int{inf, 1}, most - 1, most, true},
		// Terms beyond the greatest number do no harm while the least one is a number.
		{[]int{5, most, most}, most, 5, true}, {[]int{most, 1}, most, most, true}, {[]int{most, most}, most, most, true}, {[]int{inf, most, -most}, most, most, true},
		{[]int{inf, inf, 0}, most / 2, most, true}, {[]int{inf, inf, 1}, most / 2, 0, false}, {[]int{inf, inf, 0}, most/2 + 1, 0, false}, {[]int{inf, inf, 0}, most, 0, false},
		{[]int{0, 0}, -most, -most, true}, {[]int{0, -1}, -most, 0, false}, {[]int{0, -1}, 1 - most, -most, true}, {[]int{most, inf, 0}, -most, 0, false}, {[]int{0, inf, most}, -most, -most, true},
		{append(repeated(12, inf), -most), most / 6, 999992, true}, {append(repeated(12, inf), -most), most/6 + 1, 0, false}, {append(repeated(12, inf), 4), most / 12, most, true}, {append(repeated(12, inf), 5), most / 12, 0, false}, {append(repeated(12, inf), 0), most, 0, false}, {append(repeated(12, inf), most), -most, 0, false},
		{repeated(13, 4), 0, 4, true}, {repeated(13, 4), 9, 4, true}, {repeated(13, 4), -9, -104, true},
		{[]int{3}, inf, 0, false}, {[]int{3, 1}, inf, 0, false}, {[]int{3}, most + 1, 0, false}, {[]int{3}, -most - 1, 0, false}, {[]int{3, 1}, most + 1, 0, false}, {[]int{3, most}, -most - 1, 0, false},
		{[]int{3}, inf - 1, 0, false}, {[]int{3}, inf + 1, 0, false}, {[]int{3}, -inf, 0, false}, {[]int{3}, math.MinInt, 0, false}, {[]int{3, 0, 0}, math.MaxInt, 0, false},
	} {
		got, ok := impl.PolyValue(c.p, c.x)
		checkNumber(t, fmt.Sprint("PolyValue", c.p, c.x), got, ok, c.want, c.ok)
	}
}

func TestValuesTermsAndSlopesOfManyPolys(t *testing.T) {
	count := [2]int{}
	for _, p := range goodPolys() {
		for _, x := range someX() {
			value, places := freeValue(p, x)
			fine := isNumber(value)
			left, right := places[len(places)-1], places[0]
			if fine {
				count[0]++
			} else {
				count[1]++
				value, places, left, right = 0, nil, 0, 0
			}
			got, ok := impl.PolyValue(p, x)
			checkNumber(t, fmt.Sprint("PolyValue", p, x), got, ok, value, fine)
			terms, ok := impl.LeastTerms(p, x)
			checkList(t, fmt.Sprint("LeastTerms", p, x), terms, ok, places, fine)
			checkSlopes(t, p, x, left, right, fine)
		}
	}
	if count[0] < 1000 || count[1] < 1000 {
		t.Error("too few values, or too few failures:", count)
	}
}

// checkSlopes fails the test unless SlopesAt gives both slopes that are expected, and success.
func checkSlopes(t *testing.T, p []int, x int, wantLeft int, wantRight int, wantOK bool) {
	t.Helper()
	left, right, ok := impl.SlopesAt(p, x)
	if left != wantLeft || right != wantRight || ok != wantOK {
		t.Errorf("SlopesAt%v %d: got %d, %d, %t; want %d, %d, %t", p, x, left, right, ok, wantLeft, wantRight, wantOK)
	}
}

func TestValuesOfBadPolysAndAtBadX(t *testing.T) {
	check := func(p []int, x int) {
		got, ok := impl.PolyValue(p, x)
		checkNumber(t, fmt.Sprint("PolyValue", p, x), got, ok, 0, false)
		terms, ok := impl.LeastTerms(p, x)
		checkList(t, fmt.Sprint("LeastTerms", p, x), terms, ok, nil, false)
		checkSlopes(t, p, x, 0, 0, false)
		moved, ok := impl.MovePoly(p, x)
		checkList(t, fmt.Sprint("MovePoly", p, x), moved, ok, nil, false)
	}
	for _, p := range badPolys() {
		for _, x := range append(someX(), badX()...) {
			check(p, x)
		}
	}
	for _, p := range goodPolys() {
		for _, x := range badX() {
			check(p, x)
		}
	}
}

func TestLeastTermsAndSlopesAt(t *testing.T) {
	all := []int{0, 1, 2, 3, 4, 5, 6, 7, 8, 9, 10, 11, 12}
	for _, c := range []struct {
		p    []int
		x    int
		want []int
	}{
		{[]int{0, 1, inf, 0}, 1, []int{0}}, {[]int{0, 1, inf, 0}, -1, []int{3}}, {[]int{0, 1, inf, 0}, 0, []int{0, 3}},
		{[]int{7}, 0, []int{0}}, {[]int{7}, most, []int{0}}, {[]int{inf, 0}, 5, []int{1}}, {[]int{inf, inf, 4}, -3, []int{2}},
		{[]int{3, 1}, 2, []int{0, 1}}, {[]int{3, 1}, 3, []int{0}}, {[]int{3, 1}, 1, []int{1}},
		{[]int{0, 0, 0}, 0, []int{0, 1, 2}}, {[]int{0, 0, 0}, 1, []int{0}}, {[]int{0, 0, 0}, -1, []int{2}}, {[]int{2, 1, 0}, 1, []int{0, 1, 2}}, {[]int{2, inf, 0}, 1, []int{0, 2}}, {[]int{2, 0, 0}, 1, []int{1}},
		{repeated(13, 5), 0, all}, {repeated(13, 5), 1, []int{0}}, {repeated(13, 5), -1, []int{12}}, {append(repeated(12, inf), 0), 0, []int{12}},
		{[]int{most, 0}, most, []int{0, 1}}, {[]int{-most, 0}, -most, []int{0, 1}}, {[]int{most, most, -most}, most, []int{0, 2}},
	} {
		got, ok := impl.LeastTerms(c.p, c.x)
		checkList(t, fmt.Sprint("LeastTerms", c.p, c.x), got, ok, c.want, true)
		checkSlopes(t, c.p, c.x, c.want[len(c.want)-1], c.want[0], true)
	}
	for _, c := range []struct {
		p []int
		x int
	}{
		{[]int{inf, 1}, most}, {[]int{inf, -1}, -most}, {[]int{0, -1}, -most}, {[]int{inf, inf, 0}, most/2 + 1}, {append(repeated(12, inf), 0), -most}, {[]int{3, 1}, inf}, {[]int{3, 1}, most + 1}, {[]int{3, 1}, -most - 1},
	} {
		got, ok := impl.LeastTerms(c.p, c.x)
		checkList(t, fmt.Sprint("LeastTerms", c.p, c.x), got, ok, nil, false)
		checkSlopes(t, c.p, c.x, 0, 0, false)
	}
}

// The slopes are those of the value: it changes by the left one before x, and by the right one behind x.
func TestSlopesAreThoseOfTheValue(t *testing.T) {
	// The roots of these polynomials are whole, so that the value is straight between whole numbers.
	for _, p := range [][]int{{0, 1, inf, 0}, {3, 1}, {2, 1, 0}, {6, 3, 1, 0}, {inf, 4, 2, inf, 0}, {0, 0}, {5}, repeated(13, 3)} {
		for x := -10; x <= 10; x++ {
			before, _ := impl.PolyValue(p, x-1)
			here, _ := impl.PolyValue(p, x)
			behind, ok := impl.PolyValue(p, x+1)
			checkSlopes(t, p, x, here-before, behind-here, ok)
		}
	}
}

func TestPolySum(t *testing.T) {
	for _, c := range []struct{ p, q, want []int }{
		{[]int{3}, []int{5}, []int{3}}, {[]int{3, 1}, []int{2, 4}, []int{2, 1}}, {[]int{0, 1, inf, 0}, []int{-1, inf, 5, 7}, []int{-1, 1, 5, 0}},
		{[]int{3}, []int{5, 4, 2}, []int{3, 4, 2}}, {[]int{5}, []int{3, inf, 2}, []int{3, inf, 2}}, {[]int{inf, 1}, []int{inf, inf, inf, 2}, []int{inf, 1, inf, 2}},
		{[]int{most}, []int{-most}, []int{-most}}, {[]int{most}, []int{inf, most}, []int{most, most}}, {[]int{5}, append(repeated(12, inf), 6), append(append([]int{5}, repeated(11, inf)...), 6)},
		{repeated(13, 4), repeated(13, 3), repeated(13, 3)}, {repeated(13, 4), []int{9, 2}, append([]int{4, 2}, repeated(11, 4)...)},
	} {
		got, ok := impl.PolySum(c.p, c.q)
		checkList(t, fmt.Sprint("PolySum", c.p, c.q), got, ok, c.want, true)
		got, ok = impl.PolySum(c.q, c.p)
		checkList(t, fmt.Sprint("PolySum", c.q, c.p), got, ok, c.want, true)
	}
	for _, p := range goodPolys() {
		for _, q := range goodPolys() {
			want := repeated(max(len(p), len(q)), inf)
			for i, n := range p {
				want[i] = n
			}
			for i, n := range q {
				want[i] = min(want[i], n)
			}
			got, ok := impl.PolySum(p, q)
			checkList(t, fmt.Sprint("PolySum", p, q), got, ok, want, true)
		}
	}
}

func TestPolyProduct(t *testing.T) {
	for _, c := range []struct {
		p, q, want []int
		ok         bool
	}{
		{[]int{3}, []int{5}, []int{8}, true}, {[]int{0}, []int{4, inf, 2}, []int{4, inf, 2}, true}, {[]int{2}, []int{4, inf, -1}, []int{6, inf, 1}, true},
		{[]int{3, 0}, []int{1, 0}, []int{4, 1, 0}, true}, {[]int{1, 0}, []int{3, 0}, []int{4, 1, 0}, true}, {[]int{3, 5}, []int{1, 7}, []int{4, 6, 12}, true},
		{[]int{0, inf, 0}, []int{0, 3}, []int{0, 3, 0, 3}, true}, {[]int{0, inf, inf, 0}, []int{1, 2}, []int{1, 2, inf, 1, 2}, true}, {[]int{inf, 0}, []int{inf, 0}, []int{inf, inf, 0}, true}, {[]int{inf, 3}, []int{4}, []int{inf, 7}, true},
		{[]int{0, 1, inf, 0}, []int{0, 1, inf, 0}, []int{0, 1, 2, 0, 1, inf, 0}, true},
		{[]int{most}, []int{0}, []int{most}, true}, {[]int{most}, []int{1}, nil, false}, {[]int{most - 1}, []int{1}, []int{most}, true}, {[]int{-most}, []int{-1}, nil, false}, {[]int{1 - most}, []int{-1}, []int{-most}, true}, {[]int{most}, []int{-most}, []int{0}, true},
		{[]int{0, most}, []int{0, 1}, nil, false}, {[]int{0, most}, []int{0, 0}, []int{0, 0, most}, true}, {[]int{0, -most}, []int{0, -1}, nil, false}, {[]int{most, 0}, []int{1, 0}, nil, false},
		// In the middle, a sum beyond the greatest number does no harm beside a less one; alone it does.
		{[]int{0, 0, 0, most}, []int{0, 1, 0}, []int{0, 0, 0, 0, 0, most}, true}, {[]int{0, most, 0}, []int{0, most, 0}, []int{0, most, 0, most, 0}, true}, {[]int{0, 600000, inf, 0}, []int{0, 600000, inf, 0}, nil, false}, {[]int{0, 500000, inf, 0}, []int{0, 500000, inf, 0}, []int{0, 500000, most, 0, 500000, inf, 0}, true}, {[]int{0, -600000, 0}, []int{0, -600000, 0}, nil, false},
		{repeated(13, 2), []int{3}, repeated(13, 5), true}, {repeated(7, 2), repeated(7, 3), repeated(13, 5), true}, {append(repeated(12, inf), 3), []int{4}, append(repeated(12, inf), 7), true}, {append(repeated(6, inf), 3), append(repeated(6, inf), 4), append(repeated(12, inf), 7), true},
		{repeated(13, 2), []int{3, 3}, nil, false}, {repeated(13, 2), repeated(13, 2), nil, false}, {repeated(7, 2), repeated(8, 3), nil, false}, {append(repeated(12, inf), 3), []int{inf, 4}, nil, false}, {append(repeated(6, inf), 3), append(repeated(7, inf), 4), nil, false},
	} {
		got, ok := impl.PolyProduct(c.p, c.q)
		checkList(t, fmt.Sprint("PolyProduct", c.p, c.q), got, ok, c.want, c.ok)
		got, ok = impl.PolyProduct(c.q, c.p)
		checkList(t, fmt.Sprint("PolyProduct", c.q, c.p), got, ok, c.want, c.ok)
	}
}

func TestProductsOfManyPolys(t *testing.T) {
	count := [2]int{}
	for _, p := range goodPolys() {
		for _, q := range goodPolys() {
			want := freeProductOf(p, q)
			fine := isPoly(want)
			if fine {
				count[0]++
			} else {
				count[1]++
				want = nil
			}
			got, ok := impl.PolyProduct(p, q)
			checkList(t, fmt.Sprint("PolyProduct", p, q), got, ok, want, fine)
		}
	}
	if count[0] < 1000 || count[1] < 1000 {
		t.Error("too few products, or too few failures:", count)
	}
}

// Guarantee 3: values of products are products of values, and so are those of sums and powers.
func TestValuesOfProductsAreProductsOfValues(t *testing.T) {
	products, sums := 0, 0
	for _, p := range goodPolys() {
		for _, q := range goodPolys() {
			product, isProduct := impl.PolyProduct(p, q)
			sum, isSum := impl.PolySum(p, q)
			for _, x := range someX() {
				a, hasA := impl.PolyValue(p, x)
				b, hasB := impl.PolyValue(q, x)
				if !hasA || !hasB {
					continue
				}
				if want, ok := impl.TropProduct(a, b); ok && isProduct {
					products++
					got, ok := impl.PolyValue(product, x)
					checkNumber(t, fmt.Sprint("value of the product ", p, q, x), got, ok, want, true)
				}
				if want, ok := impl.TropSum(a, b); ok && isSum {
					sums++
					got, ok := impl.PolyValue(sum, x)
					checkNumber(t, fmt.Sprint("value of the sum ", p, q, x), got, ok, want, true)
				}
			}
		}
	}
	if products < 10000 || sums < 10000 {
		t.Error("too few values are compared:", products, sums)
	}
}

func TestSumsAndProductsOfBadPolys(t *testing.T) {
	for _, bad := range badPolys() {
		for _, other := range append(longPolys(), []int{0}, []int{inf, 0}, nil, bad) {
			for _, pair := range [][2][]int{{bad, other}, {other, bad}} {
				got, ok := impl.PolySum(pair[0], pair[1])
				checkList(t, fmt.Sprint("PolySum", pair), got, ok, nil, false)
				got, ok = impl.PolyProduct(pair[0], pair[1])
				checkList(t, fmt.Sprint("PolyProduct", pair), got, ok, nil, false)
			}
		}
	}
}

func TestPolyPower(t *testing.T) {
	for _, c := range []struct {
		p    []int
		k    int
		want []int
		ok   bool
	}{
		{[]int{5}, 0, []int{0}, true}, {[]int{5}, 1, []int{5}, true}, {[]int{5}, 2, []int{10}, true}, {[]int{5}, 12, []int{60}, true}, {[]int{-5}, 12, []int{-60}, true}, {[]int{0}, 12, []int{0}, true},
		{[]int{5}, 13, nil, false}, {[]int{0}, 13, nil, false}, {[]int{0}, 20, nil, false}, {[]int{0}, -1, nil, false}, {[]int{5, 1}, -1, nil, false}, {[]int{0}, math.MaxInt, nil, false}, {[]int{0}, math.MinInt, nil, false},
		{[]int{1, 0}, 0, []int{0}, true}, {[]int{1, 0}, 1, []int{1, 0}, true}, {[]int{1, 0}, 2, []int{2, 1, 0}, true}, {[]int{1, 0}, 12, []int{12, 11, 10, 9, 8, 7, 6, 5, 4, 3, 2, 1, 0}, true}, {[]int{1, 0}, 13, nil, false},
		{[]int{inf, 2}, 12, append(repeated(12, inf), 24), true}, {[]int{inf, 2}, 3, []int{inf, inf, inf, 6}, true}, {[]int{0, inf, 3}, 2, []int{0, inf, 3, inf, 6}, true}, {[]int{0, 1, inf, 0}, 2, []int{0, 1, 2, 0, 1, inf, 0}, true},
		{[]int{0, 0, 0}, 6, repeated(13, 0), true}, {[]int{0, 0, 0}, 7, nil, false}, {repeated(5, 0), 3, repeated(13, 0), true}, {repeated(6, 0), 3, nil, false}, {repeated(7, 1), 2, repeated(13, 2), true}, {repeated(8, 1), 2, nil, false},
		{repeated(13, 9), 0, []int{0}, true}, {repeated(13, 9), 1, repeated(13, 9), true}, {repeated(13, 9), 2, nil, false}, {append(repeated(12, inf), most), 1, append(repeated(12, inf), most), true},
		{[]int{most}, 0, []int{0}, true}, {[]int{most}, 1, []int{most}, true}, {[]int{most}, 2, nil, false}, {[]int{-most}, 1, []int{-most}, true}, {[]int{-most}, 2, nil, false}, {[]int{most, -most}, 0, []int{0}, true}, {[]int{most, -most}, 2, nil, false},
		{[]int{83333}, 12, []int{999996}, true}, {[]int{83334}, 12, nil, false}, {[]int{83334}, 11, []int{916674}, true}, {[]int{-83334}, 12, nil, false}, {[]int{500000}, 2, []int{most}, true}, {[]int{-250000}, 4, []int{-most}, true}, {[]int{-250001}, 4, nil, false},
		// The 4th power would be a polynomial, but the 2nd and the 3rd one on the way have a coefficient that is no number.
		{[]int{-100000, 600000, inf, -100000}, 1, []int{-100000, 600000, inf, -100000}, true}, {[]int{-100000, 600000, inf, -100000}, 2, nil, false}, {[]int{-100000, 600000, inf, -100000}, 3, nil, false}, {[]int{-100000, 600000, inf, -100000}, 4, nil, false},
	} {
		got, ok := impl.PolyPower(c.p, c.k)
		checkList(t, fmt.Sprint("PolyPower", c.p, c.k), got, ok, c.want, c.ok)
	}
	q := []int{-100000, 600000, inf, -100000}
	square := freeProductOf(q, q)
	if isPoly(square) || !isPoly(freeProductOf(square, square)) {
		t.Error("the power that fails on the way does not show that it does")
	}
}

func TestPowersOfManyPolys(t *testing.T) {
	powers := 0
	for _, p := range goodPolys() {
		want, fine := []int{0}, true
		for k := range mostDegree + 1 {
			if k > 0 {
				want = freeProductOf(want, p)
				fine = isPoly(want)
			}
			if !fine {
				want = nil
			}
			got, ok := impl.PolyPower(p, k)
			checkList(t, fmt.Sprint("PolyPower", p, k), got, ok, want, fine)
			if !fine {
				break
			}
			powers++
		}
		for _, k := range []int{-1, 13, 14, 20, math.MaxInt, math.MinInt} {
			got, ok := impl.PolyPower(p, k)
			checkList(t, fmt.Sprint("PolyPower", p, k), got, ok, nil, false)
		}
	}
	if powers < 300 {
		t.Error("too few powers:", powers)
	}
	for _, p := range badPolys() {
		for k := -1; k <= 13; k++ {
			got, ok := impl.PolyPower(p, k)
			checkList(t, fmt.Sprint("PolyPower", p, k), got, ok, nil, false)
		}
	}
}

func TestMovePoly(t *testing.T) {
	for _, c := range []struct {
		p    []int
		by   int
		want []int
		ok   bool
	}{
		{[]int{7}, 5, []int{7}, true}, {[]int{7}, most, []int{7}, true}, {[]int{7}, -most, []int{7}, true}, {[]int{0, 1, inf, 0}, 0, []int{0, 1, inf, 0}, true}, {[]int{0, 1, inf, 0}, 2, []int{0, 3, inf, 6}, true}, {[]int{0, 1, inf, 0}, -2, []int{0, -1, inf, -6}, true},
		{[]int{inf, 3}, 4, []int{inf, 7}, true}, {[]int{inf, inf, 3}, -4, []int{inf, inf, -5}, true}, {[]int{4, 0}, most, []int{4, most}, true}, {[]int{4, 1}, most, nil, false}, {[]int{4, 0}, -most, []int{4, -most}, true}, {[]int{4, -1}, -most, nil, false},
		{[]int{0, most, 0}, -1, []int{0, most - 1, -2}, true}, {[]int{0, most, 0}, 1, nil, false}, {[]int{0, -most, 0}, -1, nil, false}, {[]int{0, inf, -most}, most, []int{0, inf, most}, true}, {[]int{0, inf, 1 - most}, most, nil, false}, {[]int{0, inf, most}, -most, []int{0, inf, -most}, true},
		{repeated(13, 0), 83333, []int{0, 83333, 166666, 249999, 333332, 416665, 499998, 583331, 666664, 749997, 833330, 916663, 999996}, true}, {repeated(13, 0), 83334, nil, false}, {repeated(13, 0), -83334, nil, false}, {append(repeated(12, inf), -most), 166666, append(repeated(12, inf), 999992), true}, {append(repeated(12, inf), -most), 166667, nil, false},
		{[]int{7}, inf, nil, false}, {[]int{7}, most + 1, nil, false}, {[]int{7}, -most - 1, nil, false}, {[]int{7, most}, -most - 1, nil, false}, {[]int{7, 1}, inf, nil, false},
	} {
		got, ok := impl.MovePoly(c.p, c.by)
		checkList(t, fmt.Sprint("MovePoly", c.p, c.by), got, ok, c.want, c.ok)
	}
}

func TestMovedPolysHaveTheValuesElsewhere(t *testing.T) {
	moves, values := 0, 0
	for _, p := range goodPolys() {
		for _, by := range someX() {
			want := slices.Clone(p)
			for i := range want {
				if want[i] != inf {
					want[i] += i * by
				}
			}
			fine := isPoly(want)
			if !fine {
				want = nil
			}
			moved, ok := impl.MovePoly(p, by)
			checkList(t, fmt.Sprint("MovePoly", p, by), moved, ok, want, fine)
			if !fine {
				continue
			}
			moves++
			back, ok := impl.MovePoly(moved, -by)
			checkList(t, fmt.Sprint("MovePoly", moved, -by), back, ok, p, true)
			for _, x := range someX() {
				there, ok := impl.PolyValue(p, x+by)
				if !ok {
					continue
				}
				values++
				here, ok := impl.PolyValue(moved, x)
				checkNumber(t, fmt.Sprint("PolyValue", moved, x), here, ok, there, true)
			}
		}
	}
	if moves < 1000 || values < 1000 {
		t.Error("too few polynomials are moved:", moves, values)
	}
}

func TestMirrorPolyAndEndTerms(t *testing.T) {
	for _, c := range []struct {
		p, want         []int
		least, greatest int
	}{
		{[]int{0, 1, inf, 0}, []int{0, inf, 1, 0}, 0, 3}, {[]int{7}, []int{7}, 0, 0}, {[]int{1, 2, 3}, []int{3, 2, 1}, 0, 2}, {[]int{most, inf, -most}, []int{-most, inf, most}, 0, 2},
		{[]int{inf, 5}, []int{5}, 1, 1}, {[]int{inf, inf, 5, inf, 3}, []int{3, inf, 5}, 2, 4}, {[]int{inf, 1, 2}, []int{2, 1}, 1, 2}, {[]int{inf, inf, inf, most}, []int{most}, 3, 3},
		{append(repeated(12, inf), 4), []int{4}, 12, 12}, {append([]int{2}, append(repeated(11, inf), 4)...), append([]int{4}, append(repeated(11, inf), 2)...), 0, 12}, {repeated(13, 6), repeated(13, 6), 0, 12}, {append([]int{inf}, repeated(12, 6)...), repeated(12, 6), 1, 12},
	} {
		got, ok := impl.MirrorPoly(c.p)
		checkList(t, fmt.Sprint("MirrorPoly", c.p), got, ok, c.want, true)
		checkEndTerms(t, c.p, c.least, c.greatest, true)
	}
	for _, p := range goodPolys() {
		first := slices.IndexFunc(p, func(n int) bool { return n != inf })
		want := slices.Clone(p[first:])
		slices.Reverse(want)
		got, ok := impl.MirrorPoly(p)
		checkList(t, fmt.Sprint("MirrorPoly", p), got, ok, want, true)
		back, ok := impl.MirrorPoly(got)
		checkList(t, fmt.Sprint("MirrorPoly", got), back, ok, p[first:], true)
		checkEndTerms(t, p, first, len(p)-1, true)
	}
	for _, p := range badPolys() {
		got, ok := impl.MirrorPoly(p)
		checkList(t, fmt.Sprint("MirrorPoly", p), got, ok, nil, false)
		checkEndTerms(t, p, 0, 0, false)
	}
}

// checkEndTerms fails the test unless EndTerms gives both exponents that are expected, and success.
func checkEndTerms(t *testing.T, p []int, wantLeast int, wantGreatest int, wantOK bool) {
	t.Helper()
	least, greatest, ok := impl.EndTerms(p)
	if least != wantLeast || greatest != wantGreatest || ok != wantOK {
		t.Errorf("EndTerms%v: got %d, %d, %t; want %d, %d, %t", p, least, greatest, ok, wantLeast, wantGreatest, wantOK)
	}
}

// polysOfTexts are polynomials by their texts.
func polysOfTexts() map[string][]int {
	return map[string][]int{
		"0": {0}, "7": {7}, "-7": {-7}, "1000000": {most}, "-1000000": {-most}, "0,1,inf,0": {0, 1, inf, 0}, "inf,5": {inf, 5}, "inf,inf,-3": {inf, inf, -3}, "1000000,-1000000": {most, -most}, "-1,inf,10,100": {-1, inf, 10, 100},
		"0,1,2,3,4,5,6,7,8,9,10,11,12": {0, 1, 2, 3, 4, 5, 6, 7, 8, 9, 10, 11, 12}, strings.Repeat("inf,", 12) + "0": append(repeated(12, inf), 0), strings.Repeat("-1000000,", 12) + "-1000000": repeated(13, -most),
	}
}

func TestPolyTextsAreReadBack(t *testing.T) {
	for text, p := range polysOfTexts() {
		if got, ok := impl.PolyText(p); got != text || !ok {
			t.Errorf("PolyText%v: got %q, %t", p, got, ok)
		}
		got, ok := impl.ParsePoly(text)
		checkList(t, fmt.Sprintf("ParsePoly(%q)", text), got, ok, p, true)
	}
	for _, p := range goodPolys() {
		texts := make([]string, len(p))
		for i, n := range p {
			texts[i] = strings.ReplaceAll(strconv.Itoa(n), strconv.Itoa(inf), "inf")
		}
		text, ok := impl.PolyText(p)
		if text != strings.Join(texts, ",") || !ok {
			t.Errorf("PolyText%v: got %q, %t", p, text, ok)
		}
		back, ok := impl.ParsePoly(text)
		checkList(t, fmt.Sprintf("ParsePoly(%q)", text), back, ok, p, true)
	}
	for _, p := range badPolys() {
		if got, ok := impl.PolyText(p); got != "" || ok {
			t.Errorf("PolyText%v: got %q, %t", p, got, ok)
		}
	}
}

// nearlyPolyTexts are texts of no polynomial, many of which are nearly right.
func nearlyPolyTexts() []string {
	return []string{
		"", ",", ",,", ",0", "0,", "0,,0", ",0,1", "0,1,", "0,1,,", "inf", "inf,inf", "0,inf", "0,1,inf", "0,inf,inf", "inf,", ",inf",
		" ", " 0", "0 ", "0, 1", "0 ,1", " 0,1", "0,1 ", "0,1\n", "\n0,1", "0,\t1", "0,1\x00", "\x000,1", "0;1", "0:1", "0.1", "0/1", "0 1", "0,1;", "[0,1]", "0，1", "0،1",
		"+0", "+1,0", "0,+1", "-0", "0,-0", "-0,0", "00", "00,1", "0,01", "0,-01", "--1", "0,--1", "-", "0,-", "-,0", "1e3", "0,1e3", "1_0,0", "0x1", "0,0x1", "a", "0,a", "a,0", "0,١", "１,0", "−1,0", "\xff", "0,\xff",
		"Inf,0", "INF,0", "inF,0", "in,0", "infi,0", "-inf,0", "+inf,0", "infinity,0", "inf ,0", "inf0", "0inf", "inf0,0", "nan,0", "inf.0", "1000000000", "0,1000000000", "1000000000,0",
		"1000001", "-1000001", "1000001,0", "0,-1000001", "0,1000001", "999999999", "1000000001", "9223372036854775807", "9223372036854775808,0", "0,18446744073709551616", "18446744073709551617",
		"0,1,2,3,4,5,6,7,8,9,10,11,12,", ",0,1,2,3,4,5,6,7,8,9,10,11,12", "0,1,2,3,4,5,6,7,8,9,10,11,inf", "0,1,2,3,4,5,6,7,8,9,10,11,12,13", "0,1,2,3,4,5,6,7,8,9,10,11,12,inf", "0,1,2,3,4,5,6,7,8,9,10,11,12,13,14",
		strings.Repeat("0", 1000), strings.Repeat("9", 1000), strings.Repeat("0,", 1000) + "0", strings.Repeat(",", 1000), strings.Repeat("inf,", 13) + "0", strings.Repeat("inf,", 1000), strings.Repeat("0", 100) + "5,0",
	}
}

func TestParsePoly(t *testing.T) {
	for _, s := range nearlyPolyTexts() {
		got, ok := impl.ParsePoly(s)
		checkList(t, fmt.Sprintf("ParsePoly(%q)", s), got, ok, nil, false)
	}
}
