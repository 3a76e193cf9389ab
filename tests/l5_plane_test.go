package tests

import (
	"cmp"
	"fmt"
	"maps"
	"math"
	"slices"
	"strings"
	"testing"

	"loop.example/g01056/impl"
)

const (
	mostTerms = 12
	mostTotal = 6
)

// plane returns a list of terms from their exponents and coefficients, three numbers each.
func plane(numbers ...int) []impl.Term {
	var l []impl.Term
	for n := 0; n < len(numbers); n += 3 {
		l = append(l, impl.Term{I: numbers[n], J: numbers[n+1], C: numbers[n+2]})
	}
	return l
}

func orderOfTerms(a impl.Term, b impl.Term) int {
	return cmp.Or(cmp.Compare(a.I, b.I), cmp.Compare(a.J, b.J))
}

// isPlane says again what a plane polynomial is, apart from the program.
func isPlane(l []impl.Term) bool {
	for n, t := range l {
		total := t.I >= 0 && t.J >= 0 && t.I <= mostTotal && t.J <= mostTotal-t.I
		if !total || t.C < -most || t.C > most || n > 0 && orderOfTerms(l[n-1], t) >= 0 {
			return false
		}
	}
	return len(l) >= 1 && len(l) <= mostTerms
}

// allExponents returns one term for each pair of exponents that a term may have, in order.
func allExponents() []impl.Term {
	var l []impl.Term
	for i := range mostTotal + 1 {
		for j := range mostTotal + 1 - i {
			l = append(l, impl.Term{I: i, J: j})
		}
	}
	return l
}

// withCoefficients returns terms with the same exponents, and a coefficient for each place.
func withCoefficients(l []impl.Term, coefficient func(n int) int) []impl.Term {
	terms := slices.Clone(l)
	for n := range terms {
		terms[n].C = coefficient(n)
	}
	return terms
}

// smallPlanes returns plane polynomials with all sets of a few exponents, and several coefficients for each.
func smallPlanes() [][]impl.Term {
	few := plane(0, 0, 0, 0, 1, 0, 0, 2, 0, 1, 0, 0, 1, 1, 0, 2, 0, 0)
	var planes [][]impl.Term
	for set := 1; set < 64; set++ {
		var l []impl.Term
		for n, t := range few {
			if set>>n&1 == 1 {
				l = append(l, t)
			}
		}
		planes = append(planes, l, withCoefficients(l, func(n int) int { return (set*5 + n*n*3) % 7 }), withCoefficients(l, func(n int) int { return 1 - (set+n*4)%5*9 }))
	}
	return planes
}

// greatPlanes returns plane polynomials with one term, with the most terms, with the greatest exponents and with coefficients at the limits.
func greatPlanes() [][]impl.Term {
	all := allExponents()
	planes := [][]impl.Term{
		all[:12], all[16:], all[5:17], withCoefficients(all[10:22], func(n int) int { return n*n*7%11 - 5 }), plane(0, 6, 1, 3, 3, 0, 6, 0, 1), plane(0, 0, most, 6, 0, -most), plane(0, 0, -most, 0, 6, most), plane(0, 0, 0, 3, 3, most, 4, 2, -most),
		withCoefficients(all[:12], func(n int) int { return most - n }), withCoefficients(all[16:], func(n int) int { return n - most }), plane(0, 0, most/2, 0, 1, most/2+1), plane(0, 0, -most/2, 0, 1, -most/2-1),
	}
	for _, t := range all {
		for _, c := range []int{0, -3, most, -most} {
			planes = append(planes, plane(t.I, t.J, c))
		}
	}
	return planes
}

func goodPlanes() [][]impl.Term {
	return append(smallPlanes(), greatPlanes()...)
}

// badTerms returns terms that are none: with exponents below 0 or too great, or a coefficient that is no number, or Infinity.
func badTerms() []impl.Term {
	terms := plane(-1, 0, 0, 0, -1, 0, -1, -1, 0, 7, 0, 0, 0, 7, 0, 4, 3, 0, 1, 6, 0, 6, 1, 0, 7, -1, 0, -1, 7, 0, 8, -2, 0, inf, 0, 0, 0, inf, 0, inf, -inf, 0,
		math.MaxInt, 0, 0, 0, math.MaxInt, 0, math.MaxInt, math.MaxInt, 0, math.MaxInt, 1, 0, math.MinInt, 0, 0, 0, math.MinInt, 0, math.MinInt, math.MinInt, 0, math.MaxInt, math.MinInt, 0, math.MinInt, math.MaxInt, 0)
	for _, c := range badX() {
		terms = append(terms, plane(0, 0, c, 2, 3, c, 6, 0, c)...)
	}
	return terms
}

// badPlanes returns lists that are no plane polynomials: without terms or with too many, out of order, with terms twice, or with one that is none.
func badPlanes() [][]impl.Term {
	all := allExponents()
	lists := [][]impl.Term{
		nil, {}, all[:13], all[15:], all, slices.Repeat(all, 50), plane(0, 0, 0, 0, 0, 0), plane(0, 0, 1, 0, 0, 2), plane(0, 0, 2, 0, 0, 1), plane(2, 1, 5, 2, 1, 5), plane(0, 1, 0, 0, 0, 0), plane(1, 0, 0, 0, 1, 0), plane(1, 0, 0, 0, 5, 0),
		plane(0, 0, 0, 1, 0, 0, 0, 1, 0), plane(0, 0, 0, 1, 1, 0, 1, 1, 3), plane(0, 0, 0, 1, 2, 0, 1, 1, 3), plane(0, 0, 5, 0, 1, 4, 0, 1, 3, 1, 0, 2), slices.Repeat(plane(3, 2, 7), 12),
	}
	backwards := slices.Clone(all[:12])
	slices.Reverse(backwards)
	lists = append(lists, backwards, append(slices.Clone(all[:11]), all[10]), append(slices.Clone(all[1:12]), all[0]))
	for _, bad := range badTerms() {
		lists = append(lists, []impl.Term{bad}, append(plane(0, 0, 1), bad), append([]impl.Term{bad}, plane(5, 1, 1)...), append(plane(0, 0, 2, 0, 1, 4), bad, impl.Term{I: 6, J: 0, C: 1}), append(slices.Clone(all[:11]), bad))
	}
	return lists
}

// placesInPlane are numbers x and y at which plane polynomials are tried.
func placesInPlane() [][2]int {
	return [][2]int{{0, 0}, {1, 3}, {0, 3}, {-2, 1}, {5, -4}, {-7, -7}, {1, 1}, {most / 6, 0}, {0, -most / 6}, {most/6 + 1, most / 6}, {most, -most}, {-most, most}, {most, most}, {-most, -most}, {most, 0}, {1 - most, most / 2}}
}

// freePlaneValue says again what the least value of all terms is, and which terms have it, without a bound.
func freePlaneValue(l []impl.Term, x int, y int) (int, []int) {
	var values, places []int
	for _, t := range l {
		values = append(values, t.C+t.I*x+t.J*y)
	}
	least := slices.Min(values)
	for n, value := range values {
		if value == least {
			places = append(places, n)
		}
	}
	return least, places
}

// leastTerms collects terms of any size, the least one of those with the same exponents, in order.
func leastTerms(terms []impl.Term) []impl.Term {
	least := map[[2]int]impl.Term{}
	for _, t := range terms {
		at := [2]int{t.I, t.J}
		if old, ok := least[at]; !ok || t.C < old.C {
			least[at] = t
		}
	}
	return slices.SortedFunc(maps.Values(least), orderOfTerms)
}

// freePlaneProduct says again what the product of two plane polynomials is, without a bound.
func freePlaneProduct(a []impl.Term, b []impl.Term) []impl.Term {
	var terms []impl.Term
	for _, s := range a {
		for _, t := range b {
			terms = append(terms, impl.Term{I: s.I + t.I, J: s.J + t.J, C: s.C + t.C})
		}
	}
	return leastTerms(terms)
}

// planeOrNil returns a list that is a plane polynomial and true, and nothing and false for all others.
func planeOrNil(l []impl.Term) ([]impl.Term, bool) {
	if !isPlane(l) {
		return nil, false
	}
	return l, true
}

// checkPlane fails the test unless a call gave the expected terms and success; nil and an empty list are the same.
func checkPlane(t *testing.T, call string, got []impl.Term, gotOK bool, want []impl.Term, wantOK bool) {
	t.Helper()
	if !slices.Equal(got, want) || gotOK != wantOK {
		t.Errorf("%s: got %v, %t; want %v, %t", call, got, gotOK, want, wantOK)
	}
}

func TestLimitsOfPlanes(t *testing.T) {
	if impl.MaxTerms != mostTerms || impl.MaxTotal != mostTotal {
		t.Error("limits", impl.MaxTerms, impl.MaxTotal)
	}
}

func TestIsPlane(t *testing.T) {
	all := allExponents()
	for _, l := range [][]impl.Term{
		plane(0, 0, 0), plane(0, 0, most), plane(0, 0, -most), plane(6, 0, 0), plane(0, 6, 0), plane(3, 3, 5), plane(0, 0, 0, 0, 1, 0, 1, 0, 0), plane(0, 5, 1, 1, 0, 1), plane(2, 4, 0, 3, 0, 0), all[:12], all[16:], all[8:20],
	} {
		if !impl.IsPlane(l) {
			t.Error("is no plane polynomial:", l)
		}
	}
	for _, l := range badPlanes() {
		if impl.IsPlane(l) || isPlane(l) {
			t.Error("is a plane polynomial:", l)
		}
	}
	for _, l := range goodPlanes() {
		if !impl.IsPlane(l) || !isPlane(l) {
			t.Error("is no plane polynomial:", l)
		}
	}
}

func TestPlaneValue(t *testing.T) {
	line := plane(0, 0, 0, 0, 1, 0, 1, 0, 0)
	for _, c := range []struct {
		l          []impl.Term
		x, y, want int
		ok         bool
	}{
		{line, 0, 0, 0, true}, {line, 0, 3, 0, true}, {line, 1, 3, 0, true}, {line, -2, 3, -2, true}, {line, 4, -5, -5, true}, {line, most, most, 0, true}, {line, -most, most, -most, true}, {line, most, -most, -most, true},
		{plane(0, 0, 7), 5, -5, 7, true}, {plane(0, 0, most), most, most, most, true}, {plane(0, 0, -most), -most, -most, -most, true}, {plane(2, 3, 1), 10, 100, 321, true}, {plane(3, 2, 1), 10, 100, 231, true}, {plane(1, 2, -4), -3, 5, 3, true},
		{plane(1, 0, 0), most, 0, most, true}, {plane(1, 0, 1), most, 0, 0, false}, {plane(0, 1, 0), 0, -most, -most, true}, {plane(0, 1, -1), 0, -most, 0, false}, {plane(1, 1, 0), most, -most, 0, true}, {plane(1, 1, 0), most, 1, 0, false}, {plane(1, 1, 0), most, 0, most, true},
		{plane(6, 0, 4), most / 6, 0, most, true}, {plane(6, 0, 5), most / 6, 0, 0, false}, {plane(0, 6, -4), 0, -most / 6, -most, true}, {plane(0, 6, -5), 0, -most / 6, 0, false}, {plane(3, 3, 0), most, -most, 0, true}, {plane(6, 0, -most), most, 0, 0, false}, {plane(0, 6, most), 0, -most, 0, false},
		// Terms beyond the greatest number do no harm while the least one is a number.
		{plane(0, 0, 5, 6, 0, most), most, most, 5, true}, {plane(0, 0, most, 0, 1, most), 0, 1, most, true}, {plane(0, 1, most, 1, 0, 0), 9, 1, 9, true}, {plane(0, 0, 0, 6, 0, 0), -most, 0, 0, false}, {plane(0, 1, 1, 1, 0, 1), most, most, 0, false}, {plane(0, 0, 0, 0, 1, -1), 0, -most, 0, false}, {plane(0, 0, 0, 0, 1, -1), 0, 1 - most, -most, true},
		{line, inf, 0, 0, false}, {line, 0, inf, 0, false}, {line, inf, inf, 0, false}, {line, most + 1, 0, 0, false}, {line, 0, most + 1, 0, false}, {line, -most - 1, 0, 0, false}, {line, 0, -most - 1, 0, false}, {plane(0, 0, 7), most + 1, 0, 0, false}, {plane(0, 0, 7), 0, -most - 1, 0, false}, {plane(0, 0, 7), inf, inf, 0, false},
		{plane(1, 0, 7), 0, inf, 0, false}, {plane(0, 1, 7), inf, 0, 0, false}, {plane(0, 0, 7), math.MaxInt, math.MinInt, 0, false}, {line, 0, math.MinInt, 0, false}, {line, math.MaxInt, 0, 0, false},
	} {
		got, ok := impl.PlaneValue(c.l, c.x, c.y)
		checkNumber(t, fmt.Sprint("PlaneValue", c.l, c.x, c.y), got, ok, c.want, c.ok)
	}
}

func TestPlaneLeastAndIsOnCurve(t *testing.T) {
	line := plane(0, 0, 0, 0, 1, 0, 1, 0, 0)
	all := allExponents()[:12]
	for _, c := range []struct {
		l    []impl.Term
		x, y int
		want []int
	}{
		{line, 0, 0, []int{0, 1, 2}}, {line, 0, 3, []int{0, 2}}, {line, 1, 3, []int{0}}, {line, 3, 0, []int{0, 1}}, {line, -2, -2, []int{1, 2}}, {line, -2, 0, []int{2}}, {line, 0, -2, []int{1}}, {line, -most, -most, []int{1, 2}}, {line, most, most, []int{0}}, {line, most, 0, []int{0, 1}},
		{plane(0, 0, 7), 0, 0, []int{0}}, {plane(6, 0, 0), 3, most, []int{0}}, {plane(0, 0, 1, 0, 6, 1), 5, 0, []int{0, 1}}, {plane(0, 0, 2, 1, 1, 0, 2, 2, -2), 1, 1, []int{0, 1, 2}}, {plane(0, 0, 2, 1, 1, 1, 2, 2, -2), 1, 1, []int{0, 2}},
		{plane(0, 0, most, 0, 1, 0), 0, most, []int{0, 1}}, {plane(0, 0, -most, 0, 1, 0), 0, -most, []int{0, 1}}, {plane(0, 0, 0, 0, 1, most, 1, 0, -most), most, 0, []int{0, 2}},
		{all, 0, 0, []int{0, 1, 2, 3, 4, 5, 6, 7, 8, 9, 10, 11}}, {all, 5, 0, []int{0, 1, 2, 3, 4, 5, 6}}, {all, -5, 0, []int{7, 8, 9, 10, 11}}, {all, 1, 1, []int{0}}, {all, 3, -1, []int{6}},
	} {
		got, ok := impl.PlaneLeast(c.l, c.x, c.y)
		checkList(t, fmt.Sprint("PlaneLeast", c.l, c.x, c.y), got, ok, c.want, true)
		on, ok := impl.IsOnCurve(c.l, c.x, c.y)
		checkFlag(t, fmt.Sprint("IsOnCurve", c.l, c.x, c.y), on, ok, len(c.want) > 1, true)
	}
	// Both terms have the least value here, but it is no number.
	for _, c := range [][]impl.Term{plane(0, 1, 1, 1, 0, 1), plane(5, 0, 0, 6, 0, -most), plane(2, 4, 0, 3, 3, 0)} {
		checkLeastFails(t, c, most, most)
	}
	checkLeastFails(t, plane(0, 1, -1, 1, 0, -1), -most, -most)
}

// checkLeastFails fails the test unless there are no value and no least terms at x and y.
func checkLeastFails(t *testing.T, l []impl.Term, x int, y int) {
	t.Helper()
	value, ok := impl.PlaneValue(l, x, y)
	checkNumber(t, fmt.Sprint("PlaneValue", l, x, y), value, ok, 0, false)
	places, ok := impl.PlaneLeast(l, x, y)
	checkList(t, fmt.Sprint("PlaneLeast", l, x, y), places, ok, nil, false)
	on, ok := impl.IsOnCurve(l, x, y)
	checkFlag(t, fmt.Sprint("IsOnCurve", l, x, y), on, ok, false, false)
}

func TestValuesOfManyPlanes(t *testing.T) {
	count := [2]int{}
	for _, l := range goodPlanes() {
		for _, at := range placesInPlane() {
			value, places := freePlaneValue(l, at[0], at[1])
			if !isNumber(value) {
				count[1]++
				checkLeastFails(t, l, at[0], at[1])
				continue
			}
			count[0]++
			got, ok := impl.PlaneValue(l, at[0], at[1])
			checkNumber(t, fmt.Sprint("PlaneValue", l, at), got, ok, value, true)
			terms, ok := impl.PlaneLeast(l, at[0], at[1])
			checkList(t, fmt.Sprint("PlaneLeast", l, at), terms, ok, places, true)
			on, ok := impl.IsOnCurve(l, at[0], at[1])
			checkFlag(t, fmt.Sprint("IsOnCurve", l, at), on, ok, len(places) > 1, true)
		}
	}
	if count[0] < 1000 || count[1] < 1000 {
		t.Error("too few values, or too few failures:", count)
	}
}

func TestPlaneSum(t *testing.T) {
	all := allExponents()
	for _, c := range []struct{ a, b, want []impl.Term }{
		{plane(0, 0, 3), plane(0, 0, 5), plane(0, 0, 3)}, {plane(1, 2, 5), plane(1, 2, 5), plane(1, 2, 5)}, {plane(0, 1, 3), plane(1, 0, 5), plane(0, 1, 3, 1, 0, 5)}, {plane(1, 0, 0), plane(0, 6, 1), plane(0, 6, 1, 1, 0, 0)}, {plane(2, 1, 0), plane(1, 2, 0), plane(1, 2, 0, 2, 1, 0)},
		{plane(0, 0, 1, 1, 1, 2), plane(0, 0, 2, 1, 1, 1), plane(0, 0, 1, 1, 1, 1)}, {plane(0, 0, most), plane(0, 0, -most), plane(0, 0, -most)}, {plane(0, 0, 0, 0, 1, 0), plane(0, 1, -1, 1, 0, 4), plane(0, 0, 0, 0, 1, -1, 1, 0, 4)},
		{all[:6], all[6:12], all[:12]}, {all[:12], all[3:9], all[:12]}, {all[:12], all[:12], all[:12]}, {all[16:], all[27:], all[16:]}, {all[:6], all[6:13], nil}, {all[:12], all[12:13], nil}, {all[:12], all[16:], nil}, {all[:11], all[1:13], nil},
	} {
		got, ok := impl.PlaneSum(c.a, c.b)
		checkPlane(t, fmt.Sprint("PlaneSum", c.a, c.b), got, ok, c.want, c.want != nil)
		got, ok = impl.PlaneSum(c.b, c.a)
		checkPlane(t, fmt.Sprint("PlaneSum", c.b, c.a), got, ok, c.want, c.want != nil)
	}
}

func TestPlaneProduct(t *testing.T) {
	all := allExponents()
	line := plane(0, 0, 0, 0, 1, 0, 1, 0, 0)
	conic := plane(0, 0, 0, 0, 1, 0, 0, 2, 0, 1, 0, 0, 1, 1, 0, 2, 0, 0)
	for _, c := range []struct{ a, b, want []impl.Term }{
		{plane(0, 0, 3), plane(0, 0, 5), plane(0, 0, 8)}, {plane(1, 2, 3), plane(2, 0, -5), plane(3, 2, -2)}, {line, plane(0, 0, 4), plane(0, 0, 4, 0, 1, 4, 1, 0, 4)}, {line, line, conic}, {line, plane(0, 0, 1, 0, 1, 2, 1, 0, 3), plane(0, 0, 1, 0, 1, 1, 0, 2, 2, 1, 0, 1, 1, 1, 2, 2, 0, 3)},
		{plane(0, 1, 1, 1, 0, 2), plane(0, 1, 5, 1, 0, 7), plane(0, 2, 6, 1, 1, 7, 2, 0, 9)}, {plane(0, 1, 1, 1, 0, 2), plane(0, 1, 5, 1, 0, 3), plane(0, 2, 6, 1, 1, 4, 2, 0, 5)}, {plane(0, 2, 0, 1, 0, 0), plane(0, 0, 0, 1, 0, 0), plane(0, 2, 0, 1, 0, 0, 1, 2, 0, 2, 0, 0)},
		// Exponents at the greatest sum, and beyond it.
		{plane(3, 3, 0), plane(0, 0, 2), plane(3, 3, 2)}, {plane(6, 0, 0), plane(0, 0, 1), plane(6, 0, 1)}, {plane(2, 1, 0), plane(1, 2, 0), plane(3, 3, 0)}, {plane(6, 0, 0), plane(0, 1, 0), nil}, {plane(0, 6, 0), plane(0, 1, 0), nil}, {plane(3, 3, 0), plane(1, 0, 0), nil}, {plane(0, 0, 0, 4, 0, 0), plane(0, 0, 0, 0, 3, 0), nil}, {plane(6, 0, 0), plane(6, 0, 0), nil},
		// Coefficients at the limits, and beyond them.
		{plane(0, 0, most-1), plane(0, 0, 1), plane(0, 0, most)}, {plane(0, 0, most), plane(0, 0, 1), nil}, {plane(0, 0, 1-most), plane(0, 0, -1), plane(0, 0, -most)}, {plane(0, 0, -most), plane(0, 0, -1), nil}, {plane(0, 0, most), plane(0, 0, most), nil}, {plane(0, 0, -most), plane(0, 0, most), plane(0, 0, 0)},
		{plane(0, 0, 0, 1, 0, most), plane(0, 0, 0, 0, 1, 1), nil}, {plane(0, 0, 0, 1, 0, most, 2, 0, 0), plane(0, 0, 0, 1, 0, most, 2, 0, 0), plane(0, 0, 0, 1, 0, most, 2, 0, 0, 3, 0, most, 4, 0, 0)}, {plane(0, 0, 0, 1, 0, most), plane(0, 0, 0, 1, 0, 1), nil}, {plane(0, 0, 0, 1, 0, -600000, 2, 0, 0), plane(0, 0, 0, 1, 0, -600000, 2, 0, 0), nil},
		// As many terms as there may be, and one more.
		{all[:12], plane(0, 0, 5), withCoefficients(all[:12], func(int) int { return 5 })}, {plane(0, 0, 0, 0, 1, 0, 0, 2, 0, 0, 3, 0), plane(0, 0, 0, 1, 0, 0, 2, 0, 0), plane(0, 0, 0, 0, 1, 0, 0, 2, 0, 0, 3, 0, 1, 0, 0, 1, 1, 0, 1, 2, 0, 1, 3, 0, 2, 0, 0, 2, 1, 0, 2, 2, 0, 2, 3, 0)},
		{plane(0, 0, 0, 0, 1, 0, 0, 2, 0), plane(0, 0, 0, 1, 0, 0, 2, 0, 0, 3, 0, 0, 4, 0, 0), nil}, {conic, conic, nil}, {conic, line, plane(0, 0, 0, 0, 1, 0, 0, 2, 0, 0, 3, 0, 1, 0, 0, 1, 1, 0, 1, 2, 0, 2, 0, 0, 2, 1, 0, 3, 0, 0)}, {plane(0, 0, 0, 1, 0, 0), plane(0, 0, 0, 0, 1, 0, 0, 2, 0, 0, 3, 0, 0, 4, 0, 0, 5, 0, 1, 0, 0), nil},
	} {
		got, ok := impl.PlaneProduct(c.a, c.b)
		checkPlane(t, fmt.Sprint("PlaneProduct", c.a, c.b), got, ok, c.want, c.want != nil)
		got, ok = impl.PlaneProduct(c.b, c.a)
		checkPlane(t, fmt.Sprint("PlaneProduct", c.b, c.a), got, ok, c.want, c.want != nil)
	}
}

func TestSumsAndProductsOfManyPlanes(t *testing.T) {
	sums, products := [2]int{}, [2]int{}
	planes := goodPlanes()
	for n, a := range planes {
		for m := n % 3; m < len(planes); m += 3 {
			b := planes[m]
			want, fine := planeOrNil(leastTerms(slices.Concat(a, b)))
			got, ok := impl.PlaneSum(a, b)
			checkPlane(t, fmt.Sprint("PlaneSum", a, b), got, ok, want, fine)
			countOf(&sums, fine)
			want, fine = planeOrNil(freePlaneProduct(a, b))
			got, ok = impl.PlaneProduct(a, b)
			checkPlane(t, fmt.Sprint("PlaneProduct", a, b), got, ok, want, fine)
			countOf(&products, fine)
		}
	}
	if min(sums[0], sums[1], products[0], products[1]) < 500 {
		t.Error("too few sums or products, or too few failures:", sums, products)
	}
}

// countOf counts successes and failures.
func countOf(counts *[2]int, ok bool) {
	if ok {
		counts[0]++
	} else {
		counts[1]++
	}
}

// Guarantee 5: values of products are products of values, and so are those of sums.
func TestValuesOfPlaneProductsAreProductsOfValues(t *testing.T) {
	products, sums := 0, 0
	planes := goodPlanes()
	for n, a := range planes {
		for m := n % 5; m < len(planes); m += 5 {
			b := planes[m]
			product, isProduct := impl.PlaneProduct(a, b)
			sum, isSum := impl.PlaneSum(a, b)
			for _, at := range placesInPlane() {
				ofA, hasA := impl.PlaneValue(a, at[0], at[1])
				ofB, hasB := impl.PlaneValue(b, at[0], at[1])
				if want, ok := impl.TropProduct(ofA, ofB); ok && isProduct && hasA && hasB {
					products++
					got, ok := impl.PlaneValue(product, at[0], at[1])
					checkNumber(t, fmt.Sprint("value of the product ", a, b, at), got, ok, want, true)
				}
				if want, ok := impl.TropSum(ofA, ofB); ok && isSum && hasA && hasB {
					sums++
					got, ok := impl.PlaneValue(sum, at[0], at[1])
					checkNumber(t, fmt.Sprint("value of the sum ", a, b, at), got, ok, want, true)
				}
			}
		}
	}
	if products < 10000 || sums < 10000 {
		t.Error("too few values are compared:", products, sums)
	}
}

func TestMovePlane(t *testing.T) {
	line := plane(0, 0, 0, 0, 1, 0, 1, 0, 0)
	for _, c := range []struct {
		l      []impl.Term
		dx, dy int
		want   []impl.Term
	}{
		{line, 3, 5, plane(0, 0, 0, 0, 1, 5, 1, 0, 3)}, {line, -3, 0, plane(0, 0, 0, 0, 1, 0, 1, 0, -3)}, {line, 0, 0, line}, {plane(2, 3, 1), 10, 100, plane(2, 3, 321)}, {plane(0, 0, 7), most, -most, plane(0, 0, 7)}, {plane(0, 0, most), most, most, plane(0, 0, most)},
		{line, most, -most, plane(0, 0, 0, 0, 1, -most, 1, 0, most)}, {plane(1, 0, 0), most, 5, plane(1, 0, most)}, {plane(1, 0, 1), most, 5, nil}, {plane(1, 0, 1), most - 1, 5, plane(1, 0, most)}, {plane(0, 1, -1), 0, -most, nil}, {plane(0, 1, -1), 0, 1 - most, plane(0, 1, -most)},
		{plane(0, 0, 0, 1, 0, 1), most, 0, nil}, {plane(0, 0, 0, 0, 1, -1), 0, -most, nil}, {plane(3, 3, 5), most, -most, plane(3, 3, 5)}, {plane(6, 0, 4), most / 6, 0, plane(6, 0, most)}, {plane(6, 0, 5), most / 6, 0, nil}, {plane(0, 6, -4), 0, -most / 6, plane(0, 6, -most)}, {plane(0, 6, -5), 0, -most / 6, nil}, {plane(0, 0, 0, 6, 0, 0), most, most, nil},
		{line, inf, 0, nil}, {line, 0, inf, nil}, {plane(0, 0, 3), inf, 0, nil}, {plane(0, 0, 3), 0, inf, nil}, {plane(0, 0, 3), most + 1, 0, nil}, {plane(0, 0, 3), 0, -most - 1, nil}, {plane(1, 0, -5), most + 1, 0, nil}, {plane(0, 1, 5), 0, -most - 1, nil}, {plane(1, 0, -5), 0, most + 1, nil}, {plane(0, 0, 3), math.MinInt, math.MaxInt, nil}, {plane(0, 1, 3), math.MaxInt, 0, nil},
	} {
		got, ok := impl.MovePlane(c.l, c.dx, c.dy)
		checkPlane(t, fmt.Sprint("MovePlane", c.l, c.dx, c.dy), got, ok, c.want, c.want != nil)
	}
}

func TestMovedPlanesHaveTheValuesOfTheirPlaces(t *testing.T) {
	moved := [2]int{}
	for _, l := range goodPlanes() {
		for _, by := range placesInPlane() {
			want, fine := planeOrNil(withCoefficients(l, func(n int) int { return l[n].C + l[n].I*by[0] + l[n].J*by[1] }))
			got, ok := impl.MovePlane(l, by[0], by[1])
			checkPlane(t, fmt.Sprint("MovePlane", l, by), got, ok, want, fine)
			countOf(&moved, fine)
			if !fine {
				continue
			}
			for _, at := range [][2]int{{0, 0}, {2, -1}, {-4, 9}} {
				there, isThere := impl.PlaneValue(l, at[0]+by[0], at[1]+by[1])
				value, ok := impl.PlaneValue(got, at[0], at[1])
				if isThere {
					checkNumber(t, fmt.Sprint("value of the moved ", l, by, at), value, ok, there, true)
				}
			}
		}
	}
	if min(moved[0], moved[1]) < 1000 {
		t.Error("too few are moved, or too few failures:", moved)
	}
}

func TestSwapPlane(t *testing.T) {
	for _, c := range []struct{ l, want []impl.Term }{
		{plane(0, 0, 5), plane(0, 0, 5)}, {plane(2, 3, 5), plane(3, 2, 5)}, {plane(6, 0, 1), plane(0, 6, 1)}, {plane(0, 0, 1, 0, 1, 2, 1, 0, 3), plane(0, 0, 1, 0, 1, 3, 1, 0, 2)}, {plane(0, 2, 7, 1, 1, 8, 2, 0, 9), plane(0, 2, 9, 1, 1, 8, 2, 0, 7)},
		{plane(0, 5, 1, 1, 0, 2, 1, 3, 3, 4, 2, 4), plane(0, 1, 2, 2, 4, 4, 3, 1, 3, 5, 0, 1)}, {plane(0, 0, most, 0, 3, -most), plane(0, 0, most, 3, 0, -most)},
	} {
		got, ok := impl.SwapPlane(c.l)
		checkPlane(t, fmt.Sprint("SwapPlane", c.l), got, ok, c.want, true)
	}
}

// Guarantee 5: exchanged ones are exchanged back, and have the values of exchanged places.
func TestExchangedPlanesAreExchangedBack(t *testing.T) {
	for _, l := range goodPlanes() {
		swapped, ok := impl.SwapPlane(l)
		var terms []impl.Term
		for _, term := range l {
			terms = append(terms, impl.Term{I: term.J, J: term.I, C: term.C})
		}
		checkPlane(t, fmt.Sprint("SwapPlane", l), swapped, ok, leastTerms(terms), true)
		back, ok := impl.SwapPlane(swapped)
		checkPlane(t, fmt.Sprint("SwapPlane", swapped), back, ok, l, true)
		for _, at := range placesInPlane() {
			want, fine := impl.PlaneValue(l, at[0], at[1])
			got, ok := impl.PlaneValue(swapped, at[1], at[0])
			checkNumber(t, fmt.Sprint("value of the exchanged ", l, at), got, ok, want, fine)
		}
	}
}

func TestTotalDegreeAndNewtonPoints(t *testing.T) {
	for _, c := range []struct {
		l      []impl.Term
		degree int
		points []impl.Point
	}{
		{plane(0, 0, 5), 0, []impl.Point{{X: 0, Y: 0}}}, {plane(2, 3, most), 5, []impl.Point{{X: 2, Y: 3}}}, {plane(0, 0, 0, 0, 1, 0, 1, 0, 0), 1, []impl.Point{{X: 0, Y: 0}, {X: 0, Y: 1}, {X: 1, Y: 0}}},
		{plane(0, 6, 0, 1, 0, 0), 6, []impl.Point{{X: 0, Y: 6}, {X: 1, Y: 0}}}, {plane(0, 1, 3, 1, 4, -3, 2, 1, 0), 5, []impl.Point{{X: 0, Y: 1}, {X: 1, Y: 4}, {X: 2, Y: 1}}}, {plane(0, 0, 0, 3, 3, 0), 6, []impl.Point{{X: 0, Y: 0}, {X: 3, Y: 3}}},
	} {
		got, ok := impl.TotalDegree(c.l)
		checkNumber(t, fmt.Sprint("TotalDegree", c.l), got, ok, c.degree, true)
		checkNewtonPoints(t, c.l, c.points, true)
	}
	for _, l := range goodPlanes() {
		degree := 0
		var points []impl.Point
		for _, term := range l {
			degree = max(degree, term.I+term.J)
			points = append(points, impl.Point{X: term.I, Y: term.J})
		}
		got, ok := impl.TotalDegree(l)
		checkNumber(t, fmt.Sprint("TotalDegree", l), got, ok, degree, true)
		checkNewtonPoints(t, l, points, true)
	}
}

// checkNewtonPoints fails the test unless NewtonPoints gives the expected points and success.
func checkNewtonPoints(t *testing.T, l []impl.Term, want []impl.Point, wantOK bool) {
	t.Helper()
	got, ok := impl.NewtonPoints(l)
	if !slices.Equal(got, want) || ok != wantOK {
		t.Errorf("NewtonPoints%v: got %v, %t; want %v, %t", l, got, ok, want, wantOK)
	}
}

func TestRowOf(t *testing.T) {
	gaps := plane(0, 0, 4, 0, 2, 7, 1, 1, -2, 2, 0, 5, 3, 1, 6, 4, 2, -8, 6, 0, 1)
	for _, c := range []struct {
		l    []impl.Term
		j    int
		want []int
	}{
		{gaps, 0, []int{4, inf, 5, inf, inf, inf, 1}}, {gaps, 1, []int{inf, -2, inf, 6}}, {gaps, 2, []int{7, inf, inf, inf, -8}}, {gaps, 3, nil}, {gaps, 4, nil}, {gaps, 5, nil}, {gaps, 6, nil}, {gaps, 7, nil}, {gaps, -1, nil}, {gaps, math.MinInt, nil}, {gaps, math.MaxInt, nil}, {gaps, inf, nil},
		{plane(0, 0, 5), 0, []int{5}}, {plane(0, 0, 5), 1, nil}, {plane(0, 6, 5), 6, []int{5}}, {plane(0, 6, 5), 0, nil}, {plane(0, 6, 5), 7, nil}, {plane(6, 0, most), 0, append(repeated(6, inf), most)}, {plane(1, 5, -most), 5, []int{inf, -most}},
		{allExponents()[16:], 0, []int{inf, inf, inf, 0, 0, 0, 0}}, {allExponents()[:12], 0, []int{0, 0}}, {allExponents()[:12], 4, []int{0, 0}}, {allExponents()[:12], 5, []int{0}}, {plane(0, 0, 3, 1, 0, 2, 2, 0, 1, 3, 0, 0, 4, 0, -1, 5, 0, -2, 6, 0, -3), 0, []int{3, 2, 1, 0, -1, -2, -3}},
	} {
		got, ok := impl.RowOf(c.l, c.j)
		checkList(t, fmt.Sprint("RowOf", c.l, c.j), got, ok, c.want, c.want != nil)
	}
	for _, l := range goodPlanes() {
		for j := -2; j <= mostTotal+2; j++ {
			var want []int
			for _, term := range l {
				if term.J == j {
					want = append(append(want, repeated(term.I-len(want), inf)...), term.C)
				}
			}
			got, ok := impl.RowOf(l, j)
			checkList(t, fmt.Sprint("RowOf", l, j), got, ok, want, want != nil)
			if impl.IsPoly(got) != ok {
				t.Error("is no polynomial:", got)
			}
		}
	}
}

func TestCallsOfBadPlanes(t *testing.T) {
	line := plane(0, 0, 0, 0, 1, 0, 1, 0, 0)
	for _, bad := range badPlanes() {
		for _, at := range placesInPlane() {
			checkLeastFails(t, bad, at[0], at[1])
			moved, ok := impl.MovePlane(bad, at[0], at[1])
			checkPlane(t, fmt.Sprint("MovePlane", bad, at), moved, ok, nil, false)
		}
		for _, pair := range [][2][]impl.Term{{bad, line}, {line, bad}, {bad, bad}, {bad, nil}} {
			sum, ok := impl.PlaneSum(pair[0], pair[1])
			checkPlane(t, fmt.Sprint("PlaneSum", pair), sum, ok, nil, false)
			product, ok := impl.PlaneProduct(pair[0], pair[1])
			checkPlane(t, fmt.Sprint("PlaneProduct", pair), product, ok, nil, false)
		}
		swapped, ok := impl.SwapPlane(bad)
		checkPlane(t, fmt.Sprint("SwapPlane", bad), swapped, ok, nil, false)
		degree, ok := impl.TotalDegree(bad)
		checkNumber(t, fmt.Sprint("TotalDegree", bad), degree, ok, 0, false)
		checkNewtonPoints(t, bad, nil, false)
		for j := range mostTotal + 1 {
			row, ok := impl.RowOf(bad, j)
			checkList(t, fmt.Sprint("RowOf", bad, j), row, ok, nil, false)
		}
		if text, ok := impl.PlaneText(bad); text != "" || ok {
			t.Errorf("PlaneText%v: got %q, %t", bad, text, ok)
		}
	}
}

func TestCallsAtBadPlaces(t *testing.T) {
	for _, l := range greatPlanes() {
		for _, n := range badX() {
			for _, at := range [][2]int{{n, 0}, {0, n}, {n, n}, {n, -n}} {
				checkLeastFails(t, l, at[0], at[1])
				moved, ok := impl.MovePlane(l, at[0], at[1])
				checkPlane(t, fmt.Sprint("MovePlane", l, at), moved, ok, nil, false)
			}
		}
	}
}

func TestPlaneTextsAreReadBack(t *testing.T) {
	for text, l := range map[string][]impl.Term{
		"0:0,0;0:0,1;0:1,0;": plane(0, 0, 0, 0, 1, 0, 1, 0, 0), "7:0,0;": plane(0, 0, 7), "-7:6,0;": plane(6, 0, -7), "1000000:0,6;": plane(0, 6, most), "-1000000:2,4;": plane(2, 4, -most), "5:0,1;-3:1,0;12:1,5;": plane(0, 1, 5, 1, 0, -3, 1, 5, 12),
		"0:0,0;0:0,1;0:0,2;0:0,3;0:0,4;0:0,5;0:0,6;0:1,0;0:1,1;0:1,2;0:1,3;0:1,4;": allExponents()[:12],
	} {
		got, ok := impl.PlaneText(l)
		if got != text || !ok {
			t.Errorf("PlaneText%v: got %q, %t", l, got, ok)
		}
		back, ok := impl.ParsePlane(text)
		checkPlane(t, fmt.Sprintf("ParsePlane(%q)", text), back, ok, l, true)
	}
	for _, l := range goodPlanes() {
		want := ""
		for _, term := range l {
			want += fmt.Sprintf("%d:%d,%d;", term.C, term.I, term.J)
		}
		text, ok := impl.PlaneText(l)
		if text != want || !ok {
			t.Errorf("PlaneText%v: got %q, %t", l, text, ok)
		}
		back, ok := impl.ParsePlane(text)
		checkPlane(t, fmt.Sprintf("ParsePlane(%q)", text), back, ok, l, true)
	}
}

// nearlyPlaneTexts are texts of no plane polynomial, many of which are nearly right.
func nearlyPlaneTexts() []string {
	texts := []string{
		"", ";", ";;", ":,;", "0", "0;", "0:", "0:;", "0:0", "0:0;", "0:0,", "0:0,;", "0:,0;", ":0,0;", "0,0;", ",;", "0:0,0", "0:0,0;;", ";0:0,0;", "0:0,0;0", "0:0,0;0:0,1", "0:0,0;0:0,1;;", "0:0,0;;0:0,1;", "0:0,00:0,1;", "0:0,0 0:0,1;", "0:0,0,0:0,1;", "0:0,0:0:0,1;",
		"0:0,0,0;", "0:0,0,;", "0:0:0,0;", "0:0:0;", "0,0,0;", "0:0,0:;", ":0:0,0;", "0::0,0;", "0:0,,0;", "0:,0,0;", "0;0,0;", "0:0;0;", "0.0,0;", "0:0.0;", "0:0,0.", "0:0,0,", "0:0,0:", "0:0,0|",
		" 0:0,0;", "0 :0,0;", "0: 0,0;", "0:0 ,0;", "0:0, 0;", "0:0,0 ;", "0:0,0; ", "0:0,0;\n", "\n0:0,0;", "0:0,0;\x00", "\x000:0,0;", "0:0,0; 0:0,1;", "0:0,0;\n0:0,1;", "(0:0,0);", "[0:0,0;]", "0：0,0;", "0:0，0;", "0:0,0；", "٠:0,0;", "0:0,０;", "\xff:0,0;", "0:\xff,0;", "0:0,\xff;",
		"+0:0,0;", "+1:0,0;", "1:+1,0;", "1:0,+1;", "-0:0,0;", "0:-0,0;", "0:0,-0;", "00:0,0;", "01:0,0;", "-01:0,0;", "0:00,0;", "0:01,0;", "0:0,00;", "0:0,01;", "--1:0,0;", "-:0,0;", "0:-,0;", "0:0,-;", "1e3:0,0;", "1_0:0,0;", "0x1:0,0;", "0:0x1,0;", "a:0,0;", "0:a,0;", "0:0,a;", "1.0:0,0;", "1/2:0,0;",
		"inf:0,0;", "0:inf,0;", "0:0,inf;", "-inf:0,0;", "0:0,0;inf:0,1;", "Inf:0,0;", "1000000000:0,0;", "1000001:0,0;", "-1000001:0,0;", "0:0,0;1000001:0,1;", "9223372036854775808:0,0;", "18446744073709551616:0,0;", "0:18446744073709551616,0;", "0:0,18446744073709551616;", "0:4294967296,0;",
		"0:-1,0;", "0:0,-1;", "0:-1,1;", "0:1,-1;", "0:7,0;", "0:0,7;", "0:6,1;", "0:1,6;", "0:4,3;", "0:7,-1;", "0:10,0;", "0:0,1000000;", "0:1000001,0;",
		"0:0,1;0:0,0;", "0:1,0;0:0,1;", "0:0,0;0:0,0;", "0:0,0;1:0,0;", "1:0,0;0:0,0;", "0:0,0;0:1,0;0:0,1;", "0:0,0;0:1,1;0:1,1;", "0:2,0;0:1,5;",
		"0:0,0;0:0,1;0:0,2;0:0,3;0:0,4;0:0,5;0:0,6;0:1,0;0:1,1;0:1,2;0:1,3;0:1,4", "0:0,0;0:0,1;0:0,2;0:0,3;0:0,4;0:0,5;0:0,6;0:1,0;0:1,1;0:1,2;0:1,3;0:1,4;;", "0:0,0;0:0,1;0:0,2;0:0,3;0:0,4;0:0,5;0:0,6;0:1,0;0:1,1;0:1,2;0:1,3;0:1,4;0:1,5", "0:0,0;0:0,1;0:0,2;0:0,3;0:0,4;0:0,5;0:0,6;0:1,0;0:1,1;0:1,2;0:1,3;0:1,4;0",
		"0:0,0;0:0,1;0:0,2;0:0,3;0:0,4;0:0,5;0:0,6;0:1,0;0:1,1;0:1,2;0:1,3;0:1,4;0:1,5;", strings.Repeat("0:0,0;", 12), strings.Repeat("0:0,0;", 13), strings.Repeat("0:0,0;", 1000), strings.Repeat(";", 1000), strings.Repeat(":", 1000), strings.Repeat("9", 1000) + ":0,0;", strings.Repeat("0", 100) + ":0,0;",
	}
	all := ""
	for _, term := range allExponents() {
		all += fmt.Sprintf("0:%d,%d;", term.I, term.J)
	}
	return append(texts, all)
}

func TestParsePlane(t *testing.T) {
	for _, s := range nearlyPlaneTexts() {
		got, ok := impl.ParsePlane(s)
		checkPlane(t, fmt.Sprintf("ParsePlane(%q)", s), got, ok, nil, false)
	}
}
