package tests

import (
	"fmt"
	"math"
	"math/big"
	"math/rand/v2"
	"slices"
	"testing"

	"loop.example/g01056/impl"
)

// fewCoefficients returns all polynomials with up to so many coefficients out of five.
func fewCoefficients(count int) [][]int {
	var polys [][]int
	layer := [][]int{nil}
	for range count {
		var next [][]int
		for _, l := range layer {
			for _, c := range []int{inf, -1, 0, 1, 3} {
				next = append(next, append(slices.Clone(l), c))
			}
		}
		for _, l := range next {
			if isPoly(l) {
				polys = append(polys, l)
			}
		}
		layer = next
	}
	return polys
}

// bentPolys returns polynomials of all degrees, half of them with many corners: each of these bends up at most places.
func bentPolys() [][]int {
	var polys [][]int
	source := rand.New(rand.NewPCG(4, 33))
	for n := range 400 {
		p := make([]int, 1+source.IntN(mostDegree+1))
		for i := range p {
			p[i] = source.IntN(9) - 4
			if n%2 == 0 {
				p[i] += (i - 5) * (i - 5)
			}
			if i < len(p)-1 && source.IntN(4) == 0 {
				p[i] = inf
			}
		}
		polys = append(polys, p)
	}
	return polys
}

func rootPolys() [][]int {
	return slices.Concat(goodPolys(), fewCoefficients(5), bentPolys())
}

// pointsOf returns the exponents of all coefficients that are not Infinity.
func pointsOf(p []int) []int {
	var exponents []int
	for i, c := range p {
		if c != inf {
			exponents = append(exponents, i)
		}
	}
	return exponents
}

// cornersByLines says again which points are corners: none of the lines between two others is at or below them.
func cornersByLines(p []int) []int {
	points := pointsOf(p)
	return slices.DeleteFunc(slices.Clone(points), func(at int) bool {
		for _, before := range points {
			for _, after := range points {
				if before < at && at < after && p[at]*(after-before) >= p[before]*(after-at)+p[after]*(at-before) {
					return true
				}
			}
		}
		return false
	})
}

// heightByLines says again how high the lower side of the hull is: as high as the lowest line between two points, or the point itself.
func heightByLines(p []int, at int) *big.Rat {
	var least *big.Rat
	for _, before := range pointsOf(p) {
		for _, after := range pointsOf(p) {
			if before > at || at > after {
				continue
			}
			height := big.NewRat(int64(p[before]), 1)
			if before < after {
				height = big.NewRat(int64(p[before]*(after-at)+p[after]*(at-before)), int64(after-before))
			}
			if least == nil || height.Cmp(least) < 0 {
				least = height
			}
		}
	}
	return least
}

// ratTerms says again what the least value of all terms at a fraction is, and which terms have it, without a bound.
func ratTerms(p []int, x *big.Rat) (*big.Rat, []int) {
	var least *big.Rat
	var exponents []int
	for _, i := range pointsOf(p) {
		value := new(big.Rat).Mul(big.NewRat(int64(i), 1), x)
		value.Add(value, big.NewRat(int64(p[i]), 1))
		if least == nil || value.Cmp(least) < 0 {
			least, exponents = value, nil
		}
		if value.Cmp(least) == 0 {
			exponents = append(exponents, i)
		}
	}
	return least, exponents
}

// rootsByTerms says again what the roots are: the places where two terms have the least value, as often as the exponents of the first and the last one differ.
func rootsByTerms(p []int) []impl.Root {
	var roots []impl.Root
	points := pointsOf(p)
	for n, i := range points {
		for _, k := range points[n+1:] {
			x := big.NewRat(int64(p[i]-p[k]), int64(k-i))
			_, terms := ratTerms(p, x)
			if terms[0] == i && terms[len(terms)-1] == k {
				at, _ := fracOfRat(x)
				roots = append(roots, impl.Root{At: at, Times: k - i})
			}
		}
	}
	slices.SortFunc(roots, func(a impl.Root, b impl.Root) int { return ratOf(a.At).Cmp(ratOf(b.At)) })
	return roots
}

// checkRoots fails the test unless a call gave the expected roots and success.
func checkRoots(t *testing.T, call string, got []impl.Root, gotOK bool, want []impl.Root, wantOK bool) {
	t.Helper()
	if !slices.Equal(got, want) || gotOK != wantOK {
		t.Errorf("%s: got %v, %t; want %v, %t", call, got, gotOK, want, wantOK)
	}
}

// checkFlag fails the test unless a call gave the expected answer and success.
func checkFlag(t *testing.T, call string, got bool, gotOK bool, want bool, wantOK bool) {
	t.Helper()
	if got != want || gotOK != wantOK {
		t.Errorf("%s: got %t, %t; want %t, %t", call, got, gotOK, want, wantOK)
	}
}

func TestCornersOf(t *testing.T) {
	for _, c := range []struct{ p, want []int }{
		{[]int{0, 1, inf, 0}, []int{0, 3}}, {[]int{7}, []int{0}}, {[]int{most}, []int{0}}, {[]int{inf, 0}, []int{1}}, {[]int{inf, inf, 4}, []int{2}}, {append(repeated(12, inf), -3), []int{12}},
		{[]int{3, 1}, []int{0, 1}}, {[]int{0, inf, 0}, []int{0, 2}}, {[]int{inf, 3, 1}, []int{1, 2}}, {append(append([]int{5}, repeated(11, inf)...), 6), []int{0, 12}},
		// On a straight line, below it and above it.
		{[]int{0, 0, 0}, []int{0, 2}}, {[]int{2, 1, 0}, []int{0, 2}}, {[]int{2, 0, 0}, []int{0, 1, 2}}, {[]int{2, 2, 0}, []int{0, 2}}, {[]int{0, 0, 1}, []int{0, 1, 2}}, {repeated(13, 0), []int{0, 12}},
		{[]int{inf, 3, inf, 0, inf, 1}, []int{1, 3, 5}}, {[]int{inf, 3, inf, 2, inf, 1}, []int{1, 5}}, {[]int{inf, 3, inf, 3, inf, 1}, []int{1, 5}},
		// The line passes the middle exponent at a height that is not whole.
		{[]int{0, 0, inf, 1}, []int{0, 1, 3}}, {[]int{1, 1, inf, 0}, []int{0, 3}}, {[]int{0, inf, 1, 2}, []int{0, 2, 3}}, {[]int{0, 1, inf, 2}, []int{0, 3}}, {[]int{0, -1, inf, -1}, []int{0, 1, 3}}, {[]int{0, 0, inf, -1}, []int{0, 3}},
		{[]int{most, -most, most}, []int{0, 1, 2}}, {[]int{-most, most, -most}, []int{0, 2}}, {[]int{most, most - 1, most - 1, most}, []int{0, 1, 2, 3}},
		{[]int{0, 1, 4, 9, 16, 25, 36, 49, 64, 81, 100, 121, 144}, []int{0, 1, 2, 3, 4, 5, 6, 7, 8, 9, 10, 11, 12}}, {[]int{0, -1, -4, -9, -16, -25, -36, -49, -64, -81, -100, -121, -144}, []int{0, 12}},
		// The last point takes all corners before it away, or only some of them.
		{[]int{10, 5, 3, 2, -20}, []int{0, 4}}, {[]int{20, 5, 3, 2, -20}, []int{0, 1, 4}}, {[]int{100, 5, 3, 2, -5}, []int{0, 1, 4}}, {[]int{10, 5, 3, 2, 2}, []int{0, 1, 2, 3, 4}}, {[]int{10, 5, 3, 2, 1}, []int{0, 1, 2, 4}},
	} {
		got, ok := impl.CornersOf(c.p)
		checkList(t, fmt.Sprint("CornersOf", c.p), got, ok, c.want, true)
	}
	for _, p := range rootPolys() {
		got, ok := impl.CornersOf(p)
		checkList(t, fmt.Sprint("CornersOf", p), got, ok, cornersByLines(p), true)
	}
}

// rootsOfPolys lists polynomials of all kinds with the pairs of Num and Den of their roots, how often each one is, and the text.
func rootsOfPolys() []struct {
	p     []int
	roots [][2]int
	times []int
	text  string
} {
	return []struct {
		p     []int
		roots [][2]int
		times []int
		text  string
	}{
		{[]int{0, 1, inf, 0}, [][2]int{{0, 1}}, []int{3}, "0*3;"},
		{[]int{7}, nil, nil, ""}, {[]int{inf, inf, 4}, nil, nil, ""}, {append(repeated(12, inf), most), nil, nil, ""},
		{[]int{3, 1}, [][2]int{{2, 1}}, []int{1}, "2*1;"}, {[]int{inf, 1, 3}, [][2]int{{-2, 1}}, []int{1}, "-2*1;"},
		{[]int{1, inf, 0}, [][2]int{{1, 2}}, []int{2}, "1/2*2;"}, {[]int{0, inf, inf, 1}, [][2]int{{-1, 3}}, []int{3}, "-1/3*3;"}, {[]int{4, inf, 0}, [][2]int{{2, 1}}, []int{2}, "2*2;"}, {[]int{6, inf, inf, inf, 0}, [][2]int{{3, 2}}, []int{4}, "3/2*4;"},
		{[]int{2, 0, 0}, [][2]int{{0, 1}, {2, 1}}, []int{1, 1}, "0*1;2*1;"}, {[]int{0, 0, 1}, [][2]int{{-1, 1}, {0, 1}}, []int{1, 1}, "-1*1;0*1;"},
		// Several terms make up a root that is there only once.
		{[]int{0, 0, 0}, [][2]int{{0, 1}}, []int{2}, "0*2;"}, {[]int{3, 2, 1, 0, 0, 0}, [][2]int{{0, 1}, {1, 1}}, []int{2, 3}, "0*2;1*3;"}, {repeated(13, 5), [][2]int{{0, 1}}, []int{12}, "0*12;"},
		{[]int{inf, 3, inf, 0, inf, 1}, [][2]int{{-1, 2}, {3, 2}}, []int{2, 2}, "-1/2*2;3/2*2;"}, {[]int{5, 1, inf, 0, inf, inf, 0, 2}, [][2]int{{-2, 1}, {0, 1}, {1, 2}, {4, 1}}, []int{1, 3, 2, 1}, "-2*1;0*3;1/2*2;4*1;"},
		{[]int{most, -most}, [][2]int{{2 * most, 1}}, []int{1}, "2000000*1;"}, {[]int{-most, most}, [][2]int{{-2 * most, 1}}, []int{1}, "-2000000*1;"}, {append(append([]int{-most}, repeated(11, inf)...), most), [][2]int{{-500000, 3}}, []int{12}, "-500000/3*12;"}, {append(append([]int{most - 1}, repeated(11, inf)...), 0), [][2]int{{333333, 4}}, []int{12}, "333333/4*12;"},
	}
}

func TestRootsOfAndRootsText(t *testing.T) {
	for _, c := range rootsOfPolys() {
		var want []impl.Root
		for i, at := range fracsOf(c.roots) {
			want = append(want, impl.Root{At: at, Times: c.times[i]})
		}
		got, ok := impl.RootsOf(c.p)
		checkRoots(t, fmt.Sprint("RootsOf", c.p), got, ok, want, true)
		text, ok := impl.RootsText(c.p)
		if text != c.text || !ok {
			t.Errorf("RootsText%v: got %q, %t; want %q", c.p, text, ok, c.text)
		}
		for _, root := range want {
			times, ok := impl.TimesOfRoot(c.p, root.At)
			checkNumber(t, fmt.Sprint("TimesOfRoot", c.p, root.At), times, ok, root.Times, true)
		}
	}
}

func TestRootsOfManyPolys(t *testing.T) {
	for _, p := range rootPolys() {
		want := rootsByTerms(p)
		got, ok := impl.RootsOf(p)
		checkRoots(t, fmt.Sprint("RootsOf", p), got, ok, want, true)
		wantText := ""
		for _, root := range want {
			wantText += ratOf(root.At).RatString() + "*" + fmt.Sprint(root.Times) + ";"
		}
		text, ok := impl.RootsText(p)
		if text != wantText || !ok {
			t.Errorf("RootsText%v: got %q, %t; want %q", p, text, ok, wantText)
		}
	}
}

func TestTimesOfRoot(t *testing.T) {
	for _, c := range []struct {
		p    []int
		f    impl.Frac
		want int
		ok   bool
	}{
		{[]int{0, 1, inf, 0}, frac(0, 1), 3, true}, {[]int{0, 1, inf, 0}, frac(1, 1), 0, true}, {[]int{0, 1, inf, 0}, frac(-1, 3), 0, true},
		{[]int{7}, frac(0, 1), 0, true}, {[]int{7}, frac(7, 1), 0, true}, {[]int{inf, inf, 4}, frac(0, 1), 0, true}, {[]int{7}, frac(mostFrac, 1), 0, true}, {[]int{7}, frac(1, mostFrac), 0, true},
		{[]int{1, inf, 0}, frac(1, 2), 2, true}, {[]int{1, inf, 0}, frac(-1, 2), 0, true}, {[]int{1, inf, 0}, frac(1, 1), 0, true}, {[]int{1, inf, 0}, frac(0, 1), 0, true}, {[]int{1, inf, 0}, frac(1, 3), 0, true},
		{[]int{2, 0, 0}, frac(0, 1), 1, true}, {[]int{2, 0, 0}, frac(2, 1), 1, true}, {[]int{2, 0, 0}, frac(1, 1), 0, true}, {[]int{2, 0, 0}, frac(3, 1), 0, true}, {[]int{2, 0, 0}, frac(-1, 1), 0, true},
		// Two terms are equal at 3, but another one is less there.
		{[]int{3, 0, 0}, frac(3, 1), 1, true}, {[]int{6, 3, 0, 0}, frac(3, 1), 2, true}, {[]int{3, 5, 0}, frac(-2, 1), 0, true}, {[]int{3, 5, 0}, frac(3, 2), 2, true}, {[]int{3, 5, 0}, frac(5, 1), 0, true},
		{[]int{1, inf, 0}, frac(2, 4), 0, false}, {[]int{1, inf, 0}, frac(0, 2), 0, false}, {[]int{1, inf, 0}, frac(1, 0), 0, false}, {[]int{1, inf, 0}, frac(-1, -2), 0, false}, {[]int{0, 0}, frac(0, 0), 0, false}, {[]int{7}, frac(mostFrac+1, 1), 0, false}, {[]int{7}, frac(2, 2), 0, false},
	} {
		got, ok := impl.TimesOfRoot(c.p, c.f)
		checkNumber(t, fmt.Sprint("TimesOfRoot", c.p, c.f), got, ok, c.want, c.ok)
	}
	for _, p := range append(fewCoefficients(4), longPolys()...) {
		for _, f := range goodFracs() {
			_, terms := ratTerms(p, ratOf(f))
			got, ok := impl.TimesOfRoot(p, f)
			checkNumber(t, fmt.Sprint("TimesOfRoot", p, f), got, ok, terms[len(terms)-1]-terms[0], true)
		}
	}
}

func TestValueAtFrac(t *testing.T) {
	none := impl.Frac{}
	for _, c := range []struct {
		p    []int
		f    impl.Frac
		want impl.Frac
	}{
		{[]int{0, 1, inf, 0}, frac(-1, 2), frac(-3, 2)}, {[]int{0, 1, inf, 0}, frac(1, 2), frac(0, 1)}, {[]int{0, 1, inf, 0}, frac(0, 1), frac(0, 1)}, {[]int{0, 1, inf, 0}, frac(-1, 3), frac(-1, 1)},
		{[]int{3, 1}, frac(3, 2), frac(5, 2)}, {[]int{3, 1}, frac(5, 2), frac(3, 1)}, {[]int{4, 1, 0}, frac(7, 3), frac(10, 3)}, {[]int{4, 1, 0}, frac(2, 3), frac(4, 3)}, {[]int{inf, 0}, frac(2, 3), frac(2, 3)}, {[]int{inf, inf, 1}, frac(1, 2), frac(2, 1)},
		{[]int{7}, frac(2, 3), frac(7, 1)}, {[]int{7}, frac(mostFrac, 1), frac(7, 1)}, {[]int{-7}, frac(1, mostFrac), frac(-7, 1)}, {[]int{most}, frac(-mostFrac, 7), frac(most, 1)},
		// The value may be greater than any number, but not than any fraction.
		{[]int{inf, 0}, frac(mostFrac, 1), frac(mostFrac, 1)}, {[]int{inf, -1}, frac(mostFrac, 1), frac(mostFrac-1, 1)}, {[]int{inf, 1}, frac(mostFrac, 1), none}, {[]int{inf, 0}, frac(-mostFrac, 1), frac(-mostFrac, 1)}, {[]int{inf, -1}, frac(-mostFrac, 1), none}, {[]int{inf, 1}, frac(-mostFrac, 1), frac(1-mostFrac, 1)},
		{[]int{inf, inf, 0}, frac(500000000, 1), frac(mostFrac, 1)}, {[]int{inf, inf, 0}, frac(500000001, 1), none}, {[]int{inf, inf, 0}, frac(mostFrac, 2), none}, {append(repeated(12, inf), 0), frac(83333333, 1), frac(999999996, 1)}, {append(repeated(12, inf), 0), frac(83333334, 1), none}, {append(repeated(12, inf), 0), frac(mostFrac-1, 12), none},
		// The product is no fraction, although the sum would be one.
		{[]int{inf, inf, -2}, frac(500000001, 1), none}, {[]int{inf, inf, 2}, frac(-500000001, 1), none}, {[]int{inf, inf, inf, -1}, frac(mostFrac+1, 3), none}, {[]int{inf, inf, inf, -most}, frac(333333334, 1), none}, {[]int{inf, inf, inf, -most}, frac(333333333, 1), frac(998999999, 1)},
		// A term that is no fraction does harm, even where another one is less.
		{[]int{-5, 1}, frac(mostFrac, 1), none}, {[]int{-5, 0}, frac(mostFrac, 1), frac(-5, 1)}, {[]int{0, inf, 0}, frac(mostFrac, 1), none}, {[]int{1, -1, 5}, frac(-500000001, 1), none}, {[]int{1, 1}, frac(1, mostFrac), none}, {[]int{1, 0}, frac(1, mostFrac), frac(1, mostFrac)}, {[]int{0, 0}, frac(1, mostFrac), frac(0, 1)}, {[]int{0, -1}, frac(1, mostFrac), frac(1-mostFrac, mostFrac)}, {[]int{0, -1}, frac(-1, mostFrac), none}, {[]int{0, 0, 0}, frac(-1, mostFrac), frac(-1, 500000000)},
		// A term without a coefficient does none: twice this fraction is none, but thrice it is one.
		{[]int{0, inf, inf, 0}, frac(mostFrac, 3), frac(0, 1)}, {[]int{0, inf, 0, 0}, frac(mostFrac, 3), none}, {[]int{inf, inf, inf, 0}, frac(mostFrac, 3), frac(mostFrac, 1)}, {[]int{inf, inf, inf, 0}, frac(-mostFrac, 3), frac(-mostFrac, 1)},
		{[]int{7}, frac(2, 2), none}, {[]int{7}, frac(0, 2), none}, {[]int{7}, frac(1, 0), none}, {[]int{7}, frac(0, 0), none}, {[]int{7}, frac(mostFrac+1, 1), none}, {[]int{7}, frac(1, mostFrac+1), none}, {[]int{3, 1}, frac(1, -2), none}, {[]int{3, 1}, frac(math.MinInt, math.MinInt), none},
	} {
		got, ok := impl.ValueAtFrac(c.p, c.f)
		checkFrac(t, fmt.Sprint("ValueAtFrac", c.p, c.f), got, ok, c.want, c.want != none)
	}
}

func TestValuesAtManyFracs(t *testing.T) {
	count := [2]int{}
	for _, p := range append(fewCoefficients(4), longPolys()...) {
		for _, f := range goodFracs() {
			value, _ := ratTerms(p, ratOf(f))
			want, fine := fracOfRat(value)
			for _, i := range pointsOf(p) {
				product := new(big.Rat).Mul(big.NewRat(int64(i), 1), ratOf(f))
				_, isProduct := fracOfRat(product)
				_, isSum := fracOfRat(new(big.Rat).Add(product, big.NewRat(int64(p[i]), 1)))
				fine = fine && isProduct && isSum
			}
			if fine {
				count[0]++
			} else {
				count[1]++
				want = impl.Frac{}
			}
			got, ok := impl.ValueAtFrac(p, f)
			checkFrac(t, fmt.Sprint("ValueAtFrac", p, f), got, ok, want, fine)
		}
	}
	if count[0] < 10000 || count[1] < 10000 {
		t.Error("too few values, or too few failures:", count)
	}
}

func TestValueByRoots(t *testing.T) {
	for _, c := range []struct {
		p       []int
		x, want int
	}{
		{[]int{0, 1, inf, 0}, -1, -3}, {[]int{0, 1, inf, 0}, 0, 0}, {[]int{0, 1, inf, 0}, 1, 0}, {[]int{3, 1}, 1, 2}, {[]int{3, 1}, 2, 3}, {[]int{3, 1}, 5, 3},
		{[]int{7}, 0, 7}, {[]int{7}, most, 7}, {[]int{7}, -most, 7}, {[]int{inf, inf, 4}, 3, 10}, {[]int{inf, inf, 4}, -3, -2}, {[]int{inf, 3, inf, 0}, 2, 5}, {[]int{inf, 3, inf, 0}, 1, 3}, {[]int{inf, 3, inf, 0}, -2, -6},
		// The roots 1/2 and -1/3 have whole products.
		{[]int{1, inf, 0}, 0, 0}, {[]int{1, inf, 0}, 1, 1}, {[]int{1, inf, 0}, -7, -14}, {[]int{0, inf, inf, 1}, 0, 0}, {[]int{0, inf, inf, 1}, -1, -2},
		// At the limits, the value may be greater or less than any number.
		{append(repeated(12, inf), most), most, 13 * most}, {append(repeated(12, inf), -most), -most, -13 * most}, {repeated(13, most), most, most}, {repeated(13, -most), -most, -13 * most}, {[]int{most, -most}, most, 0}, {[]int{most, -most}, -most, -2 * most}, {[]int{-most, most}, most, -most}, {[]int{-most, most}, -most, -most},
		{[]int{inf, inf, most, -most}, most, 2 * most}, {[]int{inf, 0}, most, most}, {[]int{inf, 1}, most, most + 1},
	} {
		got, ok := impl.ValueByRoots(c.p, c.x)
		checkFrac(t, fmt.Sprint("ValueByRoots", c.p, c.x), got, ok, frac(c.want, 1), true)
	}
	for _, p := range append(rootPolys(), []int{7}, []int{inf, 7}) {
		for _, x := range badX() {
			got, ok := impl.ValueByRoots(p, x)
			checkFrac(t, fmt.Sprint("ValueByRoots", p, x), got, ok, impl.Frac{}, false)
		}
	}
}

// Guarantee 4: the roots, as often as they are, make up the exponents from the first to the last one, and tell the value.
func TestRootsMakeUpTheExponentsAndTellTheValue(t *testing.T) {
	values := 0
	for _, p := range rootPolys() {
		roots, _ := impl.RootsOf(p)
		sum := 0
		for _, root := range roots {
			sum += root.Times
			times, ok := impl.TimesOfRoot(p, root.At)
			checkNumber(t, fmt.Sprint("TimesOfRoot", p, root.At), times, ok, root.Times, true)
		}
		least, greatest, ok := impl.EndTerms(p)
		checkNumber(t, fmt.Sprint("sum of the roots of ", p), sum, ok, greatest-least, true)
		for _, x := range someX() {
			want, _ := freeValue(p, x)
			got, ok := impl.ValueByRoots(p, x)
			checkFrac(t, fmt.Sprint("ValueByRoots", p, x), got, ok, frac(want, 1), true)
			got, ok = impl.ValueAtFrac(p, frac(x, 1))
			checkFrac(t, fmt.Sprint("ValueAtFrac", p, x), got, ok, frac(want, 1), true)
			if value, ok := impl.PolyValue(p, x); ok {
				values++
				checkNumber(t, fmt.Sprint("PolyValue", p, x), value, ok, want, true)
			}
		}
	}
	if values < 10000 {
		t.Error("too few values are compared:", values)
	}
}

func TestNeedlessTermsAndLeastCoefficients(t *testing.T) {
	for _, c := range []struct{ p, needless, least []int }{
		{[]int{0, 1, inf, 0}, []int{1, 2}, []int{0, 0, 0, 0}},
		{[]int{7}, nil, []int{7}}, {[]int{inf, inf, 4}, nil, []int{inf, inf, 4}}, {[]int{3, 1}, nil, []int{3, 1}}, {[]int{inf, 3, 1}, nil, []int{inf, 3, 1}}, {append(repeated(12, inf), -most), nil, append(repeated(12, inf), -most)},
		// Terms on the straight line are needed, those above it are not.
		{[]int{0, 0, 0}, nil, []int{0, 0, 0}}, {[]int{2, 2, 0}, []int{1}, []int{2, 1, 0}}, {[]int{2, 0, 0}, nil, []int{2, 0, 0}}, {[]int{0, 5, 0, 0, 5, 0}, []int{1, 4}, repeated(6, 0)}, {[]int{3, 2, inf, 0}, []int{2}, []int{3, 2, 1, 0}}, {[]int{3, 3, 1, 0}, []int{1}, []int{3, 2, 1, 0}}, {[]int{inf, 3, inf, 2, inf, 1}, []int{2, 4}, []int{inf, 3, 3, 2, 2, 1}},
		// Lines that are not at whole numbers: the least whole number above them.
		{[]int{0, inf, inf, 1}, []int{1, 2}, []int{0, 1, 1, 1}}, {[]int{0, inf, inf, -1}, []int{1, 2}, []int{0, 0, 0, -1}}, {[]int{1, inf, 0}, []int{1}, []int{1, 1, 0}}, {[]int{0, inf, -1}, []int{1}, []int{0, 0, -1}}, {[]int{-5, inf, inf, 0}, []int{1, 2}, []int{-5, -3, -1, 0}}, {[]int{5, inf, inf, 0}, []int{1, 2}, []int{5, 4, 2, 0}},
		{[]int{inf, 3, inf, 0, inf, 1}, []int{2, 4}, []int{inf, 3, 2, 0, 1, 1}},
		// A coefficient that is the least whole number above the line is needless all the same.
		{[]int{1, 1, 0}, []int{1}, []int{1, 1, 0}}, {[]int{0, 0, -1}, []int{1}, []int{0, 0, -1}},
		{[]int{-most, most, -most}, []int{1}, repeated(3, -most)}, {[]int{most, inf, most}, []int{1}, repeated(3, most)}, {append(append([]int{0}, repeated(11, inf)...), 0), []int{1, 2, 3, 4, 5, 6, 7, 8, 9, 10, 11}, repeated(13, 0)}, {[]int{most, inf, inf, inf, inf, inf, -most}, []int{1, 2, 3, 4, 5}, []int{most, 666667, 333334, 0, -333333, -666666, -most}},
	} {
		got, ok := impl.NeedlessTerms(c.p)
		checkList(t, fmt.Sprint("NeedlessTerms", c.p), got, ok, c.needless, true)
		got, ok = impl.LeastCoefficients(c.p)
		checkList(t, fmt.Sprint("LeastCoefficients", c.p), got, ok, c.least, true)
	}
}

func TestNeedlessTermsAndLeastCoefficientsOfManyPolys(t *testing.T) {
	for _, p := range rootPolys() {
		var needless []int
		least := slices.Clone(p)
		for at := pointsOf(p)[0]; at < len(p); at++ {
			height := heightByLines(p, at)
			if p[at] == inf || big.NewRat(int64(p[at]), 1).Cmp(height) > 0 {
				needless = append(needless, at)
			}
			// Div rounds down for a divisor above 0, so the opposite of the opposite is rounded up.
			floor := new(big.Int).Div(new(big.Int).Neg(height.Num()), height.Denom())
			least[at] = -int(floor.Int64())
		}
		got, ok := impl.NeedlessTerms(p)
		checkList(t, fmt.Sprint("NeedlessTerms", p), got, ok, needless, true)
		got, ok = impl.LeastCoefficients(p)
		checkList(t, fmt.Sprint("LeastCoefficients", p), got, ok, least, true)
	}
}

// Least coefficients make the same function, and no coefficient could be less.
func TestLeastCoefficientsAreLeast(t *testing.T) {
	less := 0
	for _, p := range rootPolys() {
		least, ok := impl.LeastCoefficients(p)
		is, fine := impl.SameFunction(p, least)
		checkFlag(t, fmt.Sprint("SameFunction", p, least), is, fine && ok, true, true)
		for at, c := range least {
			if c == inf || c == -most {
				continue
			}
			less++
			lower := slices.Clone(least)
			lower[at]--
			is, ok := impl.SameFunction(p, lower)
			checkFlag(t, fmt.Sprint("SameFunction", p, lower), is, ok, false, true)
		}
	}
	if less < 10000 {
		t.Error("too few coefficients are made less:", less)
	}
}

func TestSameFunction(t *testing.T) {
	for _, c := range []struct {
		p, q []int
		want bool
	}{
		{[]int{0, 1, inf, 0}, []int{0, 0, 0, 0}, true}, {[]int{0, 1, inf, 0}, []int{0, inf, inf, 0}, true}, {[]int{0, 1, inf, 0}, []int{0, most, 3, 0}, true}, {[]int{0, inf, inf, 1}, []int{0, 1, 1, 1}, true},
		{[]int{7}, []int{7}, true}, {[]int{7}, []int{8}, false}, {[]int{7}, []int{inf, 7}, false}, {[]int{7}, []int{7, most}, false}, {[]int{inf, 2}, []int{inf, 2}, true}, {[]int{inf, 2}, []int{most, 2}, false}, {[]int{inf, inf, 4}, []int{inf, inf, 5}, false},
		{[]int{0, 0}, []int{0, 0, 0}, false}, {[]int{1, 0}, []int{0, 1}, false}, {[]int{0, 0, 0}, []int{0, -1, 0}, false}, {[]int{0, 0, 0}, []int{0, 1, 0}, true}, {[]int{0, 1, inf, 0}, []int{0, 1, inf, 1}, false}, {[]int{0, 1, inf, 0}, []int{-1, 1, inf, 0}, false},
		// The corners have the same exponents, and one of the coefficients differs.
		{[]int{3, 0, 0, 3}, []int{3, 0, 1, 3}, false}, {[]int{4, 1, 0}, []int{5, 1, 0}, false}, {[]int{4, 0, 0}, []int{4, 1, 0}, false}, {[]int{4, 1, 0}, []int{4, 1, -1}, false}, {[]int{4, 1, 0}, []int{5, 2, 1}, false},
	} {
		got, ok := impl.SameFunction(c.p, c.q)
		checkFlag(t, fmt.Sprint("SameFunction", c.p, c.q), got, ok, c.want, true)
		got, ok = impl.SameFunction(c.q, c.p)
		checkFlag(t, fmt.Sprint("SameFunction", c.q, c.p), got, ok, c.want, true)
	}
}

// The roots of these polynomials are between -4 and 4, with divisors of at most 3: functions that have the same values at all sixths from -6 to 6 are the same.
func TestSameFunctionsHaveTheSameValues(t *testing.T) {
	polys := fewCoefficients(4)
	values := make([][73]int, len(polys))
	for n, p := range polys {
		for sixth := range 73 {
			sixfold := repeated(len(p), inf)
			for _, i := range pointsOf(p) {
				sixfold[i] = 6 * p[i]
			}
			values[n][sixth], _ = freeValue(sixfold, sixth-36)
		}
	}
	same := 0
	for n, p := range polys {
		for k, q := range polys {
			want := values[n] == values[k]
			if want && n != k {
				same++
			}
			if got, ok := impl.SameFunction(p, q); got != want || !ok {
				t.Errorf("SameFunction%v%v: got %t, %t; want %t", p, q, got, ok, want)
			}
		}
	}
	if same < 100 {
		t.Error("too few polynomials are different and have the same function:", same)
	}
}

func TestPolyFromRoots(t *testing.T) {
	for _, c := range []struct {
		lead        int
		roots, want []int
	}{
		{1, []int{2, 0}, []int{3, 1, 1}}, {1, []int{0, 2}, []int{3, 1, 1}}, {0, nil, []int{0}}, {5, []int{}, []int{5}}, {most, nil, []int{most}}, {-most, nil, []int{-most}},
		{0, []int{4}, []int{4, 0}}, {-3, []int{4}, []int{1, -3}}, {0, []int{-4}, []int{-4, 0}}, {0, []int{3, 3}, []int{6, 3, 0}}, {2, []int{5, -1, 3}, []int{9, 4, 1, 2}},
		{most, []int{0}, []int{most, most}}, {most, []int{-5}, []int{most - 5, most}}, {most, []int{5}, nil}, {-most, []int{5}, []int{5 - most, -most}}, {-most, []int{-5}, nil}, {0, []int{most}, []int{most, 0}}, {0, []int{most, most}, nil}, {-most, []int{most, most}, []int{most, 0, -most}}, {most, []int{-most, -most}, []int{-most, 0, most}}, {0, []int{-most}, []int{-most, 0}}, {0, []int{-most, -most}, nil}, {1, []int{most}, nil},
		// Products of some of these are no numbers on the way.
		{0, []int{600000, 600000, -600000}, []int{600000, 0, -600000, 0}}, {most, []int{most, -most}, []int{most, 0, most}}, {0, []int{most, most, -most}, []int{most, 0, -most, 0}}, {0, []int{most, -most, most}, []int{most, 0, -most, 0}}, {-most, []int{most, most, most, -most}, nil}, {-500000, []int{most, most, -500000}, []int{most, 0, -most, -500000}}, {most, []int{most, most, -most, -most}, []int{most, 0, -most, 0, most}}, {0, []int{most, most, -most, -most}, nil},
		{0, repeated(12, 0), repeated(13, 0)}, {0, repeated(12, 1), []int{12, 11, 10, 9, 8, 7, 6, 5, 4, 3, 2, 1, 0}}, {4, []int{12, 11, 10, 9, 8, 7, 6, 5, 4, 3, 2, 1}, []int{82, 70, 59, 49, 40, 32, 25, 19, 14, 10, 7, 5, 4}}, {0, repeated(12, 83334), nil}, {0, repeated(12, -83334), nil}, {-8, repeated(12, 83334), []int{most, 916666, 833332, 749998, 666664, 583330, 499996, 416662, 333328, 249994, 166660, 83326, -8}},
		// Too many roots, and numbers that are none.
		{0, repeated(13, 0), nil}, {0, repeated(14, 0), nil}, {0, repeated(1000, 1), nil}, {inf, nil, nil}, {inf, []int{2, 0}, nil}, {inf, []int{-inf}, nil}, {0, []int{inf}, nil}, {0, []int{2, inf, 0}, nil}, {0, append(repeated(11, 0), inf), nil},
		{most + 1, nil, nil}, {-most - 1, nil, nil}, {most + 1, []int{-5}, nil}, {-most - 1, []int{5}, nil}, {0, []int{most + 1}, nil}, {-5, []int{most + 1}, nil}, {0, []int{-most - 1}, nil}, {5, []int{0, -most - 1, most}, nil}, {math.MaxInt, []int{math.MinInt}, nil}, {math.MinInt, []int{math.MaxInt, 0}, nil}, {0, []int{math.MaxInt, math.MinInt}, nil}, {0, []int{inf + 1}, nil}, {inf - 1, nil, nil},
	} {
		got, ok := impl.PolyFromRoots(c.lead, c.roots)
		checkList(t, fmt.Sprint("PolyFromRoots", c.lead, c.roots), got, ok, c.want, c.want != nil)
	}
}

func TestManyPolysFromRoots(t *testing.T) {
	count := [2]int{}
	source := rand.New(rand.NewPCG(12, 4))
	for range 5000 {
		size := []int{5, most/12 + 50, most / 2, most}[source.IntN(4)]
		lead := source.IntN(2*size+1) - size
		roots := make([]int, source.IntN(mostDegree+1))
		want := []int{lead}
		for i := range roots {
			roots[i] = source.IntN(2*size+1) - size
			want = freeProductOf(want, []int{roots[i], 0})
		}
		fine := isPoly(want)
		if fine {
			count[0]++
		} else {
			count[1]++
			want = nil
		}
		got, ok := impl.PolyFromRoots(lead, roots)
		checkList(t, fmt.Sprint("PolyFromRoots", lead, roots), got, ok, want, fine)
		if fine {
			checkRootsAreThese(t, got, roots)
		}
	}
	if count[0] < 1000 || count[1] < 1000 {
		t.Error("too few polynomials, or too few failures:", count)
	}
}

// checkRootsAreThese fails the test unless a polynomial has just the whole roots of a list, in any order, each one as often as it is there.
func checkRootsAreThese(t *testing.T, p []int, roots []int) {
	t.Helper()
	var want []impl.Root
	for n, r := range slices.Sorted(slices.Values(roots)) {
		if n > 0 && want[len(want)-1].At.Num == r {
			want[len(want)-1].Times++
		} else {
			want = append(want, impl.Root{At: frac(r, 1), Times: 1})
		}
	}
	got, ok := impl.RootsOf(p)
	checkRoots(t, fmt.Sprint("RootsOf", p), got, ok, want, true)
}

func TestRootsOfBadPolys(t *testing.T) {
	for _, bad := range badPolys() {
		for name, call := range polyListsOfRoots() {
			got, ok := call(bad, bad, 0)
			if name != "PolyFromRoots" {
				checkList(t, fmt.Sprint(name, bad), got, ok, nil, false)
			}
		}
		roots, ok := impl.RootsOf(bad)
		checkRoots(t, fmt.Sprint("RootsOf", bad), roots, ok, nil, false)
		if text, ok := impl.RootsText(bad); text != "" || ok {
			t.Errorf("RootsText%v: got %q, %t", bad, text, ok)
		}
		for _, f := range append(goodFracs(), impl.Frac{}) {
			times, ok := impl.TimesOfRoot(bad, f)
			checkNumber(t, fmt.Sprint("TimesOfRoot", bad, f), times, ok, 0, false)
			value, ok := impl.ValueAtFrac(bad, f)
			checkFrac(t, fmt.Sprint("ValueAtFrac", bad, f), value, ok, impl.Frac{}, false)
		}
		for _, x := range append(someX(), badX()...) {
			value, ok := impl.ValueByRoots(bad, x)
			checkFrac(t, fmt.Sprint("ValueByRoots", bad, x), value, ok, impl.Frac{}, false)
		}
		for _, other := range append(longPolys(), []int{0}, nil, bad) {
			is, ok := impl.SameFunction(bad, other)
			checkFlag(t, fmt.Sprint("SameFunction", bad, other), is, ok, false, false)
			is, ok = impl.SameFunction(other, bad)
			checkFlag(t, fmt.Sprint("SameFunction", other, bad), is, ok, false, false)
		}
	}
}

func TestRootsAtBadFracs(t *testing.T) {
	for _, p := range append(longPolys(), []int{0}, []int{inf, 7}) {
		for _, f := range badFracs() {
			times, ok := impl.TimesOfRoot(p, f)
			checkNumber(t, fmt.Sprint("TimesOfRoot", p, f), times, ok, 0, false)
			value, ok := impl.ValueAtFrac(p, f)
			checkFrac(t, fmt.Sprint("ValueAtFrac", p, f), value, ok, impl.Frac{}, false)
		}
	}
}
