package tests

import (
	"fmt"
	"math"
	"math/big"
	"slices"
	"strings"
	"testing"

	"loop.example/g01056/impl"
)

const (
	mostFrac = 1000000000
	mostPart = 1000000000000
)

// frac is short for a fraction as it is written, valid or not.
func frac(n int, d int) impl.Frac {
	return impl.Frac{Num: n, Den: d}
}

// fracsOf returns the fractions of pairs of a Num and a Den, valid or not.
func fracsOf(pairs [][2]int) []impl.Frac {
	fracs := make([]impl.Frac, len(pairs))
	for i, p := range pairs {
		fracs[i] = frac(p[0], p[1])
	}
	return fracs
}

// goodFracs are fractions of all kinds, many of them at the limits.
func goodFracs() []impl.Frac {
	fracs := fracsOf([][2]int{
		{0, 1}, {1, 1}, {2, 1}, {3, 1}, {7, 1}, {1, 2}, {3, 2}, {1, 3}, {2, 3}, {7, 3}, {5, 6}, {12, 35}, {355, 113},
		{mostFrac, 1}, {mostFrac - 1, 1}, {500000000, 1}, {500000001, 1}, {31622, 1}, {31623, 1}, {mostFrac, 3}, {mostFrac - 1, 2}, {mostFrac, 7},
		{1, mostFrac}, {1, mostFrac - 1}, {1, 500000000}, {1, 31622}, {1, 31623}, {3, mostFrac}, {2, mostFrac - 1}, {7, mostFrac},
		{mostFrac, mostFrac - 1}, {mostFrac - 1, mostFrac}, {mostFrac - 2, mostFrac - 1}, {mostFrac - 3, mostFrac}, {123456789, 987654320}, {999999937, 999999929},
	})
	for _, f := range slices.Clone(fracs) {
		if f.Num != 0 {
			fracs = append(fracs, frac(-f.Num, f.Den))
		}
	}
	return fracs
}

// badFracs are not in lowest terms, have a divisor that is not positive, or are beyond a limit.
func badFracs() []impl.Frac {
	fracs := fracsOf([][2]int{
		{0, 0}, {1, 0}, {-1, 0}, {0, 2}, {0, -1}, {0, mostFrac}, {0, math.MaxInt}, {0, math.MinInt},
		{2, 2}, {-2, 2}, {2, 4}, {-2, 4}, {6, 4}, {9, 3}, {-9, 3}, {mostFrac, mostFrac}, {-mostFrac, mostFrac}, {mostFrac, 2}, {5, mostFrac},
		{1, -1}, {-1, -1}, {1, -2}, {-1, -2}, {3, -2}, {1, -mostFrac}, {-mostFrac, -1},
	})
	for _, beyond := range []int{mostFrac + 1, -mostFrac - 1, 1 << 32, 1<<32 + 1, mostPart, -mostPart, math.MaxInt, math.MinInt, math.MinInt + 1} {
		fracs = append(fracs, frac(beyond, 1), frac(beyond, 7), frac(1, beyond), frac(-1, beyond), frac(beyond, beyond), frac(beyond, 0))
	}
	return fracs
}

func allFracs() []impl.Frac {
	return append(goodFracs(), badFracs()...)
}

// ratOf returns the same value as a fraction of unlimited size.
func ratOf(f impl.Frac) *big.Rat {
	return big.NewRat(int64(f.Num), int64(f.Den))
}

// fracOfRat says again which values are fractions, apart from the program.
func fracOfRat(r *big.Rat) (impl.Frac, bool) {
	limit := big.NewInt(mostFrac)
	if r.Num().CmpAbs(limit) > 0 || r.Denom().Cmp(limit) > 0 {
		return impl.Frac{}, false
	}
	return frac(int(r.Num().Int64()), int(r.Denom().Int64())), true
}

// checkFrac fails the test unless a call gave the expected fraction and success.
func checkFrac(t *testing.T, call string, got impl.Frac, gotOK bool, want impl.Frac, wantOK bool) {
	t.Helper()
	if got != want || gotOK != wantOK {
		t.Errorf("%s: got %v, %t; want %v, %t", call, got, gotOK, want, wantOK)
	}
}

func TestLimitsOfFracs(t *testing.T) {
	if impl.MaxFrac != mostFrac {
		t.Error("limit", impl.MaxFrac)
	}
}

func TestIsFrac(t *testing.T) {
	for _, f := range goodFracs() {
		if !impl.IsFrac(f) {
			t.Error("is no fraction:", f)
		}
	}
	for _, f := range badFracs() {
		if impl.IsFrac(f) {
			t.Error("is a fraction:", f)
		}
	}
	for n := -30; n <= 30; n++ {
		for d := -3; d <= 30; d++ {
			lowest := d > 0 && new(big.Int).GCD(nil, nil, big.NewInt(int64(max(n, -n))), big.NewInt(int64(d))).Int64() == 1
			if got := impl.IsFrac(frac(n, d)); got != lowest {
				t.Errorf("IsFrac(%d/%d): got %t", n, d, got)
			}
		}
	}
}

func TestFracOf(t *testing.T) {
	for _, c := range []struct {
		n, d int
		want impl.Frac
		ok   bool
	}{
		{6, -4, frac(-3, 2), true}, {-6, 4, frac(-3, 2), true}, {-6, -4, frac(3, 2), true}, {6, 4, frac(3, 2), true}, {3, 2, frac(3, 2), true},
		{12, 4, frac(3, 1), true}, {-12, 4, frac(-3, 1), true}, {7, 1, frac(7, 1), true}, {7, -1, frac(-7, 1), true}, {4, 12, frac(1, 3), true},
		{0, 1, frac(0, 1), true}, {0, 5, frac(0, 1), true}, {0, -5, frac(0, 1), true}, {0, mostPart, frac(0, 1), true}, {0, -mostPart, frac(0, 1), true},
		{0, 0, impl.Frac{}, false}, {1, 0, impl.Frac{}, false}, {-1, 0, impl.Frac{}, false}, {mostPart, 0, impl.Frac{}, false},
		{mostFrac, 1, frac(mostFrac, 1), true}, {mostFrac + 1, 1, impl.Frac{}, false}, {-mostFrac, 1, frac(-mostFrac, 1), true}, {-mostFrac - 1, 1, impl.Frac{}, false},
		{1, mostFrac, frac(1, mostFrac), true}, {1, mostFrac + 1, impl.Frac{}, false}, {1, -mostFrac, frac(-1, mostFrac), true}, {1, -mostFrac - 1, impl.Frac{}, false},
		{2 * mostFrac, 2, frac(mostFrac, 1), true}, {2*mostFrac + 2, 2, impl.Frac{}, false}, {2, 2 * mostFrac, frac(1, mostFrac), true}, {2, 2*mostFrac + 2, impl.Frac{}, false},
		{mostPart, 1000, frac(mostFrac, 1), true}, {-mostPart, 1000, frac(-mostFrac, 1), true}, {mostPart, 999, impl.Frac{}, false}, {1000, -mostPart, frac(-1, mostFrac), true}, {999, mostPart, impl.Frac{}, false},
		{mostPart, mostPart, frac(1, 1), true}, {mostPart, -mostPart, frac(-1, 1), true}, {-mostPart, -mostPart, frac(1, 1), true}, {mostPart - 1, mostPart - 1, frac(1, 1), true},
		{mostPart, mostPart - 1, impl.Frac{}, false}, {mostPart - 1000, mostPart, frac(mostFrac-1, mostFrac), true},
		{mostPart + 1, mostPart + 1, impl.Frac{}, false}, {-mostPart - 1, -mostPart - 1, impl.Frac{}, false}, {mostPart + 1000, 1001000, impl.Frac{}, false}, {-mostPart - 1000, 1001000, impl.Frac{}, false},
		{0, mostPart + 1, impl.Frac{}, false}, {0, -mostPart - 1, impl.Frac{}, false}, {1000, mostPart + 1000, impl.Frac{}, false}, {mostPart + 1, 0, impl.Frac{}, false},
		{math.MinInt, -1, impl.Frac{}, false}, {math.MinInt, math.MinInt, impl.Frac{}, false}, {math.MaxInt, math.MaxInt, impl.Frac{}, false}, {0, math.MinInt, impl.Frac{}, false}, {-1, math.MinInt, impl.Frac{}, false},
	} {
		got, ok := impl.FracOf(c.n, c.d)
		checkFrac(t, fmt.Sprintf("FracOf(%d, %d)", c.n, c.d), got, ok, c.want, c.ok)
	}
}

// edgeParts are numbers that FracOf takes, and some just beyond its limits.
func edgeParts() []int {
	parts := edgeNumbers()
	for _, n := range []int{6, 8, 1000, 1001, 2000000002, 3000000000, mostPart - 1000, mostPart - 1, mostPart, mostPart + 1, mostPart + 1000} {
		parts = append(parts, n, -n)
	}
	return parts
}

func TestFracOfAllEdges(t *testing.T) {
	for _, n := range edgeParts() {
		for _, d := range edgeParts() {
			var want impl.Frac
			fine := d != 0 && max(n, d) <= mostPart && min(n, d) >= -mostPart
			if fine {
				want, fine = fracOfRat(ratOf(frac(n, d)))
			}
			got, ok := impl.FracOf(n, d)
			checkFrac(t, fmt.Sprintf("FracOf(%d, %d)", n, d), got, ok, want, fine)
		}
	}
}

// fourth is one of the four operations, with the same one on fractions of unlimited size.
type fourth struct {
	name string
	of   func(a impl.Frac, b impl.Frac) (impl.Frac, bool)
	free func(r *big.Rat, a *big.Rat, b *big.Rat) *big.Rat
}

func fourOperations() []fourth {
	return []fourth{
		{"AddFracs", impl.AddFracs, (*big.Rat).Add},
		{"SubtractFracs", impl.SubtractFracs, (*big.Rat).Sub},
		{"MultiplyFracs", impl.MultiplyFracs, (*big.Rat).Mul},
		{"DivideFracs", impl.DivideFracs, (*big.Rat).Quo},
	}
}

func TestFourOperations(t *testing.T) {
	half, third := frac(1, 2), frac(1, 3)
	for _, c := range []struct {
		a, b impl.Frac
		want [][2]int
	}{
		{half, third, [][2]int{{5, 6}, {1, 6}, {1, 6}, {3, 2}}},
		{third, half, [][2]int{{5, 6}, {-1, 6}, {1, 6}, {2, 3}}},
		{half, half, [][2]int{{1, 1}, {0, 1}, {1, 4}, {1, 1}}},
		{frac(-3, 2), half, [][2]int{{-1, 1}, {-2, 1}, {-3, 4}, {-3, 1}}},
		{half, frac(-3, 2), [][2]int{{-1, 1}, {2, 1}, {-3, 4}, {-1, 3}}},
		{frac(-1, 2), frac(-1, 3), [][2]int{{-5, 6}, {-1, 6}, {1, 6}, {3, 2}}},
		{frac(3, 1), frac(-2, 1), [][2]int{{1, 1}, {5, 1}, {-6, 1}, {-3, 2}}},
		{frac(0, 1), frac(-2, 3), [][2]int{{-2, 3}, {2, 3}, {0, 1}, {0, 1}}},
		{half, frac(0, 1), [][2]int{{1, 2}, {1, 2}, {0, 1}, {0, 0}}},
		{frac(0, 1), frac(0, 1), [][2]int{{0, 1}, {0, 1}, {0, 1}, {0, 0}}},
		// Some have no result, told by the pair 0, 0; others have one although the numbers on the way are beyond MaxFrac.
		{frac(mostFrac, 1), frac(1, 1), [][2]int{{0, 0}, {mostFrac - 1, 1}, {mostFrac, 1}, {mostFrac, 1}}},
		{frac(-mostFrac, 1), frac(1, 1), [][2]int{{1 - mostFrac, 1}, {0, 0}, {-mostFrac, 1}, {-mostFrac, 1}}},
		{frac(mostFrac, 1), frac(1, mostFrac), [][2]int{{0, 0}, {0, 0}, {1, 1}, {0, 0}}},
		{frac(1, mostFrac), frac(1, mostFrac), [][2]int{{1, 500000000}, {0, 1}, {0, 0}, {1, 1}}},
		{frac(1, mostFrac), frac(1, mostFrac-1), [][2]int{{0, 0}, {0, 0}, {0, 0}, {mostFrac - 1, mostFrac}}},
		{frac(mostFrac, 3), frac(-mostFrac, 3), [][2]int{{0, 1}, {0, 0}, {0, 0}, {-1, 1}}},
		{frac(mostFrac, mostFrac-1), frac(mostFrac-1, mostFrac), [][2]int{{0, 0}, {0, 0}, {1, 1}, {0, 0}}},
	} {
		for i, want := range fracsOf(c.want) {
			o := fourOperations()[i]
			got, ok := o.of(c.a, c.b)
			checkFrac(t, fmt.Sprint(o.name, c.a, c.b), got, ok, want, want != impl.Frac{})
		}
	}
}

func TestFourOperationsOnAllPairs(t *testing.T) {
	for _, o := range fourOperations() {
		count := [2]int{}
		for _, a := range goodFracs() {
			for _, b := range goodFracs() {
				var want impl.Frac
				fine := o.name != "DivideFracs" || b.Num != 0
				if fine {
					want, fine = fracOfRat(o.free(new(big.Rat), ratOf(a), ratOf(b)))
				}
				if fine {
					count[0]++
				} else {
					count[1]++
				}
				got, ok := o.of(a, b)
				checkFrac(t, fmt.Sprint(o.name, a, b), got, ok, want, fine)
			}
		}
		if count[0] < 100 || count[1] < 100 {
			t.Error(o.name, "has too few results, or too few failures:", count)
		}
	}
}

func TestFourOperationsOnBadFracs(t *testing.T) {
	for _, o := range fourOperations() {
		for _, bad := range badFracs() {
			for _, other := range allFracs() {
				got, ok := o.of(bad, other)
				checkFrac(t, fmt.Sprint(o.name, bad, other), got, ok, impl.Frac{}, false)
				got, ok = o.of(other, bad)
				checkFrac(t, fmt.Sprint(o.name, other, bad), got, ok, impl.Frac{}, false)
			}
		}
	}
}

// Guarantee 2: sums and products can be taken back, and so can differences and quotients.
func TestSumsAndProductsAreTakenBack(t *testing.T) {
	operations := fourOperations()
	for i, o := range operations {
		opposite := operations[i^1]
		taken := 0
		for _, a := range goodFracs() {
			for _, b := range goodFracs() {
				result, ok := o.of(a, b)
				if !ok || opposite.name == "DivideFracs" && b.Num == 0 {
					continue
				}
				taken++
				back, ok := opposite.of(result, b)
				checkFrac(t, fmt.Sprint(o.name, a, b, " and ", opposite.name), back, ok, a, true)
			}
		}
		if taken < 100 {
			t.Error(o.name, "is taken back too seldom:", taken)
		}
	}
}

func TestCompareFracs(t *testing.T) {
	for _, c := range []struct {
		a, b impl.Frac
		want int
	}{
		{frac(1, 2), frac(1, 3), 1}, {frac(1, 3), frac(1, 2), -1}, {frac(1, 2), frac(1, 2), 0}, {frac(-1, 2), frac(-1, 3), -1}, {frac(-1, 3), frac(-1, 2), 1},
		{frac(-3, 2), frac(0, 1), -1}, {frac(0, 1), frac(-3, 2), 1}, {frac(0, 1), frac(0, 1), 0}, {frac(3, 1), frac(2, 1), 1}, {frac(-5, 1), frac(1, 5), -1},
		{frac(mostFrac, 1), frac(-mostFrac, 1), 1}, {frac(-mostFrac, 1), frac(mostFrac, 1), -1}, {frac(mostFrac, 1), frac(1, mostFrac), 1}, {frac(1, mostFrac), frac(mostFrac, 1), -1},
		// These two pairs are next to each other: a float could not tell them apart.
		{frac(mostFrac-2, mostFrac-1), frac(mostFrac-1, mostFrac), -1}, {frac(1, mostFrac), frac(1, mostFrac-1), -1},
	} {
		got, ok := impl.CompareFracs(c.a, c.b)
		checkNumber(t, fmt.Sprint("CompareFracs", c.a, c.b), got, ok, c.want, true)
	}
	for _, a := range goodFracs() {
		for _, b := range goodFracs() {
			got, ok := impl.CompareFracs(a, b)
			checkNumber(t, fmt.Sprint("CompareFracs", a, b), got, ok, ratOf(a).Cmp(ratOf(b)), true)
		}
	}
	for _, bad := range badFracs() {
		for _, other := range allFracs() {
			got, ok := impl.CompareFracs(bad, other)
			checkNumber(t, fmt.Sprint("CompareFracs", bad, other), got, ok, 0, false)
			got, ok = impl.CompareFracs(other, bad)
			checkNumber(t, fmt.Sprint("CompareFracs", other, bad), got, ok, 0, false)
		}
	}
}

func TestFloorAndCeil(t *testing.T) {
	for _, c := range []struct {
		f           impl.Frac
		floor, ceil int
	}{
		{frac(-3, 2), -2, -1}, {frac(3, 2), 1, 2}, {frac(-1, 2), -1, 0}, {frac(1, 2), 0, 1}, {frac(7, 3), 2, 3}, {frac(-7, 3), -3, -2}, {frac(8, 3), 2, 3}, {frac(-8, 3), -3, -2},
		{frac(0, 1), 0, 0}, {frac(5, 1), 5, 5}, {frac(-5, 1), -5, -5}, {frac(mostFrac, 1), mostFrac, mostFrac}, {frac(-mostFrac, 1), -mostFrac, -mostFrac},
		{frac(1, mostFrac), 0, 1}, {frac(-1, mostFrac), -1, 0}, {frac(mostFrac-1, mostFrac), 0, 1}, {frac(1-mostFrac, mostFrac), -1, 0},
		{frac(mostFrac, mostFrac-1), 1, 2}, {frac(-mostFrac, mostFrac-1), -2, -1}, {frac(mostFrac-1, 2), 499999999, 500000000}, {frac(1-mostFrac, 2), -500000000, -499999999},
	} {
		floor, ok := impl.FloorFrac(c.f)
		checkNumber(t, fmt.Sprint("FloorFrac", c.f), floor, ok, c.floor, true)
		ceil, ok := impl.CeilFrac(c.f)
		checkNumber(t, fmt.Sprint("CeilFrac", c.f), ceil, ok, c.ceil, true)
	}
	for _, f := range goodFracs() {
		floor, ok := impl.FloorFrac(f)
		if !ok || floor*f.Den > f.Num || (floor+1)*f.Den <= f.Num {
			t.Errorf("FloorFrac%v: got %d, %t", f, floor, ok)
		}
		ceil, ok := impl.CeilFrac(f)
		if !ok || ceil*f.Den < f.Num || (ceil-1)*f.Den >= f.Num {
			t.Errorf("CeilFrac%v: got %d, %t", f, ceil, ok)
		}
	}
	for _, f := range badFracs() {
		floor, ok := impl.FloorFrac(f)
		checkNumber(t, fmt.Sprint("FloorFrac", f), floor, ok, 0, false)
		ceil, ok := impl.CeilFrac(f)
		checkNumber(t, fmt.Sprint("CeilFrac", f), ceil, ok, 0, false)
	}
}

func TestMeanOfNumbers(t *testing.T) {
	for _, c := range []struct {
		l    []int
		want impl.Frac
	}{
		{[]int{1, 2, 4}, frac(7, 3)}, {[]int{2, 2, 2}, frac(2, 1)}, {[]int{3, -3}, frac(0, 1)}, {[]int{-1, -2}, frac(-3, 2)}, {[]int{1, 2, 3, 4}, frac(5, 2)}, {[]int{0, 0, 0}, frac(0, 1)},
		{[]int{0}, frac(0, 1)}, {[]int{7}, frac(7, 1)}, {[]int{-7}, frac(-7, 1)}, {[]int{most}, frac(most, 1)}, {[]int{-most}, frac(-most, 1)}, {[]int{most, -most}, frac(0, 1)}, {[]int{most, most - 1}, frac(1999999, 2)},
		{repeated(20, 3), frac(3, 1)}, {repeated(21, 3), frac(3, 1)}, {repeated(40, 5), frac(5, 1)}, {repeated(40, most), frac(most, 1)}, {repeated(40, -most), frac(-most, 1)}, {repeated(39, most), frac(most, 1)},
		{append(repeated(39, 0), 1), frac(1, 40)}, {append(repeated(39, most), most-1), frac(39999999, 40)}, {append([]int{-1}, repeated(38, 0)...), frac(-1, 39)},
	} {
		got, ok := impl.MeanOfNumbers(c.l)
		checkFrac(t, fmt.Sprint("MeanOfNumbers", c.l), got, ok, c.want, true)
	}
	for _, l := range badMeanLists() {
		got, ok := impl.MeanOfNumbers(l)
		checkFrac(t, fmt.Sprint("MeanOfNumbers", l), got, ok, impl.Frac{}, false)
	}
}

// badMeanLists returns lists that have no mean: empty ones, too long ones, and those with a number that is too great.
func badMeanLists() [][]int {
	lists := [][]int{nil, {}, repeated(41, 1), repeated(41, 0), repeated(42, -1), repeated(80, 3), repeated(1000, 5)}
	for _, n := range []int{most + 1, -most - 1, inf, -inf, mostPart, math.MaxInt, math.MinInt} {
		lists = append(lists, []int{n}, []int{n, 3}, []int{3, n}, []int{n, -n}, append(repeated(39, 1), n), append([]int{n}, repeated(39, 1)...))
	}
	return lists
}

func TestFracText(t *testing.T) {
	for pair, want := range map[[2]int]string{
		{0, 1}: "0", {5, 1}: "5", {-5, 1}: "-5", {-3, 2}: "-3/2", {3, 2}: "3/2", {1, 10}: "1/10", {-10, 7}: "-10/7", {12, 35}: "12/35",
		{mostFrac, 1}: "1000000000", {-mostFrac, 1}: "-1000000000", {1, mostFrac}: "1/1000000000", {-1, mostFrac}: "-1/1000000000",
		{mostFrac, mostFrac - 1}: "1000000000/999999999", {1 - mostFrac, mostFrac}: "-999999999/1000000000",
	} {
		f := frac(pair[0], pair[1])
		if got, ok := impl.FracText(f); got != want || !ok {
			t.Errorf("FracText%v: got %q, %t", f, got, ok)
		}
	}
	for _, f := range badFracs() {
		if got, ok := impl.FracText(f); got != "" || ok {
			t.Errorf("FracText%v: got %q, %t", f, got, ok)
		}
	}
}

// Guarantee 2: texts are read back.
func TestFracTextsAreReadBack(t *testing.T) {
	fracs := goodFracs()
	for n := -60; n <= 60; n++ {
		for d := 1; d <= 60; d++ {
			fracs = append(fracs, frac(n, d))
		}
	}
	for _, f := range fracs {
		text, ok := impl.FracText(f)
		if !ok {
			continue
		}
		if want := ratOf(f).RatString(); text != want {
			t.Errorf("FracText%v: got %q", f, text)
		}
		back, ok := impl.ParseFrac(text)
		checkFrac(t, fmt.Sprintf("ParseFrac(%q)", text), back, ok, f, true)
	}
}

// nearlyFracTexts are texts of no fraction, many of which are nearly right.
func nearlyFracTexts() []string {
	return []string{
		"", "-", "+", "/", "//", "-/", "/-", "1/", "/1", "/2", "-/2", "1//2", "/1/2", "1/2/", "1/2/3", "1/2/1", "3/2/", "1/-", "1/+",
		"+1", "+0", "-0", "00", "01", "-01", "000", "--1", "-+1", "+1/2", "--1/2", "01/2", "-01/2", "1/02", "1/+2", "1/-2", "-1/-2", "00/1", "1/2-", "-00",
		"0/1", "5/1", "-5/1", "0/2", "-0/1", "-0/2", "0/0", "1/0", "-1/0", "1/00", "0/1000000000", "1/1", "2/2", "2/4", "-2/4", "6/4", "9/3", "10/10", "1000000000/1", "1000000000/2", "5/1000000000",
		" ", " 1", "1 ", "1 /2", "1/ 2", " 1/2", "1/2 ", "1/2\n", "\t1/2", "1\n", "1\x00", "1/2\x00", "1\x00/2", "1,2", "1:2", "1\\2", "1\u20442", "½", "1.5", "1.", ".5", "0.5", "1e3", "1/1e3", "1_0", "1/1_0", "0x1", "1/0x2", "0b1", "1/0b10", "a", "1a", "a/2", "1/a", "inf", "inf/2", "1/inf", "nan", "١/٢", "１", "−1", "−1/2", "\xff", "1/\xff",
		"1000000001", "-1000000001", "1000000001/2", "-1000000001/2", "1/1000000001", "-1/1000000001", "10000000000", "1/10000000000", "1000000000000", "4294967297", "4294967297/2", "1/4294967299",
		"9223372036854775807", "9223372036854775808", "-9223372036854775808", "1/9223372036854775807", "1/9223372036854775808", "18446744073709551617", "18446744073709551617/2", "1/18446744073709551618", "-9223372036854775808/-9223372036854775808",
		strings.Repeat("0", 1000), strings.Repeat("9", 1000), "1/" + strings.Repeat("9", 1000), strings.Repeat("0", 100) + "5", "1/" + strings.Repeat("0", 100) + "5", strings.Repeat("1/", 100) + "2",
	}
}

func TestParseFrac(t *testing.T) {
	for s, want := range map[string][2]int{
		"0": {0, 1}, "7": {7, 1}, "-7": {-7, 1}, "1/2": {1, 2}, "-3/2": {-3, 2}, "10/7": {10, 7}, "1/10": {1, 10}, "100": {100, 1},
		"1000000000": {mostFrac, 1}, "-1000000000": {-mostFrac, 1}, "1/1000000000": {1, mostFrac}, "-1/1000000000": {-1, mostFrac}, "-999999999/1000000000": {1 - mostFrac, mostFrac},
	} {
		got, ok := impl.ParseFrac(s)
		checkFrac(t, fmt.Sprintf("ParseFrac(%q)", s), got, ok, frac(want[0], want[1]), true)
	}
	for _, s := range nearlyFracTexts() {
		got, ok := impl.ParseFrac(s)
		checkFrac(t, fmt.Sprintf("ParseFrac(%q)", s), got, ok, impl.Frac{}, false)
	}
}
