package tests

import (
	"slices"
	"strings"
	"testing"

	"loop.example/g01056/impl"
)

// Guarantee 33, chapter 9: every function accepts all arguments without panicking and modifies none of them.

// starCall is a function of chapter 9 that takes a star, with one more of them and four numbers for those that need them.
type starCall func(a []impl.Ray, b []impl.Ray, n [4]int) outcome

func numbersOfRays(l []impl.Ray) []int {
	var numbers []int
	for _, r := range l {
		numbers = append(numbers, r.DX, r.DY, r.W)
	}
	return numbers
}

// callsOnStars lists the functions of chapter 9 that take a star.
func callsOnStars() map[string]starCall {
	calls := map[string]starCall{
		"IsStar": func(a []impl.Ray, _ []impl.Ray, _ [4]int) outcome { return outcome{ok: impl.IsStar(a)} },
		"StarSum": func(a []impl.Ray, _ []impl.Ray, _ [4]int) outcome {
			x, y, ok := impl.StarSum(a)
			return outcome{numbers: []int{x, y}, ok: ok}
		},
		"IsBalanced": func(a []impl.Ray, _ []impl.Ray, _ [4]int) outcome {
			is, ok := impl.IsBalanced(a)
			return outcome{flags: []bool{is}, ok: ok}
		},
		"MissingRay": func(a []impl.Ray, _ []impl.Ray, _ [4]int) outcome {
			r, ok := impl.MissingRay(a)
			return outcome{numbers: numbersOfRays([]impl.Ray{r}), ok: ok}
		},
		"SupportOf": func(a []impl.Ray, _ []impl.Ray, n [4]int) outcome {
			support, ok := impl.SupportOf(a, n[0], n[1])
			return outcome{numbers: []int{support}, ok: ok}
		},
		"DualPolygon": func(a []impl.Ray, _ []impl.Ray, _ [4]int) outcome {
			l, ok := impl.DualPolygon(a)
			return outcome{numbers: numbersOfPoints(l), ok: ok}
		},
		"StarText": func(a []impl.Ray, _ []impl.Ray, _ [4]int) outcome {
			s, ok := impl.StarText(a)
			return outcome{text: s, ok: ok}
		},
	}
	for name, call := range callsWithStars() {
		calls[name] = func(a []impl.Ray, b []impl.Ray, n [4]int) outcome {
			l, ok := call(a, b, n)
			return outcome{numbers: numbersOfRays(l), ok: ok}
		}
	}
	return calls
}

// callsWithStars lists the functions of chapter 9 that take a star and whose result is one, too.
func callsWithStars() map[string]func(a []impl.Ray, b []impl.Ray, n [4]int) ([]impl.Ray, bool) {
	return map[string]func([]impl.Ray, []impl.Ray, [4]int) ([]impl.Ray, bool){
		"AddStars":  func(a []impl.Ray, b []impl.Ray, _ [4]int) ([]impl.Ray, bool) { return impl.AddStars(a, b) },
		"ScaleStar": func(a []impl.Ray, _ []impl.Ray, n [4]int) ([]impl.Ray, bool) { return impl.ScaleStar(a, n[0]) },
		"MapStar": func(a []impl.Ray, _ []impl.Ray, n [4]int) ([]impl.Ray, bool) {
			return impl.MapStar(a, n[0], n[1], n[2], n[3])
		},
	}
}

// checkStarCall makes one call with nothing behind its lists, and then with two different rays behind them.
func checkStarCall(t *testing.T, name string, call starCall, l []impl.Ray, m []impl.Ray, n [4]int) {
	t.Helper()
	first := call(slices.Clip(slices.Clone(l)), slices.Clip(slices.Clone(m)), n)
	if !first.ok && !first.isZero() {
		t.Errorf("%s%v%v %v fails with %v", name, l, m, n, first)
	}
	for _, spare := range star(1, 20, 20, 3, -20, 19) {
		a, b := withSpare(l, spare), withSpare(m, spare)
		if got := call(a, b, n); !got.equals(first) {
			t.Errorf("%s%v%v %v depends on what is behind the lists: %v, %v", name, l, m, n, first, got)
		}
		if !isUntouched(a, l, spare) || !isUntouched(b, m, spare) {
			t.Errorf("%s%v%v %v changes an argument", name, l, m, n)
		}
	}
}

func TestStarCallsAreTotalAndModifyNothing(t *testing.T) {
	stars := append(goodStars(), badStars()...)
	numbers := [][4]int{{1, 0, 0, 1}, {2, 3, 1, 2}, {0, -1, 1, 0}, {-1, 0, 0, -1}, {1, -3, 0, -1}, {20, -20, 3, 3}, {0, 0, 0, 0}, {21, 4, 5, 6}}
	for name, call := range callsOnStars() {
		for i, a := range stars {
			for j, b := range [][]impl.Ray{a, stars[(i*7+3)%len(stars)], star(2, 0, 1), nil} {
				checkStarCall(t, name, call, a, b, numbers[(i+j*3)%len(numbers)])
				checkStarCall(t, name, call, b, a, numbers[(i*5+j)%len(numbers)])
			}
		}
	}
}

func TestStarCallsTakeAllNumbers(t *testing.T) {
	stars := append(plainStars(), badStars()[:3]...)
	edges := edgeNumbers()
	for name, call := range callsOnStars() {
		for i, x := range edges {
			for j, y := range edges {
				impl.PrimitiveRay(x, y)
				n := [4]int{x, y, edges[(i*7+j)%len(edges)], edges[(i+j*5)%len(edges)]}
				l := stars[(i+j)%len(stars)]
				checkStarCall(t, name, call, l, stars[i%len(stars)], n)
				checkStarCall(t, name, call, []impl.Ray{{DX: x, DY: y, W: n[2]}}, l, [4]int{x, 1, -1, 0})
				checkStarCall(t, name, call, l, []impl.Ray{{DX: 1, DY: y, W: x}}, [4]int{1, 0, y, 1})
			}
		}
	}
}

// Both arguments are one and the same list here: a call neither changes it nor gives out a part of it.
func TestStarsOfResultsAreNew(t *testing.T) {
	changes := [2]impl.Ray{{DX: 99, DY: 9, W: 999}, {DX: 77, DY: 7, W: 777}}
	for name, call := range callsWithStars() {
		lists := 0
		for _, l := range goodStars() {
			if checkNewList(t, name, l, changes, func(argument []impl.Ray) ([]impl.Ray, bool) {
				return call(argument, argument, [4]int{1, 0, 0, 1})
			}) {
				lists++
			}
		}
		if lists < 100 {
			t.Error(name, "succeeds too seldom:", lists)
		}
	}
}

func TestSumsWithTheEmptyStarAreNew(t *testing.T) {
	for _, l := range plainStars() {
		for _, empty := range [][]impl.Ray{nil, {}, make([]impl.Ray, 0, 20)} {
			for _, call := range []func(argument []impl.Ray) ([]impl.Ray, bool){
				func(argument []impl.Ray) ([]impl.Ray, bool) { return impl.AddStars(argument, empty) },
				func(argument []impl.Ray) ([]impl.Ray, bool) { return impl.AddStars(empty, argument) },
			} {
				if !checkNewList(t, "AddStars", l, [2]impl.Ray{{W: 999}, {W: 777}}, call) {
					t.Error("there is no sum with the empty star:", l)
				}
			}
		}
	}
}

func TestDualPolygonsOfResultsAreNew(t *testing.T) {
	for _, l := range balancedStars() {
		if _, ok := impl.DualPolygon(l); ok {
			checkNewResult(t, "DualPolygon", impl.Point{X: 999}, func() ([]impl.Point, bool) { return impl.DualPolygon(l) })
		}
	}
}

func TestParseStarIsTotal(t *testing.T) {
	texts := append(nearlyStarTexts(), strings.Repeat("9", 100000), strings.Repeat(";", 100000), strings.Repeat("1*1,0;", 100000), strings.Repeat("\x00", 50), strings.Repeat("*", 100000))
	texts = append(texts, textsOf([]string{"-", "+", " ", "0", "1", "7", ",", ";", "*", "inf", "\xff"}, 4)...)
	texts = append(texts, textsOf([]string{"1*0,1;", "2*1,-1;", "5*1,3;", "7*-2,1;", "1*", "0,1", "*", ";", ","}, 5)...)
	read := 0
	for _, s := range texts {
		l, ok := impl.ParseStar(s)
		text, fine := impl.StarText(l)
		if !fine || !ok && len(l) != 0 || ok && text != s {
			t.Errorf("ParseStar(%q): got %v, %t", s, l, ok)
		}
		if ok {
			read++
		}
	}
	if read < 10 {
		t.Error("too few texts are read:", read)
	}
}

func TestParsedStarsAreNew(t *testing.T) {
	first, _ := impl.ParseStar("1*0,1;2*1,-1;")
	second, ok := impl.ParseStar("1*0,1;2*1,-1;")
	fill(first, impl.Ray{W: 9})
	checkList(t, "ParseStar", second, ok, star(1, 0, 1, 2, 1, -1), true)
}
