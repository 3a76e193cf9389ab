package tests

import (
	"slices"
	"strings"
	"testing"

	"loop.example/g01056/impl"
)

// Guarantee 33, chapter 6: every function accepts all arguments without panicking and modifies none of them.

// polygonCall is a function of chapter 6 that takes a list of points, with one more of them and a point for those that need them.
type polygonCall func(a []impl.Point, b []impl.Point, p impl.Point) outcome

// callsOnPolygons lists the functions of chapter 6 that take a list of points.
func callsOnPolygons() map[string]polygonCall {
	calls := map[string]polygonCall{
		"IsPolygon": func(a []impl.Point, _ []impl.Point, _ impl.Point) outcome { return outcome{ok: impl.IsPolygon(a)} },
		"HasPoint": func(a []impl.Point, _ []impl.Point, p impl.Point) outcome {
			is, ok := impl.HasPoint(a, p)
			return outcome{flags: []bool{is}, ok: ok}
		},
		"MixedArea": func(a []impl.Point, b []impl.Point, _ impl.Point) outcome {
			n, ok := impl.MixedArea(a, b)
			return outcome{numbers: []int{n}, ok: ok}
		},
		"WidthIn": func(a []impl.Point, _ []impl.Point, p impl.Point) outcome {
			n, ok := impl.WidthIn(a, p)
			return outcome{numbers: []int{n}, ok: ok}
		},
		"PolygonText": func(a []impl.Point, _ []impl.Point, _ impl.Point) outcome {
			s, ok := impl.PolygonText(a)
			return outcome{text: s, ok: ok}
		},
	}
	for name, call := range map[string]func([]impl.Point) (int, bool){"DoubleArea": impl.DoubleArea, "BoundaryPoints": impl.BoundaryPoints, "InnerPoints": impl.InnerPoints} {
		calls[name] = func(a []impl.Point, _ []impl.Point, _ impl.Point) outcome {
			n, ok := call(a)
			return outcome{numbers: []int{n}, ok: ok}
		}
	}
	for name, call := range callsWithPoints() {
		calls[name] = func(a []impl.Point, b []impl.Point, _ impl.Point) outcome {
			l, ok := call(a, b)
			return outcome{numbers: numbersOfPoints(l), ok: ok}
		}
	}
	return calls
}

// callsWithPoints lists the functions of chapter 6 that take a list of points and whose result is one, too.
func callsWithPoints() map[string]func(a []impl.Point, b []impl.Point) ([]impl.Point, bool) {
	return map[string]func([]impl.Point, []impl.Point) ([]impl.Point, bool){
		"HullOf":        func(a []impl.Point, _ []impl.Point) ([]impl.Point, bool) { return impl.HullOf(a) },
		"EdgesOf":       func(a []impl.Point, _ []impl.Point) ([]impl.Point, bool) { return impl.EdgesOf(a) },
		"SumOfPolygons": impl.SumOfPolygons,
	}
}

// checkPolygonCall makes one call with nothing behind its lists, and then with two different points behind them.
func checkPolygonCall(t *testing.T, name string, call polygonCall, l []impl.Point, m []impl.Point, p impl.Point) {
	t.Helper()
	first := call(slices.Clip(slices.Clone(l)), slices.Clip(slices.Clone(m)), p)
	if !first.ok && (!first.isZero() || len(first.numbers) > 1) {
		t.Errorf("%s%v%v %v fails with %v", name, l, m, p, first)
	}
	for _, spare := range points(-mostCoord, 99, 1000, 77) {
		a, b := withSpare(l, spare), withSpare(m, spare)
		if got := call(a, b, p); !got.equals(first) {
			t.Errorf("%s%v%v %v depends on what is behind the lists: %v, %v", name, l, m, p, first, got)
		}
		if !isUntouched(a, l, spare) || !isUntouched(b, m, spare) {
			t.Errorf("%s%v%v %v changes an argument", name, l, m, p)
		}
	}
}

// anyPointLists returns polygons and lists that are none, among them some in no order and with points twice.
func anyPointLists() [][]impl.Point {
	return slices.Concat(goodPolygons(), badPolygons(), gridLists()[:300], scatteredLists(2), scatteredLists(mostCoord))
}

func TestPolygonCallsAreTotalAndModifyNothing(t *testing.T) {
	lists := anyPointLists()
	anyPoint := append(points(0, 0, 1, -1, -3, 2, mostCoord, -mostCoord), badPoints()...)
	for name, call := range callsOnPolygons() {
		for i, l := range lists {
			for j, m := range [][]impl.Point{l, lists[(i*7+3)%len(lists)], points(0, 0, 2, 0, 1, 3), nil} {
				p := anyPoint[(i+j*5)%len(anyPoint)]
				checkPolygonCall(t, name, call, l, m, p)
				checkPolygonCall(t, name, call, m, l, p)
			}
		}
	}
}

func TestPolygonCallsTakeAllPoints(t *testing.T) {
	lists := append(greatPolygons()[:20], points(0, 0, 2, 0, 0, 2), points(2, 0, 0, 0), nil)
	for _, x := range edgeNumbers() {
		for _, y := range edgeNumbers() {
			p := impl.Point{X: x, Y: y}
			impl.IsPoint(p)
			for name, call := range callsOnPolygons() {
				checkPolygonCall(t, name, call, []impl.Point{p}, points(1, 0), p)
				checkPolygonCall(t, name, call, points(0, 0, 3, 0, 0, 2), []impl.Point{p, {X: y, Y: x}}, p)
			}
			for _, l := range lists {
				checkPolygonCall(t, "HasPoint", callsOnPolygons()["HasPoint"], l, nil, p)
				checkPolygonCall(t, "WidthIn", callsOnPolygons()["WidthIn"], l, nil, p)
			}
		}
	}
}

// Both arguments are one and the same list here: a call neither changes it nor gives out a part of it.
func TestPolygonsOfResultsAreNew(t *testing.T) {
	changes := [2]impl.Point{{X: 999, Y: 9}, {X: 777, Y: 7}}
	for name, call := range callsWithPoints() {
		lists := 0
		for _, l := range anyPointLists() {
			if checkNewList(t, name, l, changes, func(argument []impl.Point) ([]impl.Point, bool) { return call(argument, argument) }) {
				lists++
			}
		}
		if lists < 100 {
			t.Error(name, "succeeds too seldom:", lists)
		}
	}
}

func TestSumsWithASinglePointAreNew(t *testing.T) {
	zero, triangle := points(0, 0), points(0, 0, 2, 0, 0, 2)
	for _, pair := range [][2][]impl.Point{{zero, triangle}, {triangle, zero}} {
		sum, ok := impl.SumOfPolygons(pair[0], pair[1])
		checkList(t, "SumOfPolygons", sum, ok, triangle, true)
		fill(sum[:cap(sum)], impl.Point{X: 9})
		checkList(t, "the point", zero, true, points(0, 0), true)
		checkList(t, "the triangle", triangle, true, points(0, 0, 2, 0, 0, 2), true)
	}
}

func TestParsePolygonIsTotal(t *testing.T) {
	texts := append(nearlyPolygonTexts(), strings.Repeat("9", 100000), strings.Repeat(";", 100000), strings.Repeat("0,0;", 100000), strings.Repeat("\x00", 50), strings.Repeat("inf", 10000))
	texts = append(texts, textsOf([]string{"-", "+", " ", "0", "1", "7", ",", ";", "inf", "\x00", "\xff"}, 4)...)
	texts = append(texts, textsOf([]string{"0,0;", "2,-1;", "5,3;", "-1,4;", "0,0", "0,", ";", ","}, 5)...)
	read := 0
	for _, s := range texts {
		l, ok := impl.ParsePolygon(s)
		text, fine := impl.PolygonText(l)
		if ok != fine || !ok && len(l) != 0 || ok && text != s {
			t.Errorf("ParsePolygon(%q): got %v, %t", s, l, ok)
		}
		if ok {
			read++
		}
	}
	if read < 10 {
		t.Error("too few texts are read:", read)
	}
}

func TestParsedPolygonsAreNew(t *testing.T) {
	first, _ := impl.ParsePolygon("0,0;2,-1;")
	second, ok := impl.ParsePolygon("0,0;2,-1;")
	fill(first, impl.Point{X: 9})
	checkList(t, "ParsePolygon", second, ok, points(0, 0, 2, -1), true)
}
