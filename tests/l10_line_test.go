package tests

import (
	"fmt"
	"math"
	"slices"
	"strings"
	"testing"

	"loop.example/g01056/impl"
)

const mostLines = 12

// line returns the line with these coefficients.
func line(a int, b int, c int) impl.Line {
	return impl.Line{A: a, B: b, C: c}
}

// linesOf returns the lines with three coefficients each.
func linesOf(numbers ...int) []impl.Line {
	var l []impl.Line
	for n := 0; n < len(numbers); n += 3 {
		l = append(l, line(numbers[n], numbers[n+1], numbers[n+2]))
	}
	return l
}

func textOfLine(l impl.Line) string {
	return fmt.Sprintf("%d %d %d", l.A, l.B, l.C)
}

// isInRange says again which coefficients and coordinates there are.
func isInRange(numbers ...int) bool {
	return -most <= slices.Min(numbers) && slices.Max(numbers) <= most
}

// goodCoefficients are within the range, at its limits, and so that sums and differences of two of them are about the limits, too.
func goodCoefficients() []int {
	return []int{-most, -most + 1, -500001, -500000, -2, -1, 0, 1, 3, 500000, 500001, most - 1, most}
}

func badCoefficients() []int {
	return slices.DeleteFunc(edgeNumbers(), func(n int) bool { return isInRange(n) })
}

// goodLines returns all lines with small coefficients and all with good ones.
func goodLines() []impl.Line {
	var lines []impl.Line
	for _, numbers := range [][]int{{-2, -1, 0, 1, 2}, goodCoefficients()} {
		for _, a := range numbers {
			for _, b := range numbers {
				for _, c := range numbers {
					lines = append(lines, line(a, b, c))
				}
			}
		}
	}
	return lines
}

// someLines returns few enough lines that all pairs of them can be asked for.
func someLines() []impl.Line {
	lines := goodLines()
	some := slices.Clone(lines[:125])
	for n := 125; n < len(lines); n += 17 {
		some = append(some, lines[n])
	}
	return append(some, linesOf(most, most, most, -most, -most, -most, most, -most, 0, -most, most, 0, 0, 0, most, 0, 0, -most, most, most, 0, -most, -most, 0, most, 0, 0, 0, -most, 0)...)
}

// badLines returns lines in which one coefficient or more are beyond the range.
func badLines() []impl.Line {
	var lines []impl.Line
	for _, n := range badCoefficients() {
		lines = append(lines, linesOf(n, 0, 0, 0, n, 0, 0, 0, n, n, n, 0, 0, n, n, n, n, n, n, most, -most, -most, n, most, most, most, n)...)
	}
	return append(lines, linesOf(math.MinInt, math.MaxInt, math.MinInt, math.MaxInt, math.MinInt, math.MaxInt)...)
}

// goodPlaces returns the coordinates of points, those at the limits among them.
func goodPlaces() [][2]int {
	var places [][2]int
	for _, numbers := range [][]int{{-3, -2, -1, 0, 1, 2, 3}, goodCoefficients()} {
		for _, x := range numbers {
			for _, y := range numbers {
				places = append(places, [2]int{x, y})
			}
		}
	}
	return places
}

func badPlaces() [][2]int {
	var places [][2]int
	for _, n := range badCoefficients() {
		places = append(places, [2]int{n, 0}, [2]int{0, n}, [2]int{n, n}, [2]int{n, -most}, [2]int{most, n})
	}
	return append(places, [2]int{math.MinInt, math.MaxInt}, [2]int{math.MaxInt, math.MinInt})
}

// centerByTerms finds the point where the terms are equal, wherever it is: the first and the last one, and the second and the last one.
func centerByTerms(l impl.Line) [2]int {
	return [2]int{-l.A + l.C, -l.B + l.C}
}

// termsByCenter says again which terms are least at a point: all at the center, two on one of the three rays that begin there, otherwise one.
func termsByCenter(l impl.Line, at [2]int) []int {
	center := centerByTerms(l)
	right, up := at[0]-center[0], at[1]-center[1]
	switch {
	case right == 0 && up == 0:
		return []int{0, 1, 2}
	case right == up && up < 0:
		return []int{0, 1}
	case right == 0 && up > 0:
		return []int{0, 2}
	case up == 0 && right > 0:
		return []int{1, 2}
	case right < up && right < 0:
		return []int{0}
	case up < right && up < 0:
		return []int{1}
	}
	return []int{2}
}

// isOnCentered reports whether a point is on the line with a center, which may be anywhere.
func isOnCentered(center [2]int, at [2]int) bool {
	right, up := at[0]-center[0], at[1]-center[1]
	return right == up && up <= 0 || right == 0 && up >= 0 || up == 0 && right >= 0
}

// crossings returns all points in which a ray of the line with one center may cross another ray of the line with the other one.
func crossings(c [2]int, d [2]int) [][2]int {
	return [][2]int{
		{c[0], d[1]}, {c[0], d[1] + c[0] - d[0]}, {d[0] + c[1] - d[1], c[1]},
		{d[0], c[1]}, {d[0], c[1] + d[0] - c[0]}, {c[0] + d[1] - c[1], d[1]},
	}
}

// centersBack returns all centers of lines of which one ray goes through one point and another ray through the other one.
func centersBack(p [2]int, q [2]int) [][2]int {
	// The lines that go backwards are those with everything turned around.
	var centers [][2]int
	for _, c := range crossings([2]int{-p[0], -p[1]}, [2]int{-q[0], -q[1]}) {
		centers = append(centers, [2]int{-c[0], -c[1]})
	}
	return centers
}

// onlyOne returns the only point of a list that is good, perhaps more than once.
func onlyOne(t *testing.T, l [][2]int, isGood func(at [2]int) bool) [2]int {
	t.Helper()
	l = slices.DeleteFunc(l, func(at [2]int) bool { return !isGood(at) })
	slices.SortFunc(l, func(a [2]int, b [2]int) int { return slices.Compare(a[:], b[:]) })
	l = slices.Compact(l)
	if len(l) != 1 {
		t.Fatal("there is not one point:", l)
	}
	return l[0]
}

// meetingByCenters says again where two lines meet, wherever it is: in the center of the one that is on the other one, or else in the only point of both.
func meetingByCenters(t *testing.T, l impl.Line, m impl.Line) [2]int {
	t.Helper()
	c, d := centerByTerms(l), centerByTerms(m)
	if isOnCentered(c, d) {
		return d
	}
	if isOnCentered(d, c) {
		return c
	}
	return onlyOne(t, crossings(c, d), func(at [2]int) bool { return isOnCentered(c, at) && isOnCentered(d, at) })
}

// centerThroughBoth says again which line goes through two points: that with the one as center through the other one, or else the only line through both.
func centerThroughBoth(t *testing.T, p [2]int, q [2]int) [2]int {
	t.Helper()
	if isOnCentered(p, q) {
		return p
	}
	if isOnCentered(q, p) {
		return q
	}
	return onlyOne(t, centersBack(p, q), func(center [2]int) bool { return isOnCentered(center, p) && isOnCentered(center, q) })
}

func checkLine(t *testing.T, call string, got impl.Line, gotOK bool, want impl.Line, wantOK bool) {
	t.Helper()
	if got != want || gotOK != wantOK {
		t.Errorf("%s: got %v, %t; want %v, %t", call, got, gotOK, want, wantOK)
	}
}

func checkPlace(t *testing.T, call string, gotX int, gotY int, gotOK bool, want [2]int, wantOK bool) {
	t.Helper()
	if gotX != want[0] || gotY != want[1] || gotOK != wantOK {
		t.Errorf("%s: got %d %d, %t; want %v, %t", call, gotX, gotY, gotOK, want, wantOK)
	}
}

// checkTerms checks what is least at a point, and whether it is on the line.
func checkTerms(t *testing.T, l impl.Line, at [2]int, want []int, wantOK bool) {
	t.Helper()
	got, ok := impl.TermsOn(l, at[0], at[1])
	checkList(t, fmt.Sprint("TermsOn ", l, at), got, ok, want, wantOK)
	is, ok := impl.IsOnLine(l, at[0], at[1])
	checkFlag(t, fmt.Sprint("IsOnLine ", l, at), is, ok, len(want) > 1, wantOK)
}

func checkCenter(t *testing.T, l impl.Line, want [2]int, wantOK bool) {
	t.Helper()
	x, y, ok := impl.CenterOf(l)
	checkPlace(t, fmt.Sprint("CenterOf ", l), x, y, ok, want, wantOK)
}

func checkThrough(t *testing.T, p [2]int, q [2]int, want impl.Line, wantOK bool) {
	t.Helper()
	got, ok := impl.LineThrough(p[0], p[1], q[0], q[1])
	checkLine(t, fmt.Sprint("LineThrough ", p, q), got, ok, want, wantOK)
}

func checkMeeting(t *testing.T, l impl.Line, m impl.Line, want [2]int, wantOK bool) {
	t.Helper()
	x, y, ok := impl.MeetingPoint(l, m)
	checkPlace(t, fmt.Sprint("MeetingPoint ", l, m), x, y, ok, want, wantOK)
}

func checkMoved(t *testing.T, l impl.Line, by [2]int, want impl.Line, wantOK bool) {
	t.Helper()
	got, ok := impl.MoveLine(l, by[0], by[1])
	checkLine(t, fmt.Sprint("MoveLine ", l, by), got, ok, want, wantOK)
}

func checkSameLine(t *testing.T, l impl.Line, m impl.Line, want bool, wantOK bool) {
	t.Helper()
	is, ok := impl.SameLine(l, m)
	checkFlag(t, fmt.Sprint("SameLine ", l, m), is, ok, want, wantOK)
}

func checkLinesAt(t *testing.T, list []impl.Line, at [2]int, want []int, wantOK bool) {
	t.Helper()
	got, ok := impl.LinesAt(list, at[0], at[1])
	checkList(t, fmt.Sprint("LinesAt ", list, at), got, ok, want, wantOK)
}

func TestLimitOfLines(t *testing.T) {
	if impl.MaxLines != mostLines {
		t.Error("limit", impl.MaxLines)
	}
}

func TestIsLine(t *testing.T) {
	for _, a := range edgeNumbers() {
		for _, b := range edgeNumbers() {
			for _, c := range edgeNumbers() {
				if impl.IsLine(line(a, b, c)) != isInRange(a, b, c) {
					t.Error("is it a line?", a, b, c)
				}
			}
		}
	}
	for _, l := range goodLines() {
		if !impl.IsLine(l) {
			t.Error("is no line:", l)
		}
	}
	for _, l := range badLines() {
		if impl.IsLine(l) {
			t.Error("is a line:", l)
		}
	}
}

// The example of the document.
func TestLineOneTwoZero(t *testing.T) {
	l, ok := impl.ParseLine("1 2 0")
	checkLine(t, "ParseLine", l, ok, line(1, 2, 0), true)
	checkCenter(t, l, [2]int{-1, -2}, true)
	checkTerms(t, l, [2]int{5, -2}, []int{1, 2}, true)
}

func TestTermsOn(t *testing.T) {
	for _, c := range []struct {
		l     impl.Line
		x, y  int
		terms []int
	}{
		{line(0, 0, 0), 0, 0, []int{0, 1, 2}}, {line(0, 0, 0), 1, 0, []int{1, 2}}, {line(0, 0, 0), 0, 1, []int{0, 2}}, {line(0, 0, 0), -1, -1, []int{0, 1}}, {line(0, 0, 0), 1, 1, []int{2}}, {line(0, 0, 0), -1, 0, []int{0}}, {line(0, 0, 0), 0, -1, []int{1}}, {line(0, 0, 0), -2, -1, []int{0}}, {line(0, 0, 0), -1, -2, []int{1}}, {line(0, 0, 0), 1, 2, []int{2}},
		{line(1, 2, 0), -1, -2, []int{0, 1, 2}}, {line(1, 2, 0), -1, -1, []int{0, 2}}, {line(1, 2, 0), -2, -3, []int{0, 1}}, {line(1, 2, 0), -2, -2, []int{0}}, {line(1, 2, 0), 0, 0, []int{2}}, {line(1, 2, 0), 0, -3, []int{1}}, {line(3, -5, -1), -4, 4, []int{0, 1, 2}}, {line(3, -5, -1), -4, 5, []int{0, 2}}, {line(3, -5, -1), 9, 4, []int{1, 2}}, {line(3, -5, -1), -14, -6, []int{0, 1}},
		{line(most, most, most), most, most, []int{2}}, {line(most, most, most), -most, -most, []int{0, 1}}, {line(-most, -most, -most), -most, -most, []int{0, 1}}, {line(-most, -most, -most), -most, most, []int{0}}, {line(-most, -most, most), most, most, []int{0, 1}}, {line(-most, -most, most), most, -most, []int{1}}, {line(most, most, -most), -most, -most, []int{2}}, {line(0, 0, -most), -most, -most, []int{0, 1, 2}}, {line(0, 0, most), most, most, []int{0, 1, 2}}, {line(0, most, most), most, 0, []int{0, 1, 2}}, {line(0, most, most), most, most, []int{0, 2}}, {line(most, 0, 0), -most, 0, []int{0, 1, 2}}, {line(most, -most, 0), most, most, []int{1, 2}}, {line(most-1, -most, 0), -most, most, []int{0}}, {line(0, 0, most), most, most - 1, []int{1}}, {line(0, 0, -most+1), -most, -most, []int{0, 1}},
	} {
		checkTerms(t, c.l, [2]int{c.x, c.y}, c.terms, true)
	}
}

func TestTermsOnManyPlaces(t *testing.T) {
	places := goodPlaces()
	counts := map[int]int{}
	for n, l := range goodLines() {
		near := [][2]int{places[n%len(places)], places[n*7%len(places)], places[n*31%len(places)]}
		center := centerByTerms(l)
		for _, step := range [][2]int{{0, 0}, {1, 0}, {0, 1}, {-1, -1}, {1, 1}, {-1, 0}, {0, -1}, {5, 0}, {0, 9}, {-7, -7}, {3, 2}, {-3, -2}, {-3, 4}, {4, -1}} {
			near = append(near, [2]int{center[0] + step[0], center[1] + step[1]})
		}
		near = append(near, [2]int{center[0], most}, [2]int{most, center[1]}, [2]int{-most, center[1] - center[0] - most}, [2]int{center[0] - center[1] - most, -most})
		for _, at := range near {
			if !isInRange(at[0], at[1]) {
				checkTerms(t, l, at, nil, false)
				continue
			}
			want := termsByCenter(l, at)
			checkTerms(t, l, at, want, true)
			counts[len(want)]++
		}
	}
	if counts[1] < 1000 || counts[2] < 1000 || counts[3] < 500 {
		t.Error("too few points with one, two or three terms:", counts)
	}
}

func TestTermsOnFail(t *testing.T) {
	for _, l := range badLines() {
		checkTerms(t, l, [2]int{0, 0}, nil, false)
		checkTerms(t, l, [2]int{most, -most}, nil, false)
	}
	for n, at := range badPlaces() {
		checkTerms(t, line(0, 0, 0), at, nil, false)
		checkTerms(t, goodLines()[n], at, nil, false)
		checkTerms(t, badLines()[n], at, nil, false)
	}
}

// A line is a plane polynomial of chapter 5, whose terms come in the opposite order there.
func TestLinesArePlanePolynomials(t *testing.T) {
	places := goodPlaces()
	compared := 0
	for n, l := range goodLines() {
		terms := plane(0, 0, l.C, 0, 1, l.B, 1, 0, l.A)
		for _, at := range append([][2]int{centerByTerms(l)}, places[n%len(places)], places[n*5%len(places)]) {
			// Values at points may be beyond the numbers of chapter 5.
			want, ok := impl.PlaneLeast(terms, at[0], at[1])
			if !ok {
				continue
			}
			for k := range want {
				want[k] = 2 - want[k]
			}
			slices.Reverse(want)
			checkTerms(t, l, at, want, true)
			compared++
		}
	}
	if compared < 3000 {
		t.Error("too few places are compared:", compared)
	}
}

func TestCenterOf(t *testing.T) {
	for _, c := range []struct {
		l    impl.Line
		x, y int
	}{
		{line(0, 0, 0), 0, 0}, {line(5, 5, 5), 0, 0}, {line(1, 0, 0), -1, 0}, {line(0, 1, 0), 0, -1}, {line(0, 0, 1), 1, 1}, {line(3, -5, -1), -4, 4}, {line(most, most, most), 0, 0}, {line(-most, -most, -most), 0, 0}, {line(most, -most, 0), -most, most}, {line(0, 0, most), most, most}, {line(0, 0, -most), -most, -most}, {line(500000, -500000, -500000), -most, 0}, {line(-1, 1, most-1), most, most - 2}, {line(500000, 500000, -500000), -most, -most},
	} {
		checkCenter(t, c.l, [2]int{c.x, c.y}, true)
		checkTerms(t, c.l, [2]int{c.x, c.y}, []int{0, 1, 2}, true)
	}
	for _, l := range linesOf(-1, 0, most, 0, -1, most, -1, -1, most, 1, 0, -most, 0, 1, -most, most, 0, -1, 0, most, -1, -most, 0, 1, 0, -most, 1, most, most, -most, -most, -most, most, most, -most, 1, -most, most, 1, 500001, 0, -500000, 0, 500000, -500001, -500000, 0, 500001) {
		checkCenter(t, l, [2]int{}, false)
	}
	found := [2]int{}
	for _, l := range goodLines() {
		want := centerByTerms(l)
		ok := isInRange(want[0], want[1])
		if !ok {
			want = [2]int{}
		}
		checkCenter(t, l, want, ok)
		countOf(&found, ok)
	}
	if min(found[0], found[1]) < 500 {
		t.Error("centers within and beyond the limit:", found)
	}
	for _, l := range badLines() {
		checkCenter(t, l, [2]int{}, false)
	}
}

// The center of a line is the vertex of its curve, which has three rays.
func TestCentersAreVertices(t *testing.T) {
	for _, l := range goodLines() {
		x, y, ok := impl.CenterOf(l)
		if !ok {
			continue
		}
		terms := plane(0, 0, l.C, 0, 1, l.B, 1, 0, l.A)
		vertex, ok := impl.VertexOf(terms, 0)
		checkSpot(t, fmt.Sprint("VertexOf", terms), vertex, ok, spot(x, 1, y, 1), true)
	}
}

func TestLineThrough(t *testing.T) {
	for _, c := range []struct {
		x, y, u, v int
		l          impl.Line
	}{
		{0, 0, 3, 1, line(0, 0, 1)}, {3, 1, 0, 0, line(0, 0, 1)}, {0, 0, 1, 3, line(0, 0, 1)}, {0, 0, 0, 0, line(0, 0, 0)}, {2, 5, 2, 5, line(5, 2, 7)}, {-4, 1, -4, 1, line(1, -4, -3)}, {0, 0, 3, 0, line(0, 0, 0)}, {0, 0, 0, 3, line(0, 0, 0)}, {0, 0, 3, 3, line(0, 0, 3)}, {2, 1, -5, 1, line(1, -5, -4)}, {2, 1, 2, -6, line(-6, 2, -4)}, {0, 0, -2, 1, line(0, -2, -2)}, {1, -2, 4, -9, line(-9, 1, -8)},
		{most, 0, most, 0, line(0, most, most)}, {0, -most, 0, -most, line(-most, 0, -most)}, {most, 0, 0, most, line(0, 0, 0)}, {-most, 0, 0, 0, line(0, -most, -most)}, {most, -most, most, -most, line(-most, most, 0)}, {most, most, -most, -most, line(-most, -most, 0)}, {500000, 500000, 500000, 500000, line(500000, 500000, most)}, {-500000, -500000, -500000, -500000, line(-500000, -500000, -most)}, {most, 1, most - 1, 1, line(1, most-1, most)}, {-1, 1 - most, -1, 1 - most, line(1-most, -1, -most)}, {most, 0, most, 1, line(0, most, most)}, {0, most, 1, most, line(most, 0, most)},
	} {
		checkThrough(t, [2]int{c.x, c.y}, [2]int{c.u, c.v}, c.l, true)
	}
	// The least sum of these is just beyond the limit, or far beyond it.
	for _, c := range [][2][2]int{
		{{most, 1}, {most, 1}}, {{1, most}, {1, most}}, {{500001, 500000}, {500001, 500000}}, {{most, most}, {most, most}}, {{most, 1}, {most, 2}}, {{1, most}, {2, most}}, {{-1, -most}, {-1, 1 - most}}, {{-1, -most}, {0, -most}}, {{-most, -1}, {-most, 0}}, {{-most, 0}, {0, -most}}, {{-500000, -500001}, {-500000, -500001}}, {{-most, -most}, {-most, -most}}, {{-500000, 7}, {7, -500001}}, {{7, -500001}, {-500000, 7}},
	} {
		checkThrough(t, c[0], c[1], impl.Line{}, false)
	}
}

func TestLinesThroughManyPairs(t *testing.T) {
	places := goodPlaces()
	found := [2]int{}
	for n, p := range places {
		for m := n % 3; m < len(places); m += 3 {
			q := places[m]
			center := centerThroughBoth(t, p, q)
			a := min(p[1], q[1])
			want := line(a, a+center[0]-center[1], a+center[0])
			ok := isInRange(want.A, want.B, want.C)
			if !ok {
				want = impl.Line{}
			}
			checkThrough(t, p, q, want, ok)
			checkThrough(t, q, p, want, ok)
			countOf(&found, ok)
		}
	}
	if min(found[0], found[1]) < 1000 {
		t.Error("lines within and beyond the limit:", found)
	}
}

// Guarantee 10: lines go through their points.
func TestLinesGoThroughTheirPoints(t *testing.T) {
	places := append(goodPlaces(), [2]int{most, 999}, [2]int{-999, -most}, [2]int{123456, -654321}, [2]int{-271828, 314159})
	through := 0
	for _, p := range places {
		for _, q := range places {
			l, ok := impl.LineThrough(p[0], p[1], q[0], q[1])
			if !ok {
				continue
			}
			for _, at := range [][2]int{p, q} {
				if is, ok := impl.IsOnLine(l, at[0], at[1]); !is || !ok {
					t.Error("the line", l, "through", p, q, "does not go through", at)
				}
			}
			through++
		}
	}
	if through < 10000 {
		t.Error("too few lines go through two points:", through)
	}
}

func TestLineThroughFails(t *testing.T) {
	for _, p := range badPlaces() {
		for _, q := range append([][2]int{{0, 0}, {-most, most}, p}, badPlaces()[3:9]...) {
			checkThrough(t, p, q, impl.Line{}, false)
			checkThrough(t, q, p, impl.Line{}, false)
		}
	}
}

func TestMeetingPoint(t *testing.T) {
	for _, c := range []struct {
		l, m impl.Line
		x, y int
	}{
		{line(1, 2, 0), line(0, 0, 0), -1, -1}, {line(0, 0, 0), line(0, 0, 0), 0, 0}, {line(1, 2, 0), line(1, 2, 0), -1, -2}, {line(1, 2, 0), line(3, 4, 2), -1, -2}, {line(3, 4, 2), line(-7, -6, -8), -1, -2}, {line(0, 0, 0), line(-3, 0, 0), 3, 0}, {line(0, 0, 0), line(0, -3, 0), 0, 3}, {line(0, 0, 0), line(2, 2, 0), -2, -2}, {line(0, 0, 0), line(-2, -1, 0), 1, 0}, {line(0, 0, 0), line(-1, -2, 0), 0, 1}, {line(0, 0, 0), line(1, -2, 0), 0, 2}, {line(5, 5, 5), line(3, 6, 4), 1, 0},
		{line(-most, 0, 0), line(0, 0, 0), most, 0}, {line(0, most, 0), line(0, most, 0), 0, -most}, {line(0, 0, most), line(0, 0, most), most, most}, {line(0, 0, -most), line(-1, -1, -most), -most, -most}, {line(most, most, most), line(-most, -most, -most), 0, 0}, {line(-most, 0, 1), line(0, 0, 0), most, 0}, {line(-1, 0, most), line(0, 1, most), most, most - 1}, {line(0, most, most), line(most, most, 0), 0, -most},
	} {
		checkMeeting(t, c.l, c.m, [2]int{c.x, c.y}, true)
		checkMeeting(t, c.m, c.l, [2]int{c.x, c.y}, true)
	}
	// One coordinate of these is just beyond the limit, or both are far beyond it.
	for _, c := range [][2]impl.Line{
		{line(-most, 0, 1), line(-most, 0, 1)}, {line(0, -most, 1), line(0, -most, 1)}, {line(most, 0, -1), line(most, 0, -1)}, {line(0, most, -1), line(0, most, -1)}, {line(-most, -1, 0), line(-most, 0, 1)}, {line(-1, 0, most), line(-1, -1, most)}, {line(0, -most, most), line(0, most, most)}, {line(-most, -most, most), line(-most, -most, most)}, {line(most, most, -most), line(most, most, -most)},
	} {
		checkMeeting(t, c[0], c[1], [2]int{}, false)
		checkMeeting(t, c[1], c[0], [2]int{}, false)
	}
}

func TestMeetingPointsOfManyPairs(t *testing.T) {
	lines := someLines()
	found := [2]int{}
	for _, l := range lines {
		for _, m := range lines {
			want := meetingByCenters(t, l, m)
			ok := isInRange(want[0], want[1])
			if !ok {
				want = [2]int{}
			}
			checkMeeting(t, l, m, want, ok)
			countOf(&found, ok)
		}
	}
	if min(found[0], found[1]) < 1000 {
		t.Error("meeting points within and beyond the limit:", found)
	}
}

// Guarantee 10: two lines meet in a point on both.
func TestMeetingPointsAreOnBothLines(t *testing.T) {
	lines := append(someLines(), linesOf(123456, -654321, 98765, -271828, 314159, 141421, 999, -most, 7, most, -999, 77)...)
	met := 0
	for _, l := range lines {
		for _, m := range lines {
			x, y, ok := impl.MeetingPoint(l, m)
			if !ok {
				continue
			}
			checkLinesAt(t, []impl.Line{l, m}, [2]int{x, y}, []int{0, 1}, true)
			met++
		}
	}
	if met < 10000 {
		t.Error("too few lines meet:", met)
	}
}

// Lines through one point meet in this point again, if neither has its center on the other one.
func TestLinesThroughAPointMeetThere(t *testing.T) {
	met := 0
	places := goodPlaces()[:49]
	for n, p := range places {
		for _, q := range places {
			r := places[(n*11+q[0]+q[1]+20)%len(places)]
			c, d := centerThroughBoth(t, p, q), centerThroughBoth(t, p, r)
			if isOnCentered(c, d) || isOnCentered(d, c) {
				continue
			}
			l, _ := impl.LineThrough(p[0], p[1], q[0], q[1])
			m, _ := impl.LineThrough(p[0], p[1], r[0], r[1])
			checkMeeting(t, l, m, p, true)
			met++
		}
	}
	if met < 500 {
		t.Error("too few lines meet:", met)
	}
}

func TestMeetingPointFails(t *testing.T) {
	for _, l := range badLines() {
		for _, m := range append(linesOf(0, 0, 0, most, -most, 1), l, badLines()[5]) {
			checkMeeting(t, l, m, [2]int{}, false)
			checkMeeting(t, m, l, [2]int{}, false)
		}
	}
}

func TestMoveLine(t *testing.T) {
	for _, c := range []struct {
		l      impl.Line
		dx, dy int
		want   impl.Line
	}{
		{line(1, 2, 0), 1, 2, line(0, 0, 0)}, {line(1, 2, 0), 0, 0, line(1, 2, 0)}, {line(0, 0, 7), 3, -5, line(-3, 5, 7)}, {line(0, 0, 0), most, -most, line(-most, most, 0)}, {line(most, -most, 5), most, -most, line(0, 0, 5)}, {line(most, most, most), most, most, line(0, 0, most)}, {line(1, 0, 0), 1 - most, 0, line(most, 0, 0)}, {line(-1, 0, 0), most - 1, 0, line(-most, 0, 0)}, {line(0, 1, 0), 0, 1 - most, line(0, most, 0)}, {line(0, -1, 0), 0, most - 1, line(0, -most, 0)}, {line(most, most, -most), 0, 0, line(most, most, -most)},
	} {
		checkMoved(t, c.l, [2]int{c.dx, c.dy}, c.want, true)
	}
	for _, c := range []struct {
		l      impl.Line
		dx, dy int
	}{
		{line(1, 0, 0), -most, 0}, {line(-1, 0, 0), most, 0}, {line(0, 1, 0), 0, -most}, {line(0, -1, 0), 0, most}, {line(most, 0, 0), -1, 0}, {line(-most, 0, 0), 1, 0}, {line(0, most, 0), 0, -1}, {line(0, -most, 0), 0, 1}, {line(most, most, 0), -most, -most}, {line(most, 0, 0), most + 1, 0}, {line(0, most, 0), 0, most + 1}, {line(-most, 0, 0), -most - 1, 0}, {line(0, -most, 0), 0, -most - 1}, {line(most, 0, 0), 2 * most, 0}, {line(0, -most, 0), 0, -2 * most},
	} {
		checkMoved(t, c.l, [2]int{c.dx, c.dy}, impl.Line{}, false)
	}
}

func TestLinesMoveWithTheirPoints(t *testing.T) {
	found := [2]int{}
	places := goodPlaces()
	for n, l := range goodLines() {
		for _, by := range [][2]int{{0, 0}, {most, -most}, places[n%len(places)], places[n*7%len(places)], places[n*11%len(places)]} {
			center := centerByTerms(l)
			center = [2]int{center[0] + by[0], center[1] + by[1]}
			want := line(l.C-center[0], l.C-center[1], l.C)
			ok := isInRange(want.A, want.B)
			countOf(&found, ok)
			if !ok {
				checkMoved(t, l, by, impl.Line{}, false)
				continue
			}
			checkMoved(t, l, by, want, true)
			checkMoved(t, want, [2]int{-by[0], -by[1]}, l, true)
			at := places[n*13%len(places)]
			if isInRange(at[0]+by[0], at[1]+by[1]) {
				terms, ok := impl.TermsOn(l, at[0], at[1])
				checkTerms(t, want, [2]int{at[0] + by[0], at[1] + by[1]}, terms, ok)
			}
		}
	}
	if min(found[0], found[1]) < 1000 {
		t.Error("lines moved within and beyond the limit:", found)
	}
}

func TestMoveLineFails(t *testing.T) {
	for _, l := range badLines() {
		checkMoved(t, l, [2]int{0, 0}, impl.Line{}, false)
		checkMoved(t, l, [2]int{most, -most}, impl.Line{}, false)
		// Moved back, this line would be within the range.
		checkMoved(t, l, [2]int{l.A, l.B}, impl.Line{}, false)
	}
	for _, by := range badPlaces() {
		for _, l := range append(linesOf(0, 0, 0, most, most, most, -most, -most, -most, 5, -7, 9), badLines()[0]) {
			checkMoved(t, l, by, impl.Line{}, false)
		}
	}
}

func TestSameLine(t *testing.T) {
	for _, c := range []struct {
		l, m impl.Line
		want bool
	}{
		{line(1, 2, 0), line(2, 3, 1), true}, {line(1, 2, 0), line(1, 2, 0), true}, {line(1, 2, 0), line(-4, -3, -5), true}, {line(1, 2, 0), line(2, 1, 0), false}, {line(1, 2, 0), line(1, 2, 1), false}, {line(1, 2, 0), line(1, 3, 0), false}, {line(1, 2, 0), line(0, 2, 0), false}, {line(1, 2, 0), line(2, 3, 0), false}, {line(1, 2, 0), line(2, 2, 1), false}, {line(1, 2, 0), line(1, 3, 1), false}, {line(1, 2, 0), line(-1, -2, 0), false}, {line(1, 2, 0), line(2, 4, 0), false}, {line(1, 2, 0), line(0, 1, 2), false},
		{line(most, most, most), line(-most, -most, -most), true}, {line(most, most, most), line(-most, -most, 1-most), false}, {line(most, 0, 1), line(most-1, -1, 0), true}, {line(0, 0, 0), line(most, -most, 0), false},
		// The centers of these are beyond the limit.
		{line(-most, -most, most), line(-most, -most, most), true}, {line(-1, 0, most), line(-2, -1, most-1), true}, {line(-1, 0, most), line(-1, 1, most), false}, {line(-most, 0, 1), line(1-most, 1, 2), true}, {line(-most, 0, 1), line(-most, 0, 2), false}, {line(most, most, -most), line(-most, -most, most), false}, {line(-most, 0, most), line(0, -most, most), false},
	} {
		checkSameLine(t, c.l, c.m, c.want, true)
		checkSameLine(t, c.m, c.l, c.want, true)
	}
	for _, l := range goodLines() {
		for _, by := range []int{-most, -500000, -1, 0, 1, 3, 500001, most} {
			m := line(l.A+by, l.B+by, l.C+by)
			checkSameLine(t, l, m, impl.IsLine(m), impl.IsLine(m))
		}
		for _, m := range linesOf(l.A+1, l.B, l.C, l.A, l.B-1, l.C, l.A, l.B, -l.C, l.B, l.A, l.C, l.C, l.A, l.B) {
			checkSameLine(t, l, m, isInRange(m.A, m.B, m.C) && centerByTerms(l) == centerByTerms(m), isInRange(m.A, m.B, m.C))
		}
	}
}

func TestSameLinesOfManyPairs(t *testing.T) {
	lines := someLines()
	found := [2]int{}
	for _, l := range lines {
		for _, m := range lines {
			want := centerByTerms(l) == centerByTerms(m)
			checkSameLine(t, l, m, want, true)
			countOf(&found, want)
		}
	}
	if min(found[0], found[1]) < 500 {
		t.Error("the same and different lines:", found)
	}
	for _, l := range badLines() {
		for _, m := range append(linesOf(0, 0, 0, -most, 0, most), l) {
			checkSameLine(t, l, m, false, false)
			checkSameLine(t, m, l, false, false)
		}
	}
}

// Lines with the same CenterOf are the same, and all meet each other in their centers.
func TestSameLinesHaveTheSameCenter(t *testing.T) {
	lines := someLines()
	for _, l := range lines {
		for _, m := range lines {
			x, y, ok := impl.CenterOf(l)
			u, v, fine := impl.CenterOf(m)
			if !ok || !fine {
				continue
			}
			same := x == u && y == v
			checkSameLine(t, l, m, same, true)
			if same {
				checkMeeting(t, l, m, [2]int{x, y}, true)
			}
		}
	}
}

// fullList has as many lines as there can be, of which all go through the point 2, 1.
func fullList() []impl.Line {
	return linesOf(-2, -1, 0, 0, 1, 2, -2, 0, 0, -1, -1, 0, -3, -2, 0, -2, 7, 0, 9, -1, 0, -12, -11, 0, most-2, most-1, most, -most, 1-most, 2-most, -2, 4, 0, 77, 0, 1)
}

func TestLinesAt(t *testing.T) {
	full := fullList()
	if len(full) != mostLines {
		t.Fatal("the list is not full:", len(full))
	}
	all := []int{0, 1, 2, 3, 4, 5, 6, 7, 8, 9, 10, 11}
	for _, c := range []struct {
		list []impl.Line
		x, y int
		want []int
	}{
		{nil, 0, 0, nil}, {[]impl.Line{}, most, -most, nil}, {linesOf(1, 2, 0), 5, -2, []int{0}}, {linesOf(1, 2, 0), 5, -1, nil}, {linesOf(0, 0, 0, 1, 2, 0), 5, -2, []int{1}}, {linesOf(1, 2, 0, 0, 0, 0), 5, -2, []int{0}}, {linesOf(1, 2, 0, 1, 2, 0), -1, 4, []int{0, 1}}, {linesOf(1, 2, 0, 0, 0, 0, 1, 2, 0), -1, 4, []int{0, 2}}, {linesOf(1, 2, 0, 3, 4, 2, 0, 0, 0), -1, -2, []int{0, 1}},
		{full, 2, 1, all}, {full, 2, 2, []int{0, 1, 2, 5, 8, 9, 10}}, {full, 3, 3, []int{4}}, {full, -1000, 1000, nil}, {full[:11], 2, 1, all[:11]}, {full[3:], 2, 1, all[:9]}, {slices.Repeat(linesOf(0, 0, 0), mostLines), 0, 0, all}, {slices.Repeat(linesOf(0, 0, 0), mostLines), 1, 1, nil}, {linesOf(most, most, most, -most, -most, -most, 0, 0, 0), most, 0, []int{0, 1, 2}}, {linesOf(0, 0, most, 0, 0, 1-most, 0, 0, -most), -most, -most, []int{0, 1, 2}}, {linesOf(0, 0, most-1, 0, 0, most), most, most, []int{1}},
	} {
		checkLinesAt(t, c.list, [2]int{c.x, c.y}, c.want, true)
	}
}

func TestLinesAtManyPlaces(t *testing.T) {
	lines := goodLines()
	places := goodPlaces()
	counts := map[int]int{}
	for n := range lines {
		var list []impl.Line
		for k := range n % (mostLines + 1) {
			list = append(list, lines[(n*(k+3)+k*k*5)%(125+n%2*2000)])
		}
		for _, at := range [][2]int{{n % 5, n % 3}, {0, 0}, places[n%len(places)], places[n*7%len(places)]} {
			var want []int
			for k, l := range list {
				if isOnCentered(centerByTerms(l), at) {
					want = append(want, k)
				}
			}
			checkLinesAt(t, list, at, want, true)
			counts[len(want)]++
		}
	}
	if counts[0] < 100 || counts[1] < 100 || counts[2] < 100 || counts[5] < 10 {
		t.Error("lines at a point:", counts)
	}
}

func TestLinesAtFail(t *testing.T) {
	full := fullList()
	for _, list := range [][]impl.Line{append(slices.Clone(full), line(0, 0, 0)), append(linesOf(0, 0, 0), full...), slices.Repeat(linesOf(-2, -1, 0), mostLines+1), slices.Repeat(full, 2), slices.Repeat(full, 50)} {
		checkLinesAt(t, list, [2]int{2, 1}, nil, false)
	}
	for n, bad := range badLines() {
		for _, list := range [][]impl.Line{{bad}, append(full[:n%mostLines:n%mostLines], bad), append([]impl.Line{bad}, full[n%mostLines:mostLines-1]...), slices.Concat(full[:5], []impl.Line{bad}, full[7:])} {
			checkLinesAt(t, list, [2]int{2, 1}, nil, false)
		}
	}
	for _, at := range badPlaces() {
		for _, list := range [][]impl.Line{nil, {}, linesOf(0, 0, 0), full, badLines()[:1]} {
			checkLinesAt(t, list, at, nil, false)
		}
	}
}

func TestLineTextsAreReadBack(t *testing.T) {
	for text, l := range map[string]impl.Line{
		"1 2 0": line(1, 2, 0), "0 0 0": line(0, 0, 0), "-1 2 -3": line(-1, 2, -3), "1000000 -1000000 999999": line(most, -most, most-1), "-1000000 0 1000000": line(-most, 0, most), "10 -20 -30": line(10, -20, -30),
	} {
		got, ok := impl.LineText(l)
		checkText(t, fmt.Sprint("LineText", l), got, ok, text, true)
		back, ok := impl.ParseLine(text)
		checkLine(t, fmt.Sprintf("ParseLine(%q)", text), back, ok, l, true)
	}
	for _, l := range goodLines() {
		text, ok := impl.LineText(l)
		checkText(t, fmt.Sprint("LineText", l), text, ok, textOfLine(l), true)
		back, ok := impl.ParseLine(text)
		checkLine(t, fmt.Sprintf("ParseLine(%q)", text), back, ok, l, true)
	}
	for _, l := range badLines() {
		text, ok := impl.LineText(l)
		checkText(t, fmt.Sprint("LineText", l), text, ok, "", false)
	}
}

// nearlyLineTexts are texts of no line, many of which are nearly right.
func nearlyLineTexts() []string {
	texts := []string{
		"", " ", "  ", "   ", "1", "1 ", " 1", "1 2", "1 2 ", " 1 2", "1  2", "1 2 3 ", " 1 2 3", "1  2 3", "1 2  3", " 1 2", "1 2 3 4", "1 2 3  4", "1 2 3 4 5", "12 3", "123", "1 23", "1 2 3 -", "1 2 3 inf", "1 2 3 0", "0 0 0 0", " 0 0 0", "0 0 0 ",
		"1,2,3", "1, 2, 3", "1\t2\t3", "1\n2\n3", "1 2 3\n", "\n1 2 3", "1 2\n3", "1 2 3\r", "1 2 3;", "1 2 3.", "1_2_3", "1\x002\x003", "1 2 3\x00", "\x001 2 3", "1\u00a02\u00a03", "1\u20032\u20033", "(1 2 3)", "{1 2 3}", "[1 2 3]", "1:2:3", "1 2,3", "1,2 3", "1;2;3;",
		"+1 2 3", "1 +2 3", "1 2 +3", "-0 2 3", "1 -0 3", "1 2 -0", "--1 2 3", "1 --2 3", "1 2 --3", "- 2 3", "1 - 3", "1 2 -", "- 1 2 3", "1 - 2 3", "1- 2 3", "1-2-3", "1 2 3-", "−1 2 3", "01 2 3", "1 02 3", "1 2 03", "00 2 3", "1 00 3", "1 2 00", "-01 2 3", "1 -02 3", "1 2 -03",
		"a 2 3", "1 b 3", "1 2 c", "1e1 2 3", "1 0x2 3", "1 2 1_0", "1.0 2 3", "1 2.5 3", "1 2 3/1", "1/2 2 3", "１ 2 3", "1 ٢ 3", "\xff 2 3", "1 \xff 3", "inf 2 3", "1 inf 3", "1 2 inf", "inf inf inf", "-inf 2 3", "1 Inf 3", "1 2 INF", "nan 2 3",
		"1000001 2 3", "1 1000001 3", "1 2 1000001", "-1000001 2 3", "1 -1000001 3", "1 2 -1000001", "1000000000 2 3", "1 1000000000 3", "1 2 1000000000", "9223372036854775808 2 3", "1 18446744073709551617 3", "1 2 4294967297", "1 2 -9223372036854775809", "10000000 2 3",
		strings.Repeat("9", 1000) + " 2 3", "1 2 " + strings.Repeat("0", 100) + "3", strings.Repeat(" ", 1000), strings.Repeat("1 ", 1000), strings.Repeat("1 2 3 ", 100), "1 2 3" + strings.Repeat(" ", 100), strings.Repeat(" ", 100) + "1 2 3",
	}
	for _, l := range badLines() {
		texts = append(texts, textOfLine(l))
	}
	for n, l := range goodLines()[:60] {
		text := textOfLine(l)
		texts = append(texts, text+" ", " "+text, text+" 5", "7 "+text, text+text, text[:len(text)-1], strings.ReplaceAll(text, " ", "  "), strings.ReplaceAll(text, " ", ","), strings.Replace(text, " ", "", 1+n%2))
	}
	return texts
}

func TestParseLine(t *testing.T) {
	for _, s := range nearlyLineTexts() {
		got, ok := impl.ParseLine(s)
		checkLine(t, fmt.Sprintf("ParseLine(%q)", s), got, ok, impl.Line{}, false)
	}
}
