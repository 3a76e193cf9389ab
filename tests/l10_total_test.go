package tests

import (
	"slices"
	"strings"
	"testing"

	"loop.example/g01056/impl"
)

// Guarantee 33, chapter 10: every function accepts all arguments without panicking and modifies none of them.

// lineCall is a function of chapter 10, with a list whose first lines are for those that take one or two of them, and with four numbers for those that need them.
type lineCall func(list []impl.Line, n [4]int) outcome

func lineOutcome(l impl.Line, ok bool) outcome {
	return outcome{numbers: []int{l.A, l.B, l.C}, ok: ok}
}

func placeOutcome(x int, y int, ok bool) outcome {
	return outcome{numbers: []int{x, y}, ok: ok}
}

// callsOnLines lists the functions of chapter 10 but for ParseLine. Their lists have at least two lines.
func callsOnLines() map[string]lineCall {
	return map[string]lineCall{
		"IsLine":       func(l []impl.Line, _ [4]int) outcome { return outcome{ok: impl.IsLine(l[0])} },
		"CenterOf":     func(l []impl.Line, _ [4]int) outcome { return placeOutcome(impl.CenterOf(l[0])) },
		"LineThrough":  func(_ []impl.Line, n [4]int) outcome { return lineOutcome(impl.LineThrough(n[0], n[1], n[2], n[3])) },
		"MeetingPoint": func(l []impl.Line, _ [4]int) outcome { return placeOutcome(impl.MeetingPoint(l[0], l[1])) },
		"MoveLine":     func(l []impl.Line, n [4]int) outcome { return lineOutcome(impl.MoveLine(l[0], n[0], n[1])) },
		"TermsOn": func(l []impl.Line, n [4]int) outcome {
			terms, ok := impl.TermsOn(l[0], n[0], n[1])
			return outcome{numbers: terms, ok: ok}
		},
		"IsOnLine": func(l []impl.Line, n [4]int) outcome {
			is, ok := impl.IsOnLine(l[0], n[0], n[1])
			return outcome{flags: []bool{is}, ok: ok}
		},
		"SameLine": func(l []impl.Line, _ [4]int) outcome {
			is, ok := impl.SameLine(l[0], l[1])
			return outcome{flags: []bool{is}, ok: ok}
		},
		"LinesAt": func(l []impl.Line, n [4]int) outcome {
			indices, ok := impl.LinesAt(l, n[0], n[1])
			return outcome{numbers: indices, ok: ok}
		},
		"LineText": func(l []impl.Line, _ [4]int) outcome {
			text, ok := impl.LineText(l[0])
			return outcome{text: text, ok: ok}
		},
	}
}

// checkLineCall makes one call with nothing behind its list, and then with two different lines behind it.
func checkLineCall(t *testing.T, name string, call lineCall, list []impl.Line, n [4]int) {
	t.Helper()
	first := call(slices.Clip(slices.Clone(list)), n)
	if !first.ok && !first.isZero() {
		t.Errorf("%s%v %v fails with %v", name, list, n, first)
	}
	for _, spare := range linesOf(-n[0], -n[1], 0, most+1, 77, 7) {
		l := withSpare(list, spare)
		if got := call(l, n); !got.equals(first) {
			t.Errorf("%s%v %v depends on what is behind the list: %v, %v", name, list, n, first, got)
		}
		if !isUntouched(l, list, spare) {
			t.Errorf("%s%v %v changes an argument", name, list, n)
		}
	}
}

func TestLineCallsAreTotalAndModifyNothing(t *testing.T) {
	lines := append(goodLines(), badLines()...)
	places := append(goodPlaces(), badPlaces()...)
	for name, call := range callsOnLines() {
		for i := range lines {
			p, q := places[i%len(places)], places[i*7%len(places)]
			n := [4]int{p[0], p[1], q[0], q[1]}
			for _, length := range []int{2, 3, mostLines, mostLines + 1} {
				from := i * length % (len(lines) - length)
				checkLineCall(t, name, call, lines[from:from+length], n)
			}
			checkLineCall(t, name, call, []impl.Line{lines[i], lines[i*31%len(lines)]}, n)
		}
	}
}

func TestLineCallsTakeAllNumbers(t *testing.T) {
	edges := edgeNumbers()
	for name, call := range callsOnLines() {
		for i, x := range edges {
			for j, y := range edges {
				z := edges[(i*5+j*3)%len(edges)]
				checkLineCall(t, name, call, linesOf(0, 0, 0, x, y, z), [4]int{x, y, z, x})
				checkLineCall(t, name, call, linesOf(x, y, z, 1, 2, 0), [4]int{0, 1, y, x})
				checkLineCall(t, name, call, linesOf(z, z, z, y, x, z), [4]int{1, x, 2, y})
			}
		}
	}
}

// LinesAt alone takes a list that may be empty.
func TestLinesAtReadsNothingBehindTheList(t *testing.T) {
	call := callsOnLines()["LinesAt"]
	for _, at := range append(goodPlaces(), badPlaces()...) {
		for _, list := range [][]impl.Line{nil, {}, linesOf(0, 0, 0), fullList(), fullList()[:11]} {
			checkLineCall(t, "LinesAt", call, list, [4]int{at[0], at[1]})
		}
	}
}

func TestTermsAndIndicesOfLinesAreNew(t *testing.T) {
	full := fullList()
	for _, at := range goodPlaces() {
		for _, l := range full {
			checkNewResult(t, "TermsOn", 9, func() ([]int, bool) { return impl.TermsOn(l, at[0], at[1]) })
		}
		for n := range full {
			checkNewResult(t, "LinesAt", 99, func() ([]int, bool) { return impl.LinesAt(full[:n], at[0], at[1]) })
		}
	}
	checkNewResult(t, "LinesAt", 99, func() ([]int, bool) { return impl.LinesAt(full, 2, 1) })
}

func TestParseLineIsTotal(t *testing.T) {
	texts := append(nearlyLineTexts(), strings.Repeat("9", 100000), strings.Repeat(" ", 100000), strings.Repeat("1 ", 100000), strings.Repeat("\x00", 50), strings.Repeat("-", 100000), strings.Repeat(" 1 2 3", 100000))
	texts = append(texts, textsOf([]string{"-", "+", " ", "0", "1", "7", ",", "inf", "\xff"}, 5)...)
	texts = append(texts, textsOf([]string{"12", "-3", "1000000", "-1000000", "1000001", " ", "0"}, 5)...)
	read := 0
	for _, s := range texts {
		l, ok := impl.ParseLine(s)
		text, fine := impl.LineText(l)
		if !fine || !ok && l != (impl.Line{}) || ok && text != s {
			t.Errorf("ParseLine(%q): got %v, %t", s, l, ok)
		}
		if ok {
			read++
		}
	}
	if read < 20 {
		t.Error("too few texts are read:", read)
	}
}
