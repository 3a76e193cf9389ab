package tests

import (
	"fmt"
	"slices"
	"strings"
	"testing"

	"loop.example/g01056/impl"
)

// Guarantee 33, chapter 2: every function accepts all arguments without panicking and modifies none of them.

// fracOutcome is what a call returned that has a fraction as its result.
func fracOutcome(f impl.Frac, ok bool) outcome {
	return outcome{numbers: []int{f.Num, f.Den}, ok: ok}
}

// callsOnFracs lists the functions of chapter 2 that take fractions, one or two of them.
func callsOnFracs() map[string]func(a impl.Frac, b impl.Frac) outcome {
	calls := map[string]func(impl.Frac, impl.Frac) outcome{
		"IsFrac": func(a impl.Frac, _ impl.Frac) outcome { return outcome{ok: impl.IsFrac(a)} },
		"CompareFracs": func(a impl.Frac, b impl.Frac) outcome {
			n, ok := impl.CompareFracs(a, b)
			return outcome{numbers: []int{n}, ok: ok}
		},
		"FloorFrac": func(a impl.Frac, _ impl.Frac) outcome {
			n, ok := impl.FloorFrac(a)
			return outcome{numbers: []int{n}, ok: ok}
		},
		"CeilFrac": func(a impl.Frac, _ impl.Frac) outcome {
			n, ok := impl.CeilFrac(a)
			return outcome{numbers: []int{n}, ok: ok}
		},
		"FracText": func(a impl.Frac, _ impl.Frac) outcome {
			s, ok := impl.FracText(a)
			return outcome{text: s, ok: ok}
		},
	}
	for _, o := range fourOperations() {
		calls[o.name] = func(a impl.Frac, b impl.Frac) outcome { return fracOutcome(o.of(a, b)) }
	}
	return calls
}

// anyFracs are fractions and what is none, among it every pair of edge numbers.
func anyFracs() []impl.Frac {
	fracs := allFracs()
	for _, n := range edgeParts() {
		for _, d := range edgeParts() {
			fracs = append(fracs, frac(n, d))
		}
	}
	return fracs
}

func TestFracCallsAreTotal(t *testing.T) {
	fracs := anyFracs()
	for name, call := range callsOnFracs() {
		for _, a := range fracs {
			for _, b := range []impl.Frac{a, {Num: a.Den, Den: a.Num}, {Num: -a.Num, Den: a.Den}, {Num: 1, Den: 3}, {}} {
				checkFracCall(t, name, call, a, b)
				checkFracCall(t, name, call, b, a)
			}
		}
	}
}

// checkFracCall makes one call twice, and compares both.
func checkFracCall(t *testing.T, name string, call func(impl.Frac, impl.Frac) outcome, a impl.Frac, b impl.Frac) {
	t.Helper()
	first := call(a, b)
	if !first.ok && !first.isZero() {
		t.Errorf("%s%v%v fails with %v", name, a, b, first)
	}
	if again := call(a, b); !again.equals(first) {
		t.Errorf("%s%v%v gives %v and then %v", name, a, b, first, again)
	}
}

func TestFracOfIsTotal(t *testing.T) {
	for _, n := range edgeParts() {
		for _, d := range edgeParts() {
			got, ok := impl.FracOf(n, d)
			if ok != impl.IsFrac(got) || !ok && got != (impl.Frac{}) {
				t.Errorf("FracOf(%d, %d): got %v, %t", n, d, got, ok)
			}
		}
	}
}

func TestMeanOfNumbersIsTotalAndModifiesNothing(t *testing.T) {
	lists := append(allLists(), badMeanLists()...)
	lists = append(lists, repeated(40, 7), append(repeated(39, -most), most), append(repeated(20, 1), repeated(20, 2)...))
	for _, l := range lists {
		first := fracOutcome(impl.MeanOfNumbers(slices.Clip(slices.Clone(l))))
		if !first.ok && !first.isZero() {
			t.Errorf("MeanOfNumbers%v fails with %v", l, first)
		}
		for _, spare := range []int{-most, 77} {
			argument := withSpare(l, spare)
			if got := fracOutcome(impl.MeanOfNumbers(argument)); !got.equals(first) {
				t.Errorf("MeanOfNumbers%v depends on what is behind the list: %v, %v", l, first, got)
			}
			if !isUntouched(argument, l, spare) {
				t.Errorf("MeanOfNumbers%v changes its argument", l)
			}
		}
	}
}

func TestParseFracIsTotal(t *testing.T) {
	texts := append(nearlyFracTexts(), strings.Repeat("9", 100000), strings.Repeat("/", 100000), strings.Repeat("\x00", 50), "1/"+strings.Repeat("-", 100000))
	texts = append(texts, textsOf([]string{"-", "+", " ", "0", "1", "2", "9", "/", "\x00", "\xff", "_"}, 4)...)
	read := 0
	for _, s := range texts {
		f, ok := impl.ParseFrac(s)
		text, fine := impl.FracText(f)
		if !ok && f != (impl.Frac{}) || ok && (!fine || text != s) {
			t.Errorf("ParseFrac(%q): got %s, %t", s, fmt.Sprint(f), ok)
		}
		if ok {
			read++
		}
	}
	if read < 50 {
		t.Error("too few texts are read:", read)
	}
}
