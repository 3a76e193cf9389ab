package tests

import (
	"fmt"
	"slices"
	"strings"
	"testing"

	"loop.example/g01056/impl"
)

// Guarantee 33, chapter 1: every function accepts all arguments without panicking and modifies none of them.

// outcome is all that a call returned.
type outcome struct {
	numbers []int
	flags   []bool
	text    string
	ok      bool
}

func (o outcome) isZero() bool {
	return !slices.ContainsFunc(o.numbers, func(n int) bool { return n != 0 }) && !slices.Contains(o.flags, true) && o.text == ""
}

func (o outcome) equals(p outcome) bool {
	return slices.Equal(o.numbers, p.numbers) && slices.Equal(o.flags, p.flags) && o.text == p.text && o.ok == p.ok
}

// allLists returns valid and invalid lists of all kinds, among them every pair of edge numbers.
func allLists() [][]int {
	lists := append(manyLists(), badLists()...)
	for _, a := range edgeNumbers() {
		for _, b := range edgeNumbers() {
			lists = append(lists, []int{a, b})
		}
	}
	return lists
}

// callsOnNumbers lists the functions of chapter 1 that take numbers alone.
func callsOnNumbers() map[string]func(a int, b int) outcome {
	pair := func(f func(int, int) (int, bool)) func(int, int) outcome {
		return func(a int, b int) outcome {
			n, ok := f(a, b)
			return outcome{numbers: []int{n}, ok: ok}
		}
	}
	return map[string]func(int, int) outcome{
		"TropSum":      pair(impl.TropSum),
		"TropProduct":  pair(impl.TropProduct),
		"TropQuotient": pair(impl.TropQuotient),
		"TropPower":    pair(impl.TropPower),
		"IsNumber":     func(a int, _ int) outcome { return outcome{ok: impl.IsNumber(a)} },
		"NumberText": func(a int, _ int) outcome {
			s, ok := impl.NumberText(a)
			return outcome{text: s, ok: ok}
		},
	}
}

// callsOnLists lists the functions of chapter 1 that take a list, with one more list and number for those that need them.
func callsOnLists() map[string]func(l []int, m []int, n int) outcome {
	return map[string]func([]int, []int, int) outcome{
		"TropSumOf": func(l []int, _ []int, _ int) outcome {
			n, ok := impl.TropSumOf(l)
			return outcome{numbers: []int{n}, ok: ok}
		},
		"LeastPlaces": func(l []int, _ []int, _ int) outcome {
			p, ok := impl.LeastPlaces(l)
			return outcome{numbers: p, ok: ok}
		},
		"DoesVanish": func(l []int, _ []int, _ int) outcome {
			v, ok := impl.DoesVanish(l)
			return outcome{flags: []bool{v}, ok: ok}
		},
		"TropDot": func(l []int, m []int, _ int) outcome {
			n, ok := impl.TropDot(l, m)
			return outcome{numbers: []int{n}, ok: ok}
		},
		"ShiftList": func(l []int, _ []int, by int) outcome {
			s, ok := impl.ShiftList(l, by)
			return outcome{numbers: s, ok: ok}
		},
		"NormalList": func(l []int, _ []int, _ int) outcome {
			s, before, ok := impl.NormalList(l)
			return outcome{numbers: append(slices.Clone(s), before), ok: ok}
		},
	}
}

func TestNumberCallsAreTotal(t *testing.T) {
	for name, call := range callsOnNumbers() {
		for _, a := range edgeNumbers() {
			for _, b := range edgeNumbers() {
				first := call(a, b)
				if !first.ok && !first.isZero() {
					t.Errorf("%s(%d, %d) fails with %v", name, a, b, first)
				}
				if again := call(a, b); !again.equals(first) {
					t.Errorf("%s(%d, %d) gives %v and then %v", name, a, b, first, again)
				}
			}
		}
	}
}

func TestListCallsAreTotalAndModifyNothing(t *testing.T) {
	lists := allLists()
	by := edgeNumbers()
	for name, call := range callsOnLists() {
		for i, l := range lists {
			checkListCall(t, name, call, l, lists[(i+7)%len(lists)], by[i%len(by)])
			checkListCall(t, name, call, l, l, by[(i+3)%len(by)])
		}
	}
}

// checkListCall makes one call three times, with different numbers behind the ends of the lists, and compares all.
func checkListCall(t *testing.T, name string, call func([]int, []int, int) outcome, l []int, m []int, by int) {
	t.Helper()
	text := fmt.Sprint(name, l, m, by)
	first := call(slices.Clip(slices.Clone(l)), slices.Clip(slices.Clone(m)), by)
	if !first.ok && !first.isZero() {
		t.Errorf("%s fails with %v", text, first)
	}
	for _, spare := range []int{-1000000, 77} {
		a, b := withSpare(l, spare), withSpare(m, spare)
		if got := call(a, b, by); !got.equals(first) {
			t.Errorf("%s depends on what is behind the list: %v, %v", text, first, got)
		}
		if !isUntouched(a, l, spare) || !isUntouched(b, m, spare) {
			t.Errorf("%s changes an argument", text)
		}
	}
}

// resultsWithLists lists the functions of chapter 1 whose result is a list.
func resultsWithLists() map[string]func(l []int) ([]int, bool) {
	return map[string]func([]int) ([]int, bool){
		"LeastPlaces": impl.LeastPlaces,
		"ShiftList":   func(l []int) ([]int, bool) { return impl.ShiftList(l, 0) },
		"NormalList":  func(l []int) ([]int, bool) { r, _, ok := impl.NormalList(l); return r, ok },
	}
}

func TestListsOfResultsAreNew(t *testing.T) {
	for name, call := range resultsWithLists() {
		lists := 0
		for _, l := range manyLists() {
			if checkNewList(t, name, l, [2]int{123, 77}, call) {
				lists++
			}
		}
		if lists < 100 {
			t.Error(name, "succeeds too seldom:", lists)
		}
	}
}

func TestParseNumberIsTotal(t *testing.T) {
	texts := []string{"", "inf", "1000000", "-0", strings.Repeat("9", 100000), strings.Repeat("-", 100000), strings.Repeat("\x00", 50)}
	signs := "-+ 019inf.\x00\xff_"
	for _, a := range []byte(signs) {
		for _, b := range []byte(signs) {
			for _, c := range []byte(signs) {
				texts = append(texts, string([]byte{a}), string([]byte{a, b}), string([]byte{a, b, c}))
			}
		}
	}
	for _, s := range texts {
		n, ok := impl.ParseNumber(s)
		text, fine := impl.NumberText(n)
		if !ok && n != 0 || ok && (!fine || text != s) {
			t.Errorf("ParseNumber(%q): got %d, %t", s, n, ok)
		}
	}
}
