package tests

import (
	"math"
	"slices"
	"testing"
)

// edgeNumbers are whole numbers at, just within and just beyond every limit of chapter 1.
func edgeNumbers() []int {
	return []int{
		math.MinInt, math.MinInt + 1, -2000000000, -1000000001, -1000000000, -999999999,
		-1000001, -1000000, -999999, -500001, -500000, -50001, -50000, -21, -20, -2, -1,
		0, 1, 2, 3, 5, 19, 20, 21, 50000, 50001, 500000, 500001,
		999999, 1000000, 1000001, 999999999, 1000000000, 1000000001, 2000000000, math.MaxInt - 1, math.MaxInt,
	}
}

// repeated returns a list of n times the same number.
func repeated(n int, number int) []int {
	return slices.Repeat([]int{number}, n)
}

// withSpare returns a list with the same elements, and spare capacity behind them that is filled with one element.
func withSpare[T any](l []T, spare T) []T {
	full := append(slices.Clone(l), slices.Repeat([]T{spare}, 4)...)
	return full[:len(l)]
}

// isUntouched reports whether a list made by withSpare is as it was made.
func isUntouched[T comparable](l []T, elements []T, spare T) bool {
	behind := l[len(l) : len(elements)+4]
	return slices.Equal(l, elements) && slices.Equal(behind, slices.Repeat([]T{spare}, 4))
}

// clippedLists returns lists with the same elements and with nothing behind each of them.
func clippedLists[T any](lists [][]T) [][]T {
	clipped := make([][]T, len(lists))
	for n, l := range lists {
		clipped[n] = slices.Clip(slices.Clone(l))
	}
	return clipped
}

// withSpareLists returns lists with the same elements, with a spare one behind each of them and in lists behind the last one.
func withSpareLists[T any](lists [][]T, spare T) [][]T {
	inner := make([][]T, len(lists))
	for n, l := range lists {
		inner[n] = withSpare(l, spare)
	}
	return withSpare(inner, []T{spare})
}

// areUntouched reports whether lists made by withSpareLists are as they were made.
func areUntouched[T comparable](l [][]T, lists [][]T, spare T) bool {
	for n := range lists {
		if !isUntouched(l[n], lists[n], spare) {
			return false
		}
	}
	behind := l[len(l) : len(lists)+4]
	return len(l) == len(lists) && slices.EqualFunc(behind, slices.Repeat([][]T{{spare}}, 4), slices.Equal[[]T])
}

func fill[T any](l []T, with T) {
	for i := range l {
		l[i] = with
	}
}

// textsOf returns all texts of up to so many pieces, one behind the other, but for the empty one.
func textsOf(pieces []string, count int) []string {
	var texts []string
	layer := []string{""}
	for range count {
		var next []string
		for _, s := range layer {
			for _, piece := range pieces {
				next = append(next, s+piece)
			}
		}
		texts = append(texts, next...)
		layer = next
	}
	return texts
}

// checkNumber fails the test unless a call gave the expected number and success.
func checkNumber(t *testing.T, call string, got int, gotOK bool, want int, wantOK bool) {
	t.Helper()
	if got != want || gotOK != wantOK {
		t.Errorf("%s: got %d, %t; want %d, %t", call, got, gotOK, want, wantOK)
	}
}

// checkList fails the test unless a call gave the expected list and success; nil and an empty list are the same.
func checkList[T comparable](t *testing.T, call string, got []T, gotOK bool, want []T, wantOK bool) {
	t.Helper()
	if !slices.Equal(got, want) || gotOK != wantOK {
		t.Errorf("%s: got %v, %t; want %v, %t", call, got, gotOK, want, wantOK)
	}
}

// checkNewList makes one call twice, changes one result and then the argument to two elements that are nowhere else, and fails the test if the argument or the other result changes with them.
// It tells whether the call succeeded.
func checkNewList[T comparable](t *testing.T, name string, l []T, changes [2]T, call func(argument []T) ([]T, bool)) bool {
	t.Helper()
	argument := withSpare(l, changes[1])
	result, ok := call(argument)
	if !ok {
		return false
	}
	other, _ := call(argument)
	want := slices.Clone(result)
	fill(result[:cap(result)], changes[0])
	if !isUntouched(argument, l, changes[1]) || !slices.Equal(other, want) {
		t.Errorf("%s%v: the result shares memory", name, l)
	}
	fill(argument, changes[1])
	if !slices.Equal(other, want) {
		t.Errorf("%s%v: the result changes with the argument", name, l)
	}
	return true
}
