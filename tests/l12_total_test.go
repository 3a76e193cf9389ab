package tests

import (
	"fmt"
	"slices"
	"strings"
	"testing"

	"loop.example/g01056/impl"
)

// Guarantee 33, chapter 12: every function accepts all arguments without panicking and modifies none of them.

// matrixCall is a call with two matrices, a vector and a number, of which it uses some.
type matrixCall func(a [][]int, b [][]int, v []int, n int) outcome

// callsWithMatrices lists the functions of chapter 12 that take matrices and whose result is one.
func callsWithMatrices() map[string]func(a [][]int, b [][]int, n int) ([][]int, bool) {
	return map[string]func([][]int, [][]int, int) ([][]int, bool){
		"SumOfMatrices":    func(a [][]int, b [][]int, _ int) ([][]int, bool) { return impl.SumOfMatrices(a, b) },
		"MultiplyMatrices": func(a [][]int, b [][]int, _ int) ([][]int, bool) { return impl.MultiplyMatrices(a, b) },
		"PowerOfMatrix":    func(a [][]int, _ [][]int, n int) ([][]int, bool) { return impl.PowerOfMatrix(a, n) },
		"TransposeMatrix":  func(a [][]int, _ [][]int, _ int) ([][]int, bool) { return impl.TransposeMatrix(a) },
		"ShiftMatrix":      func(a [][]int, _ [][]int, n int) ([][]int, bool) { return impl.ShiftMatrix(a, n) },
	}
}

// callsOnMatrices lists the functions of chapter 12 that take matrices.
func callsOnMatrices() map[string]matrixCall {
	calls := map[string]matrixCall{
		"IsMatrix": func(a [][]int, _ [][]int, _ []int, _ int) outcome { return outcome{ok: impl.IsMatrix(a)} },
		"ApplyMatrix": func(a [][]int, _ [][]int, v []int, _ int) outcome {
			l, ok := impl.ApplyMatrix(a, v)
			return outcome{numbers: l, ok: ok}
		},
		"PermanentOf": func(a [][]int, _ [][]int, _ []int, _ int) outcome {
			n, ways, ok := impl.PermanentOf(a)
			return outcome{numbers: []int{n, ways}, ok: ok}
		},
		"TraceOf": func(a [][]int, _ [][]int, _ []int, _ int) outcome {
			n, ok := impl.TraceOf(a)
			return outcome{numbers: []int{n}, ok: ok}
		},
		"MatrixText": func(a [][]int, _ [][]int, _ []int, _ int) outcome {
			s, ok := impl.MatrixText(a)
			return outcome{text: s, ok: ok}
		},
	}
	for name, call := range callsWithMatrices() {
		calls[name] = func(a [][]int, b [][]int, _ []int, n int) outcome {
			m, ok := call(a, b, n)
			return outcome{numbers: numbersOfLists(m), ok: ok}
		}
	}
	return calls
}

// checkMatrixCall makes one call with nothing behind all lists, and then with two different numbers behind each of them, and compares all.
func checkMatrixCall(t *testing.T, name string, call matrixCall, a [][]int, b [][]int, v []int, n int) {
	t.Helper()
	first := call(clippedLists(a), clippedLists(b), slices.Clip(slices.Clone(v)), n)
	if !first.ok && !first.isZero() {
		t.Errorf("%s%v%v%v %d fails with %v", name, a, b, v, n, first)
	}
	for _, spare := range []int{-1000000, 77} {
		l, m, w := withSpareLists(a, spare), withSpareLists(b, spare), withSpare(v, spare)
		if got := call(l, m, w, n); !got.equals(first) {
			t.Errorf("%s%v%v%v %d depends on what is behind the lists: %v, %v", name, a, b, v, n, first, got)
		}
		if !areUntouched(l, a, spare) || !areUntouched(m, b, spare) || !isUntouched(w, v, spare) {
			t.Errorf("%s%v%v%v %d changes an argument", name, a, b, v, n)
		}
	}
}

// someMatrices returns good and bad matrices of all sizes and kinds.
func someMatrices() [][][]int {
	some := someBadMatrices()
	for n, m := range goodMatrices() {
		if n%3 == 0 {
			some = append(some, m)
		}
	}
	return some
}

func TestMatrixCallsAreTotalAndModifyNothing(t *testing.T) {
	all := someMatrices()
	numbers := append([]int{4, 6, 7, 8}, edgeNumbers()...)
	for name, call := range callsOnMatrices() {
		for i, a := range all {
			others := append([][][]int{a, all[(i*7+3)%len(all)], nil}, filled(2, 2, 0), filled(3, 3, -1))
			for j, b := range others {
				v := repeated((i+j)%8, numbers[(i*3+j)%len(numbers)])
				checkMatrixCall(t, name, call, a, b, v, numbers[(i+j*5)%len(numbers)])
				checkMatrixCall(t, name, call, b, a, repeated(2, j), numbers[(i*5+j)%len(numbers)])
			}
		}
	}
}

func TestMatrixCallsTakeAllNumbers(t *testing.T) {
	for name, call := range callsOnMatrices() {
		for _, x := range edgeNumbers() {
			for _, y := range edgeNumbers() {
				checkMatrixCall(t, name, call, rows(1, x), rows(1, y), []int{y}, y)
				checkMatrixCall(t, name, call, rows(2, x, y, y, x), rows(2, y, x, 0, y), []int{x, y}, y)
				checkMatrixCall(t, name, call, rows(2, 1, x, inf, 0), rows(2, y, 1), []int{0, y}, x)
			}
		}
	}
}

func TestMatrixCallsTakeVectorsOfAllKinds(t *testing.T) {
	vectors := append(badLists(), nil, []int{}, repeated(6, inf), repeated(6, most), repeated(7, 0))
	for name, call := range callsOnMatrices() {
		for n, v := range vectors {
			for width := 1; width <= mostSize; width++ {
				checkMatrixCall(t, name, call, filled(n%mostSize+1, width, n), nil, v, width)
			}
		}
	}
}

func TestUnitMatrixAndParseMatrixAreTotal(t *testing.T) {
	for _, n := range edgeNumbers() {
		m, ok := impl.UnitMatrix(n)
		if ok != (n >= 1 && n <= mostSize) || !ok && len(m) > 0 || ok && len(m) != n {
			t.Errorf("UnitMatrix(%d): got %v, %t", n, m, ok)
		}
	}
	texts := append(nearlyMatrixTexts(), strings.Repeat("0 3;", 100000), strings.Repeat("9", 100000), strings.Repeat(" ", 100000), strings.Repeat(";", 100000), strings.Repeat("-", 100000), strings.Repeat("\x00", 50), "\xff\xfe;", "0\x80;")
	for _, text := range append(texts, textsOf([]string{"1", "-", "inf", " ", ";", "\x00", "\xff", "0"}, 4)...) {
		m, ok := impl.ParseMatrix(text)
		again, fine := impl.ParseMatrix(text)
		checkLists(t, fmt.Sprintf("ParseMatrix(%q)", text), again, fine, m, ok)
		if written, _ := impl.MatrixText(m); ok != isMatrix(m) || ok && written != text || !ok && len(m) > 0 {
			t.Errorf("ParseMatrix(%q): got %v, %t", text, m, ok)
		}
	}
}

// checkNewMatrix makes one call twice and changes all rows of one result, and then the arguments: no row may change with another one, and neither an argument nor the other result.
// It reports whether the call succeeded.
func checkNewMatrix(t *testing.T, text string, a [][]int, b [][]int, call func(a [][]int, b [][]int) ([][]int, bool)) bool {
	t.Helper()
	spare := 12345
	l, m := withSpareLists(a, spare), withSpareLists(b, spare)
	result, isResult := call(l, m)
	other, isOther := call(l, m)
	want, _ := call(a, b)
	checkListsAreApart(t, text, result)
	if !areUntouched(l, a, spare) || !areUntouched(m, b, spare) {
		t.Errorf("%s: an argument changes with the result", text)
	}
	for _, argument := range [][][]int{l, m} {
		for _, row := range argument {
			fill(row[:cap(row)], 777)
		}
		fill(argument[:cap(argument)], []int{777})
	}
	checkLists(t, text+" after changes", other, isOther, want, isResult)
	return isResult
}

func TestRowsOfResultsAreNew(t *testing.T) {
	for name, call := range callsWithMatrices() {
		results := 0
		all := goodMatrices()
		for n, a := range all {
			others := fitting(all, len(a[0]))
			for _, b := range [][][]int{a, turned(a), others[n%len(others)]} {
				for _, number := range []int{0, 1, 2, 20} {
					if checkNewMatrix(t, fmt.Sprint(name, a, b, number), a, b, func(a [][]int, b [][]int) ([][]int, bool) { return call(a, b, number) }) {
						results++
					}
				}
			}
		}
		if results < 1000 {
			t.Error(name, "succeeds too seldom:", results)
		}
	}
}

func TestRowsOfUnitsAndParsedMatricesAreNew(t *testing.T) {
	for n := 1; n <= mostSize; n++ {
		if !checkNewMatrix(t, fmt.Sprint("UnitMatrix ", n), nil, nil, func([][]int, [][]int) ([][]int, bool) { return impl.UnitMatrix(n) }) {
			t.Error("there is no unit of the size", n)
		}
	}
	for _, m := range goodMatrices() {
		text := textOfMatrix(m)
		if !checkNewMatrix(t, "ParseMatrix "+text, nil, nil, func([][]int, [][]int) ([][]int, bool) { return impl.ParseMatrix(text) }) {
			t.Error("there is no matrix with the text", text)
		}
	}
}

// The rows of an argument may be in the same memory, while those of a result may not.
func TestRowsInTheSameMemory(t *testing.T) {
	same := []int{1, 2}
	m := [][]int{same, same}
	for name, call := range callsWithMatrices() {
		result, ok := call(m, m, 1)
		if !ok || len(result) != 2 {
			t.Error(name, "fails")
		}
		checkListsAreApart(t, name, result)
		if !slices.Equal(same, []int{1, 2}) {
			t.Error(name, "changes its argument")
		}
	}
}

func TestAppliedVectorsAreNew(t *testing.T) {
	lists := 0
	for _, m := range goodMatrices() {
		argument := withSpareLists(m, 12345)
		apply := func(v []int) ([]int, bool) { return impl.ApplyMatrix(argument, v) }
		for _, number := range []int{0, 5, inf} {
			if checkNewList(t, "ApplyMatrix", repeated(len(m[0]), number), [2]int{123, 77}, apply) {
				lists++
			}
		}
		if !areUntouched(argument, m, 12345) {
			t.Errorf("ApplyMatrix%v: the matrix changes with the result", m)
		}
		result, ok := apply(repeated(len(m[0]), inf))
		for _, row := range argument {
			fill(row[:cap(row)], 777)
		}
		checkList(t, "ApplyMatrix after changes", result, ok, repeated(len(m), inf), true)
	}
	if lists < 1000 {
		t.Error("ApplyMatrix succeeds too seldom:", lists)
	}
}

// The same rows in a list with more behind it and in one without give the same, also where what is behind would make another matrix.
func TestMatrixCallsReadNothingBehindTheRows(t *testing.T) {
	all := filled(7, 7, -5)
	for i, row := range all {
		all[i] = row[:6]
	}
	m := all[:6]
	for name, call := range callsOnMatrices() {
		got := call(m, m, repeated(7, -5)[:6], 2)
		if want := call(filled(6, 6, -5), filled(6, 6, -5), repeated(6, -5), 2); !got.equals(want) {
			t.Error(name, "reads behind the rows")
		}
	}
	if n, ways, ok := impl.PermanentOf(m); n != -30 || ways != 720 || !ok {
		t.Error("PermanentOf", n, ways, ok)
	}
}
