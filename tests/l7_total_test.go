package tests

import (
	"fmt"
	"slices"
	"testing"

	"loop.example/g01056/impl"
)

// Guarantee 33, chapter 7: every function accepts all arguments without panicking and modifies none of them.

// numbersOfLists tells lists apart also where they have the same numbers one behind the other.
func numbersOfLists(lists [][]int) []int {
	var numbers []int
	for _, l := range lists {
		numbers = append(append(numbers, len(l)), l...)
	}
	return numbers
}

// callsOnCells lists the functions of chapter 7, as calls like those of chapter 5.
func callsOnCells() map[string]planeCall {
	calls := map[string]planeCall{
		"NewtonPolygon": func(a []impl.Term, _ []impl.Term, _ int, _ int) outcome {
			l, ok := impl.NewtonPolygon(a)
			return outcome{numbers: numbersOfPoints(l), ok: ok}
		},
		"CellPolygon": func(a []impl.Term, _ []impl.Term, x int, _ int) outcome {
			l, ok := impl.CellPolygon(a, x)
			return outcome{numbers: numbersOfPoints(l), ok: ok}
		},
		"EdgeLength": func(a []impl.Term, _ []impl.Term, x int, y int) outcome {
			n, ok := impl.EdgeLength(a, x, y)
			return outcome{numbers: []int{n}, ok: ok}
		},
		"HaveSameCells": func(a []impl.Term, b []impl.Term, _ int, _ int) outcome {
			is, ok := impl.HaveSameCells(a, b)
			return outcome{flags: []bool{is}, ok: ok}
		},
	}
	for name, call := range callsWithLists() {
		calls[name] = func(a []impl.Term, _ []impl.Term, _ int, _ int) outcome {
			lists, ok := call(a)
			return outcome{numbers: numbersOfLists(lists), ok: ok}
		}
	}
	for name, call := range callsWithIndices() {
		calls[name] = func(a []impl.Term, _ []impl.Term, _ int, _ int) outcome {
			l, ok := call(a)
			return outcome{numbers: l, ok: ok}
		}
	}
	for name, call := range map[string]func([]impl.Term) (bool, bool){"IsTriangulated": impl.IsTriangulated, "IsSmooth": impl.IsSmooth} {
		calls[name] = func(a []impl.Term, _ []impl.Term, _ int, _ int) outcome {
			is, ok := call(a)
			return outcome{flags: []bool{is}, ok: ok}
		}
	}
	return calls
}

// callsWithLists lists the functions of chapter 7 whose result are lists of indices.
func callsWithLists() map[string]func(l []impl.Term) ([][]int, bool) {
	return map[string]func([]impl.Term) ([][]int, bool){"CellsOf": impl.CellsOf, "EdgesOfCells": impl.EdgesOfCells, "InnerEdges": impl.InnerEdges}
}

// callsWithIndices lists the functions of chapter 7 whose result is one list of numbers.
func callsWithIndices() map[string]func(l []impl.Term) ([]int, bool) {
	return map[string]func([]impl.Term) ([]int, bool){"CellAreas": impl.CellAreas, "UnusedTerms": impl.UnusedTerms}
}

func TestCellCallsAreTotalAndModifyNothing(t *testing.T) {
	planes := slices.Concat(goodPlanes(), bentPlanes()[:200], badPlanes())
	numbers := append(edgeNumbers(), 4, 6, 7, 11, 12)
	for name, call := range callsOnCells() {
		for i, a := range planes {
			for j, b := range [][]impl.Term{a, planes[(i*7+3)%len(planes)], plane(0, 0, 4, 2, 1, -1), nil} {
				checkPlaneCall(t, name, call, a, b, numbers[(i+j*5)%len(numbers)], j+1)
				checkPlaneCall(t, name, call, b, a, j-1, numbers[(i*3+j)%len(numbers)])
			}
		}
	}
}

func TestCellCallsTakeAllNumbers(t *testing.T) {
	planes := append(bentPlanes()[:20], plane(0, 0, 3), plane(0, 0, 0, 0, 1, 0, 1, 0, 0, 1, 1, 5), plane(0, 1, 0, 0, 0, 0), nil)
	for _, name := range []string{"CellPolygon", "EdgeLength"} {
		call := callsOnCells()[name]
		for _, l := range planes {
			for _, x := range edgeNumbers() {
				for _, y := range edgeNumbers() {
					checkPlaneCall(t, name, call, l, nil, x, y)
				}
			}
		}
	}
}

// The same terms in a list with room behind it and in one without give the same subdivision, also where the terms behind the list would change it.
func TestCellsDoNotReadBehindTheList(t *testing.T) {
	l := plane(0, 0, 0, 0, 1, 0, 1, 0, 0, 1, 1, -5, 2, 0, -20)
	cells, ok := impl.CellsOf(l[:3])
	checkLists(t, "CellsOf", cells, ok, [][]int{{0, 1, 2}}, true)
	unused, ok := impl.UnusedTerms(l[:2])
	checkList(t, "UnusedTerms", unused, ok, []int{0, 1}, true)
	hull, ok := impl.NewtonPolygon(l[:1])
	checkList(t, "NewtonPolygon", hull, ok, points(0, 0), true)
}

// checkListsAreApart fills each list, with all the room behind it, with a number of its own: no other list may change with it. In the end all lists are replaced.
func checkListsAreApart(t *testing.T, call string, result [][]int) {
	t.Helper()
	lists := result[:cap(result)]
	checkFilled := func() {
		t.Helper()
		for n, list := range result {
			if !slices.Equal(list, repeated(len(list), -1-n)) {
				t.Errorf("%s: two lists of the result share memory: %v", call, result)
			}
		}
	}
	for n := range lists {
		fill(lists[n][:cap(lists[n])], -1-n)
	}
	checkFilled()
	// Backwards, the room behind a list would reach into lists that are filled already.
	for n := range slices.Backward(lists) {
		fill(lists[n][:cap(lists[n])], -1-n)
	}
	checkFilled()
	fill(lists, []int{77})
}

// checkNewLists makes one call twice and changes all lists of one result: none of them may change with another one, and neither the argument nor the other result.
// The changes are two elements that are nowhere else. It tells how many lists there were.
func checkNewLists[T comparable](t *testing.T, name string, l []T, changes [2]T, call func(l []T) ([][]int, bool)) int {
	t.Helper()
	argument := withSpare(l, changes[0])
	result, isResult := call(argument)
	other, isOther := call(argument)
	want, _ := call(slices.Clone(l))
	checkListsAreApart(t, fmt.Sprint(name, l), result)
	if !isUntouched(argument, l, changes[0]) {
		t.Errorf("%s%v: the argument changes with the result", name, l)
	}
	fill(argument, changes[1])
	checkLists(t, name+" after changes", other, isOther, want, isResult)
	return len(result)
}

// changedTerms returns two terms that are in no polynomial of these tests.
func changedTerms() [2]impl.Term {
	return [2]impl.Term{{I: 9, J: 9, C: 99}, {I: 5, J: 1, C: 77}}
}

func TestCellsAndEdgesOfResultsAreNew(t *testing.T) {
	for name, call := range callsWithLists() {
		lists := 0
		for _, l := range manySubdivided() {
			lists += checkNewLists(t, name, l, changedTerms(), call)
		}
		if lists < 1000 {
			t.Error(name, "has too few lists:", lists)
		}
	}
}

// checkNewResult makes one call twice, changes one result, and fails the test if the other one changes with it.
func checkNewResult[T comparable](t *testing.T, name string, change T, call func() ([]T, bool)) {
	t.Helper()
	result, isResult := call()
	other, isOther := call()
	want := slices.Clone(result)
	fill(result[:cap(result)], change)
	checkList(t, name, other, isOther, want, isResult)
}

func TestAreasUnusedTermsAndPolygonsOfResultsAreNew(t *testing.T) {
	change := impl.Point{X: 999, Y: 9}
	for _, l := range manySubdivided() {
		for name, call := range callsWithIndices() {
			checkNewResult(t, name, 77, func() ([]int, bool) { return call(l) })
		}
		checkNewResult(t, "NewtonPolygon", change, func() ([]impl.Point, bool) { return impl.NewtonPolygon(l) })
		checkNewResult(t, "CellPolygon", change, func() ([]impl.Point, bool) { return impl.CellPolygon(l, 0) })
	}
}
