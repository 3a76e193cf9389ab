package tests

import (
	"slices"
	"testing"

	"loop.example/g01056/impl"
)

// Guarantee 33, chapter 11: every function accepts all arguments without panicking and modifies none of them.

// callsOnMeets lists the functions of chapter 11 but for MeetTable. Those that take rays get the first ones of two lists.
func callsOnMeets() map[string]starCall {
	first := func(l []impl.Ray) impl.Ray {
		if len(l) == 0 {
			return impl.Ray{}
		}
		return l[0]
	}
	calls := map[string]starCall{
		"PairMultiplicity": func(a []impl.Ray, b []impl.Ray, _ [4]int) outcome {
			n, ok := impl.PairMultiplicity(first(a), first(b))
			return outcome{numbers: []int{n}, ok: ok}
		},
		"AreParallel": func(a []impl.Ray, b []impl.Ray, _ [4]int) outcome {
			are, ok := impl.AreParallel(first(a), first(b))
			return outcome{flags: []bool{are}, ok: ok}
		},
		"MeetsWhenMoved": func(a []impl.Ray, b []impl.Ray, n [4]int) outcome {
			meets, ok := impl.MeetsWhenMoved(first(a), first(b), n[0], n[1])
			return outcome{flags: []bool{meets}, ok: ok}
		},
		"MeetingPairs": func(a []impl.Ray, b []impl.Ray, n [4]int) outcome {
			pairs, ok := impl.MeetingPairs(a, b, n[0], n[1])
			return outcome{numbers: numbersOfLists(pairs), ok: ok}
		},
	}
	for name, call := range countsOfMeets() {
		calls[name] = func(a []impl.Ray, b []impl.Ray, n [4]int) outcome {
			count, ok := call(a, b, n)
			return outcome{numbers: []int{count}, ok: ok}
		}
	}
	return calls
}

// countsOfMeets lists the functions of chapter 11 that take stars and whose result is a number.
func countsOfMeets() map[string]func(a []impl.Ray, b []impl.Ray, n [4]int) (int, bool) {
	return map[string]func([]impl.Ray, []impl.Ray, [4]int) (int, bool){
		"MeetSum":    func(a []impl.Ray, b []impl.Ray, n [4]int) (int, bool) { return impl.MeetSum(a, b, n[0], n[1]) },
		"MeetCount":  func(a []impl.Ray, b []impl.Ray, _ [4]int) (int, bool) { return impl.MeetCount(a, b) },
		"SelfCount":  func(a []impl.Ray, _ []impl.Ray, _ [4]int) (int, bool) { return impl.SelfCount(a) },
		"StarDegree": func(a []impl.Ray, _ []impl.Ray, _ [4]int) (int, bool) { return impl.StarDegree(a) },
		"BezoutOf":   func(a []impl.Ray, b []impl.Ray, _ [4]int) (int, bool) { return impl.BezoutOf(a, b) },
		"MeetDefect": func(a []impl.Ray, b []impl.Ray, _ [4]int) (int, bool) { return impl.MeetDefect(a, b) },
	}
}

func TestMeetCallsAreTotalAndModifyNothing(t *testing.T) {
	stars := slices.Concat(goodStars(), evenStars(), badStars())
	moves := append(goodMoves(), badMoves()...)
	for name, call := range callsOnMeets() {
		for i, a := range stars {
			for j, b := range [][]impl.Ray{a, stars[(i*7+3)%len(stars)], lineRays(1), tenPairs(), nil} {
				v, u := moves[(i+j*3)%len(moves)], moves[(i*5+j)%len(moves)]
				checkStarCall(t, name, call, a, b, [4]int{v[0], v[1]})
				checkStarCall(t, name, call, b, a, [4]int{u[0], u[1]})
			}
		}
	}
}

func TestMeetCallsTakeAllNumbers(t *testing.T) {
	stars := append(plainStars(), badStars()[:3]...)
	edges := append(edgeNumbers(), mostMove, -mostMove, mostMove+1, -mostMove-1)
	for name, call := range callsOnMeets() {
		for i, x := range edges {
			for j, y := range edges {
				z := edges[(i*7+j)%len(edges)]
				l := stars[(i+j)%len(stars)]
				checkStarCall(t, name, call, l, stars[i%len(stars)], [4]int{x, y})
				checkStarCall(t, name, call, []impl.Ray{{DX: x, DY: y, W: z}}, l, [4]int{x, 1})
				checkStarCall(t, name, call, l, []impl.Ray{{DX: 1, DY: y, W: x}}, [4]int{1, y})
			}
		}
	}
}

// Both arguments are one and the same list here.
func TestMeetingPairsOfResultsAreNew(t *testing.T) {
	changes := [2]impl.Ray{{DX: 99, DY: 9, W: 999}, {DX: 77, DY: 7, W: 777}}
	pairs, tableRows := 0, 0
	for n, l := range append(evenStars(), goodStars()...) {
		pairs += checkNewLists(t, "MeetingPairs", l, changes, func(l []impl.Ray) ([][]int, bool) {
			return impl.MeetingPairs(l, l, mostMove, 1)
		})
		tableRows += checkNewLists(t, "MeetTable", l, changes, func(l []impl.Ray) ([][]int, bool) {
			return impl.MeetTable(slices.Repeat([][]impl.Ray{l}, n%(mostTable+1)))
		})
	}
	if pairs < 1000 || tableRows < 500 {
		t.Error("too few pairs, or too few rows:", pairs, tableRows)
	}
}

// checkTableCall makes one call with nothing behind the list of stars and behind each of them, and then with two different stars and rays behind.
func checkTableCall(t *testing.T, stars [][]impl.Ray) {
	t.Helper()
	want, wantOK := impl.MeetTable(clippedLists(stars))
	if !wantOK && len(want) > 0 {
		t.Errorf("MeetTable%v fails with %v", stars, want)
	}
	for _, spare := range star(1, 20, 20, 3, -20, 19) {
		l := withSpareLists(stars, spare)
		checkTable(t, l, want, wantOK)
		if !areUntouched(l, stars, spare) {
			t.Errorf("MeetTable%v changes its argument", stars)
		}
	}
}

func TestMeetTableIsTotalAndModifiesNothing(t *testing.T) {
	stars := slices.Concat(evenStars(), badStars()[:60], unevenStars()[:60])
	for n := range stars {
		for _, count := range []int{0, 1, 2, mostTable, mostTable + 1, 20} {
			checkTableCall(t, slices.Concat(stars[n:], stars)[:count])
			checkTableCall(t, slices.Repeat(stars[n:n+1], count))
		}
	}
	for n, r := range badRays() {
		checkTableCall(t, [][]impl.Ray{lineRays(1), {r}, stars[n%len(stars)]})
		checkTableCall(t, [][]impl.Ray{{r}})
	}
}

func TestMeetTableReadsNothingBehindTheList(t *testing.T) {
	l := make([][]impl.Ray, mostTable+1, 20)
	fill(l[:20], lineRays(1))
	for n := range mostTable + 1 {
		checkTable(t, l[:n], tableBySides(l[:n]), true)
	}
	checkTable(t, l, nil, false)
}
