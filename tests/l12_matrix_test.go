package tests

import (
	"fmt"
	"regexp"
	"slices"
	"strconv"
	"strings"
	"testing"

	"loop.example/g01056/impl"
)

const (
	mostSize        = 6
	mostMatrixPower = 20
)

// matrix returns the lists of numbers that a text writes out, whether they are a matrix or not.
func matrix(text string) [][]int {
	var m [][]int
	for row := range strings.SplitSeq(strings.TrimSuffix(text, ";"), ";") {
		var l []int
		for _, field := range strings.Fields(strings.ReplaceAll(row, "inf", strconv.Itoa(inf))) {
			n, err := strconv.Atoi(field)
			if err != nil {
				panic(err)
			}
			l = append(l, n)
		}
		m = append(m, l)
	}
	return m
}

// textOfMatrix says again what the text of a matrix is.
func textOfMatrix(m [][]int) string {
	text := ""
	for _, row := range m {
		text += strings.Trim(fmt.Sprint(row), "[]") + ";"
	}
	return strings.ReplaceAll(text, strconv.Itoa(inf), "inf")
}

// filled returns lists with the same number everywhere.
func filled(height int, width int, n int) [][]int {
	m := make([][]int, height)
	for i := range m {
		m[i] = repeated(width, n)
	}
	return m
}

// isMatrix says again what a matrix is, apart from the program.
func isMatrix(m [][]int) bool {
	for _, row := range m {
		if len(row) != len(m[0]) || slices.ContainsFunc(row, func(n int) bool { return !isNumber(n) }) {
			return false
		}
	}
	return len(m) >= 1 && len(m) <= mostSize && len(m[0]) >= 1 && len(m[0]) <= mostSize
}

func isSquareMatrix(m [][]int) bool {
	return isMatrix(m) && len(m) == len(m[0])
}

// matrixOrNil returns lists if they are a matrix.
func matrixOrNil(m [][]int) ([][]int, bool) {
	if !isMatrix(m) {
		return nil, false
	}
	return m, true
}

// turned returns the columns of a matrix.
func turned(m [][]int) [][]int {
	columns := make([][]int, len(m[0]))
	for _, row := range m {
		for k, n := range row {
			columns[k] = append(columns[k], n)
		}
	}
	return columns
}

// leastSum returns the least sum of two numbers at the same place of which none is Infinity, however great, and Infinity if there is none.
func leastSum(a []int, b []int) int {
	least := inf
	for i := range a {
		if a[i] != inf && b[i] != inf {
			least = min(least, a[i]+b[i])
		}
	}
	return least
}

// multipliedBySums says again what the product of matrices whose sizes fit is.
func multipliedBySums(a [][]int, b [][]int) ([][]int, bool) {
	var product [][]int
	for _, row := range a {
		var l []int
		for _, column := range turned(b) {
			l = append(l, leastSum(row, column))
		}
		product = append(product, l)
	}
	return matrixOrNil(product)
}

// shiftedBySums says again what the matrix of all products with a number is.
func shiftedBySums(m [][]int, by int) ([][]int, bool) {
	var shifted [][]int
	for _, row := range m {
		var l []int
		for _, n := range row {
			l = append(l, leastSum([]int{n}, []int{by}))
		}
		shifted = append(shifted, l)
	}
	return matrixOrNil(shifted)
}

func diagonal(size int, n int) [][]int {
	m := filled(size, size, inf)
	for i := range size {
		m[i][i] = n
	}
	return m
}

// orders returns all orders of the numbers 0..count-1.
func orders(count int) [][]int {
	all := [][]int{{}}
	for n := range count {
		var longer [][]int
		for _, l := range all {
			for place := range n + 1 {
				longer = append(longer, slices.Insert(slices.Clone(l), place, n))
			}
		}
		all = longer
	}
	return all
}

// permanentByOrders says again what the permanent of a square matrix is, and how often it is reached.
func permanentByOrders(m [][]int, all [][]int) (int, int, bool) {
	var sums []int
	for _, order := range all {
		sum := 0
		for i, k := range order {
			if m[i][k] == inf || sum == inf {
				sum = inf
				break
			}
			sum += m[i][k]
		}
		sums = append(sums, sum)
	}
	least := slices.Min(sums)
	if !isNumber(least) {
		return 0, 0, false
	}
	return least, len(slices.DeleteFunc(sums, func(sum int) bool { return sum != least })), true
}

// smallMatrices returns all matrices of at most two rows and columns with a few numbers, but for most of those that have two of both.
func smallMatrices() [][][]int {
	numbers := []int{-most, -1, 0, 2, most, inf}
	var all [][][]int
	for n := range 6 * 6 * 6 * 6 {
		a, b, c, d := numbers[n%6], numbers[n/6%6], numbers[n/36%6], numbers[n/216]
		if n < 6 {
			all = append(all, rows(1, a))
		}
		if n < 36 {
			all = append(all, rows(2, a, b), rows(1, a, b))
		}
		if n%5 < 2 {
			all = append(all, rows(2, a, b, c, d))
		}
	}
	return all
}

// scatteredMatrices returns matrices of all sizes with small, great and missing numbers.
func scatteredMatrices() [][][]int {
	tables := [][]int{
		{inf}, {0}, {most}, {-most}, {0, inf}, {0, 1}, {1, 2, 3, 4, 5, 6, 7}, {-3, 7, inf, 2, 0, inf, 5}, {most, -most, inf, 500000, -500001},
		{40000, -50000, inf, 50000, inf, -1, 30000, inf, 2, inf, 60000}, {500000, 500001, inf, 499999}, {-500000, -500001, inf, 3, -499999, inf, inf},
	}
	var all [][][]int
	for height := 1; height <= mostSize; height++ {
		for width := 1; width <= mostSize; width++ {
			for n, table := range tables {
				var numbers []int
				for place := range height * width {
					numbers = append(numbers, table[(place*place*3+place*(n+height)+width)%len(table)])
				}
				all = append(all, rows(width, numbers...))
			}
		}
	}
	return all
}

func goodMatrices() [][][]int {
	return append(smallMatrices(), scatteredMatrices()...)
}

// fitting returns the matrices that have so many rows.
func fitting(all [][][]int, height int) [][][]int {
	return slices.DeleteFunc(slices.Clone(all), func(m [][]int) bool { return len(m) != height })
}

func squareMatrices() [][][]int {
	return slices.DeleteFunc(goodMatrices(), func(m [][]int) bool { return len(m) != len(m[0]) })
}

// unevenMatrices returns matrices that are not square.
func unevenMatrices() [][][]int {
	return slices.DeleteFunc(goodMatrices(), func(m [][]int) bool { return len(m) == len(m[0]) })
}

// badMatrices returns lists that are no matrix: with too few or too many rows or numbers, with rows of different lengths, or with what is no number.
func badMatrices() [][][]int {
	bad := [][][]int{
		nil, {}, {nil}, {{}}, {{}, {}}, {nil, {1}}, {{1}, nil}, {{1}, {}, {1}}, slices.Repeat([][]int{nil}, 6), slices.Repeat([][]int{{}}, 7),
		matrix("1 2;3;"), matrix("1;2 3;"), matrix("1 2;3 4;5;"), matrix("1 2;3 4;5 6 7;"), matrix("1 2 3;4 5 6;7 8;"), matrix("1;2;3 4;"), matrix("1 2 3;4;5 6;"), matrix("inf;inf inf;"),
		filled(7, 1, 0), filled(1, 7, 0), filled(7, 7, 0), filled(7, 6, inf), filled(6, 7, inf), filled(7, 2, 3), filled(2, 7, 3), filled(1, 8, 1), filled(8, 8, 1), filled(20, 20, 0), filled(1, 20, 0), filled(1, 21, 0), filled(1, 1000, 5), filled(1000, 1, 5),
		append(filled(5, 6, 0), repeated(5, 0)), append(filled(5, 6, 0), repeated(7, 0)), append(filled(1, 7, 0), filled(5, 6, 0)...), append(filled(6, 6, 0), nil),
	}
	for _, n := range edgeNumbers() {
		if isNumber(n) {
			continue
		}
		for _, size := range [][2]int{{1, 1}, {1, 2}, {2, 1}, {2, 2}, {3, 2}, {6, 6}} {
			for place := range size[0] * size[1] {
				if place > 3 && place < 35 && place%5 != 0 {
					continue
				}
				m := filled(size[0], size[1], place%2)
				m[place/size[1]][place%size[1]] = n
				bad = append(bad, m)
			}
		}
	}
	return bad
}

// someBadMatrices returns a few bad matrices of each kind.
func someBadMatrices() [][][]int {
	bad := badMatrices()
	some := slices.Clone(bad[:40])
	for n := 40; n < len(bad); n += 17 {
		some = append(some, bad[n])
	}
	return some
}

func TestLimitOfMatrices(t *testing.T) {
	if impl.MaxSize != mostSize {
		t.Error("MaxSize", impl.MaxSize)
	}
}

func TestIsMatrix(t *testing.T) {
	for _, text := range []string{"0;", "inf;", "1 2 3 4 5 6;", "1;2;3;4;5;6;", "0 3;1 2;", "inf inf;inf inf;", "1000000 -1000000;inf 0;", "5 5;5 5;5 5;"} {
		if !impl.IsMatrix(matrix(text)) {
			t.Error("is no matrix:", text)
		}
	}
	for _, m := range append(goodMatrices(), filled(6, 6, 0), filled(6, 6, inf), filled(6, 1, 0), filled(1, 6, 0)) {
		if !impl.IsMatrix(m) {
			t.Error("is no matrix:", m)
		}
	}
	for _, m := range badMatrices() {
		if isMatrix(m) || impl.IsMatrix(m) {
			t.Error("is a matrix:", m)
		}
	}
	same := []int{1, 2}
	if !impl.IsMatrix([][]int{same, same}) {
		t.Error("rows in the same memory are no matrix")
	}
}

func TestSumOfMatrices(t *testing.T) {
	for _, c := range [][3]string{
		{"0 3;1 2;", "1 1;1 1;", "0 1;1 1;"}, {"5;", "3;", "3;"}, {"3;", "5;", "3;"}, {"inf;", "5;", "5;"}, {"5;", "inf;", "5;"}, {"inf;", "inf;", "inf;"}, {"-4;", "-4;", "-4;"},
		{"1000000;", "inf;", "1000000;"}, {"1000000;", "-1000000;", "-1000000;"}, {"1 2 3;", "3 2 1;", "1 2 1;"}, {"1;2;3;", "3;2;1;", "1;2;1;"}, {"inf 0;1 inf;2 3;", "7 inf;0 inf;5 2;", "7 0;0 inf;2 2;"},
	} {
		got, ok := impl.SumOfMatrices(matrix(c[0]), matrix(c[1]))
		checkLists(t, "SumOfMatrices "+c[0]+" "+c[1], got, ok, matrix(c[2]), true)
	}
	for _, c := range [][2]string{
		{"1 2;", "1;2;"}, {"1;2;", "1 2;"}, {"1;", "1 2;"}, {"1 2;", "1;"}, {"1;", "1;2;"}, {"1;2;", "1;"}, {"1 2;3 4;", "1 2;"}, {"1 2;3 4;", "1;2;"}, {"1 2;3 4;", "1 2 3;4 5 6;"}, {"1 2;3 4;5 6;", "1 2 3;4 5 6;"},
	} {
		got, ok := impl.SumOfMatrices(matrix(c[0]), matrix(c[1]))
		checkLists(t, "SumOfMatrices "+c[0]+" "+c[1], got, ok, nil, false)
	}
}

func TestManySumsOfMatrices(t *testing.T) {
	var counts [2]int
	all := goodMatrices()
	for n, a := range all {
		others := fitting(all, len(a))
		for step := range 12 {
			b := others[(n*5+step*13)%len(others)]
			fits := len(a[0]) == len(b[0])
			var want [][]int
			for i := range a {
				if fits {
					var row []int
					for k := range a[i] {
						row = append(row, slices.Min([]int{a[i][k], b[i][k]}))
					}
					want = append(want, row)
				}
			}
			got, ok := impl.SumOfMatrices(a, b)
			checkLists(t, fmt.Sprint("SumOfMatrices", a, b), got, ok, want, fits)
			countOf(&counts, fits)
		}
	}
	if min(counts[0], counts[1]) < 1000 {
		t.Error("too few sums, or too few failures:", counts)
	}
}

func TestMultiplyMatrices(t *testing.T) {
	for _, c := range [][3]string{
		{"0 3;1 2;", "0 3;1 2;", "0 3;1 4;"}, {"1;", "2;", "3;"}, {"-5;", "2;", "-3;"}, {"1 2;", "3;4;", "4;"}, {"3;4;", "1 2;", "4 5;5 6;"}, {"1 inf;inf 2;", "0 3;1 4;", "1 4;3 6;"}, {"0 3;1 4;", "1 inf;inf 2;", "1 5;2 6;"},
		{"inf;", "5;", "inf;"}, {"5;", "inf;", "inf;"}, {"inf;", "-1000000;", "inf;"}, {"inf;", "1000000;", "inf;"}, {"inf;", "inf;", "inf;"}, {"inf 2;", "1;inf;", "inf;"}, {"inf 2;", "1;3;", "5;"}, {"inf inf;inf inf;", "1 2;3 4;", "inf inf;inf inf;"},
		{"1000000;", "0;", "1000000;"}, {"-1000000;", "1;", "-999999;"}, {"-1000000;", "0;", "-1000000;"}, {"1000000;", "-1000000;", "0;"}, {"500000;", "500000;", "1000000;"}, {"-500000;", "-500000;", "-1000000;"},
		{"1000000 0;", "1;5;", "5;"}, {"0 1000000;", "5;1;", "5;"}, {"1000000 1000000;", "1000000;0;", "1000000;"}, {"500000 500000;", "500001 inf;500000 500000;", "1000000 1000000;"}, {"-1000000 0;", "1;-1000000;", "-1000000;"}, {"0 1000000;0 0;", "0 0;inf 1;", "0 0;0 0;"},
		{"1 2 3 4 5 6;", "6;5;4;3;2;1;", "7;"}, {"1;2;3;4;5;6;", "0;", "1;2;3;4;5;6;"}, {"0;", "1 2 3 4 5 6;", "1 2 3 4 5 6;"}, {"0 1 2;3 4 5;", "9 1;8 2;7 3;", "9 1;12 4;"},
	} {
		got, ok := impl.MultiplyMatrices(matrix(c[0]), matrix(c[1]))
		checkLists(t, "MultiplyMatrices "+c[0]+" "+c[1], got, ok, matrix(c[2]), true)
	}
	for _, c := range [][2]string{
		{"1 2;", "1 2;"}, {"1;2;", "1;2;"}, {"1;", "1;2;"}, {"1 2;", "1;"}, {"1 2;3 4;", "1 2;3 4;5 6;"}, {"1 2 3;4 5 6;", "1 2 3;4 5 6;"}, {"1 2 3 4 5 6;", "1;2;3;4;5;"}, {"1 2 3 4 5;", "1;2;3;4;5;6;"},
		{"1000000;", "1;"}, {"1;", "1000000;"}, {"-1000000;", "-1;"}, {"1000000;", "1000000;"}, {"-1000000;", "-1000000;"}, {"500001;", "500000;"}, {"-500000;", "-500001;"},
		{"1000000 inf;", "1;inf;"}, {"1000000 inf;", "1;-5;"}, {"inf 1000000;", "inf;1000000;"}, {"-1000000 1000000;", "-1;-1000000;"}, {"0 -1000000;", "0;-1;"}, {"inf 1000000;0 0;", "0 0;inf 1;"}, {"0;0;1000000;", "0 0 1;"}, {"1000000;0;", "1 0;"},
	} {
		got, ok := impl.MultiplyMatrices(matrix(c[0]), matrix(c[1]))
		checkLists(t, "MultiplyMatrices "+c[0]+" "+c[1], got, ok, nil, false)
	}
}

func TestManyProductsOfMatrices(t *testing.T) {
	var counts [2]int
	all := goodMatrices()
	for n, a := range all {
		others := fitting(all, len(a[0]))
		for step := range 30 {
			b := others[(n*5+step*13)%len(others)]
			want, wantOK := multipliedBySums(a, b)
			got, ok := impl.MultiplyMatrices(a, b)
			checkLists(t, fmt.Sprint("MultiplyMatrices", a, b), got, ok, want, wantOK)
			countOf(&counts, wantOK)
		}
		for height := 1; height <= mostSize; height++ {
			if height != len(a[0]) {
				got, ok := impl.MultiplyMatrices(a, filled(height, n%mostSize+1, 0))
				checkLists(t, fmt.Sprint("MultiplyMatrices", a, height), got, ok, nil, false)
			}
		}
	}
	if min(counts[0], counts[1]) < 1000 {
		t.Error("too few products, or too few failures:", counts)
	}
}

// Guarantee 12: products are turned with their factors exchanged.
func TestTurnedProductsHaveTheirFactorsExchanged(t *testing.T) {
	var counts [2]int
	all := goodMatrices()
	for n, a := range all {
		ofA, _ := impl.TransposeMatrix(a)
		others := fitting(all, len(a[0]))
		for step := range 25 {
			b := others[(n*3+step*29)%len(others)]
			ofB, _ := impl.TransposeMatrix(b)
			product, isProduct := impl.MultiplyMatrices(a, b)
			want, _ := impl.TransposeMatrix(product)
			got, ok := impl.MultiplyMatrices(ofB, ofA)
			checkLists(t, fmt.Sprint("MultiplyMatrices turned ", a, b), got, ok, want, isProduct)
			countOf(&counts, isProduct)
		}
	}
	if min(counts[0], counts[1]) < 1000 {
		t.Error("too few products, or too few failures:", counts)
	}
}

func TestTwoMatrixCallsFailForBadMatrices(t *testing.T) {
	for _, bad := range badMatrices() {
		partners := [][][]int{matrix("1 2;3 4;"), matrix("0;"), filled(6, 6, inf), bad}
		if len(bad) > 0 {
			partners = append(partners, filled(len(bad), len(bad[0]), 1), filled(len(bad[0]), len(bad), 0), filled(min(len(bad), 6), min(len(bad[0]), 6), 1))
		}
		for _, b := range partners {
			for name, call := range map[string]func(a [][]int, b [][]int) ([][]int, bool){"SumOfMatrices": impl.SumOfMatrices, "MultiplyMatrices": impl.MultiplyMatrices} {
				got, ok := call(bad, b)
				checkLists(t, fmt.Sprint(name, bad, b), got, ok, nil, false)
				got, ok = call(b, bad)
				checkLists(t, fmt.Sprint(name, b, bad), got, ok, nil, false)
			}
		}
	}
}

func TestUnitMatrix(t *testing.T) {
	for n, want := range map[int]string{1: "0;", 2: "0 inf;inf 0;", 3: "0 inf inf;inf 0 inf;inf inf 0;", 6: "0 inf inf inf inf inf;inf 0 inf inf inf inf;inf inf 0 inf inf inf;inf inf inf 0 inf inf;inf inf inf inf 0 inf;inf inf inf inf inf 0;"} {
		got, ok := impl.UnitMatrix(n)
		checkLists(t, fmt.Sprint("UnitMatrix ", n), got, ok, matrix(want), true)
	}
	for _, n := range append(edgeNumbers(), 4, 5, 6, 7, 8, -3) {
		var want [][]int
		if n >= 1 && n <= mostSize {
			want = diagonal(n, 0)
		}
		got, ok := impl.UnitMatrix(n)
		checkLists(t, fmt.Sprint("UnitMatrix ", n), got, ok, want, want != nil)
	}
}

func TestUnitMatricesChangeNoProduct(t *testing.T) {
	for _, m := range goodMatrices() {
		left, _ := impl.UnitMatrix(len(m))
		right, _ := impl.UnitMatrix(len(m[0]))
		got, ok := impl.MultiplyMatrices(left, m)
		checkLists(t, fmt.Sprint("unit times ", m), got, ok, m, true)
		got, ok = impl.MultiplyMatrices(m, right)
		checkLists(t, fmt.Sprint("unit behind ", m), got, ok, m, true)
	}
}

// circle returns the square matrix in which each number leads to the next row, and the last one to the first row.
func circle(numbers ...int) [][]int {
	m := filled(len(numbers), len(numbers), inf)
	for i, n := range numbers {
		m[i][(i+1)%len(numbers)] = n
	}
	return m
}

func TestPowerOfMatrix(t *testing.T) {
	example := matrix("0 3;1 2;")
	// Of the first circles the second power is no matrix, while the third one would be; of the last one this is so with the powers 19 and 20.
	up, down, long := circle(600000, 600000, -600000), circle(-600000, -600000, 600000), circle(-1, 66667, 66667, 66667)
	for _, c := range []struct {
		m    [][]int
		k    int
		want string
	}{
		{example, 0, "0 inf;inf 0;"}, {example, 1, "0 3;1 2;"}, {example, 2, "0 3;1 4;"}, {example, 3, "0 3;1 4;"}, {example, 20, "0 3;1 4;"}, {example, 21, ""}, {example, -1, ""},
		{matrix("3;"), 0, "0;"}, {matrix("3;"), 1, "3;"}, {matrix("3;"), 20, "60;"}, {matrix("3;"), 21, ""}, {matrix("inf;"), 0, "0;"}, {matrix("inf;"), 1, "inf;"}, {matrix("inf;"), 20, "inf;"}, {matrix("0;"), 20, "0;"}, {matrix("0;"), 21, ""}, {matrix("0;"), -1, ""},
		{matrix("1000000;"), 0, "0;"}, {matrix("1000000;"), 1, "1000000;"}, {matrix("1000000;"), 2, ""}, {matrix("-1000000;"), 0, "0;"}, {matrix("-1000000;"), 1, "-1000000;"}, {matrix("-1000000;"), 2, ""},
		{matrix("50000;"), 20, "1000000;"}, {matrix("50001;"), 20, ""}, {matrix("50001;"), 19, "950019;"}, {matrix("-50000;"), 20, "-1000000;"}, {matrix("-50001;"), 20, ""}, {matrix("-50001;"), 19, "-950019;"},
		{up, 0, "0 inf inf;inf 0 inf;inf inf 0;"}, {up, 1, "inf 600000 inf;inf inf 600000;-600000 inf inf;"}, {up, 2, ""}, {up, 3, ""}, {up, 4, ""}, {down, 1, "inf -600000 inf;inf inf -600000;600000 inf inf;"}, {down, 2, ""}, {down, 3, ""}, {down, 4, ""},
		{long, 16, "800000 inf inf inf;inf 800000 inf inf;inf inf 800000 inf;inf inf inf 800000;"}, {long, 18, "inf inf 866666 inf;inf inf inf 933334;933334 inf inf inf;inf 866666 inf inf;"}, {long, 19, ""}, {long, 20, ""},
		{matrix("inf 5;inf inf;"), 1, "inf 5;inf inf;"}, {matrix("inf 5;inf inf;"), 2, "inf inf;inf inf;"}, {matrix("1000000 0;0 1000000;"), 2, "0 1000000;1000000 0;"}, {circle(1, 1, 1, 1, 1, 1), 6, "6 inf inf inf inf inf;inf 6 inf inf inf inf;inf inf 6 inf inf inf;inf inf inf 6 inf inf;inf inf inf inf 6 inf;inf inf inf inf inf 6;"},
	} {
		var want [][]int
		if c.want != "" {
			want = matrix(c.want)
		}
		got, ok := impl.PowerOfMatrix(c.m, c.k)
		checkLists(t, fmt.Sprint("PowerOfMatrix", c.m, c.k), got, ok, want, want != nil)
	}
}

// A power is the product of as many factors, one after the other, and fails from the first product on that is no matrix.
func TestManyPowersOfMatrices(t *testing.T) {
	var counts [2]int
	for _, m := range append(squareMatrices(), circle(600000, 600000, -600000), circle(-1, 66667, 66667, 66667)) {
		want, wantOK := diagonal(len(m), 0), true
		for k := range mostMatrixPower + 1 {
			got, ok := impl.PowerOfMatrix(m, k)
			checkLists(t, fmt.Sprint("PowerOfMatrix", m, k), got, ok, want, wantOK)
			countOf(&counts, wantOK)
			if wantOK {
				want, wantOK = multipliedBySums(want, m)
			}
		}
		for _, k := range append(edgeNumbers(), mostMatrixPower+1, 22) {
			if k < 0 || k > mostMatrixPower {
				got, ok := impl.PowerOfMatrix(m, k)
				checkLists(t, fmt.Sprint("PowerOfMatrix", m, k), got, ok, nil, false)
			}
		}
	}
	if min(counts[0], counts[1]) < 1000 {
		t.Error("too few powers, or too few failures:", counts)
	}
}

func TestPowersNeedSquareMatrices(t *testing.T) {
	for _, m := range append(unevenMatrices(), badMatrices()...) {
		for _, k := range []int{0, 1, 2, 20} {
			got, ok := impl.PowerOfMatrix(m, k)
			checkLists(t, fmt.Sprint("PowerOfMatrix", m, k), got, ok, nil, false)
		}
	}
}

func TestTransposeMatrix(t *testing.T) {
	for text, want := range map[string]string{
		"0 3;1 2;": "0 1;3 2;", "5;": "5;", "inf;": "inf;", "1 2 3;": "1;2;3;", "1;2;3;": "1 2 3;", "1 2 3;4 5 6;": "1 4;2 5;3 6;", "1 4;2 5;3 6;": "1 2 3;4 5 6;",
		"1 2 3 4 5 6;": "1;2;3;4;5;6;", "1;2;3;4;5;6;": "1 2 3 4 5 6;", "inf 1000000;-1000000 0;": "inf -1000000;1000000 0;",
	} {
		got, ok := impl.TransposeMatrix(matrix(text))
		checkLists(t, "TransposeMatrix "+text, got, ok, matrix(want), true)
	}
	for _, m := range goodMatrices() {
		got, ok := impl.TransposeMatrix(m)
		checkLists(t, fmt.Sprint("TransposeMatrix", m), got, ok, turned(m), true)
		back, ok := impl.TransposeMatrix(got)
		checkLists(t, fmt.Sprint("TransposeMatrix", got), back, ok, m, true)
	}
	for _, m := range badMatrices() {
		got, ok := impl.TransposeMatrix(m)
		checkLists(t, fmt.Sprint("TransposeMatrix", m), got, ok, nil, false)
	}
}

func TestApplyMatrix(t *testing.T) {
	for _, c := range []struct {
		m       string
		v, want []int
	}{
		{"0 3;1 2;", []int{1, 0}, []int{1, 2}}, {"0 3;1 2;", []int{5, 1}, []int{4, 3}}, {"5;", []int{3}, []int{8}}, {"1 2 3;", []int{3, 1, 1}, []int{3}}, {"1;2;3;", []int{4}, []int{5, 6, 7}}, {"0 inf;inf 0;", []int{7, -7}, []int{7, -7}},
		{"inf inf;0 1;", []int{1, 2}, []int{inf, 1}}, {"0 3;1 2;", []int{inf, inf}, []int{inf, inf}}, {"inf 3;1 inf;", []int{inf, 2}, []int{5, inf}}, {"1 2 3 4 5 6;", []int{6, 5, 4, 3, 2, 1}, []int{7}}, {"1;2;3;4;5;6;", []int{0}, []int{1, 2, 3, 4, 5, 6}},
		{"1000000 0;", []int{1, 5}, []int{5}}, {"1000000 1000000;", []int{0, 1}, []int{1000000}}, {"-1000000;", []int{0}, []int{-1000000}}, {"-1000000;", []int{inf}, []int{inf}}, {"500000;", []int{500000}, []int{1000000}},
	} {
		got, ok := impl.ApplyMatrix(matrix(c.m), c.v)
		checkList(t, fmt.Sprint("ApplyMatrix ", c.m, c.v), got, ok, c.want, true)
	}
	for _, c := range []struct {
		m string
		v []int
	}{
		{"0 3;1 2;", nil}, {"0 3;1 2;", []int{}}, {"0 3;1 2;", []int{1}}, {"0 3;1 2;", []int{1, 2, 3}}, {"1 2;", []int{1}}, {"1;2;", []int{1, 2}}, {"1 2 3 4 5 6;", repeated(5, 0)}, {"1 2 3 4 5 6;", repeated(7, 0)}, {"1 2 3;4 5 6;", []int{1, 2}},
		{"1000000;", []int{1}}, {"-1000000;", []int{-1}}, {"1000000 inf;", []int{1, -1}}, {"0;1000000;", []int{1}}, {"0;-1000000;0;", []int{-1}}, {"0 -1000000;", []int{0, -1}}, {"500001;", []int{500000}},
	} {
		got, ok := impl.ApplyMatrix(matrix(c.m), c.v)
		checkList(t, fmt.Sprint("ApplyMatrix ", c.m, c.v), got, ok, nil, false)
	}
}

// A vector is applied as a matrix with one column is multiplied.
func TestManyAppliedMatrices(t *testing.T) {
	var counts [2]int
	all := goodMatrices()
	for n, m := range all {
		others := fitting(all, len(m[0]))
		for step := range 20 {
			v := turned(others[(n*5+step*13)%len(others)])[0]
			product, wantOK := multipliedBySums(m, turned([][]int{v}))
			var want []int
			for _, row := range product {
				want = append(want, row[0])
			}
			got, ok := impl.ApplyMatrix(m, v)
			checkList(t, fmt.Sprint("ApplyMatrix", m, v), got, ok, want, wantOK)
			countOf(&counts, wantOK)
		}
		for size := range 9 {
			if size != len(m[0]) {
				got, ok := impl.ApplyMatrix(m, repeated(size, 0))
				checkList(t, fmt.Sprint("ApplyMatrix", m, size), got, ok, nil, false)
			}
		}
	}
	if min(counts[0], counts[1]) < 1000 {
		t.Error("too few vectors, or too few failures:", counts)
	}
}

func TestApplyMatrixOfBadArguments(t *testing.T) {
	for _, m := range badMatrices() {
		for _, v := range [][]int{{1}, {1, 2}, {inf, inf}, repeated(6, 0), repeated(7, 0), nil} {
			got, ok := impl.ApplyMatrix(m, v)
			checkList(t, fmt.Sprint("ApplyMatrix", m, v), got, ok, nil, false)
		}
		if len(m) > 0 {
			got, ok := impl.ApplyMatrix(m, repeated(len(m[0]), 0))
			checkList(t, fmt.Sprint("ApplyMatrix", m), got, ok, nil, false)
		}
	}
	for _, v := range badLists() {
		for width := 1; width <= mostSize; width++ {
			got, ok := impl.ApplyMatrix(filled(2, width, inf), v)
			checkList(t, fmt.Sprint("ApplyMatrix", width, v), got, ok, nil, false)
		}
	}
	for _, n := range edgeNumbers() {
		if !isNumber(n) {
			for place := range mostSize {
				v := repeated(mostSize, inf)
				v[place] = n
				got, ok := impl.ApplyMatrix(filled(3, mostSize, inf), v)
				checkList(t, fmt.Sprint("ApplyMatrix", v), got, ok, nil, false)
			}
		}
	}
}

func checkPermanent(t *testing.T, m [][]int, want int, wantWays int, wantOK bool) {
	t.Helper()
	if got, ways, ok := impl.PermanentOf(m); got != want || ways != wantWays || ok != wantOK {
		t.Errorf("PermanentOf%v: got %d, %d, %t; want %d, %d, %t", m, got, ways, ok, want, wantWays, wantOK)
	}
}

func TestPermanentOf(t *testing.T) {
	for _, c := range []struct {
		m          [][]int
		want, ways int
	}{
		{matrix("0 3;1 2;"), 2, 1}, {matrix("3 0;2 1;"), 2, 1}, {matrix("1 2;3 4;"), 5, 2}, {matrix("5;"), 5, 1}, {matrix("1000000;"), most, 1}, {matrix("-1000000;"), -most, 1}, {matrix("0 0;0 0;"), 0, 2}, {matrix("0 inf;inf 0;"), 0, 1}, {matrix("inf 5;7 inf;"), 12, 1}, {matrix("inf 5;7 0;"), 12, 1},
		{matrix("0 0 0;0 0 0;0 0 0;"), 0, 6}, {matrix("0 0 1;0 0 1;0 0 1;"), 1, 6}, {matrix("0 1 1;1 0 1;1 1 0;"), 0, 1}, {matrix("1 0 0;0 1 0;0 0 1;"), 0, 2}, {matrix("1 0 0 0;0 1 0 0;0 0 1 0;0 0 0 1;"), 0, 9}, {matrix("0 1 2;2 0 1;1 2 0;"), 0, 1}, {matrix("inf 1 2;1 inf 2;2 1 inf;"), 4, 1},
		{diagonal(6, 0), 0, 1}, {diagonal(6, -5), -30, 1}, {filled(6, 6, 0), 0, 720}, {filled(5, 5, -1), -5, 120}, {filled(4, 4, 3), 12, 24}, {filled(6, 6, 166666), 999996, 720}, {filled(5, 5, 200000), most, 120}, {filled(5, 5, -200000), -most, 120}, {circle(1, 2, 3, 4, 5, 6), 21, 1},
		{matrix("inf;"), inf, 1}, {matrix("inf inf;0 0;"), inf, 2}, {matrix("inf 0;inf 0;"), inf, 2}, {matrix("inf inf;inf inf;"), inf, 2}, {matrix("inf inf inf;0 5 7;1 2 3;"), inf, 6}, {matrix("0 5 7;1 2 3;inf inf inf;"), inf, 6}, {matrix("inf 0 0;inf 1 2;inf 3 4;"), inf, 6}, {matrix("inf inf 0;inf inf 1;2 3 4;"), inf, 6}, {matrix("-1000000 inf inf;-1000000 inf inf;1 2 3;"), inf, 6},
		{filled(3, 3, inf), inf, 6}, {filled(6, 6, inf), inf, 720}, {append(filled(5, 6, -most), repeated(6, inf)), inf, 720}, {append(filled(1, 6, inf), filled(5, 6, most)...), inf, 720},
		{matrix("1000000 0;0 1;"), 0, 1}, {matrix("1000000 inf;inf -1;"), 999999, 1}, {matrix("-1000000 0;0 0;"), -most, 1}, {matrix("500000 500000;500000 500000;"), most, 2}, {matrix("500000 500001;500000 500000;"), most, 1}, {matrix("1000000 1000000;0 0;"), most, 2},
		{matrix("1000000 inf inf;inf 1000000 inf;inf inf -1000000;"), most, 1}, {matrix("-1000000 inf inf;inf -1000000 inf;inf inf 1000000;"), -most, 1},
	} {
		checkPermanent(t, c.m, c.want, c.ways, true)
	}
}

func TestPermanentsThatAreNone(t *testing.T) {
	for _, m := range [][][]int{
		matrix("1000000 inf;inf 1;"), matrix("1000000 1000000;1 1000000;"), matrix("-1000000 inf;inf -1;"), matrix("-1000000 0;0 -1;"), matrix("500001 inf;inf 500000;"), matrix("1000000 inf;inf 1000000;"), matrix("inf 1000000;1000000 inf;"), matrix("-1000000 -1000000;-1000000 -1000000;"),
		filled(6, 6, most), filled(6, 6, -most), filled(6, 6, 166667), filled(6, 6, -166667), diagonal(6, most), diagonal(6, -most), filled(2, 2, most), filled(2, 2, -500001),
		matrix("1000000 inf inf;inf 1000000 inf;inf inf -999999;"), matrix("-1000000 inf inf;inf -1000000 inf;inf inf 999999;"),
	} {
		checkPermanent(t, m, 0, 0, false)
	}
	for _, m := range append(unevenMatrices(), badMatrices()...) {
		checkPermanent(t, m, 0, 0, false)
	}
}

func TestManyPermanents(t *testing.T) {
	var ordersOf [mostSize + 1][][]int
	for size := range ordersOf {
		ordersOf[size] = orders(size)
	}
	var counts [2]int
	infinite := 0
	for _, m := range squareMatrices() {
		want, ways, wantOK := permanentByOrders(m, ordersOf[len(m)])
		checkPermanent(t, m, want, ways, wantOK)
		countOf(&counts, wantOK)
		if want == inf {
			infinite++
		}
		columns, _ := impl.TransposeMatrix(m)
		checkPermanent(t, columns, want, ways, wantOK)
		slices.Reverse(columns)
		checkPermanent(t, columns, want, ways, wantOK)
	}
	if counts[0] < 300 || counts[1] < 50 || infinite < 50 {
		t.Error("too few permanents, too few failures, or too few that are Infinity:", counts, infinite)
	}
}

func TestTraceOf(t *testing.T) {
	for text, want := range map[string]int{
		"0 3;1 2;": 0, "5 1;1 4;": 4, "4 1;1 5;": 4, "7;": 7, "inf;": inf, "inf 0;0 inf;": inf, "inf 0;0 7;": 7, "1000000 -1;-1 1000000;": most, "-1000000 -1;-1 0;": -most, "3 0 0;0 2 0;0 0 1;": 1, "1 0 0;0 2 0;0 0 3;": 1, "3 0 0;0 1 0;0 0 2;": 1,
	} {
		got, ok := impl.TraceOf(matrix(text))
		checkNumber(t, "TraceOf "+text, got, ok, want, true)
	}
	for _, m := range squareMatrices() {
		var inDiagonal []int
		for i, row := range m {
			inDiagonal = append(inDiagonal, row[i])
		}
		got, ok := impl.TraceOf(m)
		checkNumber(t, fmt.Sprint("TraceOf", m), got, ok, slices.Min(inDiagonal), true)
	}
	for _, m := range append(unevenMatrices(), badMatrices()...) {
		got, ok := impl.TraceOf(m)
		checkNumber(t, fmt.Sprint("TraceOf", m), got, ok, 0, false)
	}
}

func TestShiftMatrix(t *testing.T) {
	for _, c := range []struct {
		m    string
		by   int
		want string
	}{
		{"0 3;1 2;", 2, "2 5;3 4;"}, {"0 3;1 2;", 0, "0 3;1 2;"}, {"0 3;1 2;", -5, "-5 -2;-4 -3;"}, {"7;", 3, "10;"}, {"1 2 3;", 1, "2 3 4;"}, {"1;2;3;", 1, "2;3;4;"}, {"inf;", 5, "inf;"}, {"inf;", 0, "inf;"}, {"inf 1;2 inf;", 4, "inf 5;6 inf;"}, {"inf inf;inf inf;", most, "inf inf;inf inf;"}, {"inf inf;inf inf;", -most, "inf inf;inf inf;"},
		{"0;", most, "1000000;"}, {"0;", -most, "-1000000;"}, {"1000000;", 0, "1000000;"}, {"1000000;", -most, "0;"}, {"-1000000;", most, "0;"}, {"1000000 inf;", -1, "999999 inf;"}, {"999999;", 1, "1000000;"}, {"-999999;", -1, "-1000000;"},
	} {
		got, ok := impl.ShiftMatrix(matrix(c.m), c.by)
		checkLists(t, fmt.Sprint("ShiftMatrix ", c.m, c.by), got, ok, matrix(c.want), true)
	}
	for _, c := range []struct {
		m  string
		by int
	}{
		{"0;", inf}, {"inf;", inf}, {"0 3;1 2;", inf}, {"inf;", most + 1}, {"inf;", -most - 1}, {"1;", -most - 1}, {"-1;", most + 1}, {"inf;", -inf}, {"1000000;", 1}, {"-1000000;", -1}, {"1;", most}, {"-1;", -most}, {"0 0;0 1;", most}, {"1 0;0 0;", most}, {"0 -1;inf 0;", -most}, {"inf 500001;", 500000},
	} {
		got, ok := impl.ShiftMatrix(matrix(c.m), c.by)
		checkLists(t, fmt.Sprint("ShiftMatrix ", c.m, c.by), got, ok, nil, false)
	}
}

func TestManyShiftedMatrices(t *testing.T) {
	var counts [2]int
	for _, m := range goodMatrices() {
		for _, by := range edgeNumbers() {
			var want [][]int
			wantOK := isNumber(by) && by != inf
			if wantOK {
				want, wantOK = shiftedBySums(m, by)
			}
			got, ok := impl.ShiftMatrix(m, by)
			checkLists(t, fmt.Sprint("ShiftMatrix", m, by), got, ok, want, wantOK)
			countOf(&counts, wantOK)
		}
	}
	for _, m := range badMatrices() {
		for _, by := range []int{0, 1, -1, most} {
			got, ok := impl.ShiftMatrix(m, by)
			checkLists(t, fmt.Sprint("ShiftMatrix", m, by), got, ok, nil, false)
		}
	}
	if min(counts[0], counts[1]) < 1000 {
		t.Error("too few shifts, or too few failures:", counts)
	}
}

func TestMatrixText(t *testing.T) {
	for _, c := range []struct {
		m    [][]int
		want string
	}{
		{[][]int{{0, 3}, {1, 2}}, "0 3;1 2;"}, {[][]int{{0}}, "0;"}, {[][]int{{inf}}, "inf;"}, {[][]int{{-7}}, "-7;"}, {[][]int{{1, 2, 3}}, "1 2 3;"}, {[][]int{{1}, {2}, {3}}, "1;2;3;"}, {[][]int{{most, -most}, {inf, 0}}, "1000000 -1000000;inf 0;"}, {[][]int{{1, 2, 3, 4, 5, 6}}, "1 2 3 4 5 6;"}, {[][]int{{1}, {2}, {3}, {4}, {5}, {6}}, "1;2;3;4;5;6;"},
	} {
		got, ok := impl.MatrixText(c.m)
		checkText(t, fmt.Sprint("MatrixText", c.m), got, ok, c.want, true)
	}
	for _, m := range badMatrices() {
		got, ok := impl.MatrixText(m)
		checkText(t, fmt.Sprint("MatrixText", m), got, ok, "", false)
	}
}

// Guarantee 12: texts are read back.
func TestTextsOfMatricesAreReadBack(t *testing.T) {
	for _, m := range append(goodMatrices(), filled(6, 6, most), filled(6, 6, -most), filled(6, 6, inf)) {
		text, ok := impl.MatrixText(m)
		checkText(t, fmt.Sprint("MatrixText", m), text, ok, textOfMatrix(m), true)
		back, ok := impl.ParseMatrix(text)
		checkLists(t, fmt.Sprintf("ParseMatrix(%q)", text), back, ok, m, true)
	}
}

// nearlyMatrixTexts are texts of no matrix, many of which are nearly right.
func nearlyMatrixTexts() []string {
	full := textOfMatrix(filled(6, 6, 5))
	texts := []string{
		"", ";", ";;", " ", " ;", "; ", "  ;", "0", "0 3", "0 3;1 2", ";0;", "0;;", "0 3;1 2;;", ";0 3;1 2;", "0 3;;1 2;", "0;;0;", "0 3;1 2; ", "0 3;1 2;0", "0 3; 1 2;", "0 3 ;1 2;", " 0 3;1 2;", "0  3;1 2;", "0 3;1  2;", "0 3;1 2 ;", "0 3;1 2;\n", "\n0 3;1 2;", "0 3;\n1 2;", "0\t3;1 2;", "0\n3;1 2;", "0\u00a03;1 2;", "0\u20093;1 2;", "0 3;1 2;\x00", "\x000 3;1 2;", "0 3\x00;1 2;", "0 3；1 2；", "0 3;1 2；",
		"0,3;1,2;", "0 3,1 2,", "0 3 1 2", "0 3|1 2|", "0 3:1 2:", "0 3.1 2.", "0, 3;1, 2;", "[0 3;1 2;]", "(0 3;1 2;)", "0_3;1_2;", "a;", "0 a;", "a 0;", "0;a;", "x 3;1 2;", "\xff;", "0 \xff;", "٠;", "０;",
		"0 3;1;", "0;1 2;", "0 3;1 2 4;", "0 3 5;1 2;", "1;2;3 4;", "1 2;3 4;5;", "0 3;;", "0 3; ;", ";0 3;",
		"-0;", "-0 3;1 2;", "0 -0;", "00;", "0 00;", "01;", "0 03;1 2;", "-01;", "007;", "+0;", "+3;", "0 +3;1 2;", "--1;", "-;", "- 1;", "1-;", "1 -;", "1e3;", "0x1;", "1_0;", "1.0;", "1.;", "1/1;", "1000000000;", "0 1000000000;", "1000001;", "-1000001;", "0 1000001;1 2;", "0 3;1 -1000001;", "9223372036854775808;", "18446744073709551616;", "4294967296;",
		"-inf;", "+inf;", "Inf;", "INF;", "infinity;", "in;", "inff;", "infinf;", "inf0;", "0inf;", "i;", "∞;", "inf", "inf inf", "inf;inf", "inf  inf;", "inf ;", " inf;", "inf;inf inf;", "nan;", "inf,inf;",
		"1 2 3 4 5 6 7;", "1 2 3 4 5 6 ;", "1;2;3;4;5;6;7;", "1;2;3;4;5;6;;", "1;2;3;4;5;6;7", "1;2;3;4;5;6", "1 2 3 4 5 6", "1;2;3;4;5;6; ", textOfMatrix(filled(7, 7, 0)), textOfMatrix(filled(7, 6, 0)), textOfMatrix(filled(6, 7, 0)), textOfMatrix(filled(20, 20, 1)),
		full[:len(full)-1], full + ";", full + "5", full + "5;", full + full, " " + full, full + " ", ";" + full, full[2:], full + "5 5 5 5 5 5;", full + "5 5 5 5 5 5",
		strings.Repeat("0;", 7), strings.Repeat("0;", 1000), strings.Repeat(";", 1000), strings.Repeat(" ", 1000), strings.Repeat("0 ", 1000) + ";", strings.Repeat("0 ", 1000) + "0;", strings.Repeat("9", 1000) + ";", strings.Repeat("0", 1000) + ";", strings.Repeat("inf", 100) + ";",
	}
	for _, m := range badMatrices() {
		texts = append(texts, textOfMatrix(m))
	}
	return texts
}

func TestParseMatrix(t *testing.T) {
	for text, want := range map[string][][]int{
		"0 3;1 2;": {{0, 3}, {1, 2}}, "0;": {{0}}, "inf;": {{inf}}, "-7;": {{-7}}, "1 2 3;": {{1, 2, 3}}, "1;2;3;": {{1}, {2}, {3}}, "1000000 -1000000;inf 0;": {{most, -most}, {inf, 0}}, "1 2 3 4 5 6;": {{1, 2, 3, 4, 5, 6}}, "1;2;3;4;5;6;": {{1}, {2}, {3}, {4}, {5}, {6}},
	} {
		got, ok := impl.ParseMatrix(text)
		checkLists(t, fmt.Sprintf("ParseMatrix(%q)", text), got, ok, want, true)
	}
	for _, text := range nearlyMatrixTexts() {
		got, ok := impl.ParseMatrix(text)
		checkLists(t, fmt.Sprintf("ParseMatrix(%q)", text), got, ok, nil, false)
	}
}

// Of all texts of a few pieces just those are read that have the form of a matrix.
func TestShortTextsOfMatrices(t *testing.T) {
	form := regexp.MustCompile(`^((inf|0|-?[1-9][0-9]*)( (inf|0|-?[1-9][0-9]*))*;)+$`)
	var counts [2]int
	for _, text := range textsOf([]string{"0", "7", "-", "inf", " ", ";"}, 6) {
		var want [][]int
		if form.MatchString(text) && isMatrix(matrix(text)) {
			want = matrix(text)
		}
		got, ok := impl.ParseMatrix(text)
		checkLists(t, fmt.Sprintf("ParseMatrix(%q)", text), got, ok, want, want != nil)
		countOf(&counts, ok)
	}
	if min(counts[0], counts[1]) < 200 {
		t.Error("too few matrices, or too few other texts:", counts)
	}
}
