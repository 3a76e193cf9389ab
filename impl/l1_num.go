package impl

import (
	"strconv"
	"strings"
)

const MaxNumber = 1000000
const Infinity = 1000000000
const MaxList = 20

// maxPower is the greatest exponent of TropPower.
const maxPower = 20

// The places of the two neutral numbers in their tables.
const (
	neutralOfSums = iota
	neutralOfProducts
)

var neutralNumbers = [...]int{neutralOfSums: Infinity, neutralOfProducts: 0}

var neutralNames = [...]string{neutralOfSums: "inf", neutralOfProducts: "0"}

// IsNumber reports whether n is a number.
func IsNumber(n int) bool {
	return n == Infinity || isFiniteNumber(n)
}

func isFiniteNumber(n int) bool {
	return -MaxNumber <= n && n <= MaxNumber
}

func isNumberList(l []int) bool {
	if len(l) > MaxList {
		return false
	}
	for _, n := range l {
		if !IsNumber(n) {
			return false
		}
	}
	return true
}

// freeProduct has no bound, because products on the way may be greater or less than any number.
// With at most maxPower finite factors it stays far below Infinity, so that it is never taken for it.
func freeProduct(a int, b int) int {
	if a == Infinity || b == Infinity {
		return Infinity
	}
	return a + b
}

// leastOf takes products on the way too, so it does not ask whether they are numbers.
func leastOf(l []int) int {
	least := neutralNumbers[neutralOfSums]
	for _, n := range l {
		least = min(least, n)
	}
	return least
}

func numberOrNone(n int) (int, bool) {
	if !IsNumber(n) {
		return 0, false
	}
	return n, true
}

// TropSum returns the tropical sum of two numbers.
func TropSum(a int, b int) (int, bool) {
	if !IsNumber(a) || !IsNumber(b) {
		return 0, false
	}
	return min(a, b), true
}

// TropProduct returns their tropical product.
func TropProduct(a int, b int) (int, bool) {
	if !IsNumber(a) || !IsNumber(b) {
		return 0, false
	}
	return numberOrNone(freeProduct(a, b))
}

// TropQuotient returns the number whose tropical product with b is a. It fails if b is Infinity.
func TropQuotient(a int, b int) (int, bool) {
	if !IsNumber(a) || !isFiniteNumber(b) {
		return 0, false
	}
	return numberOrNone(freeProduct(a, -b))
}

// TropPower returns the tropical product of k times a, k in 0..20: for k = 0 it is 0.
func TropPower(a int, k int) (int, bool) {
	if !IsNumber(a) || k < 0 || k > maxPower {
		return 0, false
	}
	power := neutralNumbers[neutralOfProducts]
	for range k {
		power = freeProduct(power, a)
	}
	return numberOrNone(power)
}

// TropSumOf returns the tropical sum of a list.
func TropSumOf(l []int) (int, bool) {
	if !isNumberList(l) {
		return 0, false
	}
	return leastOf(l), true
}

// LeastPlaces returns the indices of all elements of a list that are equal to its tropical sum, increasing.
func LeastPlaces(l []int) ([]int, bool) {
	if !isNumberList(l) {
		return nil, false
	}
	least := leastOf(l)
	var places []int
	for i, n := range l {
		if n == least {
			places = append(places, i)
		}
	}
	return places, true
}

// DoesVanish reports whether a list vanishes: its tropical sum is Infinity, or at least two elements are equal to it.
func DoesVanish(l []int) (bool, bool) {
	places, ok := LeastPlaces(l)
	if !ok {
		return false, false
	}
	return leastOf(l) == Infinity || len(places) >= 2, true
}

// TropDot returns the tropical sum of the tropical products of the elements of two lists with the same length.
func TropDot(a []int, b []int) (int, bool) {
	if !isNumberList(a) || !isNumberList(b) || len(a) != len(b) {
		return 0, false
	}
	products := make([]int, len(a))
	for i := range a {
		products[i] = freeProduct(a[i], b[i])
	}
	return numberOrNone(leastOf(products))
}

// ShiftList returns the tropical products of all elements and a number that is not Infinity.
func ShiftList(l []int, by int) ([]int, bool) {
	if !isNumberList(l) || !isFiniteNumber(by) {
		return nil, false
	}
	shifted := make([]int, len(l))
	for i, n := range l {
		product, ok := TropProduct(n, by)
		if !ok {
			return nil, false
		}
		shifted[i] = product
	}
	return shifted, true
}

// NormalList returns the list shifted so that its tropical sum is 0, and its tropical sum before. It fails if this is Infinity.
func NormalList(l []int) ([]int, int, bool) {
	least, ok := TropSumOf(l)
	if !ok || least == Infinity {
		return nil, 0, false
	}
	normal, ok := ShiftList(l, -least)
	if !ok {
		return nil, 0, false
	}
	return normal, least, true
}

// NumberText returns a number in decimal, with a sign - if it is negative, and inf for Infinity.
func NumberText(n int) (string, bool) {
	if !IsNumber(n) {
		return "", false
	}
	for i, name := range neutralNames {
		if neutralNumbers[i] == n {
			return name, true
		}
	}
	return strconv.Itoa(n), true
}

// ParseNumber returns the number with a NumberText. It fails if there is none.
func ParseNumber(s string) (int, bool) {
	for i, name := range neutralNames {
		if name == s {
			return neutralNumbers[i], true
		}
	}
	n, err := strconv.Atoi(s)
	if err != nil {
		return 0, false
	}
	// Atoi takes other spellings too; only the text that NumberText writes is one.
	if text, ok := NumberText(n); !ok || text != s {
		return 0, false
	}
	return n, true
}

// textOfNumbers returns the texts of all numbers of a list with the same mark between them.
func textOfNumbers(l []int, mark string) string {
	texts := make([]string, len(l))
	for i, n := range l {
		// Each element of a valid list has a text.
		texts[i], _ = NumberText(n)
	}
	return strings.Join(texts, mark)
}

// parseNumbers reads a list of at most so many numbers with the same mark between them.
func parseNumbers(s string, mark string, most int) ([]int, bool) {
	// The last text holds all that is left: if there are too many, it is no number.
	texts := strings.SplitN(s, mark, most)
	l := make([]int, len(texts))
	for i, text := range texts {
		n, ok := ParseNumber(text)
		if !ok {
			return nil, false
		}
		l[i] = n
	}
	return l, true
}
