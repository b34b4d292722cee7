package sums

import "slices"

// paired: have two lists as many numbers, each one that may be?
func paired(a, b []int) bool {
	return slices.EqualFunc(a, b, func(x, y int) bool { return mayBe(x) && mayBe(y) })
}

// atMost: are they paired, and is each number of a at most b's? None is the greatest number too, so that the derefs' order is that of the numbers.
func atMost(a, b []int) bool {
	return slices.EqualFunc(a, b, func(x, y int) bool { return mayBe(x) && mayBe(y) && x <= y })
}

// lesser: of two lists that are paired, number by number.
func lesser(a, b []int) []int {
	l := make([]int, len(a))
	for i := range l {
		l[i] = min(a[i], b[i])
	}
	return l
}
