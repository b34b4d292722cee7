package hist_test

import "testing"

func TestExamples(t *testing.T) {
	holds(t, []row{
		{"1: the one that is Ok is the first", "0+p1=a 1+p1=b 0-no 1-ok", []int{1, 0}},
		{"2: not found, though it was there", "0+p1=a 0-ok 1+l1 1-no", nil},
		{"3: not found", "0+p1=a 1+l1 1-no 0-ok", []int{1, 0}},
		{"3: found", "0+p1=a 1+l1 1-ok=a 0-ok", []int{0, 1}},
		{"4: nobody has published", "0+p1=a 0-no", nil},
		{"5: the second one without the first", "0+s 1+p1=a 1-ok 2+p2=b 2-ok 0-all:2=b", nil},
		{"5: the first one alone", "0+s 1+p1=a 1-ok 2+p2=b 2-ok 0-all:1=a", []int{1, 0, 3}},
	})
}
