package sums_test

import (
	"slices"
	"testing"

	"fugue/api"
	"fugue/sums"
)

func TestBytesOfTheExample(t *testing.T) {
	f, s := pair()
	fs := []api.Func{f}
	are(t, "the example", fs, []api.Summary{s}, []byte{0, 2, 9, 9})
	notDecoded(t, "a byte too few", fs, []byte{0, 2, 9}, api.ErrSummary)
	notDecoded(t, "a byte too many", fs, []byte{0, 2, 9, 9, 0}, api.ErrSummary)
	notDecoded(t, "a 4", fs, []byte{0, 4, 9, 9}, api.ErrSummary)
}

func TestNoFunctions(t *testing.T) {
	for _, fs := range [][]api.Func{nil, {}} {
		are(t, "no function", fs, nil, nil)
		are(t, "no function", fs, []api.Summary{}, []byte{})
		notEncoded(t, "a summary of no function", fs, []api.Summary{{}}, api.ErrSummary)
		notDecoded(t, "a byte of no function", fs, []byte{0}, api.ErrSummary)
	}
}

// Functions without parameters have no bytes, those without results one for each parameter.
func TestFunctionsOfFewBytes(t *testing.T) {
	none := api.Func{Results: 4}
	one := api.Func{Params: 1}
	f, s := pair()
	are(t, "no parameters", []api.Func{none}, make([]api.Summary, 1), nil)
	are(t, "no parameters, thrice", []api.Func{none, none, none}, make([]api.Summary, 3), nil)
	notDecoded(t, "a byte for no parameter", []api.Func{none}, []byte{9}, api.ErrSummary)
	are(t, "no results", []api.Func{one}, []api.Summary{sum([]int{3}, nil)}, []byte{3})
	are(t, "all of these", []api.Func{none, one, f, none, one, none}, []api.Summary{{}, sum([]int{1}, nil), s, {}, sum([]int{0}, nil), {}}, []byte{1, 0, 2, 9, 9, 0})
	notDecoded(t, "the last one's byte is not there", []api.Func{none, one, f, none, one, none}, []byte{1, 0, 2, 9, 9}, api.ErrSummary)
}

// The order of the bytes: a parameter's Heap number, its Result numbers, then the next parameter's.
func TestTheOrderOfBytes(t *testing.T) {
	fs := []api.Func{{Params: 3, Results: 2}, {Params: 1, Results: 4}}
	l := []api.Summary{sum([]int{0, 3, 1}, []int{1, 2}, []int{none, 0}, []int{2, 3}), sum([]int{none}, []int{0, 1, 2, 3})}
	are(t, "two functions", fs, l, []byte{0, 1, 2, 3, 9, 0, 1, 2, 3, 9, 0, 1, 2, 3})
}

// A shape that may not be counts ahead of whatever is wrong with the summaries, wherever it stands.
func TestShapesCountFirst(t *testing.T) {
	f, s := pair()
	for _, wrong := range []api.Func{{Params: 9}, {Params: -1}, {Results: 5}, {Results: -1}, {Params: 9, Results: 5}} {
		for at := range 3 {
			fs := slices.Insert([]api.Func{f, f}, at, wrong)
			for _, l := range [][]api.Summary{nil, {s, s}, {s, s, s}, {{}, {}, {}}, {s, s, s, s}} {
				notEncoded(t, "a shape that may not be", fs, l, api.ErrArg)
			}
			for _, b := range [][]byte{nil, {0, 2, 9}, {0, 2, 9, 9, 0, 2, 9, 9}, {8}, make([]byte, 50)} {
				notDecoded(t, "a shape that may not be", fs, b, api.ErrArg)
			}
		}
	}
}

func TestTooFewAndTooMany(t *testing.T) {
	f, s := pair()
	fs := []api.Func{f, f}
	for many := range 4 {
		if many != 2 {
			notEncoded(t, "another number of summaries", fs, slices.Repeat([]api.Summary{s}, many), api.ErrSummary)
		}
	}
	notEncoded(t, "an empty summary more", fs, []api.Summary{s, s, {}}, api.ErrSummary)
	notEncoded(t, "the first is not right", fs, []api.Summary{{}, s}, api.ErrSummary)
	notEncoded(t, "the last is not right", fs, []api.Summary{s, {}}, api.ErrSummary)
	other := api.Func{Params: 1, Results: 1}
	swapped := []api.Summary{every(other, 0), s}
	notEncoded(t, "each right for the other", []api.Func{f, other}, swapped, api.ErrSummary)
	are(t, "each right for its own", []api.Func{other, f}, swapped, []byte{0, 0, 0, 2, 9, 9})
	whole, _ := sums.Encode(fs, []api.Summary{s, s})
	for n := range len(whole) + 3 {
		b := append(slices.Clone(whole), 0, 9)[:n]
		if n != len(whole) {
			notDecoded(t, "another number of bytes", fs, b, api.ErrSummary)
		}
	}
}

// Each byte in each of its values.
func TestEachByte(t *testing.T) {
	f, s := pair()
	fs := []api.Func{f, f}
	whole, _ := sums.Encode(fs, []api.Summary{s, s})
	for at := range whole {
		for c := range 256 {
			b := slices.Clone(whole)
			b[at] = byte(c)
			if c > 3 && c != none {
				notDecoded(t, "a byte that may not be", fs, b, api.ErrSummary)
				continue
			}
			want := []api.Summary{every(f, 0), every(f, 0)}
			for i, place := range append(places(want[0]), places(want[1])...) {
				*place = int(b[i])
			}
			are(t, "a byte that may be", fs, want, b)
		}
	}
}

// All short bytes, of several shapes: just those that Encode gives are decoded, each to what it was made of.
func TestAllShortBytes(t *testing.T) {
	letters := []byte{0, 1, 2, 3, 4, 8, 9, 10, 255}
	for _, fs := range [][]api.Func{nil, {{}}, {{Params: 1}}, {{Params: 1, Results: 1}}, {{Params: 1}, {}, {Params: 2}}, {{Params: 1, Results: 2}}, {{Results: 3}, {Params: 2}}} {
		length, seen := 0, 0
		for _, f := range fs {
			length += f.Params * (1 + f.Results)
		}
		for texts := [][]byte{nil}; len(texts[0]) <= 4; {
			var more [][]byte
			for _, b := range texts {
				l, e := sums.Decode(fs, b)
				if again, f := sums.Encode(fs, l); e == api.OK && (f != api.OK || !slices.Equal(again, b)) {
					t.Fatalf("P9.5: % x is decoded to what is not encoded to it", b)
				}
				right := len(b) == length && !slices.ContainsFunc(b, func(c byte) bool { return c > 3 && c != none })
				if right != (e == api.OK) || !right && (e != api.ErrSummary || len(l) > 0) {
					t.Fatalf("P9.5: Decode of % x: %v, error %d", b, l, e)
				}
				if right {
					seen++
				}
				for _, c := range letters {
					more = append(more, append(slices.Clone(b), c))
				}
			}
			texts = more
		}
		want := 1
		for range length {
			want *= 5
		}
		if seen != want {
			t.Errorf("P9.5: %d lists of summaries, want %d", seen, want)
		}
	}
}
