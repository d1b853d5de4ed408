package class_test

import (
	"math"
	"slices"
	"testing"

	"commonage/api"
	"commonage/class"
)

// lists are valid classes: each number alone, each pair, and up to eight, dense, sparse, and at both ends.
func lists() [][]int {
	all := [][]int{
		{2, 4, 8}, {2, 3, 64}, {2, 63, 64}, {5, 6, 7}, {2, 4, 8, 16}, {3, 9, 27, 64}, {2, 3, 5, 8, 13}, {4, 8, 16, 24, 32, 64},
		{2, 3, 4, 5, 6, 7, 8}, {58, 59, 60, 61, 62, 63, 64}, {2, 3, 4, 5, 6, 7, 8, 9}, {57, 58, 59, 60, 61, 62, 63, 64}, {2, 11, 20, 29, 38, 47, 56, 64}, {2, 4, 6, 8, 12, 16, 32, 64},
	}
	for first := 2; first <= 64; first++ {
		all = append(all, []int{first})
		for second := first + 1; second <= 64; second++ {
			all = append(all, []int{first, second})
		}
	}
	return all
}

// noLists are not valid: none or too many, a number outside at each place, and numbers that do not increase.
func noLists() [][]int {
	all := [][]int{
		nil, {}, make([]int, 0, 4), make([]int, 1), make([]int, 8),
		{1, 2}, {0, 2}, {-1, 2}, {2, 65}, {2, 4, 65}, {65, 66}, {4, 4}, {64, 64}, {4, 2}, {64, 2}, {8, 4, 2}, {2, 8, 4}, {4, 2, 8}, {2, 2, 8}, {2, 8, 8}, {2, 4, 4, 8}, {2, 4, 3, 8}, {2, 0, 4}, {2, -4, 8}, {2, 128, 64},
		{math.MinInt, 2}, {2, math.MaxInt}, {2, math.MinInt, 4}, {2, math.MaxInt, 4}, {2, 4, math.MinInt}, {math.MinInt, math.MaxInt}, {math.MaxInt, math.MinInt}, {1<<32 + 2}, {2, 1<<32 + 4},
		{2, 3, 4, 5, 6, 7, 8, 9, 10}, {1, 2, 3, 4, 5, 6, 7, 8}, {2, 3, 4, 5, 6, 7, 8, 8}, {2, 2, 3, 4, 5, 6, 7, 8}, {57, 58, 59, 60, 61, 62, 63, 65}, {9, 8, 7, 6, 5, 4, 3, 2}, {2, 3, 4, 5, 7, 6, 8, 9},
		{56, 57, 58, 59, 60, 61, 62, 63, 64}, slices.Repeat([]int{2}, 9), slices.Repeat([]int{2}, 100000),
	}
	for _, n := range []int{math.MinInt, math.MinInt + 1, -65, -64, -2, -1, 0, 1, 65, 66, 128, 256, 258, 1 << 16, 1<<16 + 2, 1 << 32, 1<<32 + 8, math.MaxInt - 1, math.MaxInt} {
		all = append(all, []int{n})
		// Among eight numbers that are valid, it is at each place in turn.
		for at := range 8 {
			l := []int{2, 11, 20, 29, 38, 47, 56, 64}
			l[at] = n
			all = append(all, l)
		}
	}
	all63 := make([]int, 63)
	for i := range all63 {
		all63[i] = i + 2
	}
	return append(all, all63)
}

// fitting are the numbers of words that some class has room for.
func fitting(l []int) []int {
	var all []int
	for n := 1; n <= l[len(l)-1]; n++ {
		all = append(all, n)
	}
	return all
}

// noFitting are the numbers of words that no class is for: below 1, and above all classes.
func noFitting(l []int) []int {
	most := l[len(l)-1]
	return []int{0, -1, -2, -most, -64, math.MinInt, math.MinInt + 1, most + 1, most + 2, 65, 66, 128, 1 << 16, 1 << 32, 1<<32 + 1, math.MaxInt - 1, math.MaxInt}
}

// expected is the class, looked for one by one.
func expected(l []int, words int) int {
	for i, n := range l {
		if n >= words {
			return i
		}
	}
	return -1
}

// calls are the three functions that take a number of words.
func calls() map[string]func([]int, int) (int, api.Errno) {
	return map[string]func([]int, int) (int, api.Errno){"Of": class.Of, "Round": class.Round, "Waste": class.Waste}
}

// ask is a call that must succeed.
func ask(t *testing.T, name string, l []int, words int) int {
	t.Helper()
	n, e := calls()[name](l, words)
	if e != api.OK {
		t.Fatalf("%s(%d, %d) is %d, %d", name, l, words, n, e)
	}
	return n
}

// TestExamples: the chapter's table.
func TestExamples(t *testing.T) {
	l := []int{2, 4, 8}
	for _, x := range []struct {
		words, want int
		e           api.Errno
	}{{1, 0, api.OK}, {2, 0, api.OK}, {3, 1, api.OK}, {8, 2, api.OK}, {9, 0, api.ErrSize}, {0, 0, api.ErrSize}} {
		if got, e := class.Of(l, x.words); got != x.want || e != x.e {
			t.Errorf("Of(%d) is %d, %d", x.words, got, e)
		}
	}
	if n, e := class.Round(l, 5); n != 8 || e != api.OK {
		t.Errorf("Round(5) is %d, %d", n, e)
	}
	if n, e := class.Waste(l, 5); n != 3 || e != api.OK {
		t.Errorf("Waste(5) is %d, %d", n, e)
	}
	for _, l := range [][]int{nil, {1, 2}, {4, 4}, {2, 65}} {
		if e := class.Check(l); e != api.ErrArg {
			t.Errorf("Check(%d) is %d", l, e)
		}
	}
}

// TestCheck: P5.1, classes that are valid.
func TestCheck(t *testing.T) {
	for _, l := range lists() {
		if e := class.Check(l); e != api.OK {
			t.Errorf("Check(%d) is %d", l, e)
		}
	}
}

// TestCheckPairs: P5.1, each pair of numbers about the ends, and each number with its neighbours.
func TestCheckPairs(t *testing.T) {
	for a := -2; a <= 70; a++ {
		for b := -2; b <= 70; b++ {
			want := api.ErrArg
			if a >= 2 && a < b && b <= 64 {
				want = api.OK
			}
			if e := class.Check([]int{a, b}); e != want {
				t.Errorf("Check(%d %d) is %d, not %d", a, b, e, want)
			}
		}
	}
}

// TestNotValid: P5.1 and P5.2, ErrArg for classes that are not valid, before ErrSize, and with no result beside it.
func TestNotValid(t *testing.T) {
	for _, l := range noLists() {
		if e := class.Check(l); e != api.ErrArg {
			t.Errorf("Check(%d) is %d", l, e)
		}
		for name, call := range calls() {
			for _, words := range []int{1, 2, 3, 8, 64, 0, -1, 65, 1 << 32, math.MaxInt, math.MinInt} {
				if n, e := call(l, words); n != 0 || e != api.ErrArg {
					t.Errorf("%s(%d, %d) is %d, %d", name, l, words, n, e)
				}
			}
		}
	}
}

// TestNoClass: P5.1 and P5.2, ErrSize for numbers of words that no class is for, and no result beside it.
func TestNoClass(t *testing.T) {
	for _, l := range lists() {
		for name, call := range calls() {
			for _, words := range noFitting(l) {
				if n, e := call(l, words); n != 0 || e != api.ErrSize {
					t.Errorf("%s(%d, %d) is %d, %d", name, l, words, n, e)
				}
			}
		}
	}
}

// TestOf: P5.1, the first class that is not below the number of words.
func TestOf(t *testing.T) {
	for _, l := range lists() {
		for _, words := range fitting(l) {
			if got, want := ask(t, "Of", l, words), expected(l, words); got != want {
				t.Errorf("Of(%d, %d) is %d, not %d", l, words, got, want)
			}
		}
	}
}

// TestRoundWaste: P5.2, the number of words of the class, and what remains of it.
func TestRoundWaste(t *testing.T) {
	for _, l := range lists() {
		for _, words := range fitting(l) {
			want := l[expected(l, words)]
			if got := ask(t, "Round", l, words); got != want {
				t.Errorf("Round(%d, %d) is %d, not %d", l, words, got, want)
			}
			if got := ask(t, "Waste", l, words); got != want-words {
				t.Errorf("Waste(%d, %d) is %d, not %d", l, words, got, want-words)
			}
		}
	}
}

// TestRoundLaws: P5.3, Round is not below words, is its own Round, and never goes down.
func TestRoundLaws(t *testing.T) {
	for _, l := range lists() {
		before := 0
		for _, words := range fitting(l) {
			n := ask(t, "Round", l, words)
			if n < words || ask(t, "Round", l, n) != n || n < before {
				t.Errorf("Round(%d, %d) is %d, and before that %d", l, words, n, before)
			}
			before = n
		}
	}
}

// TestWasteBound: P5.3, less than the difference between the class and the previous one, or than the first class.
func TestWasteBound(t *testing.T) {
	for _, l := range lists() {
		for _, words := range fitting(l) {
			at := ask(t, "Of", l, words)
			bound := l[at]
			if at > 0 {
				bound -= l[at-1]
			}
			if n := ask(t, "Waste", l, words); n < 0 || n >= bound {
				t.Errorf("Waste(%d, %d) is %d, which is not from 0 to below %d", l, words, n, bound)
			}
		}
	}
}

// TestNothingChanged: R5, the classes stay what they are, and so does what is behind them.
func TestNothingChanged(t *testing.T) {
	for _, l := range [][]int{{2, 4, 8, 3, 65}, {8, 4, 2, 64, 1}, {2, 2, 2, 2, 2}} {
		whole := slices.Clone(l)
		for many := range l {
			class.Check(l[:many])
			for _, call := range calls() {
				for _, words := range []int{-1, 0, 1, 3, 8, 9, 65} {
					call(l[:many], words)
				}
			}
			if !slices.Equal(l, whole) {
				t.Fatalf("%d is changed to %d", whole, l)
			}
		}
	}
}

// TestBehindLength: R5, what is behind the length of the classes is no class.
func TestBehindLength(t *testing.T) {
	l := []int{2, 4, 8, 16}[:2]
	if n, e := class.Of(l, 8); n != 0 || e != api.ErrSize {
		t.Errorf("Of(%d, 8) is %d, %d", l, n, e)
	}
	bad := []int{2, 4, 0, 0}[:2]
	if e := class.Check(bad); e != api.OK {
		t.Errorf("Check(%d) is %d", bad, e)
	}
}
