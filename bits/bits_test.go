package bits_test

import (
	"math"
	"slices"
	"testing"

	"commonage/api"
	"commonage/bits"
)

// lengths are numbers of bits about the ends of words, and the least and the greatest.
func lengths() []int {
	return []int{0, 1, 2, 3, 63, 64, 65, 70, 127, 128, 129, 192, 1000, 65535, 65536}
}

// noLengths are none.
func noLengths() []int {
	return []int{-1, -2, -64, 65537, 65600, 1 << 20, 1 << 32, math.MaxInt, math.MaxInt - 62, math.MinInt}
}

// patterns are bits of all kinds of a row of so many: none, all, one alone at an end of a word, all but that one, and mixtures.
func patterns(many int) [][]bool {
	rules := []func(i int) bool{
		func(int) bool { return false },
		func(int) bool { return true },
		func(i int) bool { return i%2 == 0 },
		func(i int) bool { return i*i%7 == 2 },
		func(i int) bool { return i/64%2 == 1 },
		func(i int) bool { return i%64 == 63 },
		func(i int) bool { return i < many/2 },
	}
	for _, at := range []int{0, 63, 64, many - 1} {
		rules = append(rules, func(i int) bool { return i == at }, func(i int) bool { return i != at })
	}
	var all [][]bool
	for _, is := range rules {
		l := make([]bool, many)
		for i := range l {
			l[i] = is(i)
		}
		all = append(all, l)
	}
	return all
}

// made is a row of so many bits.
func made(t *testing.T, many int) *bits.Row {
	t.Helper()
	r, e := bits.New(many)
	if r == nil || e != api.OK {
		t.Fatalf("New(%d) is %v, %d", many, r, e)
	}
	return r
}

// rowOf is a row with these bits.
func rowOf(t *testing.T, l []bool) *bits.Row {
	t.Helper()
	r := made(t, len(l))
	for i, is := range l {
		if !is {
			continue
		}
		if e := r.Set(i, true); e != api.OK {
			t.Fatalf("Set(%d, true) of a row of %d is %d", i, len(l), e)
		}
	}
	return r
}

// read are the bits of a row, one by one.
func read(r *bits.Row) []bool {
	l := make([]bool, r.Len())
	for i := range l {
		l[i] = r.Get(i)
	}
	return l
}

// wordsOf are the words that have these bits, added up one by one.
func wordsOf(l []bool) []uint64 {
	var words []uint64
	for ; len(l) > 0; l = l[min(64, len(l)):] {
		var w uint64
		for i, is := range l[:min(64, len(l))] {
			if is {
				w += uint64(math.Pow(2, float64(i)))
			}
		}
		words = append(words, w)
	}
	return words
}

// places are the bits of a kind, in order.
func places(l []bool, is bool) []int {
	var all []int
	for i, bit := range l {
		if bit == is {
			all = append(all, i)
		}
	}
	return all
}

// outside are numbers that are no bit of a row of so many.
func outside(many int) []int {
	return []int{-1, -63, -64, -65, many, many + 1, many + 63, many + 64, 1 << 17, 1 << 32, 1<<32 + 1, math.MaxInt, math.MinInt, math.MinInt + 1}
}

// none are the rows that are no objects: nil, and zero ones.
func none() []*bits.Row { return []*bits.Row{nil, {}, new(bits.Row)} }

// TestExamples: the chapter's table.
func TestExamples(t *testing.T) {
	r := made(t, 70)
	if a, b, c := r.Set(3, true), r.Set(69, true), r.Set(70, true); a != api.OK || b != api.OK || c != api.ErrArg {
		t.Errorf("Set is %d, %d, %d", a, b, c)
	}
	for _, x := range []struct {
		from int
		is   bool
		at   int
		ok   bool
	}{{0, true, 3, true}, {4, true, 69, true}, {70, true, 0, false}, {3, false, 4, true}} {
		if at, ok := r.Next(x.from, x.is); at != x.at || ok != x.ok {
			t.Errorf("Next(%d, %t) is %d, %t", x.from, x.is, at, ok)
		}
	}
	if n, l := r.Count(), r.Words(); n != 2 || !slices.Equal(l, []uint64{8, 0x20}) {
		t.Errorf("Count is %d, Words are %x", n, l)
	}
	three, short := made(t, 70), made(t, 69)
	three.Set(3, true)
	if e := r.Less(three); e != api.OK || r.Count() != 1 {
		t.Errorf("Less is %d, and Count then %d", e, r.Count())
	}
	if e := r.Less(short); e != api.ErrArg {
		t.Errorf("Less of a row of 69 is %d", e)
	}
}

// TestNew: P4.1, rows of all lengths that there are, with no bit that is 1.
func TestNew(t *testing.T) {
	for _, many := range lengths() {
		r := made(t, many)
		if r.Len() != many || r.Count() != 0 || slices.Contains(read(r), true) {
			t.Errorf("New(%d) has %d bits, and %d that are 1", many, r.Len(), r.Count())
		}
	}
	for _, many := range noLengths() {
		if r, e := bits.New(many); r != nil || e != api.ErrArg {
			t.Errorf("New(%d) is %v, %d", many, r, e)
		}
	}
}

// TestGetSet: P4.1, what was set is read, as often as it is set, and ErrArg for bits that do not exist, which changes nothing.
func TestGetSet(t *testing.T) {
	for _, many := range lengths() {
		for k, l := range patterns(many) {
			r := rowOf(t, l)
			if !slices.Equal(read(r), l) {
				t.Fatalf("pattern %d of %d bits is read as another one", k, many)
			}
			for i, is := range l {
				if e := r.Set(i, is); e != api.OK {
					t.Fatalf("Set(%d, %t) of %d bits is %d", i, is, many, e)
				}
			}
			for _, i := range outside(many) {
				a, b := r.Set(i, true), r.Set(i, false)
				if a != api.ErrArg || b != api.ErrArg || r.Get(i) {
					t.Errorf("of %d bits, Set(%d, ..) is %d, %d, and Get %t", many, i, a, b, r.Get(i))
				}
			}
			if !slices.Equal(read(r), l) || !slices.Equal(r.Words(), wordsOf(l)) || r.Len() != many {
				t.Errorf("pattern %d of %d bits is changed", k, many)
			}
			for i := range l {
				r.Set(i, false)
			}
			if r.Count() != 0 {
				t.Errorf("pattern %d of %d bits has %d left", k, many, r.Count())
			}
		}
	}
}

// TestSetChangesOne: P4.5, no other bit is changed, whatever the bits are.
func TestSetChangesOne(t *testing.T) {
	for _, many := range []int{1, 2, 63, 64, 65, 130} {
		for _, l := range patterns(many) {
			r := rowOf(t, l)
			for i, was := range l {
				for _, is := range []bool{true, false, was} {
					if e := r.Set(i, is); e != api.OK {
						t.Fatalf("Set(%d, %t) of %d bits is %d", i, is, many, e)
					}
					l[i] = is
					if !slices.Equal(read(r), l) {
						t.Fatalf("Set(%d, %t) of %d bits changes others", i, is, many)
					}
				}
			}
		}
	}
}

// first is the first bit of a kind from from on, looked for one by one.
func first(l []bool, from int, is bool) (int, bool) {
	for i, bit := range l {
		if i >= from && bit == is {
			return i, true
		}
	}
	return 0, false
}

// TestNext: P4.2, from each bit, from before them and from beyond them, where no bit is 0 either.
func TestNext(t *testing.T) {
	for _, many := range lengths() {
		if many > 1000 {
			continue
		}
		for k, l := range patterns(many) {
			r := rowOf(t, l)
			starts := outside(many)
			for from := range many {
				starts = append(starts, from)
			}
			for _, from := range starts {
				for _, is := range []bool{true, false} {
					want, ok := first(l, from, is)
					if got, found := r.Next(from, is); got != want || found != ok {
						t.Fatalf("pattern %d of %d bits: Next(%d, %t) is %d, %t, not %d, %t", k, many, from, is, got, found, want, ok)
					}
				}
			}
		}
	}
}

// TestNextGoesOn: P4.5, again from after each result, Next gives all bits of a kind, as many as Count says.
func TestNextGoesOn(t *testing.T) {
	for _, many := range lengths() {
		for k, l := range patterns(many) {
			r := rowOf(t, l)
			for _, is := range []bool{true, false} {
				var got []int
				for at, ok := r.Next(0, is); ok && len(got) <= many; at, ok = r.Next(at+1, is) {
					got = append(got, at)
				}
				if !slices.Equal(got, places(l, is)) {
					t.Errorf("pattern %d of %d bits: Next goes to %d that are %t, not to %d", k, many, len(got), is, len(places(l, is)))
				}
				count := r.Count()
				if !is {
					count = r.Len() - r.Count()
				}
				if len(got) != count {
					t.Errorf("pattern %d of %d bits: %d are %t, but Count is %d", k, many, len(got), is, r.Count())
				}
			}
		}
	}
}

// TestCountWords: P4.2 and P4.4, how many bits are 1, and the words, in which no other bit is.
func TestCountWords(t *testing.T) {
	for _, many := range lengths() {
		for k, l := range patterns(many) {
			r := rowOf(t, l)
			if got, want := r.Count(), len(places(l, true)); got != want {
				t.Errorf("pattern %d of %d bits: Count is %d, not %d", k, many, got, want)
			}
			if got, want := r.Words(), wordsOf(l); !slices.Equal(got, want) {
				t.Errorf("pattern %d of %d bits: Words are %x, not %x", k, many, got, want)
			}
		}
	}
}

// TestClear: P4.3, all bits are 0, and can be set again.
func TestClear(t *testing.T) {
	for _, many := range lengths() {
		for k, l := range patterns(many) {
			r := rowOf(t, l)
			r.Clear()
			if r.Len() != many || r.Count() != 0 || slices.Contains(read(r), true) || len(r.Words()) != len(wordsOf(l)) {
				t.Errorf("pattern %d of %d bits is not cleared", k, many)
			}
			for i, is := range l {
				r.Set(i, is)
			}
			if !slices.Equal(read(r), l) {
				t.Errorf("pattern %d of %d bits is not set again", k, many)
			}
		}
	}
}

// TestLess: P4.3 and P4.6, no bit is 1 in both, those that were 1 in this row alone still are, and the other one is as it was.
func TestLess(t *testing.T) {
	for _, many := range lengths() {
		if many > 1000 {
			continue
		}
		for k, l := range patterns(many) {
			for j, o := range patterns(many) {
				want := make([]bool, many)
				for i := range want {
					want[i] = l[i] && !o[i]
				}
				r, other := rowOf(t, l), rowOf(t, o)
				if e := r.Less(other); e != api.OK {
					t.Errorf("Less of %d bits is %d", many, e)
				}
				if !slices.Equal(read(r), want) || !slices.Equal(read(other), o) {
					t.Errorf("pattern %d less pattern %d, of %d bits, is wrong, or changes the other one", k, j, many)
				}
			}
		}
	}
}

// TestLessItself: P4.3, a row less itself has no bit that is 1.
func TestLessItself(t *testing.T) {
	for _, many := range lengths() {
		for k, l := range patterns(many) {
			r := rowOf(t, l)
			if e := r.Less(r); e != api.OK || r.Count() != 0 || r.Len() != many {
				t.Errorf("pattern %d of %d bits, less itself, is %d, and has %d", k, many, e, r.Count())
			}
		}
	}
}

// TestLessWrong: P4.3, ErrArg for another row that is none, or has another number of bits, of as many words too; nothing is changed.
func TestLessWrong(t *testing.T) {
	for _, many := range lengths() {
		l := slices.Repeat([]bool{true}, many)
		r := rowOf(t, l)
		others := none()
		for _, other := range lengths() {
			if other != many {
				others = append(others, rowOf(t, slices.Repeat([]bool{true}, other)))
			}
		}
		for _, o := range others {
			before := o.Words()
			if e := r.Less(o); e != api.ErrArg {
				t.Errorf("%d bits less %d bits is %d", many, o.Len(), e)
			}
			if !slices.Equal(read(r), l) || !slices.Equal(o.Words(), before) {
				t.Errorf("%d bits less %d bits changes one of them", many, o.Len())
			}
		}
	}
}

// TestWordsAreNew: P4.4 and R5, what is done with the words that were returned, and behind them, is not seen.
func TestWordsAreNew(t *testing.T) {
	for _, many := range lengths() {
		for _, l := range patterns(many) {
			r := rowOf(t, l)
			other := r.Words()
			got := r.Words()
			got = got[:cap(got)]
			for i := range got {
				got[i] = ^got[i]
			}
			if !slices.Equal(read(r), l) || !slices.Equal(r.Words(), wordsOf(l)) || !slices.Equal(other, wordsOf(l)) {
				t.Errorf("Words of %d bits share memory", many)
			}
			for i := range l {
				r.Set(i, !l[i])
			}
			if !slices.Equal(other, wordsOf(l)) {
				t.Errorf("Words of %d bits change with the row", many)
			}
		}
	}
}

// flip makes each bit of a row the other one.
func flip(r *bits.Row) {
	for i := range r.Len() {
		r.Set(i, !r.Get(i))
	}
}

// TestCopy: P4.4, a copy is equal, and neither sees what is done with the other one.
func TestCopy(t *testing.T) {
	for _, many := range lengths() {
		for k, l := range patterns(many) {
			r := rowOf(t, l)
			c := r.Copy()
			if c == nil || c == r || c.Len() != many || c.Count() != r.Count() || !slices.Equal(read(c), l) || !slices.Equal(c.Words(), wordsOf(l)) {
				t.Fatalf("pattern %d of %d bits is copied as another one", k, many)
			}
			flip(r)
			if !slices.Equal(read(c), l) {
				t.Errorf("pattern %d of %d bits: the copy changes with the row", k, many)
			}
			again := read(r)
			c.Clear()
			if !slices.Equal(read(r), again) {
				t.Errorf("pattern %d of %d bits: the row changes with the copy", k, many)
			}
			if e := r.Less(c); e != api.OK {
				t.Errorf("a row of %d bits less its copy is %d", many, e)
			}
			if e := c.Less(r); e != api.OK {
				t.Errorf("a copy of %d bits less its row is %d", many, e)
			}
		}
	}
}

// TestNoRow: nil, and a row that no call made, give ErrNil, before ErrArg, or nothing, and stay what they are.
func TestNoRow(t *testing.T) {
	row := made(t, 1)
	for k, r := range none() {
		r.Clear()
		for _, i := range append(outside(0), 0, 1, 64, 65535) {
			for _, is := range []bool{true, false} {
				if e := r.Set(i, is); e != api.ErrNil {
					t.Errorf("no row %d: Set(%d, %t) is %d", k, i, is, e)
				}
				if at, ok := r.Next(i, is); at != 0 || ok {
					t.Errorf("no row %d: Next(%d, %t) is %d, %t", k, i, is, at, ok)
				}
			}
			if r.Get(i) {
				t.Errorf("no row %d: Get(%d) is true", k, i)
			}
		}
		for _, o := range append(none(), row, r) {
			if e := r.Less(o); e != api.ErrNil {
				t.Errorf("no row %d: Less is %d", k, e)
			}
		}
		if r.Len() != 0 || r.Count() != 0 || r.Words() != nil || r.Copy() != nil {
			t.Errorf("no row %d has %d bits, %d that are 1, words %x, copy %v", k, r.Len(), r.Count(), r.Words(), r.Copy())
		}
	}
}

// TestEmptyRow: a row of no bits is an object, unlike a zero one, and so is its copy.
func TestEmptyRow(t *testing.T) {
	r := made(t, 0)
	c := r.Copy()
	if c == nil || c.Len() != 0 {
		t.Fatalf("the copy of an empty row is %v", c)
	}
	for _, r := range []*bits.Row{r, c} {
		if a, b := r.Set(0, true), r.Set(0, false); a != api.ErrArg || b != api.ErrArg {
			t.Errorf("Set of an empty row is %d, %d", a, b)
		}
		if a, b := r.Less(c), r.Less(made(t, 1)); a != api.OK || b != api.ErrArg {
			t.Errorf("Less of an empty row is %d, %d", a, b)
		}
		if len(r.Words()) != 0 || r.Count() != 0 {
			t.Errorf("an empty row has words %x, and Count %d", r.Words(), r.Count())
		}
	}
}
