package field_test

import (
	"math"
	"slices"
	"testing"

	"commonage/api"
	"commonage/field"
)

// words are of all shapes in which a bit may be lost, or left where it should not be.
func words() []uint64 {
	return []uint64{0, 1, 2, 0xff, 0xff00, 0x312, 1 << 31, 1 << 32, 1<<63 - 1, 1 << 63, 1<<63 + 1, 0x0123456789abcdef, 0x5555555555555555, 0xaaaaaaaaaaaaaaaa, math.MaxUint64 - 1, math.MaxUint64}
}

// bitsOf are the bits of w, the lowest first.
func bitsOf(w uint64) []bool {
	var l []bool
	for range 64 {
		l = append(l, w%2 == 1)
		w /= 2
	}
	return l
}

// number is the number that bits form, the lowest first.
func number(l []bool) uint64 {
	var w uint64
	for _, is := range slices.Backward(l) {
		w *= 2
		if is {
			w++
		}
	}
	return w
}

// values are some that a field of so many bits can have: the ends, and the lowest bits of the words.
func values(many int) []uint64 {
	l := []uint64{0, 1, number(slices.Repeat([]bool{true}, many))}
	for _, w := range words() {
		l = append(l, number(bitsOf(w)[:many]))
	}
	slices.Sort(l)
	return slices.Compact(l)
}

// beyond are some with more than so many bits; none for 64.
func beyond(many int) []uint64 {
	var l []uint64
	for above := many; above < 64; above++ {
		l = append(l, 1<<above, 1<<above+1, math.MaxUint64>>(63-above))
	}
	return l
}

// fields calls do for each field that a word has.
func fields(do func(from, many int)) {
	for from := range 64 {
		for many := 1; from+many <= 64; many++ {
			do(from, many)
		}
	}
}

// noFields are none of a word.
func noFields() [][2]int {
	return [][2]int{
		{-1, 3}, {-1, 1}, {-1, 65}, {-64, 64}, {0, 0}, {5, 0}, {64, 0}, {0, -1}, {63, -1}, {64, 1}, {63, 2}, {0, 65}, {1, 64}, {65, 1}, {65, -1}, {128, 1},
		{math.MaxInt, 1}, {1, math.MaxInt}, {math.MaxInt, math.MaxInt}, {math.MinInt, 1}, {1, math.MinInt}, {math.MinInt, math.MinInt}, {math.MinInt, math.MaxInt}, {math.MaxInt, math.MinInt}, {-1, math.MinInt}, {0, math.MinInt},
	}
}

// widths are valid ones: alone, together the whole of a word, and less than it.
func widths() [][]int {
	l := [][]int{
		{8, 4}, {4, 8}, {32, 32}, {63, 1}, {1, 63}, {32, 24, 8}, {16, 16, 16, 8, 8}, {1, 2, 3, 4, 5, 6, 7, 8}, {10, 9, 8, 7, 6, 5, 4, 3, 2, 1}, {62, 1}, {1, 61, 1},
		slices.Repeat([]int{1}, 64), slices.Repeat([]int{1}, 63), slices.Repeat([]int{2}, 32), slices.Repeat([]int{8}, 8), {1, 1},
	}
	for many := 1; many <= 64; many++ {
		l = append(l, []int{many})
	}
	return l
}

// noWidths are not valid: none or too many, one of them below 1, or a sum above 64, where it overflows too.
func noWidths() [][]int {
	return [][]int{
		nil, {}, make([]int, 0, 4), {0}, {-1}, {65}, {math.MaxInt}, {math.MinInt}, {8, 0}, {8, -1}, {0, 8}, {8, 0, 8}, {8, -4, 8}, {64, 1}, {1, 64}, {63, 2}, {32, 32, 1}, {32, 33}, {64, 0}, {64, -1}, {65, -1}, {60, 10, -6},
		{1, math.MaxInt}, {1, math.MinInt}, {math.MaxInt, math.MaxInt, 3}, {math.MaxInt, math.MinInt, 9}, {1 << 62, 1 << 62, 1 << 62, 1 << 62}, {8, 1 << 32}, {8, 1<<32 + 8}, {1<<62 + 8, 1<<62 - 4},
		slices.Repeat([]int{1}, 65), slices.Repeat([]int{0}, 64), slices.Repeat([]int{0}, 65), slices.Repeat([]int{1}, 100000), append(slices.Repeat([]int{1}, 64), 0),
	}
}

// sum is that of widths.
func sum(l []int) int {
	all := 0
	for _, many := range l {
		all += many
	}
	return all
}

// split are the values of the fields, cut out of w's bits.
func split(l []int, w uint64) []uint64 {
	bits := bitsOf(w)
	var all []uint64
	for _, many := range l {
		all = append(all, number(bits[:many]))
		bits = bits[many:]
	}
	return all
}

// TestExamples: the chapter's table, and the document's second example.
func TestExamples(t *testing.T) {
	for _, x := range []struct {
		w          uint64
		from, many int
		want       uint64
		e          api.Errno
	}{{0xff00, 8, 4, 0x0f, api.OK}, {1, 63, 2, 0, api.ErrArg}, {1, -1, 3, 0, api.ErrArg}} {
		if v, e := field.Get(x.w, x.from, x.many); v != x.want || e != x.e {
			t.Errorf("Get(%x, %d, %d) is %x, %d", x.w, x.from, x.many, v, e)
		}
	}
	for _, x := range []struct {
		w          uint64
		from, many int
		v, want    uint64
		e          api.Errno
	}{{0, 60, 4, 9, 0x9000000000000000, api.OK}, {0xff, 4, 4, 0, 0x0f, api.OK}, {0, 0, 3, 8, 0, api.ErrRange}} {
		if w, e := field.Set(x.w, x.from, x.many, x.v); w != x.want || e != x.e {
			t.Errorf("Set(%x, %d, %d, %x) is %x, %d", x.w, x.from, x.many, x.v, w, e)
		}
	}
	if w, e := field.Pack([]int{8, 4}, []uint64{0x12, 3}); w != 0x312 || e != api.OK {
		t.Errorf("Pack is %x, %d", w, e)
	}
	if l, e := field.Unpack([]int{8, 4}, 0x312); !slices.Equal(l, []uint64{0x12, 3}) || e != api.OK {
		t.Errorf("Unpack is %x, %d", l, e)
	}
	if l, e := field.Unpack([]int{8, 4}, 0x1000); l != nil || e != api.ErrForm {
		t.Errorf("Unpack of a word with a bit above is %x, %d", l, e)
	}
}

// TestGet: P3.1, every field of a word, cut out of its bits.
func TestGet(t *testing.T) {
	for _, w := range words() {
		fields(func(from, many int) {
			want := number(bitsOf(w)[from : from+many])
			if got, e := field.Get(w, from, many); got != want || e != api.OK {
				t.Errorf("Get(%x, %d, %d) is %x, %d, not %x", w, from, many, got, e, want)
			}
		})
	}
}

// TestSet: P3.1, every field of a word, put in among its other bits.
func TestSet(t *testing.T) {
	for _, w := range words() {
		fields(func(from, many int) {
			for _, v := range values(many) {
				bits := bitsOf(w)
				copy(bits[from:from+many], bitsOf(v))
				want := number(bits)
				if got, e := field.Set(w, from, many, v); got != want || e != api.OK {
					t.Errorf("Set(%x, %d, %d, %x) is %x, %d, not %x", w, from, many, v, got, e, want)
				}
			}
			for _, v := range beyond(many) {
				if got, e := field.Set(w, from, many, v); got != 0 || e != api.ErrRange {
					t.Errorf("Set(%x, %d, %d, %x) is %x, %d", w, from, many, v, got, e)
				}
			}
		})
	}
}

// TestNoField: P3.1, ErrArg for what is no field, and before ErrRange.
func TestNoField(t *testing.T) {
	for _, x := range noFields() {
		for _, w := range words() {
			if got, e := field.Get(w, x[0], x[1]); got != 0 || e != api.ErrArg {
				t.Errorf("Get(%x, %d, %d) is %x, %d", w, x[0], x[1], got, e)
			}
			for _, v := range words() {
				if got, e := field.Set(w, x[0], x[1], v); got != 0 || e != api.ErrArg {
					t.Errorf("Set(%x, %d, %d, %x) is %x, %d", w, x[0], x[1], v, got, e)
				}
			}
		}
	}
}

// TestSetIsRead: P3.3, what was set is read again, and a field that has none of its bits is as it was.
func TestSetIsRead(t *testing.T) {
	for _, w := range []uint64{0, 0x0123456789abcdef, math.MaxUint64} {
		fields(func(from, many int) {
			for _, v := range []uint64{0, 1, math.MaxUint64 >> (64 - many)} {
				after, _ := field.Set(w, from, many, v)
				if got, e := field.Get(after, from, many); got != v || e != api.OK {
					t.Errorf("of %x set at %d, %d, Get is %x, %d", v, from, many, got, e)
				}
				fields(func(other, bits int) {
					if other+bits > from && from+many > other {
						return
					}
					old, _ := field.Get(w, other, bits)
					if got, _ := field.Get(after, other, bits); got != old {
						t.Fatalf("Set(%x, %d, %d, %x) changes the field %d, %d to %x", w, from, many, v, other, bits, got)
					}
				})
			}
		})
	}
}

// TestPackUnpack: P3.2 and P3.4, for the words that have no bit above the widths, and ErrForm for all others.
func TestPackUnpack(t *testing.T) {
	for _, l := range widths() {
		all := sum(l)
		for _, w := range append(words(), values(all)...) {
			got, e := field.Unpack(l, w)
			if slices.Contains(bitsOf(w)[all:], true) {
				if got != nil || e != api.ErrForm {
					t.Errorf("Unpack(%d, %x) is %x, %d", l, w, got, e)
				}
				continue
			}
			want := split(l, w)
			if !slices.Equal(got, want) || e != api.OK {
				t.Errorf("Unpack(%d, %x) is %x, %d, not %x", l, w, got, e, want)
			}
			if back, e := field.Pack(l, want); back != w || e != api.OK {
				t.Errorf("Pack(%d, %x) is %x, %d, not %x", l, want, back, e, w)
			}
		}
	}
}

// TestUnpackAbove: P3.2, ErrForm for each single bit above all widths, and for none of those below.
func TestUnpackAbove(t *testing.T) {
	for _, l := range widths() {
		for bit := range 64 {
			want := api.OK
			if bit >= sum(l) {
				want = api.ErrForm
			}
			if got, e := field.Unpack(l, 1<<bit); e != want || (got == nil) != (e != api.OK) {
				t.Errorf("Unpack(%d, bit %d) is %x, %d", l, bit, got, e)
			}
		}
	}
}

// TestPackRange: P3.2, ErrRange for one value that has a bit too many, wherever it stands.
func TestPackRange(t *testing.T) {
	for _, l := range widths() {
		for i, many := range l {
			v := make([]uint64, len(l))
			for _, v[i] = range beyond(many) {
				if w, e := field.Pack(l, v); w != 0 || e != api.ErrRange {
					t.Errorf("Pack(%d, %x) is %x, %d", l, v, w, e)
				}
			}
		}
	}
}

// TestNoWidths: P3.2, ErrArg for widths that are not valid, and before ErrRange and ErrForm.
func TestNoWidths(t *testing.T) {
	for _, l := range noWidths() {
		for _, w := range words() {
			if got, e := field.Unpack(l, w); got != nil || e != api.ErrArg {
				t.Errorf("Unpack(%d, %x) is %x, %d", l, w, got, e)
			}
			if got, e := field.Pack(l, slices.Repeat([]uint64{w}, len(l))); got != 0 || e != api.ErrArg {
				t.Errorf("Pack(%d, %x for each) is %x, %d", l, w, got, e)
			}
		}
	}
}

// TestPackNumber: P3.2, ErrArg for a number of values that is not that of the widths, and before ErrRange.
func TestPackNumber(t *testing.T) {
	for _, l := range widths() {
		for _, v := range []uint64{0, math.MaxUint64} {
			for _, n := range []int{0, len(l) - 1, len(l) + 1, len(l) + 64} {
				if w, e := field.Pack(l, slices.Repeat([]uint64{v}, n)); w != 0 || e != api.ErrArg {
					t.Errorf("Pack(%d, %d values) is %x, %d", l, n, w, e)
				}
			}
		}
	}
	for _, l := range noWidths() {
		if w, e := field.Pack(l, []uint64{0, math.MaxUint64}); w != 0 || e != api.ErrArg {
			t.Errorf("Pack(%d, two values) is %x, %d", l, w, e)
		}
	}
	if w, e := field.Pack([]int{8}, nil); w != 0 || e != api.ErrArg {
		t.Errorf("Pack of no values is %x, %d", w, e)
	}
}

// TestListsStay: R5, lists are not changed, nor what is behind their length, and a result is nobody else's.
func TestListsStay(t *testing.T) {
	l, v := []int{8, 4, 99}, []uint64{0x12, 3, 99}
	field.Pack(l[:2], v[:2])
	first, _ := field.Unpack(l[:2], 0x312)
	field.Pack(l[:2], []uint64{1, 16})
	field.Unpack(l[:2], 1<<12)
	if !slices.Equal(l, []int{8, 4, 99}) || !slices.Equal(v, []uint64{0x12, 3, 99}) {
		t.Errorf("lists became %d, %x", l, v)
	}
	second, _ := field.Unpack(l[:2], 0x312)
	first[0] = 7
	if more := append(first, 5); !slices.Equal(second, []uint64{0x12, 3}) || more[2] != 5 {
		t.Errorf("a result became %x", second)
	}
}
