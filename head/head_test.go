package head_test

import (
	"math"
	"slices"
	"strconv"
	"testing"

	"commonage/api"
	"commonage/head"
)

// heads are all that are valid.
func heads() []api.Head {
	var l []api.Head
	for class := range 8 {
		for refs := range 64 {
			for words := range 64 - refs {
				l = append(l, api.Head{Class: class, Refs: refs, Words: words})
			}
		}
	}
	return l
}

// isHead tells whether a head is one of those that are valid, without any sum.
func isHead(h api.Head) bool {
	for refs := range 64 {
		if h.Refs == refs {
			return h.Class >= 0 && h.Class <= 7 && h.Words >= 0 && h.Words <= 63-refs
		}
	}
	return false
}

// wordOf is the word with these parts, written by numbers of base 16.
func wordOf(t *testing.T, mark, class, refs, words, low int) uint64 {
	t.Helper()
	text := ""
	for _, x := range []struct{ part, digits int }{{mark, 2}, {class, 2}, {refs, 4}, {words, 4}, {low, 4}} {
		digits := strconv.FormatInt(int64(x.part), 16)
		for range x.digits - len(digits) {
			text += "0"
		}
		text += digits
	}
	w, err := strconv.ParseUint(text, 16, 64)
	if err != nil || len(text) != 16 {
		t.Fatal(text, err)
	}
	return w
}

// noHeads are heads of which one number, or more, is not valid: outside by one and by much, such too of which only some bits would be, and such whose sums overflow.
func noHeads() []api.Head {
	numbers := []int{0, 1, 7, 8, 31, 32, 62, 63, 64, 65, 127, 128, 255, 256, 257, 1<<16 - 1, 1 << 16, 1<<16 + 1, 1 << 32, 1<<32 + 1, 1 << 48, 1 << 56, 1 << 62, math.MaxInt - 63, math.MaxInt - 1, math.MaxInt}
	for _, n := range slices.Clone(numbers) {
		numbers = append(numbers, -n, -1-n)
	}
	var l []api.Head
	for _, class := range numbers {
		for _, refs := range numbers {
			for _, words := range numbers {
				if h := (api.Head{Class: class, Refs: refs, Words: words}); !isHead(h) {
					l = append(l, h)
				}
			}
		}
	}
	return l
}

// numbers are fields of all sizes, from below the first to above the last that a head can have.
func numbers() []int {
	l := []int{math.MinInt, math.MinInt + 1, -1 << 32, 1 << 16, 1 << 32, 1<<32 + 1, math.MaxInt - 1, math.MaxInt}
	for i := -66; i <= 130; i++ {
		l = append(l, i)
	}
	return l
}

// TestExamples: the chapter's table, and the document's fourth example.
func TestExamples(t *testing.T) {
	for _, x := range []struct {
		h api.Head
		w uint64
		e api.Errno
	}{
		{api.Head{Class: 1, Refs: 2, Words: 3}, 0xc701000200030000, api.OK},
		{api.Head{}, 0xc700000000000000, api.OK},
		{api.Head{Class: 8}, 0, api.ErrArg},
		{api.Head{Refs: 40, Words: 24}, 0, api.ErrArg},
	} {
		if w, e := head.Put(x.h); w != x.w || e != x.e {
			t.Errorf("Put(%v) is %x, %d, not %x, %d", x.h, w, e, x.w, x.e)
		}
	}
	for _, w := range []uint64{0, 0xc700000000000001} {
		if h, e := head.Get(w); h != (api.Head{}) || e != api.ErrForm {
			t.Errorf("Get(%x) is %v, %d", w, h, e)
		}
	}
	h := api.Head{Class: 1, Refs: 2, Words: 3}
	if need, e := head.Need(h); need != 6 || e != api.OK {
		t.Errorf("Need is %d, %d", need, e)
	}
	for _, x := range []struct {
		i   int
		ref bool
		e   api.Errno
	}{{1, true, api.OK}, {2, false, api.OK}, {5, false, api.ErrField}} {
		if ref, e := head.Field(h, x.i); ref != x.ref || e != x.e {
			t.Errorf("Field(%v, %d) is %t, %d", h, x.i, ref, e)
		}
	}
}

// TestPutGet: P8.1 and P8.3, every head that is valid has its word, which no other one has, and the word has the head.
func TestPutGet(t *testing.T) {
	before := map[uint64]api.Head{}
	for _, h := range heads() {
		want := wordOf(t, 0xc7, h.Class, h.Refs, h.Words, 0)
		w, e := head.Put(h)
		if w != want || e != api.OK {
			t.Errorf("Put(%v) is %x, %d, not %x", h, w, e, want)
		}
		if other, is := before[w]; is {
			t.Errorf("%v and %v have the word %x", other, h, w)
		}
		before[w] = h
		if got, e := head.Get(want); got != h || e != api.OK {
			t.Errorf("Get(%x) is %v, %d, not %v", want, got, e, h)
		}
	}
}

// TestPutWrong: P8.1, ErrArg, and no word, for each head that is not valid.
func TestPutWrong(t *testing.T) {
	for _, h := range noHeads() {
		if w, e := head.Put(h); w != 0 || e != api.ErrArg {
			t.Errorf("Put(%v) is %x, %d", h, w, e)
		}
	}
}

// refused requires that w is the word of no head.
func refused(t *testing.T, w uint64) {
	t.Helper()
	if h, e := head.Get(w); h != (api.Head{}) || e != api.ErrForm {
		t.Errorf("Get(%x) is %v, %d", w, h, e)
	}
}

// TestInverted: P8.3, no head's word has another one of the bits 0 to 15, or 56 to 63; with another one between them it has another head, or none.
func TestInverted(t *testing.T) {
	for _, h := range heads() {
		w := wordOf(t, 0xc7, h.Class, h.Refs, h.Words, 0)
		for bit := range 64 {
			other := w ^ 1<<bit
			want := api.Head{Class: int(other >> 48 % 256), Refs: int(other >> 32 % 65536), Words: int(other >> 16 % 65536)}
			if bit < 16 || bit > 55 || !isHead(want) {
				refused(t, other)
				continue
			}
			if got, e := head.Get(other); got != want || e != api.OK {
				t.Errorf("Get(%x) is %v, %d, not %v", other, got, e, want)
			}
		}
	}
}

// TestGetMark: P8.1, one mark alone is a head's, whatever else is in the word, and one number of the lowest bits, which is 0.
func TestGetMark(t *testing.T) {
	for _, h := range []api.Head{{}, {Class: 1, Refs: 2, Words: 3}, {Class: 7, Refs: 63}, {Class: 7, Words: 63}, {Class: 5, Refs: 32, Words: 31}} {
		for mark := range 256 {
			for _, low := range []int{0, 1, 0xc7, 0xffff} {
				w := wordOf(t, mark, h.Class, h.Refs, h.Words, low)
				if mark != 0xc7 || low != 0 {
					refused(t, w)
				}
			}
		}
		for low := 1; low < 1<<16; low++ {
			refused(t, wordOf(t, 0xc7, h.Class, h.Refs, h.Words, low))
		}
	}
}

// TestGetWrong: P8.1, ErrForm for each class, and each number of references, or of words, that is too great, alone and with others.
func TestGetWrong(t *testing.T) {
	check := func(class, refs, words int) {
		h := api.Head{Class: class, Refs: refs, Words: words}
		w := wordOf(t, 0xc7, class, refs, words, 0)
		if !isHead(h) {
			refused(t, w)
		} else if got, e := head.Get(w); got != h || e != api.OK {
			t.Errorf("Get(%x) is %v, %d, not %v", w, got, e, h)
		}
	}
	for class := range 256 {
		for _, many := range []int{0, 1, 31, 63, 64, 0xffff} {
			check(class, many, 0)
			check(class, 0, many)
		}
	}
	for many := range 1 << 16 {
		for _, other := range []int{0, 1, 63, 64, 0xffff} {
			check(0, many, other)
			check(7, other, many)
		}
	}
	for refs := range 130 {
		for words := range 130 {
			check(3, refs, words)
		}
	}
}

// TestGetNoHead: P8.1 and P8.3, ErrForm for words that were not made as a head's, 0 and a float's among them.
func TestGetNoHead(t *testing.T) {
	for bit := range 64 {
		for _, w := range []uint64{0, 1 << bit, ^(1 << bit), math.MaxUint64, math.MaxUint64 >> bit, math.MaxUint64 << bit} {
			refused(t, w)
		}
	}
	for _, w := range []uint64{0xc7, 0xc7c7c7c7c7c7c7c7, 0x00000300020001c7, 0x0123456789abcdef, math.Float64bits(1), math.Float64bits(math.NaN())} {
		refused(t, w)
	}
}

// TestNeed: P8.2, one word for the head, and one for each field.
func TestNeed(t *testing.T) {
	least, most := math.MaxInt, 0
	for _, h := range heads() {
		need, e := head.Need(h)
		if need != 1+h.Words+h.Refs || e != api.OK {
			t.Errorf("Need(%v) is %d, %d", h, need, e)
		}
		least, most = min(least, need), max(most, need)
	}
	if least != 1 || most != 64 {
		t.Errorf("heads need %d to %d words", least, most)
	}
	for _, h := range noHeads() {
		if need, e := head.Need(h); need != 0 || e != api.ErrArg {
			t.Errorf("Need(%v) is %d, %d", h, need, e)
		}
	}
}

// TestField: P8.2 and P8.4, of the fields, one less than the words that the head needs, the first ones are references, as many as there are, and ErrField for all other numbers.
func TestField(t *testing.T) {
	for _, h := range heads() {
		need, _ := head.Need(h)
		var kinds []bool
		for range h.Refs {
			kinds = append(kinds, true)
		}
		for range h.Words {
			kinds = append(kinds, false)
		}
		if len(kinds) != need-1 {
			t.Errorf("%v has %d fields, and needs %d words", h, len(kinds), need)
		}
		for _, i := range numbers() {
			ref, e := head.Field(h, i)
			if i < 0 || i >= len(kinds) {
				if ref || e != api.ErrField {
					t.Errorf("Field(%v, %d) is %t, %d", h, i, ref, e)
				}
			} else if ref != kinds[i] || e != api.OK {
				t.Errorf("Field(%v, %d) is %t, %d, not %t", h, i, ref, e, kinds[i])
			}
		}
	}
}

// TestFieldWrong: P8.2, ErrArg for heads that are not valid, before ErrField.
func TestFieldWrong(t *testing.T) {
	for _, h := range noHeads() {
		for _, i := range []int{math.MinInt, -1, 0, 1, 62, 63, 64, math.MaxInt} {
			if ref, e := head.Field(h, i); ref || e != api.ErrArg {
				t.Errorf("Field(%v, %d) is %t, %d", h, i, ref, e)
			}
		}
	}
}

// TestAgain: R4, what was refused, and what was asked before, is not seen in a later call.
func TestAgain(t *testing.T) {
	h := api.Head{Class: 7, Refs: 31, Words: 32}
	for range 3 {
		if w, e := head.Put(h); w != 0xc707001f00200000 || e != api.OK {
			t.Errorf("Put(%v) is %x, %d", h, w, e)
		}
		head.Put(api.Head{Class: -1, Refs: math.MaxInt})
		if got, e := head.Get(0xc707001f00200000); got != h || e != api.OK {
			t.Errorf("Get is %v, %d", got, e)
		}
		head.Get(math.MaxUint64)
	}
}
