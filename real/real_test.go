package real_test

import (
	"math"
	"math/big"
	"slices"
	"testing"

	"commonage/api"
	"commonage/real"
)

const (
	sign    uint64 = 1 << 63
	zero    uint64 = 0
	one     uint64 = 0x3ff0000000000000
	inf     uint64 = 0x7ff0000000000000
	nan     uint64 = 0x7ff8000000000000
	most    uint64 = 0x7fefffffffffffff // the greatest finite float
	mostSub uint64 = 0x000fffffffffffff // the greatest subnormal one
	normal  uint64 = 0x0010000000000000 // the least positive normal one
)

// words are those at which something may go wrong, of both signs: the ends of each kind, whole and broken numbers, the bounds of int64, NaNs.
func words() []uint64 {
	up := []uint64{zero, 1, 2, mostSub - 1, mostSub, normal, normal + 1, most - 1, most, inf, inf + 1, nan - 1, nan, nan + 1, sign - 1}
	for _, f := range []float64{0.1, 0.5, 1, 1.5, 2, 3, 1e-300, 1e300, 1 << 52, 1<<52 + 0.5, 1 << 53, 1<<53 + 2, 1 << 62, 1 << 63, 1 << 64} {
		w := math.Float64bits(f)
		up = append(up, w-1, w, w+1)
	}
	var all []uint64
	for _, w := range up {
		all = append(all, w, w|sign)
	}
	slices.Sort(all)
	return slices.Compact(all)
}

// numbers are the int64s at which rounding to a float, or back, may go wrong.
func numbers() []int64 {
	l := []int64{0, math.MaxInt64, math.MinInt64, math.MinInt64 + 1}
	for shift := range 63 {
		for d := int64(-3); d <= 3; d++ {
			l = append(l, 1<<shift+d, -(1<<shift + d))
		}
	}
	for shift := 53; shift < 63; shift++ {
		half := int64(1) << (shift - 53)
		for d := int64(-1); d <= 1; d++ {
			l = append(l, 1<<shift+half+d, 1<<shift+3*half+d, -(1<<shift + half + d), -(1<<shift + 3*half + d))
		}
	}
	return l
}

// isNaN tells it from the bits: an exponent of ones, and a fraction.
func isNaN(w uint64) bool { return w&^sign > inf }

func isInf(w uint64) bool { return w&^sign == inf }

func finite(w uint64) bool { return w&^sign < inf }

// exact is the number of a finite word, put together from its sign, exponent and fraction, with as many bits as any sum of two of them needs.
func exact(w uint64) *big.Float {
	exponent, fraction := int(w>>52&0x7ff), w&mostSub
	if exponent == 0 {
		exponent = 1
	} else {
		fraction |= normal
	}
	f := new(big.Float).SetPrec(2200).SetUint64(fraction)
	f.SetMantExp(f, exponent-1075)
	if w&sign != 0 {
		f.Neg(f)
	}
	return f
}

// sumOfTwo is one addition with exact numbers, rounded once.
func sumOfTwo(a, b uint64) uint64 {
	switch {
	case isNaN(a) || isNaN(b) || isInf(a) && isInf(b) && a != b:
		return nan
	case isInf(a):
		return a
	case isInf(b):
		return b
	}
	f, _ := new(big.Float).SetPrec(2200).Add(exact(a), exact(b)).Float64()
	return math.Float64bits(f)
}

// order is the order as the chapter's words say it: an infinity is further out than any number, -0 comes before +0, NaNs are at the end.
func order(a, b uint64) int {
	rough := func(w uint64) int {
		switch {
		case isNaN(w):
			return 2
		case w == inf:
			return 1
		case w == inf|sign:
			return -1
		}
		return 0
	}
	if x, y := rough(a), rough(b); x != y || x != 0 {
		return compare(x, y)
	}
	if c := exact(a).Cmp(exact(b)); c != 0 {
		return c
	}
	return compare(int(b>>63), int(a>>63))
}

func compare(x, y int) int {
	switch {
	case x < y:
		return -1
	case x > y:
		return 1
	}
	return 0
}

// TestExamples: the chapter's table, and the document's first example.
func TestExamples(t *testing.T) {
	for _, x := range []struct {
		w    uint64
		kind uint8
		neg  bool
	}{{0x7ff0000000000001, api.RkNaN, false}, {0x8000000000000000, api.RkZero, true}, {1, api.RkSub, false}} {
		if kind, neg := real.Kind(x.w); kind != x.kind || neg != x.neg {
			t.Errorf("Kind(%x) is %d, %v", x.w, kind, neg)
		}
	}
	if !real.Equal(sign, zero) || real.Compare(sign, zero) != -1 || real.Equal(nan, nan) || real.Compare(nan, nan+1) != 0 {
		t.Error("Equal or Compare of zeros or NaNs")
	}
	two53 := math.Float64bits(1 << 53)
	for i, x := range [][2]uint64{
		{real.Sum([]uint64{inf, inf | sign}), nan}, {real.Sum([]uint64{sign}), sign}, {real.Sum([]uint64{sign, zero}), zero},
		{real.Sum(nil), zero}, {real.Sum([]uint64{one, two53, two53 | sign}), zero},
	} {
		if x[0] != x[1] {
			t.Errorf("sum %d: %x, not %x", i, x[0], x[1])
		}
	}
	if w, is := real.Of(1<<53 + 1); w != two53 || is {
		t.Errorf("Of(2^53 + 1) is %x, %v", w, is)
	}
	for _, x := range []struct {
		f  float64
		n  int64
		is bool
	}{{1 << 63, 0, false}, {-1 << 63, math.MinInt64, true}, {0.5, 0, false}} {
		if n, is := real.Whole(math.Float64bits(x.f)); n != x.n || is != x.is {
			t.Errorf("Whole(%g) is %d, %v", x.f, n, is)
		}
	}
}

// TestKind: P2.1, the ends of each kind, of both signs.
func TestKind(t *testing.T) {
	for _, x := range []struct {
		from, to uint64
		kind     uint8
	}{
		{zero, zero, api.RkZero}, {1, mostSub, api.RkSub}, {normal, most, api.RkNormal}, {inf, inf, api.RkInf}, {inf + 1, sign - 1, api.RkNaN},
	} {
		for _, w := range []uint64{x.from, x.from + (x.to-x.from)/2, x.to} {
			if kind, neg := real.Kind(w); kind != x.kind || neg {
				t.Errorf("Kind(%x) is %d, %v", w, kind, neg)
			}
			if kind, neg := real.Kind(w | sign); kind != x.kind || !neg {
				t.Errorf("Kind(%x) is %d, %v", w|sign, kind, neg)
			}
		}
	}
}

// TestCanon: P2.1, all NaNs are one word, every other word is itself.
func TestCanon(t *testing.T) {
	for _, w := range words() {
		want := w
		if isNaN(w) {
			want = nan
		}
		if got := real.Canon(w); got != want {
			t.Errorf("Canon(%x) is %x, not %x", w, got, want)
		}
	}
}

// TestEqual: P2.2, by exact numbers.
func TestEqual(t *testing.T) {
	for _, a := range words() {
		for _, b := range words() {
			want := a == b && !isNaN(a) || finite(a) && finite(b) && exact(a).Cmp(exact(b)) == 0
			if got := real.Equal(a, b); got != want {
				t.Errorf("Equal(%x, %x) is %v", a, b, got)
			}
		}
	}
}

// TestCompare: P2.2, by the order as the chapter says it.
func TestCompare(t *testing.T) {
	for _, a := range words() {
		for _, b := range words() {
			if got, want := real.Compare(a, b), order(a, b); got != want {
				t.Errorf("Compare(%x, %x) is %d, not %d", a, b, got, want)
			}
		}
	}
}

// TestTotal: P2.5, Compare reversed and chained, and Equal beside it.
func TestTotal(t *testing.T) {
	for _, a := range words() {
		for _, b := range words() {
			c := real.Compare(a, b)
			if c < -1 || c > 1 || real.Compare(b, a) != -c {
				t.Errorf("Compare(%x, %x) is %d, and %d the other way round", a, b, c, real.Compare(b, a))
			}
			for _, d := range words() {
				if c <= 0 && real.Compare(b, d) <= 0 && real.Compare(a, d) != min(c, real.Compare(b, d)) {
					t.Errorf("Compare is not transitive for %x, %x, %x", a, b, d)
				}
			}
			if isNaN(a) || isNaN(b) {
				continue
			}
			zeros := a != b && a|sign == sign && b|sign == sign
			if real.Equal(a, b) != (c == 0 || zeros) {
				t.Errorf("Equal and Compare of %x and %x do not agree", a, b)
			}
		}
	}
}

// TestSumOfTwo: P2.3, of each pair of words, by exact numbers that are rounded once; and of each word alone.
func TestSumOfTwo(t *testing.T) {
	for _, a := range words() {
		if got, want := real.Sum([]uint64{a}), real.Canon(a); got != want {
			t.Errorf("Sum(%x) is %x, not %x", a, got, want)
		}
		for _, b := range words() {
			if got, want := real.Sum([]uint64{a, b}), sumOfTwo(a, b); got != want {
				t.Errorf("Sum(%x, %x) is %x, not %x", a, b, got, want)
			}
		}
	}
}

// TestSumInOrder: P2.3, each word is added to what was rounded before it.
func TestSumInOrder(t *testing.T) {
	all := words()
	for from := range all {
		want := all[from]
		for to := from + 1; to < len(all); to++ {
			want = sumOfTwo(want, all[to])
			if got := real.Sum(all[from : to+1]); got != want {
				t.Fatalf("Sum of the words %d to %d is %x, not %x", from, to, got, want)
			}
		}
	}
	two53 := math.Float64bits(1 << 53)
	for i, x := range []struct {
		l    []uint64
		want uint64
	}{
		{[]uint64{two53, one, one}, two53},                        // each addition is a tie, and goes to the even one
		{[]uint64{one, one, two53}, two53 + 1},                    // 2^53 + 2
		{[]uint64{two53 + 1, one}, two53 + 2},                     // a tie that goes up
		{[]uint64{most, most, most | sign}, inf},                  // an overflow on the way stays
		{[]uint64{most, most | sign, most}, most},                 // and there is none in this order
		{[]uint64{most, most, inf | sign}, nan},                   // two infinities, one of them an overflow
		{[]uint64{1, 1, mostSub | sign}, (mostSub - 2) | sign},    // subnormals are added exactly
		{[]uint64{one, one | sign}, zero},                         // what cancels is +0
		{[]uint64{one, one | sign, sign}, zero},                   // and stays it
		{[]uint64{nan + 1}, nan}, {[]uint64{sign | inf + 5}, nan}, // canonical, even if nothing is added
		{[]uint64{}, zero}, {make([]uint64, 0, 4), zero}, // no words
		{[]uint64{most, math.Float64bits(0x1p969)}, most},     // below half of the last bit
		{[]uint64{most, math.Float64bits(0x1p970)}, inf},      // a tie with the first number too great
		{[]uint64{most, math.Float64bits(0x1p970) - 1}, most}, // just below that tie
		{[]uint64{normal, 1 | sign}, mostSub}, {[]uint64{mostSub, 1}, normal},
	} {
		if got := real.Sum(x.l); got != x.want {
			t.Errorf("sum %d is %x, not %x", i, got, x.want)
		}
	}
}

// TestSumLaws: P2.6.
func TestSumLaws(t *testing.T) {
	for _, w := range words() {
		for _, l := range [][]uint64{{nan, w}, {w, nan}, {w, sign | nan, w}, {inf + 1, w, inf}, {inf, w, inf | sign}, {inf | sign, w, inf}, {w, inf, inf | sign}} {
			if got := real.Sum(l); got != nan {
				t.Errorf("Sum(%x) is %x, not the NaN", l, got)
			}
		}
		if !finite(w) {
			continue
		}
		for _, i := range []uint64{inf, inf | sign} {
			for _, l := range [][]uint64{{i, w}, {w, i}, {w, i, w}, {i, w, i}} {
				if got := real.Sum(l); got != i {
					t.Errorf("Sum(%x) is %x, not %x", l, got, i)
				}
			}
		}
	}
	for n := 1; n <= 5; n++ {
		l := slices.Repeat([]uint64{sign}, n)
		if got := real.Sum(l); got != sign {
			t.Errorf("the sum of %d times -0 is %x", n, got)
		}
		for i := range l {
			m := slices.Clone(l)
			m[i] = zero
			if got := real.Sum(m); got != zero {
				t.Errorf("Sum(%x) is %x, not +0", m, got)
			}
		}
	}
}

// TestLeast: P2.3, wherever the first word in the order stands.
func TestLeast(t *testing.T) {
	for i, x := range []struct {
		l    []uint64
		want uint64
	}{
		{nil, nan}, {[]uint64{}, nan}, {[]uint64{sign | nan}, nan}, {[]uint64{nan + 1, inf + 1}, nan},
		{[]uint64{nan, inf}, inf}, {[]uint64{inf, sign | nan}, inf}, {[]uint64{zero, sign}, sign}, {[]uint64{sign, zero}, sign},
		{[]uint64{one, one | sign, inf | sign, nan}, inf | sign}, {[]uint64{one, 1, zero, normal}, zero}, {[]uint64{1 | sign, mostSub | sign, sign}, mostSub | sign},
	} {
		if got := real.Least(x.l); got != x.want {
			t.Errorf("least %d is %x, not %x", i, got, x.want)
		}
	}
	all := words()
	sorted := slices.SortedFunc(slices.Values(all), order)
	for i, w := range sorted {
		rest := append(slices.Clone(sorted[i+1:]), w)
		if got := real.Least(rest); got != real.Canon(w) {
			t.Errorf("Least of %x and what comes behind it is %x", w, got)
		}
		slices.Reverse(rest)
		if got := real.Least(rest); got != real.Canon(w) {
			t.Errorf("Least of %x and what comes behind it, reversed, is %x", w, got)
		}
	}
}

// TestOf: P2.4, by numbers of any size, rounded to 53 bits.
func TestOf(t *testing.T) {
	for _, n := range numbers() {
		rounded := new(big.Float).SetPrec(53).SetMode(big.ToNearestEven).SetInt64(n)
		f, _ := rounded.Float64()
		same := rounded.Cmp(new(big.Float).SetPrec(64).SetInt64(n)) == 0
		if w, is := real.Of(n); w != math.Float64bits(f) || is != same {
			t.Errorf("Of(%d) is %x, %v, not %x, %v", n, w, is, math.Float64bits(f), same)
		}
	}
	for _, x := range []struct {
		n  int64
		f  float64
		is bool
	}{
		{0, 0, true}, {1, 1, true}, {-1, -1, true}, {1<<53 - 1, 1<<53 - 1, true}, {1 << 53, 1 << 53, true}, {1<<53 + 3, 1<<53 + 4, false}, {-1<<53 - 1, -1 << 53, false},
		{math.MaxInt64, 1 << 63, false}, {math.MaxInt64 - 511, 1 << 63, false}, {math.MaxInt64 - 512, 1<<63 - 1024, false}, {math.MaxInt64 - 1023, 1<<63 - 1024, true}, {math.MinInt64, -1 << 63, true}, {math.MinInt64 + 1, -1 << 63, false},
	} {
		if w, is := real.Of(x.n); w != math.Float64bits(x.f) || is != x.is {
			t.Errorf("Of(%d) is %x, %v, not %x, %v", x.n, w, is, math.Float64bits(x.f), x.is)
		}
	}
}

// TestWhole: P2.4, by exact numbers: 0 and false beside every word that is not a whole number, or no int64.
func TestWhole(t *testing.T) {
	for _, w := range words() {
		want, is := int64(0), false
		if finite(w) && exact(w).IsInt() {
			n, accuracy := exact(w).Int64()
			if accuracy == big.Exact {
				want, is = n, true
			}
		}
		if got, whole := real.Whole(w); got != want || whole != is {
			t.Errorf("Whole(%x) is %d, %v, not %d, %v", w, got, whole, want, is)
		}
	}
	if n, is := real.Whole(sign); n != 0 || !is {
		t.Errorf("Whole(-0) is %d, %v", n, is)
	}
}

// TestThereAndBack: P2.7; and what is not equal to n does not come back as n.
func TestThereAndBack(t *testing.T) {
	for _, n := range numbers() {
		w, is := real.Of(n)
		if back, whole := real.Whole(w); (whole && back == n) != is {
			t.Errorf("Of(%d) is %x, %v, of which Whole is %d, %v", n, w, is, back, whole)
		}
	}
}

// TestListsStay: R5, the words of a list, and those behind its length, are not changed.
func TestListsStay(t *testing.T) {
	all := words()
	l := slices.Clone(all)
	real.Sum(l[:len(l)/2])
	real.Least(l[:len(l)/2])
	if !slices.Equal(l, all) {
		t.Error("Sum or Least changed a list")
	}
}
