package sat_test

import (
	"math"
	"math/big"
	"slices"
	"testing"

	"commonage/api"
	"commonage/sat"
)

const (
	most     = int64(api.Most)
	least    = int64(math.MinInt64)
	greatest = int64(math.MaxInt64)
)

// edges are the numbers at which a sum, a product or a quotient may go wrong, in increasing order.
func edges() []int64 {
	var up []int64
	for _, n := range []int64{2, 3, 7, 1 << 16, 1 << 31, 3037000499, 1 << 32, 1 << 61, most / 3, most} {
		up = append(up, n-1, n, n+1)
	}
	up = append(up, greatest-1, greatest)
	all := []int64{0, least}
	for _, n := range up {
		all = append(all, n, -n)
	}
	slices.Sort(all)
	return slices.Compact(all)
}

// counts are the edges that are counts.
func counts() []int64 {
	var l []int64
	for _, n := range edges() {
		if n >= 0 && n <= most {
			l = append(l, n)
		}
	}
	return l
}

// count is the count of an integer of any size.
func count(n *big.Int) int64 {
	if n.Sign() < 0 {
		return 0
	}
	if n.Cmp(big.NewInt(most)) > 0 {
		return most
	}
	return n.Int64()
}

func whole(n int64) *big.Int { return big.NewInt(n) }

// TestExamples: the chapter's table.
func TestExamples(t *testing.T) {
	for i, x := range [][2]int64{
		{sat.Clip(-3), 0}, {sat.Add(most, 1), most}, {sat.Add(-5, 3), 0}, {sat.Sub(3, 5), 0},
		{sat.Sub(0, least), most}, {sat.Mul(least, -1), most}, {sat.Mul(-2, 3), 0}, {sat.Mul(1<<31, 1<<30), 1 << 61},
		{sat.Scale(7, 3, 2), 10}, {sat.Scale(most, most, most), most}, {sat.Scale(-1, -3, 2), 1}, {sat.Scale(1, 1, 0), 0},
		{sat.Units(7, 3), 3}, {sat.Units(6, 3), 2}, {sat.Units(0, 3), 0}, {sat.Units(5, -1), 0},
	} {
		if x[0] != x[1] {
			t.Errorf("example %d: %d, not %d", i, x[0], x[1])
		}
	}
}

// TestClip: P1.1, the count of a number.
func TestClip(t *testing.T) {
	for _, x := range [][2]int64{
		{least, 0}, {-1, 0}, {0, 0}, {1, 1}, {12345, 12345}, {most - 1, most - 1}, {most, most}, {most + 1, most}, {greatest, most},
	} {
		if got := sat.Clip(x[0]); got != x[1] {
			t.Errorf("Clip(%d) is %d, not %d", x[0], got, x[1])
		}
	}
	for _, n := range edges() {
		if got, want := sat.Clip(n), count(whole(n)); got != want {
			t.Errorf("Clip(%d) is %d, not %d", n, got, want)
		}
	}
}

// TestExact: P1.1, Add, Sub and Mul against integers of any size, for any two int64s.
func TestExact(t *testing.T) {
	for _, a := range edges() {
		for _, b := range edges() {
			x, y := whole(a), whole(b)
			if got, want := sat.Add(a, b), count(new(big.Int).Add(x, y)); got != want {
				t.Errorf("Add(%d, %d) is %d, not %d", a, b, got, want)
			}
			if got, want := sat.Sub(a, b), count(new(big.Int).Sub(x, y)); got != want {
				t.Errorf("Sub(%d, %d) is %d, not %d", a, b, got, want)
			}
			if got, want := sat.Mul(a, b), count(new(big.Int).Mul(x, y)); got != want {
				t.Errorf("Mul(%d, %d) is %d, not %d", a, b, got, want)
			}
		}
	}
}

// TestScale: P1.2, against integers of any size, whose Div rounds down for a divisor above 0.
func TestScale(t *testing.T) {
	for _, a := range edges() {
		for _, b := range edges() {
			for _, c := range edges() {
				want := int64(0)
				if c >= 1 {
					product := new(big.Int).Mul(whole(a), whole(b))
					want = count(product.Div(product, whole(c)))
				}
				if got := sat.Scale(a, b, c); got != want {
					t.Fatalf("Scale(%d, %d, %d) is %d, not %d", a, b, c, got, want)
				}
			}
		}
	}
}

// TestUnits: P1.3, as its words say it: enough units, and one less would not be enough.
func TestUnits(t *testing.T) {
	for _, n := range edges() {
		for _, unit := range edges() {
			got := sat.Units(n, unit)
			if n < 1 || unit < 1 {
				if got != 0 {
					t.Errorf("Units(%d, %d) is %d, not 0", n, unit, got)
				}
				continue
			}
			need := whole(min(n, most))
			enough := new(big.Int).Mul(whole(got), whole(unit)).Cmp(need) >= 0
			fewer := new(big.Int).Mul(whole(got-1), whole(unit)).Cmp(need) >= 0
			if !enough || fewer {
				t.Errorf("Units(%d, %d) is %d", n, unit, got)
			}
		}
	}
}

// TestAreCounts: P1.4, all results are counts, whatever is given.
func TestAreCounts(t *testing.T) {
	for _, a := range edges() {
		for _, b := range edges() {
			for _, got := range []int64{sat.Clip(a), sat.Add(a, b), sat.Sub(a, b), sat.Mul(a, b), sat.Scale(a, b, 3), sat.Scale(3, a, b), sat.Units(a, b)} {
				if got < 0 || got > most {
					t.Errorf("%d, of %d and %d, is not a count", got, a, b)
				}
			}
		}
	}
}

// TestMonotone: P1.4, how the results go with greater counts.
func TestMonotone(t *testing.T) {
	l := counts()
	for i := 1; i < len(l); i++ {
		less, more := l[i-1], l[i]
		for _, n := range l {
			if sat.Add(more, n) < sat.Add(less, n) || sat.Add(n, more) < sat.Add(n, less) {
				t.Errorf("Add is less for %d than for %d, with %d", more, less, n)
			}
			if sat.Mul(more, n) < sat.Mul(less, n) || sat.Mul(n, more) < sat.Mul(n, less) {
				t.Errorf("Mul is less for %d than for %d, with %d", more, less, n)
			}
			if sat.Sub(more, n) < sat.Sub(less, n) || sat.Sub(n, more) > sat.Sub(n, less) {
				t.Errorf("Sub goes the wrong way from %d to %d, with %d", less, more, n)
			}
		}
	}
}

// TestLaws: P1.5, for counts.
func TestLaws(t *testing.T) {
	for _, a := range counts() {
		for _, b := range counts() {
			s := sat.Add(a, b)
			if s != sat.Add(b, a) || sat.Mul(a, b) != sat.Mul(b, a) {
				t.Errorf("the order of %d and %d matters", a, b)
			}
			if s != most && (sat.Sub(s, a) != b || sat.Sub(s, b) != a) {
				t.Errorf("Sub does not undo Add of %d and %d", a, b)
			}
			if d := sat.Units(a, b) - sat.Scale(a, 1, b); d != 0 && d != 1 {
				t.Errorf("Units(%d, %d) is Scale and %d", a, b, d)
			}
		}
	}
}
