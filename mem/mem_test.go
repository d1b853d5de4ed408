package mem_test

import (
	"math"
	"reflect"
	"slices"
	"testing"

	"commonage/api"
	"commonage/conf"
	"commonage/mem"
)

// example is layer 6's configuration: regions of 48 and 16 words.
func example() api.Config {
	return api.Config{
		Classes: []int{2, 4}, Page: 8,
		Tenants: []api.Tenant{{Quota: 20, Trigger: 8, Caps: 4, Assist: 1}, {Quota: 4, Trigger: 1, Caps: 1, Assist: 0}},
		Workers: 1, Grey: 2, Gens: 3,
	}
}

// quotas is the example with these classes, this page, and these quotas.
func quotas(classes []int, page int, quotas ...int) api.Config {
	c := example()
	c.Classes, c.Page, c.Tenants = classes, page, nil
	for _, q := range quotas {
		c.Tenants = append(c.Tenants, api.Tenant{Quota: q, Trigger: 1, Caps: 1})
	}
	return c
}

// small are configurations of one, two and more regions, of equal and of different lengths, the least of 2 words.
func small() []api.Config {
	return []api.Config{
		example(),
		quotas([]int{2}, 2, 2),
		quotas([]int{2}, 3, 2, 2, 3),
		quotas([]int{2, 4}, 8, 4, 20),
		quotas([]int{2, 3, 5}, 7, 5, 19, 6, 5, 11, 40, 5, 8),
	}
}

// valid are the small ones, and such with the greatest regions.
func valid() []api.Config {
	return append(small(),
		quotas([]int{57, 58, 59, 60, 61, 62, 63, 64}, 64, slices.Repeat([]int{4096}, 8)...),
		quotas([]int{33, 64}, 64, 64, 4096, 100),
	)
}

// notValid are configurations of which one thing, or everything, is not valid.
func notValid() []api.Config {
	all := []api.Config{{}, {Classes: []int{}, Tenants: []api.Tenant{}}, quotas([]int{2, 4}, 8), quotas([]int{2, 4}, 8, slices.Repeat([]int{4}, 9)...)}
	for _, l := range [][]int{nil, {1, 2}, {4, 2}, {2, 2}, {2, 65}} {
		all = append(all, quotas(l, 64, 100))
	}
	for _, page := range []int{-1, 0, 3, 65, math.MaxInt, math.MinInt} {
		all = append(all, quotas([]int{2, 4}, page, 20))
	}
	for _, quota := range []int{-1, 0, 3, 4097, math.MaxInt, math.MinInt} {
		all = append(all, quotas([]int{2, 4}, 8, quota, 4), quotas([]int{2, 4}, 8, 4, quota))
	}
	for _, change := range []func(*api.Config){
		func(c *api.Config) { c.Workers = -1 },
		func(c *api.Config) { c.Grey = 0 },
		func(c *api.Config) { c.Gens = 1<<31 + 1 },
		func(c *api.Config) { c.Tenants[0].Trigger = 0 },
		func(c *api.Config) { c.Tenants[1].Caps = 1025 },
		func(c *api.Config) { c.Tenants[1].Assist = -1 },
	} {
		c := example()
		change(&c)
		all = append(all, c)
	}
	return all
}

// made is a memory of that configuration.
func made(t *testing.T, c api.Config) *mem.Mem {
	t.Helper()
	m, e := mem.New(c)
	if m == nil || e != api.OK {
		t.Fatalf("New(%v) is %v, %d", c, m, e)
	}
	return m
}

// plain is what a memory must be: the words of each region, apart from the others'.
type plain [][]uint64

// plainOf is a plain memory with words that are all different, and none of them 0.
func plainOf(t *testing.T, c api.Config) plain {
	t.Helper()
	var p plain
	for tenant := range c.Tenants {
		many, e := conf.Region(c, tenant)
		if e != api.OK {
			t.Fatal(c, tenant, e)
		}
		words := make([]uint64, many)
		for i := range words {
			words[i] = math.MaxUint64 - uint64(tenant)<<40 - uint64(i)
		}
		p = append(p, words)
	}
	return p
}

// filled is a memory with these words, stored one by one.
func filled(t *testing.T, c api.Config, p plain) *mem.Mem {
	t.Helper()
	m := made(t, c)
	for tenant, words := range p {
		for addr, w := range words {
			if e := m.Store(tenant, addr, w); e != api.OK {
				t.Fatalf("%v: Store(%d, %d, ..) is %d", c, tenant, addr, e)
			}
		}
	}
	return m
}

// own is the same plain memory, in memory of its own.
func (p plain) own() plain {
	var o plain
	for _, words := range p {
		o = append(o, slices.Clone(words))
	}
	return o
}

// same requires that a memory is what the plain one is, as All, Words and Load give it.
func same(t *testing.T, what string, m *mem.Mem, p plain) {
	t.Helper()
	if !slices.Equal(m.All(), slices.Concat(p...)) {
		t.Fatalf("%s: All is not what it must be", what)
	}
	for tenant, want := range p {
		words, e := m.Words(tenant)
		if e != api.OK || !slices.Equal(words, want) {
			t.Fatalf("%s: Words(%d) is %x, %d, not %x", what, tenant, words, e, want)
		}
		for addr, w := range want {
			if got, e := m.Load(tenant, addr); got != w || e != api.OK {
				t.Fatalf("%s: Load(%d, %d) is %x, %d, not %x", what, tenant, addr, got, e, w)
			}
		}
	}
}

// within tells whether so many words from the address on are in the region, looking for each of them; the address itself may be the end if there are none.
func within(words []uint64, addr, many int) bool {
	if addr < 0 || addr > len(words) || many < 0 || many > len(words) {
		return false
	}
	for i := addr; i < addr+many; i++ {
		if i >= len(words) {
			return false
		}
	}
	return true
}

// outside are numbers that are not from 0 to below n: n must not be one of the great ones.
func outside(n int) []int {
	return []int{-1, -2, -n, -n - 1, n, n + 1, 2 * n, 1 << 20, 1 << 32, 1<<32 + 1, 1 << 62, math.MaxInt - n, math.MaxInt - 1, math.MaxInt, math.MinInt, math.MinInt + 1, math.MinInt + n}
}

// noMemories are nil, and memories that no call made.
func noMemories() []*mem.Mem { return []*mem.Mem{nil, {}, new(mem.Mem)} }

// TestExamples: the chapter's table.
func TestExamples(t *testing.T) {
	m := made(t, example())
	if a, b, c := m.Store(0, 47, 9), m.Store(0, 48, 9), m.Store(1, 0, 5); a != api.OK || b != api.ErrRange || c != api.OK {
		t.Errorf("Store is %d, %d, %d", a, b, c)
	}
	for _, x := range []struct {
		tenant, addr int
		w            uint64
		e            api.Errno
	}{{0, 47, 9, api.OK}, {1, 0, 5, api.OK}, {2, 0, 0, api.ErrArg}, {0, -1, 0, api.ErrRange}} {
		if w, e := m.Load(x.tenant, x.addr); w != x.w || e != x.e {
			t.Errorf("Load(%d, %d) is %d, %d, not %d, %d", x.tenant, x.addr, w, e, x.w, x.e)
		}
	}
	if a, b, c := m.Zero(0, 40, 9), m.Zero(0, 48, 0), m.Zero(0, 40, 8); a != api.ErrRange || b != api.OK || c != api.OK {
		t.Errorf("Zero is %d, %d, %d", a, b, c)
	}
	if w, e := m.Load(0, 47); w != 0 || e != api.OK {
		t.Errorf("Load(0, 47) is then %d, %d", w, e)
	}
	if w, e := m.Load(1, 0); w != 5 || e != api.OK {
		t.Errorf("Load(1, 0) is then %d, %d", w, e)
	}
}

// TestNew: P7.1 and P7.2, a memory has as many words as all regions together, and all of them are 0.
func TestNew(t *testing.T) {
	for _, c := range valid() {
		m, p := made(t, c), plainOf(t, c)
		for _, words := range p {
			clear(words)
		}
		same(t, "new", m, p)
		if total, e := conf.Total(c); e != api.OK || len(m.All()) != total {
			t.Errorf("%v: %d words, not %d", c, len(m.All()), total)
		}
	}
}

// TestNewWrong: P7.1, ErrArg for configurations that are not valid, and no memory beside it.
func TestNewWrong(t *testing.T) {
	for _, c := range notValid() {
		if m, e := mem.New(c); m != nil || e != api.ErrArg {
			t.Errorf("New(%v) is %v, %d", c, m, e)
		}
	}
}

// TestNewApart: R4 and R5, memories of one configuration have nothing in common, and the configuration is neither changed nor kept.
func TestNewApart(t *testing.T) {
	for _, c := range small() {
		given := conf.Own(c)
		m, other := made(t, given), made(t, given)
		if !reflect.DeepEqual(given, c) {
			t.Errorf("New changes %v to %v", c, given)
		}
		for i := range given.Classes {
			given.Classes[i] = -77
		}
		for i := range given.Tenants {
			given.Tenants[i] = api.Tenant{Quota: -77}
		}
		p := plainOf(t, c)
		zero := p.own()
		for tenant, words := range p {
			clear(zero[tenant])
			for addr, w := range words {
				m.Store(tenant, addr, w)
			}
		}
		same(t, "with the configuration overwritten", m, p)
		same(t, "with the other memory filled", other, zero)
	}
}

// TestLoadStore: P7.1 and P7.4, what was stored is loaded again, from each address, and nothing else is changed.
func TestLoadStore(t *testing.T) {
	for _, c := range small() {
		p := plainOf(t, c)
		m := filled(t, c, p)
		same(t, "filled", m, p)
		for tenant, words := range p {
			for addr := range words {
				for _, w := range []uint64{0, 1, 1 << 63, math.MaxUint64, uint64(addr)} {
					if e := m.Store(tenant, addr, w); e != api.OK {
						t.Fatalf("%v: Store(%d, %d, %x) is %d", c, tenant, addr, w, e)
					}
					if got, e := m.Load(tenant, addr); got != w || e != api.OK {
						t.Fatalf("%v: Load(%d, %d) is %x, %d, not %x", c, tenant, addr, got, e, w)
					}
				}
				words[addr] = uint64(addr)
				if !slices.Equal(m.All(), slices.Concat(p...)) {
					t.Fatalf("%v: Store(%d, %d, ..) changes another word", c, tenant, addr)
				}
			}
		}
	}
}

// TestGreatest: P7.1, P7.2 and P7.4, each word of the greatest memories is the one that was stored.
func TestGreatest(t *testing.T) {
	for _, c := range valid() {
		p := plainOf(t, c)
		m := filled(t, c, p)
		same(t, "filled", m, p)
		for tenant, words := range p {
			if e := m.Zero(tenant, 1, len(words)-2); e != api.OK {
				t.Errorf("%v: Zero(%d, 1, %d) is %d", c, tenant, len(words)-2, e)
			}
			clear(words[1 : len(words)-1])
		}
		same(t, "zeroed", m, p)
	}
}

// TestOutside: P7.1, P7.4 and P7.5, ErrRange for addresses that are not in the region, those of its neighbours' words too, and no word is changed.
func TestOutside(t *testing.T) {
	for _, c := range valid() {
		p := plainOf(t, c)
		m := filled(t, c, p)
		for tenant, words := range p {
			for _, addr := range outside(len(words)) {
				if w, e := m.Load(tenant, addr); w != 0 || e != api.ErrRange {
					t.Errorf("%v: Load(%d, %d) is %x, %d", c, tenant, addr, w, e)
				}
				if e := m.Store(tenant, addr, 7); e != api.ErrRange {
					t.Errorf("%v: Store(%d, %d, 7) is %d", c, tenant, addr, e)
				}
			}
		}
		same(t, "after what was refused", m, p)
	}
}

// TestNoTenant: P7.1, P7.2 and P7.5, ErrArg for tenants that do not exist, before ErrRange, with no result, and no word is changed.
func TestNoTenant(t *testing.T) {
	for _, c := range valid() {
		p := plainOf(t, c)
		m := filled(t, c, p)
		for _, tenant := range append(outside(len(p)), api.MaxTenants) {
			if tenant >= 0 && tenant < len(p) {
				t.Fatal("the test asks for a tenant that exists")
			}
			if words, e := m.Words(tenant); words != nil || e != api.ErrArg {
				t.Errorf("%v: Words(%d) is %x, %d", c, tenant, words, e)
			}
			for _, addr := range append(outside(len(p[0])), 0, 1) {
				if w, e := m.Load(tenant, addr); w != 0 || e != api.ErrArg {
					t.Errorf("%v: Load(%d, %d) is %x, %d", c, tenant, addr, w, e)
				}
				if e := m.Store(tenant, addr, 7); e != api.ErrArg {
					t.Errorf("%v: Store(%d, %d, 7) is %d", c, tenant, addr, e)
				}
				for _, many := range []int{0, 1, -1, math.MaxInt, math.MinInt} {
					if e := m.Zero(tenant, addr, many); e != api.ErrArg {
						t.Errorf("%v: Zero(%d, %d, %d) is %d", c, tenant, addr, many, e)
					}
				}
			}
		}
		same(t, "after what was refused", m, p)
	}
}

// TestZero: P7.2, P7.4 and P7.5, from each address to each end, and beyond them: these words become 0, or ErrRange, and no other one is changed.
func TestZero(t *testing.T) {
	for _, c := range small() {
		p := plainOf(t, c)
		for tenant, words := range p {
			for addr := -2; addr <= len(words)+2; addr++ {
				m := filled(t, c, p)
				for many := -2; many <= len(words)+2; many++ {
					q, want := p.own(), api.ErrRange
					if within(words, addr, many) {
						want = api.OK
						clear(q[tenant][addr : addr+many])
					}
					if e := m.Zero(tenant, addr, many); e != want {
						t.Fatalf("%v: Zero(%d, %d, %d) is %d, not %d", c, tenant, addr, many, e, want)
					}
					if !slices.Equal(m.All(), slices.Concat(q...)) {
						t.Fatalf("%v: Zero(%d, %d, %d) sets other words to 0", c, tenant, addr, many)
					}
					for i := addr; i < addr+many && want == api.OK; i++ {
						m.Store(tenant, i, words[i])
					}
				}
			}
		}
	}
}

// TestZeroOutside: P7.2 and P7.5, ErrRange for numbers of all sizes, such too whose sum overflows, and no word is changed.
func TestZeroOutside(t *testing.T) {
	for _, c := range valid() {
		p := plainOf(t, c)
		m := filled(t, c, p)
		for tenant, words := range p {
			numbers := append(outside(len(words)), 0, 1, len(words)-1, len(words)/2)
			for _, addr := range numbers {
				for _, many := range numbers {
					if within(words, addr, many) {
						continue
					}
					if e := m.Zero(tenant, addr, many); e != api.ErrRange {
						t.Errorf("%v: Zero(%d, %d, %d) is %d", c, tenant, addr, many, e)
					}
				}
			}
		}
		same(t, "after what was refused", m, p)
	}
}

// TestZeroNothing: P7.2, no words from each address on, up to the end of the region, and not beyond.
func TestZeroNothing(t *testing.T) {
	for _, c := range valid() {
		p := plainOf(t, c)
		m := filled(t, c, p)
		for tenant, words := range p {
			for addr := 0; addr <= len(words); addr++ {
				if e := m.Zero(tenant, addr, 0); e != api.OK {
					t.Errorf("%v: Zero(%d, %d, 0) is %d", c, tenant, addr, e)
				}
			}
			for _, addr := range []int{-1, len(words) + 1, math.MaxInt, math.MinInt} {
				if e := m.Zero(tenant, addr, 0); e != api.ErrRange {
					t.Errorf("%v: Zero(%d, %d, 0) is %d", c, tenant, addr, e)
				}
			}
		}
		same(t, "after nothing was done", m, p)
	}
}

// TestRun: P7.4 and P7.5, calls of all kinds for all tenants, one after the other, do in the memory what they do in a plain one.
func TestRun(t *testing.T) {
	for _, c := range small() {
		p := plainOf(t, c)
		m := filled(t, c, p)
		// The numbers are those of a rule, so that each run is the same.
		n := uint64(len(p[0]))
		pick := func(below int) int {
			n = n*6364136223846793005 + 1442695040888963407
			return int(n>>33) % below
		}
		for range 3000 {
			tenant := pick(len(p))
			words := p[tenant]
			addr, many := pick(len(words)+4)-2, pick(6)-1
			if pick(3) == 0 {
				if e := m.Zero(tenant, addr, many); (e == api.OK) != within(words, addr, many) {
					t.Fatalf("%v: Zero(%d, %d, %d) is %d", c, tenant, addr, many, e)
				}
				if within(words, addr, many) {
					clear(words[addr : addr+many])
				}
			} else {
				w := n
				if e := m.Store(tenant, addr, w); (e == api.OK) != within(words, addr, 1) {
					t.Fatalf("%v: Store(%d, %d, ..) is %d", c, tenant, addr, e)
				}
				if within(words, addr, 1) {
					words[addr] = w
				}
			}
			if !slices.Equal(m.All(), slices.Concat(p...)) {
				t.Fatalf("%v: a call for the tenant %d, at %d, changes other words", c, tenant, addr)
			}
		}
		same(t, "after the run", m, p)
	}
}

// TestAlone: P7.4, what is done for one tenant gives the words that it gives in a memory without the others.
func TestAlone(t *testing.T) {
	for _, c := range small() {
		p := plainOf(t, c)
		m := filled(t, c, p)
		for tenant, words := range p {
			single := c
			single.Tenants = c.Tenants[tenant : tenant+1]
			alone := filled(t, single, p[tenant:tenant+1])
			if a, b := m.Zero(tenant, len(words)/2, 2), alone.Zero(0, len(words)/2, 2); a != b {
				t.Errorf("%v: Zero for the tenant %d is %d, and %d alone", c, tenant, a, b)
			}
			got, _ := m.Words(tenant)
			if want := alone.All(); !slices.Equal(got, want) {
				t.Errorf("%v: the region %d is %x, and %x alone", c, tenant, got, want)
			}
		}
	}
}

// spoil inverts words that were returned, and what is behind their length.
func spoil(words []uint64) {
	words = words[:cap(words)]
	for i := range words {
		words[i] = ^words[i]
	}
}

// TestResultsAreNew: P7.2 and R5, what is done with the words that were returned, and behind them, is seen nowhere else, and they do not change with the memory.
func TestResultsAreNew(t *testing.T) {
	for _, c := range small() {
		p := plainOf(t, c)
		m := filled(t, c, p)
		spoil(m.All())
		for tenant := range p {
			words, e := m.Words(tenant)
			if e != api.OK {
				t.Fatalf("%v: Words(%d) is %d", c, tenant, e)
			}
			spoil(words)
		}
		same(t, "with the results overwritten", m, p)
		all := m.All()
		for tenant := range p {
			words, _ := m.Words(tenant)
			m.Store(tenant, 0, 0)
			m.Zero(tenant, 0, len(p[tenant]))
			if !slices.Equal(words, p[tenant]) {
				t.Errorf("%v: what Words(%d) returned changes with the memory", c, tenant)
			}
		}
		if !slices.Equal(all, slices.Concat(p...)) {
			t.Errorf("%v: what All returned changes with the memory", c)
		}
	}
}

// TestCopy: P7.3, a copy is equal, refuses the same, and neither sees what is done with the other one.
func TestCopy(t *testing.T) {
	for _, c := range valid() {
		p := plainOf(t, c)
		m := filled(t, c, p)
		n := m.Copy()
		if n == nil || n == m {
			t.Fatalf("%v: the copy is %v", c, n)
		}
		same(t, "the copy", n, p)
		zero := p.own()
		for tenant, words := range p {
			clear(zero[tenant])
			m.Zero(tenant, 0, len(words))
			a, b := n.Store(tenant, len(words), 1), n.Store(tenant, -1, 1)
			if a != api.ErrRange || b != api.ErrRange {
				t.Errorf("%v: Store of the copy is %d, %d outside", c, a, b)
			}
		}
		same(t, "the copy, with the memory zeroed", n, p)
		same(t, "the memory", m, zero)
		again := n.Copy()
		for tenant := range p {
			n.Store(tenant, 1, 5)
		}
		same(t, "the memory, with the copy written", m, zero)
		same(t, "the copy's copy", again, p)
		if e := n.Store(len(p), 0, 1); e != api.ErrArg {
			t.Errorf("%v: Store of the copy is %d for no tenant", c, e)
		}
	}
}

// TestNoMemory: nil, and a memory that no call made, give ErrNil, before all other errors, or nothing, and stay what they are.
func TestNoMemory(t *testing.T) {
	numbers := append(outside(2), 0, 1)
	for k, m := range noMemories() {
		for _, tenant := range numbers {
			if words, e := m.Words(tenant); words != nil || e != api.ErrNil {
				t.Errorf("no memory %d: Words(%d) is %x, %d", k, tenant, words, e)
			}
			for _, addr := range numbers {
				if w, e := m.Load(tenant, addr); w != 0 || e != api.ErrNil {
					t.Errorf("no memory %d: Load(%d, %d) is %x, %d", k, tenant, addr, w, e)
				}
				if e := m.Store(tenant, addr, 1); e != api.ErrNil {
					t.Errorf("no memory %d: Store(%d, %d, 1) is %d", k, tenant, addr, e)
				}
				for _, many := range []int{0, 1, -1, math.MaxInt} {
					if e := m.Zero(tenant, addr, many); e != api.ErrNil {
						t.Errorf("no memory %d: Zero(%d, %d, %d) is %d", k, tenant, addr, many, e)
					}
				}
			}
		}
		if m.All() != nil || m.Copy() != nil {
			t.Errorf("no memory %d has words %x, and the copy %v", k, m.All(), m.Copy())
		}
	}
}
