package slot_test

import (
	"math"
	"reflect"
	"slices"
	"testing"

	"commonage/api"
	"commonage/conf"
	"commonage/slot"
)

// example is layer 6's configuration.
func example() api.Config {
	return api.Config{
		Classes: []int{2, 4}, Page: 8,
		Tenants: []api.Tenant{{Quota: 20, Trigger: 8, Caps: 4, Assist: 1}, {Quota: 4, Trigger: 1, Caps: 1, Assist: 0}},
		Workers: 1, Grey: 2, Gens: 3,
	}
}

// quotas is the example with these classes, this page, and these quotas.
func quotas(classes []int, page int, quotas ...int) api.Config {
	c := example()
	c.Classes, c.Page, c.Tenants = classes, page, nil
	for _, q := range quotas {
		c.Tenants = append(c.Tenants, api.Tenant{Quota: q, Trigger: 1, Caps: 1})
	}
	return c
}

// small are configurations whose pages, quotas and classes divide one another, or do not; the least region has one slot.
func small() []api.Config {
	all := []api.Config{
		example(),
		quotas([]int{2}, 2, 2, 3, 4),
		quotas([]int{2}, 3, 2, 3, 4, 7),
		quotas([]int{2, 4}, 8, 4, 20),
		quotas([]int{3, 5, 7}, 16, 7, 100, 8, 21),
		quotas([]int{2, 3, 5, 7, 11, 13, 17, 19}, 19, 19, 20, 37, 38, 39, 100),
		quotas([]int{2, 64}, 64, 64, 128, 65, 127),
		quotas([]int{33, 64}, 64, 64, 200),
	}
	for class := 3; class <= 64; class += 5 {
		for _, page := range []int{class, (class + 64) / 2, 64} {
			all = append(all, quotas([]int{2, class}, page, class, 2*class+1, 150))
		}
	}
	return all
}

// valid are the small ones, and such with the greatest quotas.
func valid() []api.Config {
	return append(small(),
		quotas([]int{57, 58, 59, 60, 61, 62, 63, 64}, 64, 4096, 4095, 64),
		quotas([]int{2, 3, 4, 5, 6, 7, 8, 64}, 64, 4096, 1000),
		quotas([]int{2, 4, 8, 16, 32, 64}, 64, 100, 200, 300, 400, 500, 4096, 4095, 64),
		quotas([]int{2}, 2, 4096),
	)
}

// notValid are configurations of which one thing, or everything, is not valid.
func notValid() []api.Config {
	all := []api.Config{{}, {Classes: []int{}, Tenants: []api.Tenant{}}, quotas([]int{2, 4}, 8), quotas([]int{2, 4}, 8, slices.Repeat([]int{4}, 9)...)}
	for _, l := range [][]int{nil, {0}, {1, 2}, {-2, 4}, {4, 2}, {2, 2}, {2, 65}, {2, 3, 4, 5, 6, 7, 8, 9, 10}} {
		all = append(all, quotas(l, 64, 100))
	}
	for _, page := range []int{-1, 0, 1, 3, 65, math.MaxInt, math.MinInt} {
		all = append(all, quotas([]int{2, 4}, page, 20))
	}
	for _, quota := range []int{-1, 0, 3, 4097, math.MaxInt, math.MinInt} {
		all = append(all, quotas([]int{2, 4}, 8, quota, 4), quotas([]int{2, 4}, 8, 4, quota))
	}
	for _, change := range []func(*api.Config){
		func(c *api.Config) { c.Workers = -1 },
		func(c *api.Config) { c.Grey = 0 },
		func(c *api.Config) { c.Gens = 1<<31 + 1 },
		func(c *api.Config) { c.Tenants[0].Trigger = 0 },
		func(c *api.Config) { c.Tenants[1].Caps = 1025 },
		func(c *api.Config) { c.Tenants[1].Assist = -1 },
	} {
		c := example()
		change(&c)
		all = append(all, c)
	}
	return all
}

// made is the plan of that tenant.
func made(t *testing.T, c api.Config, tenant int) *slot.Plan {
	t.Helper()
	p, e := slot.New(c, tenant)
	if p == nil || e != api.OK {
		t.Fatalf("New(%v, %d) is %v, %d", c, tenant, p, e)
	}
	return p
}

// place is where a slot must be.
type place struct{ class, size, page, addr int }

// layout is what a plan must say: where each slot is, and how many pages and words there are.
type layout struct {
	slots        []place
	pages, words int
}

// laid is the layout of that tenant, with slots and pages laid one by one.
func laid(c api.Config, tenant int) layout {
	var l layout
	for class, size := range c.Classes {
		for rest := c.Tenants[tenant].Quota; rest >= size; {
			for at := 0; at+size <= c.Page && rest >= size; at += size {
				l.slots = append(l.slots, place{class, size, l.pages, l.words + at})
				rest -= size
			}
			l.pages++
			l.words += c.Page
		}
	}
	return l
}

// each calls test for every tenant of the configurations.
func each(t *testing.T, all []api.Config, test func(c api.Config, tenant int, p *slot.Plan, l layout)) {
	t.Helper()
	for _, c := range all {
		for tenant := range c.Tenants {
			test(c, tenant, made(t, c, tenant), laid(c, tenant))
		}
	}
}

// outside are numbers that are not from 0 to below n: n must not be one of the great ones.
func outside(n int) []int {
	return []int{-1, -2, -n, -n - 1, n, n + 1, 2*n + 1, 1 << 20, 1 << 32, 1<<32 + 1, 1 << 62, math.MaxInt - n, math.MaxInt - 1, math.MaxInt, math.MinInt, math.MinInt + 1, math.MinInt + n}
}

// noPlans are nil, and plans that no call made.
func noPlans() []*slot.Plan { return []*slot.Plan{nil, {}, new(slot.Plan)} }

// answer is what a call returns: one number, or two of them.
type answer struct {
	a, b int
	e    api.Errno
}

// number is a call's answer of one number.
func number(a int, e api.Errno) answer { return answer{a, 0, e} }

// slotCalls are the methods that take a slot, spanCalls those that return a first slot and a number of slots.
func slotCalls(p *slot.Plan) map[string]func(int) (int, api.Errno) {
	return map[string]func(int) (int, api.Errno){"Class": p.Class, "Size": p.Size, "Addr": p.Addr, "Page": p.Page}
}

func spanCalls(p *slot.Plan) map[string]func(int) (int, int, api.Errno) {
	return map[string]func(int) (int, int, api.Errno){"Of": p.Of, "In": p.In}
}

// span is the first of the slots for which is holds, and how many there are; they must follow one another.
func (l layout) span(t *testing.T, is func(place) bool) answer {
	t.Helper()
	var found []int
	for i, x := range l.slots {
		if is(x) {
			found = append(found, i)
		}
	}
	if len(found) < 1 || found[len(found)-1]-found[0] != len(found)-1 {
		t.Fatalf("the slots %v do not follow one another", found)
	}
	return answer{found[0], len(found), api.OK}
}

// same requires that a plan is what the layout says, in all that it answers.
func same(t *testing.T, what string, p *slot.Plan, l layout) {
	t.Helper()
	if p.Slots() != len(l.slots) || p.Pages() != l.pages || p.Words() != l.words {
		t.Fatalf("%s: %d slots, %d pages, %d words, not %d, %d, %d", what, p.Slots(), p.Pages(), p.Words(), len(l.slots), l.pages, l.words)
	}
	for i, x := range l.slots {
		for name, want := range map[string]int{"Class": x.class, "Size": x.size, "Addr": x.addr, "Page": x.page} {
			if got := number(slotCalls(p)[name](i)); got != number(want, api.OK) {
				t.Fatalf("%s: %s(%d) is %v, not %d", what, name, i, got, want)
			}
		}
		if got := number(p.At(x.addr)); got != number(i, api.OK) {
			t.Fatalf("%s: At(%d) is %v, not %d", what, x.addr, got, i)
		}
	}
}

// TestExamples: the chapter's table, and the document's third example.
func TestExamples(t *testing.T) {
	p := made(t, example(), 0)
	if p.Slots() != 15 || p.Pages() != 6 || p.Words() != 48 {
		t.Errorf("%d slots, %d pages, %d words", p.Slots(), p.Pages(), p.Words())
	}
	of := func(class int) answer { a, b, e := p.Of(class); return answer{a, b, e} }
	in := func(page int) answer { a, b, e := p.In(page); return answer{a, b, e} }
	for i, x := range []struct{ got, want answer }{
		{of(1), answer{10, 5, api.OK}},
		{number(p.Addr(0)), answer{0, 0, api.OK}},
		{number(p.Addr(4)), answer{8, 0, api.OK}},
		{number(p.Addr(9)), answer{18, 0, api.OK}},
		{number(p.Addr(10)), answer{24, 0, api.OK}},
		{number(p.Addr(14)), answer{40, 0, api.OK}},
		{number(p.Class(9)), answer{0, 0, api.OK}},
		{number(p.Class(10)), answer{1, 0, api.OK}},
		{number(p.Size(10)), answer{4, 0, api.OK}},
		{number(p.Page(9)), answer{2, 0, api.OK}},
		{number(p.Page(10)), answer{3, 0, api.OK}},
		{in(2), answer{8, 2, api.OK}},
		{in(5), answer{14, 1, api.OK}},
		{number(p.At(18)), answer{9, 0, api.OK}},
		{number(p.At(19)), answer{0, 0, api.ErrNone}},
		{number(p.At(20)), answer{0, 0, api.ErrNone}},
		{number(p.At(44)), answer{0, 0, api.ErrNone}},
		{number(p.At(-1)), answer{0, 0, api.ErrNone}},
		{number(p.Addr(15)), answer{0, 0, api.ErrArg}},
	} {
		if x.got != x.want {
			t.Errorf("the answer %d is %v, not %v", i, x.got, x.want)
		}
	}
}

// TestNew: P9.1, the plan of each tenant, with as many slots, pages and words as layer 6 says.
func TestNew(t *testing.T) {
	each(t, valid(), func(c api.Config, tenant int, p *slot.Plan, l layout) {
		if p.Slots() != len(l.slots) || p.Pages() != l.pages || p.Words() != l.words {
			t.Errorf("%v, %d: %d slots, %d pages, %d words, not %d, %d, %d", c, tenant, p.Slots(), p.Pages(), p.Words(), len(l.slots), l.pages, l.words)
		}
		slots, pages := 0, 0
		for class := range c.Classes {
			a, _ := conf.Slots(c, tenant, class)
			b, _ := conf.Pages(c, tenant, class)
			slots, pages = slots+a, pages+b
		}
		if words, e := conf.Region(c, tenant); p.Slots() != slots || p.Pages() != pages || p.Words() != words || e != api.OK {
			t.Errorf("%v, %d: %d slots, %d pages, %d words, and %d, %d, %d by layer 6", c, tenant, p.Slots(), p.Pages(), p.Words(), slots, pages, words)
		}
	})
}

// TestNewWrong: P9.1, ErrArg for configurations that are not valid, and for tenants that do not exist, and no plan beside it.
func TestNewWrong(t *testing.T) {
	for _, c := range notValid() {
		for _, tenant := range append(outside(len(c.Tenants)), 0, 1, api.MaxTenants) {
			if p, e := slot.New(c, tenant); p != nil || e != api.ErrArg {
				t.Errorf("New(%v, %d) is %v, %d", c, tenant, p, e)
			}
		}
	}
	for _, c := range valid() {
		for _, tenant := range outside(len(c.Tenants)) {
			if p, e := slot.New(c, tenant); p != nil || e != api.ErrArg {
				t.Errorf("New(%v, %d) is %v, %d", c, tenant, p, e)
			}
		}
	}
}

// TestNewApart: R5, the configuration, and what is behind its lists, is neither changed nor kept, and does not count.
func TestNewApart(t *testing.T) {
	for _, c := range small() {
		for tenant := range c.Tenants {
			given := conf.Own(c)
			classes := append(given.Classes, 3, 65, 64)
			tenants := append(given.Tenants, api.Tenant{Quota: 64}, api.Tenant{Quota: -1})
			given.Classes, given.Tenants = classes[:len(c.Classes)], tenants[:len(c.Tenants)]
			wantClasses, wantTenants := slices.Clone(classes), slices.Clone(tenants)
			p := made(t, given, tenant)
			if !reflect.DeepEqual(given, c) || !slices.Equal(classes, wantClasses) || !slices.Equal(tenants, wantTenants) {
				t.Errorf("New changes %v to %v", c, given)
			}
			for i := range classes {
				classes[i] = -77
			}
			for i := range tenants {
				tenants[i] = api.Tenant{Quota: -77}
			}
			same(t, "with the configuration overwritten", p, laid(c, tenant))
		}
	}
}

// TestOf: P9.2, the first slot of each class, and how many it has.
func TestOf(t *testing.T) {
	each(t, valid(), func(c api.Config, tenant int, p *slot.Plan, l layout) {
		for class := range c.Classes {
			want := l.span(t, func(x place) bool { return x.class == class })
			if first, many, e := p.Of(class); (answer{first, many, e}) != want {
				t.Errorf("%v, %d: Of(%d) is %d, %d, %d, not %v", c, tenant, class, first, many, e, want)
			}
		}
	})
}

// TestSlots: P9.2, P9.3 and P9.4, the class, the size, the address and the page of each slot, and the slot at its address.
func TestSlots(t *testing.T) {
	each(t, valid(), func(c api.Config, tenant int, p *slot.Plan, l layout) {
		same(t, "new", p, l)
	})
}

// TestEachQuota: P9.1 to P9.4, quotas one after the other, in pages that leave a rest and in such that do not, so that a last page has each number of slots.
func TestEachQuota(t *testing.T) {
	for _, page := range []int{7, 8, 12, 13, 64} {
		for quota := 7; quota <= 150; quota++ {
			c := quotas([]int{2, 3, 7}, page, quota)
			same(t, "quota", made(t, c, 0), laid(c, 0))
		}
	}
}

// TestOutside: P9.2 and P9.3, ErrArg for slots, classes and pages that do not exist, and no result beside it.
func TestOutside(t *testing.T) {
	each(t, valid(), func(c api.Config, tenant int, p *slot.Plan, l layout) {
		for _, i := range outside(len(l.slots)) {
			for name, call := range slotCalls(p) {
				if got := number(call(i)); got != number(0, api.ErrArg) {
					t.Errorf("%v, %d: %s(%d) is %v", c, tenant, name, i, got)
				}
			}
		}
		for name, many := range map[string]int{"Of": len(c.Classes), "In": l.pages} {
			for _, i := range outside(many) {
				if a, b, e := spanCalls(p)[name](i); (answer{a, b, e}) != (answer{0, 0, api.ErrArg}) {
					t.Errorf("%v, %d: %s(%d) is %d, %d, %d", c, tenant, name, i, a, b, e)
				}
			}
		}
	})
}

// TestIn: P9.3 and P9.5, the first slot of each page, and how many it has, at least one, and all of one class.
func TestIn(t *testing.T) {
	each(t, valid(), func(c api.Config, tenant int, p *slot.Plan, l layout) {
		next := 0
		for page := range l.pages {
			want := l.span(t, func(x place) bool { return x.page == page })
			first, many, e := p.In(page)
			if (answer{first, many, e}) != want {
				t.Errorf("%v, %d: In(%d) is %d, %d, %d, not %v", c, tenant, page, first, many, e, want)
			}
			if first != next || many < 1 {
				t.Errorf("%v, %d: the page %d has %d slots from %d on, behind %d", c, tenant, page, many, first, next)
			}
			for i := first; i < first+many; i++ {
				class, _ := p.Class(i)
				if got, e := p.Page(i); got != page || e != api.OK || class != l.slots[first].class {
					t.Errorf("%v, %d: the slot %d is in the page %d, of the class %d", c, tenant, i, got, class)
				}
			}
			next += many
		}
		if next != p.Slots() {
			t.Errorf("%v, %d: the pages have %d slots of %d", c, tenant, next, p.Slots())
		}
	})
}

// TestAt: P9.3 and P9.4, the slot at each address, and ErrNone for all others, inside of a slot, in the rest of a page, behind the last slot, and outside of the region.
func TestAt(t *testing.T) {
	each(t, valid(), func(c api.Config, tenant int, p *slot.Plan, l layout) {
		begins := map[int]int{}
		for i, x := range l.slots {
			begins[x.addr] = i
		}
		check := func(addr int) {
			want := number(0, api.ErrNone)
			if i, is := begins[addr]; is {
				want = number(i, api.OK)
			}
			if got := number(p.At(addr)); got != want {
				t.Errorf("%v, %d: At(%d) is %v, not %v", c, tenant, addr, got, want)
			}
		}
		for addr := -130; addr <= l.words+130; addr++ {
			check(addr)
		}
		for _, addr := range append(outside(l.words), outside(c.Page)...) {
			check(addr)
		}
		for exp := range 63 {
			for _, addr := range []int{1 << exp, 1<<exp - 1, 1<<exp + c.Page, -1 << exp, 1 - 1<<exp} {
				check(addr)
			}
		}
	})
}

// TestApart: P9.4, addresses increase, and no word is in two slots; each slot ends in its page, and so in the region.
func TestApart(t *testing.T) {
	each(t, valid(), func(c api.Config, tenant int, p *slot.Plan, l layout) {
		end := 0
		for i := range p.Slots() {
			addr, e := p.Addr(i)
			size, f := p.Size(i)
			page, g := p.Page(i)
			if e != api.OK || f != api.OK || g != api.OK {
				t.Fatalf("%v, %d: the slot %d has the errors %d, %d, %d", c, tenant, i, e, f, g)
			}
			if addr < end || addr < page*c.Page || addr+size > (page+1)*c.Page {
				t.Errorf("%v, %d: the slot %d, of %d words, is at %d in the page %d, and the one before ends at %d", c, tenant, i, size, addr, page, end)
			}
			end = addr + size
		}
		if end > p.Words() {
			t.Errorf("%v, %d: the last slot ends at %d, the region at %d", c, tenant, end, p.Words())
		}
	})
}

// TestClasses: P9.2, classes follow one another, each with its own size, and together they have all slots.
func TestClasses(t *testing.T) {
	each(t, valid(), func(c api.Config, tenant int, p *slot.Plan, l layout) {
		next := 0
		for class, size := range c.Classes {
			first, many, e := p.Of(class)
			if first != next || e != api.OK {
				t.Errorf("%v, %d: the class %d begins at %d, %d, not %d", c, tenant, class, first, e, next)
			}
			for i := first; i < first+many; i++ {
				a, _ := p.Class(i)
				b, _ := p.Size(i)
				if a != class || b != size {
					t.Errorf("%v, %d: the slot %d is of the class %d, and has %d words", c, tenant, i, a, b)
				}
			}
			next += many
		}
		if next != p.Slots() {
			t.Errorf("%v, %d: the classes have %d slots of %d", c, tenant, next, p.Slots())
		}
	})
}

// TestAlone: a plan depends on its tenant's quota, the classes and the page, and on nothing else.
func TestAlone(t *testing.T) {
	each(t, small(), func(c api.Config, tenant int, p *slot.Plan, l layout) {
		alone := c
		alone.Tenants = []api.Tenant{{Quota: c.Tenants[tenant].Quota, Trigger: 1 << 20, Caps: 1024, Assist: 1024}}
		alone.Workers, alone.Grey, alone.Gens = 8, 64, 1<<31
		same(t, "alone", made(t, alone, 0), l)
		same(t, "with others", p, l)
	})
}

// TestAgain: R4, plans never change: what was asked, or refused, before is not seen in a later call, nor in another plan.
func TestAgain(t *testing.T) {
	each(t, small(), func(c api.Config, tenant int, p *slot.Plan, l layout) {
		other := made(t, c, len(c.Tenants)-1-tenant)
		for range 2 {
			same(t, "again", p, l)
			for _, i := range append(outside(len(l.slots)), 0, 1) {
				for _, call := range slotCalls(p) {
					call(i)
				}
				for _, call := range spanCalls(p) {
					call(i)
				}
				p.At(i)
			}
		}
		same(t, "another", other, laid(c, len(c.Tenants)-1-tenant))
	})
}

// TestNoPlan: P9.1 to P9.3, nil, and a plan that no call made, have nothing, and give ErrNil before all other errors.
func TestNoPlan(t *testing.T) {
	for k, p := range noPlans() {
		if p.Slots() != 0 || p.Pages() != 0 || p.Words() != 0 {
			t.Errorf("no plan %d: %d slots, %d pages, %d words", k, p.Slots(), p.Pages(), p.Words())
		}
		for _, i := range append(outside(2), 0, 1, 8) {
			for name, call := range slotCalls(p) {
				if got := number(call(i)); got != number(0, api.ErrNil) {
					t.Errorf("no plan %d: %s(%d) is %v", k, name, i, got)
				}
			}
			for name, call := range spanCalls(p) {
				if a, b, e := call(i); (answer{a, b, e}) != (answer{0, 0, api.ErrNil}) {
					t.Errorf("no plan %d: %s(%d) is %d, %d, %d", k, name, i, a, b, e)
				}
			}
			if got := number(p.At(i)); got != number(0, api.ErrNil) {
				t.Errorf("no plan %d: At(%d) is %v", k, i, got)
			}
		}
	}
}
