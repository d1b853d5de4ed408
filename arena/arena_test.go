package arena_test

import (
	"math"
	"slices"
	"testing"

	"commonage/api"
	"commonage/arena"
	"commonage/bits"
	"commonage/conf"
	"commonage/slot"
)

// example is layer 6's configuration.
func example() api.Config {
	return quotas([]int{2, 4}, 8, 20, 4)
}

// quotas is a configuration with these classes, this page, and these quotas.
func quotas(classes []int, page int, quotas ...int) api.Config {
	c := api.Config{Classes: classes, Page: page, Workers: 1, Grey: 2, Gens: 3}
	for _, q := range quotas {
		c.Tenants = append(c.Tenants, api.Tenant{Quota: q, Trigger: 8, Caps: 4, Assist: 1})
	}
	return c
}

// small are configurations each tenant of which has a few slots; the least has one.
func small() []api.Config {
	return []api.Config{
		quotas([]int{2}, 2, 2, 5, 8),
		quotas([]int{2, 4}, 8, 4, 6, 8),
		quotas([]int{2, 3, 4}, 5, 4, 7),
		quotas([]int{3, 5}, 64, 5, 10, 14),
	}
}

// valid are the small ones, the example, and such with many slots: more than a word has bits, and as many as there can be.
func valid() []api.Config {
	return append(small(), example(),
		quotas([]int{2}, 2, 126, 128, 130),
		quotas([]int{2, 3, 5, 7}, 16, 100, 150),
		quotas([]int{2, 4, 8, 16, 32, 64}, 64, 300, 64),
		quotas([]int{2, 3, 4, 5, 6, 7, 8, 9}, 9, 4096, 4095),
	)
}

// lot is what a model knows of a slot: its class, and its size.
type lot struct{ class, size int }

// model is what an arena must be: slots, and which of them are taken, looked through one by one.
type model struct {
	lots  []lot
	sizes []int
	taken []bool
}

// modelOf is the model of that tenant's arena, with all slots free.
func modelOf(c api.Config, tenant int) *model {
	m := &model{sizes: slices.Clone(c.Classes)}
	for class, size := range c.Classes {
		for rest := c.Tenants[tenant].Quota; rest >= size; rest -= size {
			m.lots = append(m.lots, lot{class, size})
		}
	}
	m.taken = make([]bool, len(m.lots))
	return m
}

func (m *model) take(class int) (int, api.Errno) {
	if class < 0 || class >= len(m.sizes) {
		return 0, api.ErrArg
	}
	for i, x := range m.lots {
		if x.class == class && !m.taken[i] {
			m.taken[i] = true
			return i, api.OK
		}
	}
	return 0, api.ErrFull
}

func (m *model) give(slot int) api.Errno {
	if slot < 0 || slot >= len(m.lots) {
		return api.ErrArg
	}
	if !m.taken[slot] {
		return api.ErrState
	}
	m.taken[slot] = false
	return api.OK
}

func (m *model) giveAll(slots []int) api.Errno {
	for _, i := range slots {
		if !m.taken[i] {
			return api.ErrState
		}
	}
	for _, i := range slots {
		m.taken[i] = false
	}
	return api.OK
}

// used is the sum of the sizes of the taken slots, count how many they are.
func (m *model) used() (used, count int) {
	for i, x := range m.lots {
		if m.taken[i] {
			used, count = used+x.size, count+1
		}
	}
	return used, count
}

func (m *model) copy() *model {
	return &model{m.lots, m.sizes, slices.Clone(m.taken)}
}

// made is the arena of that plan.
func made(t *testing.T, p *slot.Plan) *arena.Arena {
	t.Helper()
	a, e := arena.New(p)
	if a == nil || e != api.OK {
		t.Fatalf("New is %v, %d", a, e)
	}
	return a
}

// planOf is the plan of that tenant.
func planOf(t *testing.T, c api.Config, tenant int) *slot.Plan {
	t.Helper()
	p, e := slot.New(c, tenant)
	if e != api.OK {
		t.Fatalf("slot.New(%v, %d): %d", c, tenant, e)
	}
	return p
}

// each calls test for every tenant of the configurations, with an arena whose slots are free, and its model.
func each(t *testing.T, all []api.Config, test func(c api.Config, tenant int, a *arena.Arena, m *model)) {
	t.Helper()
	for _, c := range all {
		for tenant := range c.Tenants {
			test(c, tenant, made(t, planOf(t, c, tenant)), modelOf(c, tenant))
		}
	}
}

// row is a row of so many bits, of which these are 1.
func row(t *testing.T, many int, ones ...int) *bits.Row {
	t.Helper()
	r, e := bits.New(many)
	if e != api.OK {
		t.Fatalf("bits.New(%d): %d", many, e)
	}
	for _, i := range ones {
		if e := r.Set(i, true); e != api.OK {
			t.Fatalf("Set(%d) of %d bits: %d", i, many, e)
		}
	}
	return r
}

// onesOf are the bits of the row that are 1.
func onesOf(r *bits.Row) []int {
	var found []int
	for i := range r.Len() {
		if r.Get(i) {
			found = append(found, i)
		}
	}
	return found
}

// outside are numbers that are not from 0 to below n: n must not be one of the great ones.
func outside(n int) []int {
	return []int{-1, -2, -n, -n - 1, n, n + 1, 2*n + 1, 65536, 1 << 32, 1<<32 + 1, 1 << 62, math.MaxInt - n, math.MaxInt - 1, math.MaxInt, math.MinInt, math.MinInt + 1, math.MinInt + n}
}

// noArenas are nil, and arenas that no call made.
func noArenas() []*arena.Arena { return []*arena.Arena{nil, {}, new(arena.Arena)} }

// same requires that an arena is what the model says, in all that it answers.
func same(t *testing.T, what string, a *arena.Arena, m *model) {
	t.Helper()
	used, count := m.used()
	if a.Used() != used || a.Count() != count {
		t.Fatalf("%s: %d used, %d taken, not %d, %d", what, a.Used(), a.Count(), used, count)
	}
	r := a.Taken()
	if r.Len() != len(m.lots) || r.Count() != count {
		t.Fatalf("%s: a row of %d bits, %d of them 1, not %d, %d", what, r.Len(), r.Count(), len(m.lots), count)
	}
	for i, is := range m.taken {
		if a.Has(i) != is || r.Get(i) != is {
			t.Fatalf("%s: the slot %d is taken: %t, and its bit: %t, not %t", what, i, a.Has(i), r.Get(i), is)
		}
	}
}

// both takes from the arena and from the model, which must agree.
func both(t *testing.T, what string, a *arena.Arena, m *model, class int) (int, api.Errno) {
	t.Helper()
	want, f := m.take(class)
	got, e := a.Take(class)
	if got != want || e != f {
		t.Fatalf("%s: Take(%d) is %d, %d, not %d, %d", what, class, got, e, want, f)
	}
	return got, e
}

// fill takes all slots.
func fill(t *testing.T, what string, a *arena.Arena, m *model) {
	t.Helper()
	for class := range m.sizes {
		for e := api.OK; e == api.OK; {
			_, e = both(t, what, a, m, class)
		}
	}
}

// subset are the numbers of the bits of set.
func subset(set int) []int {
	var l []int
	for i := range 64 {
		if set>>i&1 == 1 {
			l = append(l, i)
		}
	}
	return l
}

// allStates calls test for every set of slots that can be taken, each in an arena of its own.
func allStates(t *testing.T, test func(what string, p *slot.Plan, a *arena.Arena, m *model)) {
	t.Helper()
	for _, c := range small() {
		for tenant := range c.Tenants {
			p := planOf(t, c, tenant)
			for set := range 1 << p.Slots() {
				a, m := made(t, p), modelOf(c, tenant)
				fill(t, "all states", a, m)
				for i := range m.lots {
					if set>>i&1 == 0 && (a.Give(i) != api.OK || m.give(i) != api.OK) {
						t.Fatalf("Give(%d) of a taken slot is refused", i)
					}
				}
				test("all states", p, a, m)
			}
		}
	}
}

// TestExamples: the chapter's table.
func TestExamples(t *testing.T) {
	a := made(t, planOf(t, example(), 0))
	take := func(class, want int, error api.Errno) {
		t.Helper()
		if got, e := a.Take(class); got != want || e != error {
			t.Errorf("Take(%d) is %d, %d, not %d, %d", class, got, e, want, error)
		}
	}
	give := func(slot int, want api.Errno) {
		t.Helper()
		if e := a.Give(slot); e != want {
			t.Errorf("Give(%d) is %d, not %d", slot, e, want)
		}
	}
	take(0, 0, api.OK)
	take(0, 1, api.OK)
	take(1, 10, api.OK)
	if a.Used() != 8 || a.Count() != 3 {
		t.Errorf("%d used, %d taken", a.Used(), a.Count())
	}
	give(0, api.OK)
	give(0, api.ErrState)
	take(0, 0, api.OK)
	take(2, 0, api.ErrArg)
	give(15, api.ErrArg)
	for _, want := range []int{11, 12, 13, 14} {
		take(1, want, api.OK)
	}
	take(1, 0, api.ErrFull)
}

// TestNew: P10.1 and P10.3, an arena with a bit for each slot of its plan, all of which are free.
func TestNew(t *testing.T) {
	each(t, valid(), func(c api.Config, tenant int, a *arena.Arena, m *model) {
		same(t, "new", a, m)
		if n := planOf(t, c, tenant).Slots(); a.Taken().Len() != n {
			t.Errorf("%v, %d: a row of %d bits, not %d", c, tenant, a.Taken().Len(), n)
		}
	})
}

// TestNewWrong: P10.1, ErrNil, and no arena beside it, for nil and for a plan that no call made.
func TestNewWrong(t *testing.T) {
	for k, p := range []*slot.Plan{nil, {}, new(slot.Plan)} {
		if a, e := arena.New(p); a != nil || e != api.ErrNil {
			t.Errorf("no plan %d: New is %v, %d", k, a, e)
		}
	}
}

// TestTakeAll: P10.1 and P10.5, the slots of each class one after the other, none twice, and then ErrFull, whatever the other classes have.
func TestTakeAll(t *testing.T) {
	each(t, valid(), func(c api.Config, tenant int, a *arena.Arena, m *model) {
		p, had := planOf(t, c, tenant), map[int]bool{}
		for class := range c.Classes {
			first, many, _ := p.Of(class)
			for i := range many {
				got, e := both(t, "take all", a, m, class)
				if got != first+i || e != api.OK || had[got] {
					t.Fatalf("%v, %d: Take(%d) is %d, %d, not %d", c, tenant, class, got, e, first+i)
				}
				had[got] = true
			}
			for range 2 {
				if got, e := both(t, "take all", a, m, class); got != 0 || e != api.ErrFull {
					t.Fatalf("%v, %d: Take(%d) of a full class is %d, %d", c, tenant, class, got, e)
				}
			}
		}
		same(t, "taken all", a, m)
	})
}

// TestLastClassFirst: P10.1 and P10.5, a class is full though others have free slots, those before it and those behind it.
func TestLastClassFirst(t *testing.T) {
	each(t, valid(), func(c api.Config, tenant int, a *arena.Arena, m *model) {
		for full := len(c.Classes) - 1; full >= 0; full-- {
			for e := api.OK; e == api.OK; {
				_, e = both(t, "last class first", a, m, full)
			}
			same(t, "last class first", a, m)
		}
	})
}

// TestTakeLeast: P10.1, in every state, the free slot of the class with the least number, or ErrFull.
func TestTakeLeast(t *testing.T) {
	allStates(t, func(what string, p *slot.Plan, a *arena.Arena, m *model) {
		for class := range m.sizes {
			b, n := a.Copy(), m.copy()
			both(t, what, b, n, class)
			same(t, what, b, n)
		}
	})
}

// TestTakeWrong: P10.1 and P10.5, ErrArg, before ErrFull, for classes that do not exist, and nothing changes.
func TestTakeWrong(t *testing.T) {
	each(t, valid(), func(c api.Config, tenant int, a *arena.Arena, m *model) {
		for range 2 {
			for _, class := range outside(len(c.Classes)) {
				if got, e := a.Take(class); got != 0 || e != api.ErrArg {
					t.Errorf("%v, %d: Take(%d) is %d, %d", c, tenant, class, got, e)
				}
				same(t, "take wrong", a, m)
			}
			fill(t, "take wrong", a, m)
		}
	})
}

// TestGive: P10.2 and P10.5, in every state, a taken slot becomes free, and a free one is refused, and nothing changes then.
func TestGive(t *testing.T) {
	allStates(t, func(what string, p *slot.Plan, a *arena.Arena, m *model) {
		for i := range m.lots {
			b, n := a.Copy(), m.copy()
			for range 2 {
				if got, want := b.Give(i), n.give(i); got != want {
					t.Fatalf("%v: Give(%d) is %d, not %d", m.taken, i, got, want)
				}
				same(t, what, b, n)
			}
		}
	})
}

// TestGiveWrong: P10.2 and P10.5, ErrArg for slots that do not exist, whether others are taken or not, and nothing changes.
func TestGiveWrong(t *testing.T) {
	each(t, valid(), func(c api.Config, tenant int, a *arena.Arena, m *model) {
		for range 2 {
			for _, i := range outside(len(m.lots)) {
				if e := a.Give(i); e != api.ErrArg {
					t.Errorf("%v, %d: Give(%d) is %d", c, tenant, i, e)
				}
				if a.Has(i) {
					t.Errorf("%v, %d: Has(%d)", c, tenant, i)
				}
			}
			same(t, "give wrong", a, m)
			fill(t, "give wrong", a, m)
		}
	})
}

// TestGiveAll: P10.2 and P10.5, in every state, every row of as many bits as there are slots: all of them become free, or, if one is free, none.
func TestGiveAll(t *testing.T) {
	allStates(t, func(what string, p *slot.Plan, a *arena.Arena, m *model) {
		for set := range 1 << len(m.lots) {
			b, n, l := a.Copy(), m.copy(), subset(set)
			if got, want := b.GiveAll(row(t, len(m.lots), l...)), n.giveAll(l); got != want {
				t.Fatalf("%v: GiveAll of %v is %d, not %d", m.taken, l, got, want)
			}
			same(t, what, b, n)
		}
	})
}

// TestGiveAllMany: P10.2 and P10.5, rows over several words: with all slots, with none, with what is taken, and with one slot more.
func TestGiveAllMany(t *testing.T) {
	each(t, valid(), func(c api.Config, tenant int, a *arena.Arena, m *model) {
		fill(t, "many", a, m)
		for i := 0; i < len(m.lots); i += 3 {
			a.Give(i)
			m.give(i)
		}
		try := func(what string, slots []int, want api.Errno) {
			t.Helper()
			if e := a.GiveAll(row(t, len(m.lots), slots...)); e != want || m.giveAll(slots) != want {
				t.Fatalf("%v, %d: GiveAll of %s is %d, not %d", c, tenant, what, e, want)
			}
			same(t, what, a, m)
		}
		taken := onesOf(a.Taken())
		try("none", nil, api.OK)
		for i := 0; i < len(m.lots); i += 3 {
			try("one more", append(slices.Clone(taken), i), api.ErrState)
		}
		try("half of them", taken[len(taken)/2:], api.OK)
		try("the rest of them", taken[:len(taken)/2], api.OK)
		fill(t, "many", a, m)
		try("all", onesOf(a.Taken()), api.OK)
		try("none of none", nil, api.OK)
		try("the last one, which is free", []int{len(m.lots) - 1}, api.ErrState)
		try("the first one, which is free", []int{0}, api.ErrState)
	})
}

// TestGiveAllWrong: P10.2 and P10.5, ErrArg, before ErrState, for rows that are nil or no objects, and for such of other lengths, whatever their bits are, and nothing changes.
func TestGiveAllWrong(t *testing.T) {
	each(t, valid(), func(c api.Config, tenant int, a *arena.Arena, m *model) {
		for range 2 {
			rows := []*bits.Row{nil, {}, new(bits.Row)}
			for _, many := range []int{0, 1, len(m.lots) - 1, len(m.lots) + 1, 64, 65535, 65536} {
				if many == len(m.lots) {
					continue
				}
				rows = append(rows, row(t, many))
				for _, one := range []int{0, many / 2, many - 1} {
					if many > 0 {
						rows = append(rows, row(t, many, one))
					}
				}
			}
			for k, r := range rows {
				if e := a.GiveAll(r); e != api.ErrArg {
					t.Errorf("%v, %d: GiveAll of the row %d, of %d bits, is %d", c, tenant, k, r.Len(), e)
				}
			}
			same(t, "give all wrong", a, m)
			fill(t, "give all wrong", a, m)
		}
	})
}

// TestGiveAllApart: R5, the row is neither changed nor kept, whether it is refused or not.
func TestGiveAllApart(t *testing.T) {
	allStates(t, func(what string, p *slot.Plan, a *arena.Arena, m *model) {
		for _, l := range [][]int{onesOf(a.Taken()), subset(1<<len(m.lots) - 1), {0}, nil} {
			b, n, r := a.Copy(), m.copy(), row(t, len(m.lots), l...)
			if b.GiveAll(r) != n.giveAll(l) || !slices.Equal(onesOf(r), l) || r.Len() != len(m.lots) {
				t.Fatalf("%v: GiveAll changes the row of %v to %v", m.taken, l, onesOf(r))
			}
			for i := range m.lots {
				r.Set(i, !r.Get(i))
			}
			same(t, "with the row overwritten", b, n)
		}
	})
}

// TestTaken: P10.3, a row of the taken slots in memory of its own: what is done to it, or to the arena, is not seen in the other.
func TestTaken(t *testing.T) {
	allStates(t, func(what string, p *slot.Plan, a *arena.Arena, m *model) {
		r, other := a.Taken(), a.Taken()
		for i, is := range m.taken {
			if r.Get(i) != is {
				t.Fatalf("%v: the bit %d is %t", m.taken, i, r.Get(i))
			}
			r.Set(i, !is)
		}
		same(t, "with the row overwritten", a, m)
		if l := onesOf(m.row(t)); !slices.Equal(onesOf(other), l) {
			t.Fatalf("%v: another row is %v", m.taken, onesOf(other))
		}
		before := onesOf(other)
		fill(t, what, a, m)
		if !slices.Equal(onesOf(other), before) {
			t.Fatalf("a row changes with its arena, from %v to %v", before, onesOf(other))
		}
	})
}

// row is a row of the taken slots.
func (m *model) row(t *testing.T) *bits.Row {
	t.Helper()
	r := row(t, len(m.lots))
	for i, is := range m.taken {
		r.Set(i, is)
	}
	return r
}

// TestCopy: P10.3, a copy is equal, and independent in both directions.
func TestCopy(t *testing.T) {
	allStates(t, func(what string, p *slot.Plan, a *arena.Arena, m *model) {
		b, n := a.Copy(), m.copy()
		same(t, "a copy", b, n)
		third := b.Copy()
		fill(t, "a copy", b, n)
		same(t, "with a copy filled", a, m)
		if e := a.GiveAll(m.row(t)); e != api.OK {
			t.Fatalf("%v: GiveAll of what is taken is %d", m.taken, e)
		}
		same(t, "with the first one emptied", b, n)
		same(t, "with the others changed", third, m)
		fill(t, "a copy of a copy", third, m)
	})
}

// TestTwo: R4, arenas of one plan are independent, and so is the plan of them.
func TestTwo(t *testing.T) {
	each(t, valid(), func(c api.Config, tenant int, a *arena.Arena, m *model) {
		p := planOf(t, c, tenant)
		one, other, n := made(t, p), made(t, p), modelOf(c, tenant)
		fill(t, "one of two", one, n)
		same(t, "the other of two", other, m)
		same(t, "made later", made(t, p), m)
		if p.Slots() != len(m.lots) {
			t.Errorf("%v, %d: the plan has %d slots, not %d", c, tenant, p.Slots(), len(m.lots))
		}
	})
}

// TestUsed: P10.3 and P10.4, Take adds the size of its class, Give subtracts that of its slot, and the order in which slots came to be taken does not count.
func TestUsed(t *testing.T) {
	each(t, valid(), func(c api.Config, tenant int, a *arena.Arena, m *model) {
		for class, size := range c.Classes {
			for e := api.OK; e == api.OK; {
				before := a.Used()
				if _, e = both(t, "used", a, m, class); e == api.OK && a.Used() != before+size {
					t.Fatalf("%v, %d: Take(%d) makes %d used words %d", c, tenant, class, before, a.Used())
				}
			}
		}
		// Backwards, and so in another order than they were taken in.
		for i := len(m.lots) - 1; i >= 0; i-- {
			before := a.Used()
			if e := a.Give(i); e != api.OK || a.Used() != before-m.lots[i].size {
				t.Fatalf("%v, %d: Give(%d) is %d, and makes %d used words %d", c, tenant, i, e, before, a.Used())
			}
		}
		if a.Used() != 0 || a.Count() != 0 {
			t.Errorf("%v, %d: %d used, %d taken, with all given back", c, tenant, a.Used(), a.Count())
		}
	})
}

// TestQuota: P10.4, in every state, Take of a class whose size fits into the quota beside the used words is not refused.
func TestQuota(t *testing.T) {
	for _, c := range small() {
		for tenant := range c.Tenants {
			p := planOf(t, c, tenant)
			for set := range 1 << p.Slots() {
				a, m := made(t, p), modelOf(c, tenant)
				fill(t, "quota", a, m)
				a.GiveAll(row(t, p.Slots(), subset(1<<p.Slots()-1-set)...))
				for class, size := range c.Classes {
					if _, e := a.Copy().Take(class); a.Used()+size <= c.Tenants[tenant].Quota && e != api.OK {
						t.Fatalf("%v, %d: Take(%d) is %d with %d used words", c, tenant, class, e, a.Used())
					}
				}
			}
		}
	}
}

// dice is a row of numbers that is always the same.
type dice uint64

// below is the next number, from 0 to below n.
func (d *dice) below(n int) int {
	*d = *d*6364136223846793005 + 1442695040888963407
	return int(uint64(*d) >> 33 % uint64(n))
}

// TestRuns: P10.1 to P10.5, long runs of all calls, with wrong ones in between, against the model.
func TestRuns(t *testing.T) {
	each(t, valid(), func(c api.Config, tenant int, a *arena.Arena, m *model) {
		d := dice(len(m.lots))
		for range 1500 {
			step(t, &d, a, m)
			if used, count := m.used(); a.Used() != used || a.Count() != count {
				t.Fatalf("%v, %d: %d used, %d taken, not %d, %d", c, tenant, a.Used(), a.Count(), used, count)
			}
			if d.below(16) == 0 {
				same(t, "a run", a, m)
			}
			// From time to time the run goes on in a copy.
			if d.below(100) == 0 {
				a = a.Copy()
			}
		}
		same(t, "the end of a run", a, m)
	})
}

// step does one call, on the arena and on the model.
func step(t *testing.T, d *dice, a *arena.Arena, m *model) {
	t.Helper()
	switch d.below(24) {
	case 0:
		l := onesOf(a.Taken())
		l = l[d.below(len(l)+1):]
		if got, want := a.GiveAll(row(t, len(m.lots), l...)), m.giveAll(l); got != want {
			t.Fatalf("GiveAll of %v is %d, not %d", l, got, want)
		}
	case 1:
		l := []int{d.below(len(m.lots))}
		if got, want := a.GiveAll(row(t, len(m.lots), l...)), m.giveAll(l); got != want {
			t.Fatalf("GiveAll of %v is %d, not %d", l, got, want)
		}
	case 2, 3, 4, 5, 6, 7, 8, 9:
		i := d.below(len(m.lots)+2) - 1
		if got, want := a.Give(i), m.give(i); got != want {
			t.Fatalf("Give(%d) is %d, not %d", i, got, want)
		}
	default:
		both(t, "a run", a, m, d.below(len(m.sizes)+2)-1)
	}
}

// TestLayerSix: P10.1, each class has as many slots as layer 6 says.
func TestLayerSix(t *testing.T) {
	each(t, valid(), func(c api.Config, tenant int, a *arena.Arena, m *model) {
		for class := range c.Classes {
			want, _ := conf.Slots(c, tenant, class)
			for range want {
				both(t, "layer 6", a, m, class)
			}
			if _, e := both(t, "layer 6", a, m, class); e != api.ErrFull {
				t.Errorf("%v, %d: the class %d has more than %d slots", c, tenant, class, want)
			}
		}
	})
}

// TestNoArena: P10.1 to P10.3, nil, and an arena that no call made, have nothing, and give ErrNil before all other errors.
func TestNoArena(t *testing.T) {
	for k, a := range noArenas() {
		for _, i := range append(outside(2), 0, 1, 8) {
			if got, e := a.Take(i); got != 0 || e != api.ErrNil {
				t.Errorf("no arena %d: Take(%d) is %d, %d", k, i, got, e)
			}
			if e := a.Give(i); e != api.ErrNil {
				t.Errorf("no arena %d: Give(%d) is %d", k, i, e)
			}
			if a.Has(i) {
				t.Errorf("no arena %d: Has(%d)", k, i)
			}
		}
		for _, r := range []*bits.Row{nil, {}, row(t, 0), row(t, 1), row(t, 1, 0), row(t, 65536, 7)} {
			if e := a.GiveAll(r); e != api.ErrNil {
				t.Errorf("no arena %d: GiveAll is %d", k, e)
			}
		}
		if a.Used() != 0 || a.Count() != 0 || a.Taken() != nil || a.Copy() != nil {
			t.Errorf("no arena %d: %d used, %d taken, %v, %v", k, a.Used(), a.Count(), a.Taken(), a.Copy())
		}
	}
}
