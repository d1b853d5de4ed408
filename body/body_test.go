package body_test

import (
	"fmt"
	"math"
	"slices"
	"testing"

	"commonage/api"
	"commonage/body"
	"commonage/mem"
	"commonage/slot"
)

// example is layer 6's configuration.
func example() api.Config {
	return quotas([]int{2, 4}, 8, 20, 4)
}

// quotas is a configuration with these classes, this page, and these quotas.
func quotas(classes []int, page int, quotas ...int) api.Config {
	c := api.Config{Classes: classes, Page: page, Workers: 1, Grey: 2, Gens: 3}
	for _, q := range quotas {
		c.Tenants = append(c.Tenants, api.Tenant{Quota: q, Trigger: 8, Caps: 4, Assist: 1})
	}
	return c
}

// small are configurations with a few slots, some in pages that have words to spare; the least tenant has one slot of two words.
func small() []api.Config {
	return []api.Config{
		example(),
		quotas([]int{2}, 2, 2, 5, 8),
		quotas([]int{2, 3, 4}, 5, 4, 7),
		quotas([]int{3, 6}, 8, 13, 6, 12),
	}
}

// valid are the small ones, and such with all classes, with the greatest slots, and with as many slots as there can be.
func valid() []api.Config {
	return append(small(),
		quotas([]int{2, 4, 8, 16, 32, 64}, 64, 64, 200),
		quotas([]int{2, 3, 5, 9, 17, 33, 63, 64}, 64, 64, 130),
		quotas([]int{2, 3}, 7, 4096, 100),
	)
}

// lot is what a model knows of a slot: where it begins in its region, its class, and its size.
type lot struct{ addr, class, size int }

// model is what the body of a tenant must be: slots laid one by one, on the words of all regions.
type model struct {
	tenant  int
	lots    []lot
	regions [][]uint64
}

// laid are the slots of a tenant, and how many words its region has.
func laid(c api.Config, tenant int) (lots []lot, words int) {
	for class, size := range c.Classes {
		inPage := c.Page
		words -= c.Page
		for rest := c.Tenants[tenant].Quota; rest >= size; rest -= size {
			if len(lots) == 0 || lots[len(lots)-1].class != class || inPage+size > c.Page {
				words, inPage = words+c.Page, 0
			}
			lots = append(lots, lot{words + inPage, class, size})
			inPage += size
		}
		words += c.Page
	}
	return lots, words
}

// modelOf is the model of that tenant's body, on regions whose words are all 0.
func modelOf(c api.Config, tenant int) *model {
	m := &model{tenant: tenant}
	m.lots, _ = laid(c, tenant)
	for i := range c.Tenants {
		_, words := laid(c, i)
		m.regions = append(m.regions, make([]uint64, words))
	}
	return m
}

// region are the words of the tenant's own region.
func (m *model) region() []uint64 { return m.regions[m.tenant] }

// is reports whether there is such a slot.
func (m *model) is(slot int) bool { return slot >= 0 && slot < len(m.lots) }

// words are those of the slot.
func (m *model) words(slot int) []uint64 {
	x := m.lots[slot]
	return m.region()[x.addr : x.addr+x.size]
}

// wordOf is the word of a head, put together from its parts.
func wordOf(h api.Head) uint64 {
	return 0xc7<<56 | uint64(h.Class)<<48 | uint64(h.Refs)<<32 | uint64(h.Words)<<16
}

// can reports whether an object with that head can be in a slot of that class and size; no part of it is greater than the size, so that sums do not overflow.
func can(x lot, h api.Head) bool {
	return h.Class == x.class && h.Refs >= 0 && h.Words >= 0 && h.Refs < x.size && h.Words < x.size && h.Refs+h.Words+1 <= x.size
}

func (m *model) head(slot int) (api.Head, api.Errno) {
	if !m.is(slot) {
		return api.Head{}, api.ErrArg
	}
	w := m.words(slot)[0]
	h := api.Head{Class: int(w >> 48 & 0xff), Refs: int(w >> 32 & 0xffff), Words: int(w >> 16 & 0xffff)}
	if wordOf(h) != w || !can(m.lots[slot], h) {
		return api.Head{}, api.ErrForm
	}
	return h, api.OK
}

func (m *model) make(slot int, h api.Head) api.Errno {
	if !m.is(slot) || !can(m.lots[slot], h) {
		return api.ErrArg
	}
	if _, e := m.head(slot); e == api.OK {
		return api.ErrThere
	}
	clear(m.words(slot))
	m.words(slot)[0] = wordOf(h)
	return api.OK
}

// field is where a field of that kind is.
func (m *model) field(slot, i int, ref bool) (*uint64, api.Errno) {
	h, e := m.head(slot)
	if e != api.OK {
		return nil, e
	}
	if i < 0 || i >= h.Refs+h.Words || ref != (i < h.Refs) {
		return nil, api.ErrField
	}
	return &m.words(slot)[1+i], api.OK
}

func (m *model) ref(slot, i int) (int, api.Errno) {
	w, e := m.field(slot, i, true)
	if e != api.OK {
		return 0, e
	}
	for to := -1; to < len(m.lots); to++ {
		if *w == uint64(to+1) {
			return to, api.OK
		}
	}
	return 0, api.ErrForm
}

func (m *model) setRef(slot, i, to int) api.Errno {
	if !m.is(slot) || to != -1 && !m.is(to) {
		return api.ErrArg
	}
	w, e := m.field(slot, i, true)
	if e == api.OK {
		*w = uint64(to + 1)
	}
	return e
}

func (m *model) word(slot, i int) (uint64, api.Errno) {
	w, e := m.field(slot, i, false)
	if e != api.OK {
		return 0, e
	}
	return *w, api.OK
}

func (m *model) setWord(slot, i int, to uint64) api.Errno {
	w, e := m.field(slot, i, false)
	if e == api.OK {
		*w = to
	}
	return e
}

func (m *model) refs(slot int) (all []int, e api.Errno) {
	h, e := m.head(slot)
	for i := range h.Refs {
		to, e := m.ref(slot, i)
		if e != api.OK {
			return nil, e
		}
		all = append(all, to)
	}
	return all, e
}

func (m *model) wordsOf(slot int) (all []uint64, e api.Errno) {
	h, e := m.head(slot)
	for i := range h.Words {
		w, _ := m.word(slot, h.Refs+i)
		all = append(all, w)
	}
	return all, e
}

func (m *model) wipe(slot int) api.Errno {
	if !m.is(slot) {
		return api.ErrArg
	}
	clear(m.words(slot))
	return api.OK
}

// pair is a body, its memory, and its model, on each of which a test does the same.
type pair struct {
	t *testing.T
	b *body.Body
	y *mem.Mem
	m *model
}

// memory is a memory of that configuration.
func memory(t *testing.T, c api.Config) *mem.Mem {
	t.Helper()
	y, e := mem.New(c)
	if e != api.OK {
		t.Fatalf("mem.New(%v): %d", c, e)
	}
	return y
}

// planOf is the plan of that tenant.
func planOf(t *testing.T, c api.Config, tenant int) *slot.Plan {
	t.Helper()
	p, e := slot.New(c, tenant)
	if e != api.OK {
		t.Fatalf("slot.New(%v, %d): %d", c, tenant, e)
	}
	return p
}

// made is the body of that tenant, on that memory.
func made(t *testing.T, c api.Config, tenant int, y *mem.Mem) *body.Body {
	t.Helper()
	b, e := body.New(y, tenant, planOf(t, c, tenant))
	if b == nil || e != api.OK {
		t.Fatalf("New(%d) of %v is %v, %d", tenant, c, b, e)
	}
	return b
}

// pairOf is a pair on a memory of its own, whose words are all 0.
func pairOf(t *testing.T, c api.Config, tenant int) *pair {
	t.Helper()
	y := memory(t, c)
	return &pair{t, made(t, c, tenant, y), y, modelOf(c, tenant)}
}

// each calls test for every tenant of the configurations, with a pair of its own.
func each(t *testing.T, all []api.Config, test func(p *pair)) {
	t.Helper()
	for _, c := range all {
		for tenant := range c.Tenants {
			test(pairOf(t, c, tenant))
		}
	}
}

// same requires that the memory is what the model says, in all regions.
func (p *pair) same(what string) {
	p.t.Helper()
	if got, want := p.y.All(), slices.Concat(p.m.regions...); !slices.Equal(got, want) {
		p.t.Fatalf("%s: the memory is %x, not %x", what, got, want)
	}
}

// agree requires that two errors are the same, and that the memory is what the model says.
func (p *pair) agree(what string, got, want api.Errno) {
	p.t.Helper()
	if got != want {
		p.t.Fatalf("%s is %d, not %d", what, got, want)
	}
	p.same(what)
}

// store sets a word of the region behind the body's back.
func (p *pair) store(addr int, w uint64) {
	p.t.Helper()
	if e := p.y.Store(p.m.tenant, addr, w); e != api.OK {
		p.t.Fatalf("Store(%d, %d, %x) is %d", p.m.tenant, addr, w, e)
	}
	p.m.region()[addr] = w
}

// litter sets all words of all regions to words that differ, and are no heads.
func (p *pair) litter() {
	p.t.Helper()
	for tenant, region := range p.m.regions {
		for addr := range region {
			w := uint64(tenant+1)<<40 | uint64(addr+1)<<20 | 0x5
			if e := p.y.Store(tenant, addr, w); e != api.OK {
				p.t.Fatalf("Store(%d, %d) is %d", tenant, addr, e)
			}
			region[addr] = w
		}
	}
}

func (p *pair) make(slot int, h api.Head) api.Errno {
	p.t.Helper()
	want := p.m.make(slot, h)
	p.agree(fmt.Sprintf("Make(%d, %v)", slot, h), p.b.Make(slot, h), want)
	return want
}

func (p *pair) wipe(slot int) api.Errno {
	p.t.Helper()
	want := p.m.wipe(slot)
	p.agree(fmt.Sprintf("Wipe(%d)", slot), p.b.Wipe(slot), want)
	return want
}

func (p *pair) setRef(slot, i, to int) api.Errno {
	p.t.Helper()
	want := p.m.setRef(slot, i, to)
	p.agree(fmt.Sprintf("SetRef(%d, %d, %d)", slot, i, to), p.b.SetRef(slot, i, to), want)
	return want
}

func (p *pair) setWord(slot, i int, w uint64) api.Errno {
	p.t.Helper()
	want := p.m.setWord(slot, i, w)
	p.agree(fmt.Sprintf("SetWord(%d, %d, %x)", slot, i, w), p.b.SetWord(slot, i, w), want)
	return want
}

// field reads a field as both kinds.
func (p *pair) field(slot, i int) {
	p.t.Helper()
	ref, f := p.m.ref(slot, i)
	if got, e := p.b.Ref(slot, i); got != ref || e != f {
		p.t.Fatalf("Ref(%d, %d) is %d, %d, not %d, %d", slot, i, got, e, ref, f)
	}
	word, f := p.m.word(slot, i)
	if got, e := p.b.Word(slot, i); got != word || e != f {
		p.t.Fatalf("Word(%d, %d) is %x, %d, not %x, %d", slot, i, got, e, word, f)
	}
}

// object reads all that the body tells of a slot, and nothing may change by that.
func (p *pair) object(slot int) {
	p.t.Helper()
	head, f := p.m.head(slot)
	if got, e := p.b.Head(slot); got != head || e != f {
		p.t.Fatalf("Head(%d) is %v, %d, not %v, %d", slot, got, e, head, f)
	}
	refs, f := p.m.refs(slot)
	if got, e := p.b.Refs(slot); !slices.Equal(got, refs) || e != f {
		p.t.Fatalf("Refs(%d) is %v, %d, not %v, %d", slot, got, e, refs, f)
	}
	words, f := p.m.wordsOf(slot)
	if got, e := p.b.Words(slot); !slices.Equal(got, words) || e != f {
		p.t.Fatalf("Words(%d) is %x, %d, not %x, %d", slot, got, e, words, f)
	}
	for i := -2; i < head.Refs+head.Words+2; i++ {
		p.field(slot, i)
	}
	p.same("reading")
}

// objects reads all slots.
func (p *pair) objects() {
	p.t.Helper()
	for slot := range p.m.lots {
		p.object(slot)
	}
}

// must requires that a call was not refused.
func must(t *testing.T, what string, e api.Errno) {
	t.Helper()
	if e != api.OK {
		t.Fatalf("%s is %d", what, e)
	}
}

// outside are numbers that are not from 0 to below n: n must not be one of the great ones.
func outside(n int) []int {
	return []int{-1, -2, -n, -n - 1, n, n + 1, 2*n + 1, 65536, 1 << 32, 1<<32 + 1, 1 << 62, math.MaxInt - n, math.MaxInt - 1, math.MaxInt, math.MinInt, math.MinInt + 1, math.MinInt + n}
}

// heads are those that an object in the slot can have, with each number of references and of words.
func heads(x lot) []api.Head {
	var all []api.Head
	for refs := range x.size {
		for words := range x.size - refs {
			all = append(all, api.Head{Class: x.class, Refs: refs, Words: words})
		}
	}
	return all
}

// someHeads are heads of a slot: without fields, full of references, of words, and of both.
func someHeads(x lot) []api.Head {
	n := x.size - 1
	all := []api.Head{{Class: x.class}}
	for _, refs := range []int{0, 1, n / 2, n - 1, n} {
		all = append(all, api.Head{Class: x.class, Refs: refs, Words: n - refs}, api.Head{Class: x.class, Refs: refs, Words: (n - refs) / 2})
	}
	return all
}

// wrongHeads are heads that no object in the slot can have: of other classes, not valid ones, and such that need more words than there are, by one and by many.
func wrongHeads(x lot) []api.Head {
	n := x.size - 1
	var all []api.Head
	for _, class := range append(outside(8), 0, 1, 2, 3, 4, 5, 6, 7, 8) {
		if class != x.class {
			all = append(all, api.Head{Class: class}, api.Head{Class: class, Refs: 1}, api.Head{Class: class, Words: n})
		}
	}
	for _, many := range outside(n + 1) {
		all = append(all, api.Head{Class: x.class, Refs: many}, api.Head{Class: x.class, Words: many}, api.Head{Class: x.class, Refs: many, Words: 1}, api.Head{Class: x.class, Refs: 1, Words: many}, api.Head{Class: x.class, Refs: many, Words: many})
	}
	for refs := range n + 2 {
		all = append(all, api.Head{Class: x.class, Refs: refs, Words: n + 1 - refs}, api.Head{Class: x.class, Refs: refs, Words: 64 - refs})
	}
	for _, refs := range []int{-1, math.MinInt} {
		all = append(all, api.Head{Class: x.class, Refs: refs, Words: -refs}, api.Head{Class: x.class, Refs: -refs, Words: refs}, api.Head{Class: x.class, Refs: refs, Words: n})
	}
	return slices.DeleteFunc(all, func(h api.Head) bool { return can(x, h) })
}

// noBodies are nil, and bodies that no call made.
func noBodies() []*body.Body { return []*body.Body{nil, {}, new(body.Body)} }

// TestExamples: the chapter's table.
func TestExamples(t *testing.T) {
	c := example()
	b := made(t, c, 0, memory(t, c))
	for k, x := range []struct{ got, want api.Errno }{
		{b.Make(10, api.Head{Class: 1, Refs: 1, Words: 2}), api.OK},
		{b.Make(10, api.Head{Class: 1}), api.ErrThere},
		{b.Make(11, api.Head{}), api.ErrArg},
		{b.Make(0, api.Head{Refs: 1, Words: 1}), api.ErrArg},
		{b.SetRef(10, 0, 3), api.OK},
		{b.SetRef(10, 0, 15), api.ErrArg},
		{b.SetRef(10, 1, 3), api.ErrField},
		{b.SetWord(10, 1, 7), api.OK},
		{b.SetWord(10, 3, 7), api.ErrField},
	} {
		if x.got != x.want {
			t.Errorf("the call %d is %d, not %d", k, x.got, x.want)
		}
	}
	if to, e := b.Ref(10, 0); to != 3 || e != api.OK {
		t.Errorf("Ref(10, 0) is %d, %d", to, e)
	}
	if w, e := b.Word(10, 1); w != 7 || e != api.OK {
		t.Errorf("Word(10, 1) is %d, %d", w, e)
	}
	if l, e := b.Refs(10); !slices.Equal(l, []int{3}) || e != api.OK {
		t.Errorf("Refs(10) is %d, %d", l, e)
	}
	if l, e := b.Words(10); !slices.Equal(l, []uint64{7, 0}) || e != api.OK {
		t.Errorf("Words(10) is %d, %d", l, e)
	}
	if h, e := b.Head(0); h != (api.Head{}) || e != api.ErrForm {
		t.Errorf("Head(0) is %v, %d", h, e)
	}
}

// TestNew: P11.1, a body for each tenant, on words that are 0, and on others, of which New changes none.
func TestNew(t *testing.T) {
	each(t, valid(), func(p *pair) {
		p.same("New")
		p.objects()
		p.litter()
		p.same("litter")
		p.objects()
	})
	c := example()
	y := memory(t, c)
	for addr := range 48 {
		y.Store(0, addr, uint64(addr+1))
	}
	before := y.All()
	if made(t, c, 0, y); !slices.Equal(y.All(), before) {
		t.Errorf("New changes the memory from %x to %x", before, y.All())
	}
}

// TestNewNil: P11.1, ErrNil, before ErrArg, and no body beside it, for a memory and for a plan that is nil or that no call made.
func TestNewNil(t *testing.T) {
	c := example()
	y, p := memory(t, c), planOf(t, c, 0)
	for _, tenant := range append(outside(2), 0, 1) {
		for _, no := range []*mem.Mem{nil, {}, new(mem.Mem)} {
			for _, p := range []*slot.Plan{nil, {}, p} {
				if b, e := body.New(no, tenant, p); b != nil || e != api.ErrNil {
					t.Errorf("no memory, tenant %d: New is %v, %d", tenant, b, e)
				}
			}
		}
		for _, no := range []*slot.Plan{nil, {}, new(slot.Plan)} {
			if b, e := body.New(y, tenant, no); b != nil || e != api.ErrNil {
				t.Errorf("no plan, tenant %d: New is %v, %d", tenant, b, e)
			}
		}
	}
}

// TestNewWrong: P11.1, ErrArg, and no body beside it, for tenants that do not exist, and for plans of more, and of fewer words than the region has.
func TestNewWrong(t *testing.T) {
	for _, c := range valid() {
		y := memory(t, c)
		for _, tenant := range outside(len(c.Tenants)) {
			for own := range c.Tenants {
				if b, e := body.New(y, tenant, planOf(t, c, own)); b != nil || e != api.ErrArg {
					t.Errorf("%v: New(%d) is %v, %d", c, tenant, b, e)
				}
			}
		}
		for _, other := range valid() {
			for tenant := range c.Tenants {
				for j := range other.Tenants {
					_, has := laid(c, tenant)
					_, needs := laid(other, j)
					want := api.OK
					if has != needs {
						want = api.ErrArg
					}
					if b, e := body.New(y, tenant, planOf(t, other, j)); e != want || (b != nil) != (e == api.OK) {
						t.Errorf("%v, %d: New with the plan of %v, %d, is %v, %d, not %d", c, tenant, other, j, b, e, want)
					}
				}
			}
		}
	}
}

// TestNewOtherPlan: P11.1, the plan alone says where slots are, if it has as many words as the region.
func TestNewOtherPlan(t *testing.T) {
	c, other := quotas([]int{4}, 8, 8, 32), quotas([]int{2, 8}, 8, 8, 16)
	y := memory(t, c)
	b, e := body.New(y, 1, planOf(t, other, 1))
	must(t, "New with another plan", e)
	p := &pair{t, b, y, &model{tenant: 1, regions: modelOf(c, 1).regions}}
	p.m.lots, _ = laid(other, 1)
	for slot, x := range p.m.lots {
		must(t, "Make with another plan", p.make(slot, api.Head{Class: x.class, Words: x.size - 1}))
	}
	p.objects()
}

// TestMake: P11.1 and P11.4, each head that can be in a slot: its word is the first one, and all others of the slot become 0, whatever they were; nothing else does.
func TestMake(t *testing.T) {
	each(t, small(), func(p *pair) {
		for slot, x := range p.m.lots {
			for _, h := range heads(x) {
				p.litter()
				must(t, "Make", p.make(slot, h))
				p.object(slot)
			}
		}
	})
	each(t, valid(), func(p *pair) {
		p.litter()
		for slot, x := range p.m.lots {
			if slot%41 != 0 && slot < len(p.m.lots)-3 && len(p.m.lots) > 200 {
				continue
			}
			for _, h := range someHeads(x) {
				must(t, "Make", p.make(slot, h))
				p.object(slot)
				p.store(x.addr, 3)
			}
		}
	})
}

// TestMakeEmpty: P11.4, after Make all references are -1, and all words 0.
func TestMakeEmpty(t *testing.T) {
	each(t, valid()[:6], func(p *pair) {
		p.litter()
		for slot, x := range p.m.lots {
			for _, h := range someHeads(x) {
				must(t, "Make", p.b.Make(slot, h))
				refs, _ := p.b.Refs(slot)
				words, _ := p.b.Words(slot)
				if got, e := p.b.Head(slot); got != h || e != api.OK || len(refs) != h.Refs || len(words) != h.Words {
					t.Fatalf("Make(%d, %v): Head is %v, %d, and there are %d references, %d words", slot, h, got, e, len(refs), len(words))
				}
				for i := range refs {
					if to, e := p.b.Ref(slot, i); to != -1 || refs[i] != -1 || e != api.OK {
						t.Fatalf("Make(%d, %v): Ref(%d) is %d, %d, of %d", slot, h, i, to, e, refs)
					}
				}
				for i := range words {
					if w, e := p.b.Word(slot, h.Refs+i); w != 0 || words[i] != 0 || e != api.OK {
						t.Fatalf("Make(%d, %v): Word(%d) is %x, %d, of %x", slot, h, h.Refs+i, w, e, words)
					}
				}
				must(t, "Wipe", p.b.Wipe(slot))
			}
		}
	})
}

// TestMakeWrong: P11.1 and P11.5, ErrArg, before ErrThere, for heads that can't be in the slot, whether there is an object or not, and nothing changes.
func TestMakeWrong(t *testing.T) {
	each(t, valid()[:6], func(p *pair) {
		for slot, x := range p.m.lots {
			p.litter()
			for range 2 {
				for _, h := range wrongHeads(x) {
					if e := p.b.Make(slot, h); e != api.ErrArg {
						t.Fatalf("Make(%d, %v) of %d words is %d", slot, h, x.size, e)
					}
				}
				p.same("wrong heads")
				p.make(slot, api.Head{Class: x.class, Words: x.size - 1})
			}
		}
	})
}

// TestThere: P11.1 and P11.5, ErrThere for each head that can be in the slot, if there is an object, with that head or with another one, and nothing changes.
func TestThere(t *testing.T) {
	each(t, small(), func(p *pair) {
		for slot, x := range p.m.lots {
			for _, h := range heads(x) {
				must(t, "Make", p.make(slot, h))
				for i := h.Refs; i < h.Refs+h.Words; i++ {
					must(t, "SetWord", p.setWord(slot, i, uint64(i+9)))
				}
				for _, again := range heads(x) {
					if e := p.make(slot, again); e != api.ErrThere {
						t.Fatalf("Make(%d, %v) with %v there is %d", slot, again, h, e)
					}
				}
				p.object(slot)
				p.wipe(slot)
			}
		}
	})
}

// firsts are words that the first one of a slot can be: those of heads that can be there and that can't, the same with single bits inverted, and words that are no heads at all.
func firsts(x lot) []uint64 {
	all := []uint64{0, 1, 0xc7, math.MaxUint64, 1 << 63, 0xc700000000000001, 0xc7ffffffffffffff, wordOf(api.Head{Class: 8}), wordOf(api.Head{Class: 255}), wordOf(api.Head{Class: x.class, Refs: 1 << 15})}
	for class := range 9 {
		for refs := range x.size + 1 {
			for words := range x.size + 1 {
				all = append(all, wordOf(api.Head{Class: class, Refs: refs, Words: words}))
			}
		}
	}
	for _, h := range someHeads(x) {
		for i := range 64 {
			all = append(all, wordOf(h)^1<<i)
		}
	}
	return all
}

// TestFirst: P11.1 to P11.3, there is an object if and only if the first word is that of a head that can be in the slot; if not, all calls but Make and Wipe give ErrForm.
func TestFirst(t *testing.T) {
	each(t, small(), func(p *pair) {
		last := len(p.m.lots) - 1
		for _, slot := range []int{0, last / 2, last} {
			x := p.m.lots[slot]
			for _, w := range firsts(x) {
				clear(p.m.words(slot))
				must(t, "Zero", p.y.Zero(p.m.tenant, x.addr, x.size))
				p.store(x.addr, w)
				p.object(slot)
				for i := -1; i < x.size; i++ {
					p.setRef(slot, i, last)
					p.setWord(slot, i, w+1)
				}
				if e := p.make(slot, api.Head{Class: x.class, Refs: 1}); e != api.OK && e != api.ErrThere {
					t.Fatalf("Make(%d) with the first word %x is %d", slot, w, e)
				}
				p.object(slot)
			}
		}
	})
}

// TestFirstGreat: P11.1, the same for the first words of slots of up to 64 words.
func TestFirstGreat(t *testing.T) {
	each(t, valid()[4:6], func(p *pair) {
		for slot, x := range p.m.lots {
			if slot > 0 && x.class == p.m.lots[slot-1].class {
				continue
			}
			for _, w := range firsts(x) {
				p.store(x.addr, w)
				want, f := p.m.head(slot)
				if got, e := p.b.Head(slot); got != want || e != f {
					t.Fatalf("Head(%d) with the first word %x is %v, %d, not %v, %d", slot, w, got, e, want, f)
				}
			}
		}
	})
}

// TestFields: P11.2 and P11.4, each field of each object: what is set is read again, of its own kind only, and nothing else changes.
func TestFields(t *testing.T) {
	each(t, small(), func(p *pair) {
		p.litter()
		for slot, x := range p.m.lots {
			for _, h := range heads(x) {
				must(t, "Make", p.make(slot, h))
				for i := range h.Refs + h.Words {
					for to := -1; to < len(p.m.lots); to++ {
						p.setRef(slot, i, to)
						p.field(slot, i)
					}
					for _, w := range []uint64{1, 0, math.MaxUint64, 1 << 63, wordOf(h), uint64(slot)<<8 | uint64(i)} {
						p.setWord(slot, i, w)
						p.field(slot, i)
					}
					p.object(slot)
				}
				p.wipe(slot)
			}
		}
	})
}

// TestFieldsGreat: P11.2 and P11.4, each field of the greatest objects, and the slots with the greatest numbers.
func TestFieldsGreat(t *testing.T) {
	each(t, valid()[4:], func(p *pair) {
		last := len(p.m.lots) - 1
		for _, slot := range []int{last, last - 1, last / 2} {
			x := p.m.lots[slot]
			for _, h := range someHeads(x) {
				must(t, "Make", p.make(slot, h))
				for i := range h.Refs {
					must(t, "SetRef", p.setRef(slot, i, last-i%len(p.m.lots)))
				}
				for i := range h.Words {
					must(t, "SetWord", p.setWord(slot, h.Refs+i, uint64(i+1)<<50|uint64(i+1)))
				}
				p.object(slot)
				p.wipe(slot)
			}
		}
	})
}

// TestFieldWrong: P11.2 and P11.5, ErrField for fields that do not exist, and for those of the other kind, and nothing changes.
func TestFieldWrong(t *testing.T) {
	each(t, valid()[:6], func(p *pair) {
		last := len(p.m.lots) - 1
		for _, slot := range []int{0, last} {
			x := p.m.lots[slot]
			for _, h := range someHeads(x) {
				must(t, "Make", p.make(slot, h))
				fields := outside(h.Refs + h.Words)
				for i := range h.Refs + h.Words {
					fields = append(fields, i)
				}
				for _, i := range fields {
					if e := p.b.SetWord(slot, i, 8); (i < 0 || i < h.Refs || i >= h.Refs+h.Words) != (e == api.ErrField) {
						t.Fatalf("%v: SetWord(%d, %d) is %d", h, slot, i, e)
					}
					p.m.setWord(slot, i, 8)
					if e := p.b.SetRef(slot, i, -1); (i < 0 || i >= h.Refs) != (e == api.ErrField) {
						t.Fatalf("%v: SetRef(%d, %d) is %d", h, slot, i, e)
					}
					p.field(slot, i)
				}
				p.same("wrong fields")
				p.wipe(slot)
			}
		}
	})
}

// TestToWrong: P11.2, P11.4 and P11.5, ErrArg for references that are neither slots nor -1, before ErrForm and ErrField, and nothing changes.
func TestToWrong(t *testing.T) {
	each(t, valid(), func(p *pair) {
		for slot, x := range p.m.lots[:1] {
			for range 2 {
				for _, to := range outside(len(p.m.lots)) {
					if to == -1 {
						continue
					}
					for _, i := range []int{-1, 0, 1, 64, math.MinInt, math.MaxInt} {
						if e := p.setRef(slot, i, to); e != api.ErrArg {
							t.Fatalf("SetRef(%d, %d, %d) of %d slots is %d", slot, i, to, len(p.m.lots), e)
						}
					}
				}
				p.make(slot, api.Head{Class: x.class, Refs: 1})
			}
			must(t, "SetRef to the last slot", p.setRef(slot, 0, len(p.m.lots)-1))
			must(t, "SetRef to none", p.setRef(slot, 0, -1))
		}
	})
}

// TestRefWrong: P11.2 and P11.3, a word that is not a valid reference gives ErrForm, of Ref for its own field, and of Refs for the object; what else the object has is still read, and it can be set again.
func TestRefWrong(t *testing.T) {
	each(t, small(), func(p *pair) {
		n := uint64(len(p.m.lots))
		for slot, x := range p.m.lots {
			for _, h := range heads(x) {
				must(t, "Make", p.make(slot, h))
				for i := range h.Refs {
					for _, w := range []uint64{n, n + 1, n + 2, 1<<32 + 1, 1<<63 - 1, 1 << 63, 1<<63 + 1, math.MaxUint64 - 1, math.MaxUint64} {
						p.store(x.addr+1+i, w)
						p.object(slot)
						if to, e := p.b.Ref(slot, i); (w > n) != (e == api.ErrForm) || e != api.OK && to != 0 {
							t.Fatalf("Ref(%d, %d) of %x is %d, %d", slot, i, w, to, e)
						}
						if l, e := p.b.Refs(slot); (w > n) != (e == api.ErrForm) || e != api.OK && l != nil {
							t.Fatalf("Refs(%d) with %x is %d, %d", slot, w, l, e)
						}
					}
					must(t, "SetRef", p.setRef(slot, i, slot))
					p.object(slot)
				}
				p.wipe(slot)
			}
		}
	})
}

// TestWipe: P11.3, all words of the slot become 0, whatever they were, and no others.
func TestWipe(t *testing.T) {
	each(t, valid()[:6], func(p *pair) {
		for slot, x := range p.m.lots {
			p.litter()
			must(t, "Wipe", p.wipe(slot))
			p.object(slot)
			must(t, "Wipe of what is empty", p.wipe(slot))
			p.litter()
			must(t, "Make", p.make(slot, api.Head{Class: x.class, Refs: 1, Words: x.size - 2}))
			must(t, "SetRef", p.setRef(slot, 0, slot))
			must(t, "Wipe of an object", p.wipe(slot))
			p.object(slot)
			must(t, "Make behind Wipe", p.make(slot, api.Head{Class: x.class}))
		}
	})
}

// TestSlotWrong: P11.1 to P11.3 and P11.5, ErrArg, before ErrThere, ErrForm and ErrField, for slots that do not exist, and nothing changes.
func TestSlotWrong(t *testing.T) {
	each(t, valid(), func(p *pair) {
		x := p.m.lots[0]
		must(t, "Make", p.make(0, api.Head{Class: x.class, Refs: 1}))
		for _, slot := range outside(len(p.m.lots)) {
			head, e1 := p.b.Head(slot)
			refs, e2 := p.b.Refs(slot)
			words, e3 := p.b.Words(slot)
			if head != (api.Head{}) || refs != nil || words != nil {
				t.Errorf("the slot %d of %d: %v, %v, %v", slot, len(p.m.lots), head, refs, words)
			}
			errors := []api.Errno{e1, e2, e3, p.b.Wipe(slot), p.b.Make(slot, api.Head{Class: x.class}), p.b.Make(slot, api.Head{Class: -1})}
			for _, i := range append(outside(2), 0, 1) {
				to, e4 := p.b.Ref(slot, i)
				w, e5 := p.b.Word(slot, i)
				if to != 0 || w != 0 {
					t.Errorf("the slot %d of %d: %d, %x", slot, len(p.m.lots), to, w)
				}
				errors = append(errors, e4, e5, p.b.SetRef(slot, i, 0), p.b.SetRef(slot, i, -2), p.b.SetRef(slot, i, -1), p.b.SetWord(slot, i, 5))
			}
			for k, e := range errors {
				if e != api.ErrArg {
					t.Errorf("the slot %d of %d: the call %d is %d", slot, len(p.m.lots), k, e)
				}
			}
		}
		p.same("wrong slots")
	})
}

// TestNoBody: P11.1 to P11.3, nil, and a body that no call made, give ErrNil before all other errors, and nothing beside it.
func TestNoBody(t *testing.T) {
	for k, b := range noBodies() {
		for _, slot := range append(outside(2), 0, 1) {
			head, e1 := b.Head(slot)
			refs, e2 := b.Refs(slot)
			words, e3 := b.Words(slot)
			if head != (api.Head{}) || refs != nil || words != nil {
				t.Errorf("no body %d: %v, %v, %v", k, head, refs, words)
			}
			errors := []api.Errno{e1, e2, e3, b.Wipe(slot), b.Make(slot, api.Head{}), b.Make(slot, api.Head{Class: 9})}
			for _, i := range []int{-1, 0, 1, 64, math.MinInt, math.MaxInt} {
				to, e4 := b.Ref(slot, i)
				w, e5 := b.Word(slot, i)
				if to != 0 || w != 0 {
					t.Errorf("no body %d: %d, %x", k, to, w)
				}
				errors = append(errors, e4, e5, b.SetWord(slot, i, 5))
				for _, to := range append(outside(2), 0, 1) {
					errors = append(errors, b.SetRef(slot, i, to))
				}
			}
			for j, e := range errors {
				if e != api.ErrNil {
					t.Errorf("no body %d, slot %d: the call %d is %d", k, slot, j, e)
				}
			}
		}
	}
}

// TestApart: R5, lists that are returned are in memory of their own, with what is behind their lengths.
func TestApart(t *testing.T) {
	each(t, valid()[:6], func(p *pair) {
		for slot, x := range p.m.lots {
			for _, h := range someHeads(x) {
				must(t, "Make", p.make(slot, h))
				refs, _ := p.b.Refs(slot)
				words, _ := p.b.Words(slot)
				otherRefs, _ := p.b.Refs(slot)
				otherWords, _ := p.b.Words(slot)
				refs, words = refs[:cap(refs)], words[:cap(words)]
				for i := range refs {
					refs[i] = 77
				}
				for i := range words {
					words[i] = 77
				}
				if slices.Contains(otherRefs[:cap(otherRefs)], 77) || slices.Contains(otherWords[:cap(otherWords)], 77) {
					t.Fatalf("%v: lists share memory", h)
				}
				p.object(slot)
				p.wipe(slot)
			}
		}
	})
}

// TestKept: P11.1, the memory is kept, not copied: what is made is in it, and what is in it is read; two bodies of one tenant see the same.
func TestKept(t *testing.T) {
	c := example()
	y := memory(t, c)
	one, other := made(t, c, 0, y), made(t, c, 0, y)
	must(t, "Make", one.Make(10, api.Head{Class: 1, Refs: 1, Words: 2}))
	must(t, "SetWord", one.SetWord(10, 2, 0xabc))
	must(t, "SetRef", other.SetRef(10, 0, 14))
	for i, want := range []uint64{0xc701000100020000, 15, 0, 0xabc} {
		if w, e := y.Load(0, 24+i); w != want || e != api.OK {
			t.Errorf("the word %d is %x, %d, not %x", i, w, e, want)
		}
	}
	if to, e := one.Ref(10, 0); to != 14 || e != api.OK {
		t.Errorf("Ref is %d, %d", to, e)
	}
	if e := other.Make(10, api.Head{Class: 1}); e != api.ErrThere {
		t.Errorf("Make is %d", e)
	}
	copied := y.Copy()
	must(t, "Wipe", other.Wipe(10))
	if _, e := one.Head(10); e != api.ErrForm {
		t.Errorf("Head is %d", e)
	}
	if h, e := made(t, c, 0, copied).Head(10); h != (api.Head{Class: 1, Refs: 1, Words: 2}) || e != api.OK {
		t.Errorf("Head in a copy is %v, %d", h, e)
	}
}

// dice is a row of numbers that is always the same.
type dice uint64

// below is the next number, from 0 to below n.
func (d *dice) below(n int) int {
	*d = *d*6364136223846793005 + 1442695040888963407
	return int(uint64(*d) >> 33 % uint64(n))
}

// step does one call, on the body and on the model; now and then it is a wrong one.
func (p *pair) step(d *dice) {
	p.t.Helper()
	slot := d.below(len(p.m.lots)+2) - 1
	var x lot
	if p.m.is(slot) {
		x = p.m.lots[slot]
	}
	i := d.below(x.size+2) - 1
	switch d.below(12) {
	case 0:
		p.wipe(slot)
	case 1, 2, 3, 4:
		refs := d.below(x.size + 1)
		p.make(slot, api.Head{Class: x.class - d.below(12)/11, Refs: refs, Words: d.below(x.size - refs + 1)})
	case 5, 6, 7:
		p.setRef(slot, i, d.below(len(p.m.lots)+2)-2+d.below(12)/11)
	case 8, 9:
		p.setWord(slot, i, uint64(d.below(1<<30))<<d.below(40))
	default:
		p.object(slot)
		p.field(slot, i)
	}
}

// TestRuns: P11.1 to P11.5, long runs of all calls for all tenants of one memory, with wrong calls in between, against the model.
func TestRuns(t *testing.T) {
	for _, c := range valid()[:6] {
		y, m := memory(t, c), modelOf(c, 0)
		var pairs []*pair
		for tenant := range c.Tenants {
			lots, _ := laid(c, tenant)
			pairs = append(pairs, &pair{t, made(t, c, tenant, y), y, &model{tenant, lots, m.regions}})
		}
		d := dice(len(m.lots))
		for range 6000 {
			pairs[d.below(len(pairs))].step(&d)
		}
		for _, p := range pairs {
			p.objects()
		}
	}
}

// TestRefsInside: P11.4, all references that are set, by whatever calls, are slots of the region, or none.
func TestRefsInside(t *testing.T) {
	each(t, valid()[:6], func(p *pair) {
		d := dice(99)
		for slot, x := range p.m.lots {
			must(t, "Make", p.b.Make(slot, api.Head{Class: x.class, Refs: x.size - 1}))
		}
		for range 2000 {
			p.b.SetRef(d.below(len(p.m.lots)), d.below(4), d.below(3*len(p.m.lots))-len(p.m.lots))
		}
		for slot := range p.m.lots {
			refs, e := p.b.Refs(slot)
			must(t, "Refs", e)
			for _, to := range refs {
				if to < -1 || to >= len(p.m.lots) {
					t.Fatalf("Refs(%d) is %d, of %d slots", slot, refs, len(p.m.lots))
				}
			}
		}
	})
}
