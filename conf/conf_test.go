package conf_test

import (
	"math"
	"reflect"
	"slices"
	"testing"

	"commonage/api"
	"commonage/conf"
)

// example is the chapter's configuration.
func example() api.Config {
	return api.Config{
		Classes: []int{2, 4}, Page: 8,
		Tenants: []api.Tenant{{Quota: 20, Trigger: 8, Caps: 4, Assist: 1}, {Quota: 4, Trigger: 1, Caps: 1, Assist: 0}},
		Workers: 1, Grey: 2, Gens: 3,
	}
}

// changed is the example with one thing done to it.
func changed(change func(*api.Config)) api.Config {
	c := example()
	change(&c)
	return c
}

// least and most are the configurations in which every number is the least, or the most, that it may be.
func least() api.Config {
	return api.Config{Classes: []int{2}, Page: 2, Tenants: []api.Tenant{{Quota: 2, Trigger: 1, Caps: 1}}, Grey: 1, Gens: 1}
}

func most() api.Config {
	return api.Config{
		Classes: []int{57, 58, 59, 60, 61, 62, 63, 64}, Page: 64,
		Tenants: slices.Repeat([]api.Tenant{{Quota: 4096, Trigger: 1 << 20, Caps: 1024, Assist: 1024}}, 8),
		Workers: 8, Grey: 64, Gens: 1 << 31,
	}
}

// quotas is the example with these quotas, classes and page.
func quotas(classes []int, page int, quotas ...int) api.Config {
	return changed(func(c *api.Config) {
		c.Classes, c.Page, c.Tenants = classes, page, nil
		for i, q := range quotas {
			c.Tenants = append(c.Tenants, api.Tenant{Quota: q, Trigger: 1 + i, Caps: 1 + 2*i, Assist: 3 * i})
		}
	})
}

// valid are configurations at the ends, and such whose pages, quotas and classes divide one another, or do not.
func valid() []api.Config {
	all := []api.Config{
		example(), least(), most(),
		quotas([]int{2}, 64, 2, 3, 4, 63, 64, 65, 4095, 4096),
		quotas([]int{2, 3, 5, 7, 11, 13, 17, 19}, 19, 19, 20, 37, 38, 39, 100, 1000, 4096),
		quotas([]int{3, 5, 7}, 16, 7, 4096, 7, 8),
		quotas([]int{2, 64}, 64, 64, 128, 65, 127),
		quotas([]int{33, 64}, 64, 4096, 64),
		quotas([]int{2, 4, 8, 16, 32, 64}, 64, 100, 200, 300, 400, 500),
	}
	for class := 2; class <= 64; class++ {
		for _, page := range []int{class, (class + 64) / 2, 64} {
			all = append(all, quotas([]int{class}, page, class, class+1, 2*class, 1001, 4096))
			if class > 2 {
				all = append(all, quotas([]int{2, class}, page, 4096-class, class))
			}
		}
	}
	return all
}

// number is one of the numbers of a configuration, with the least and the most that it may be in the example.
type number struct {
	name        string
	least, most int
	of          func(*api.Config) *int
}

// numbers are all numbers of the example but the classes.
func numbers() []number {
	all := []number{
		{"Page", 4, 64, func(c *api.Config) *int { return &c.Page }},
		{"Workers", 0, 8, func(c *api.Config) *int { return &c.Workers }},
		{"Grey", 1, 64, func(c *api.Config) *int { return &c.Grey }},
		{"Gens", 1, 1 << 31, func(c *api.Config) *int { return &c.Gens }},
	}
	for i := range example().Tenants {
		all = append(all,
			number{"Quota", 4, 4096, func(c *api.Config) *int { return &c.Tenants[i].Quota }},
			number{"Trigger", 1, 1 << 20, func(c *api.Config) *int { return &c.Tenants[i].Trigger }},
			number{"Caps", 1, 1024, func(c *api.Config) *int { return &c.Tenants[i].Caps }},
			number{"Assist", 0, 1024, func(c *api.Config) *int { return &c.Tenants[i].Assist }},
		)
	}
	return all
}

// about are the numbers at which a range may begin or end, and their neighbours.
func about() []int {
	var all []int
	for _, n := range []int{0, 4, 8, 64, 256, 1024, 4096, 1 << 16, 1 << 20, 1 << 31, 1 << 32, 1 << 62} {
		all = append(all, n-1, n, n+1, -n)
	}
	return append(all, math.MinInt, math.MinInt+1, math.MaxInt, math.MaxInt-1, 1<<32+4)
}

// notValid are configurations of which one thing, or everything, is not valid.
func notValid() []api.Config {
	all := []api.Config{
		{}, {Classes: []int{}, Tenants: []api.Tenant{}},
		changed(func(c *api.Config) { c.Tenants = nil }),
		changed(func(c *api.Config) { c.Tenants = []api.Tenant{} }),
		changed(func(c *api.Config) { c.Tenants = slices.Repeat(c.Tenants[:1], 9) }),
		changed(func(c *api.Config) { c.Tenants = slices.Repeat(c.Tenants[:1], 10000) }),
		changed(func(c *api.Config) { c.Tenants = append(c.Tenants, api.Tenant{}) }),
		changed(func(c *api.Config) { c.Page = 3 }),
	}
	for _, l := range [][]int{nil, {}, {1, 2}, {0, 4}, {-2, 4}, {4, 2}, {2, 2}, {2, 65}, {2, 4, 4}, {2, 4, 3}, {math.MinInt, 4}, {2, math.MaxInt}, {2, 3, 4, 5, 6, 7, 8, 9, 10}} {
		all = append(all, changed(func(c *api.Config) { c.Classes, c.Page, c.Tenants[0].Quota, c.Tenants[1].Quota = l, 64, 64, 64 }))
	}
	for _, x := range numbers() {
		for _, n := range about() {
			if n < x.least || n > x.most {
				all = append(all, changed(func(c *api.Config) { *x.of(c) = n }))
			}
		}
	}
	return all
}

// slotCalls are the two functions that take a tenant and a class, tenantCalls those that take a tenant.
func slotCalls() map[string]func(api.Config, int, int) (int, api.Errno) {
	return map[string]func(api.Config, int, int) (int, api.Errno){"Slots": conf.Slots, "Pages": conf.Pages}
}

func tenantCalls() map[string]func(api.Config, int) (int, api.Errno) {
	return map[string]func(api.Config, int) (int, api.Errno){"Region": conf.Region, "Base": conf.Base}
}

// ask is what a call must answer that succeeds.
func ask(t *testing.T, c api.Config, name string, at ...int) int {
	t.Helper()
	var n int
	var e api.Errno
	switch len(at) {
	case 0:
		n, e = conf.Total(c)
	case 1:
		n, e = tenantCalls()[name](c, at[0])
	default:
		n, e = slotCalls()[name](c, at[0], at[1])
	}
	if e != api.OK {
		t.Fatalf("%s%d of %v is %d, %d", name, at, c, n, e)
	}
	return n
}

// fits lays slots of so many words one after the other, and tells how many are within so many words.
func fits(words, slot int) int {
	many := 0
	for at := slot; at <= words; at += slot {
		many++
	}
	return many
}

// expectedPages adds page to page till the slots are there.
func expectedPages(c api.Config, tenant, class int) int {
	slots, pages := fits(c.Tenants[tenant].Quota, c.Classes[class]), 0
	for got := 0; got < slots; pages++ {
		got += fits(c.Page, c.Classes[class])
	}
	return pages
}

// expectedRegion goes over the classes' pages.
func expectedRegion(c api.Config, tenant int) int {
	words := 0
	for class := range c.Classes {
		words += expectedPages(c, tenant, class) * c.Page
	}
	return words
}

// TestExamples: the chapter's table.
func TestExamples(t *testing.T) {
	c := example()
	for _, x := range []struct {
		name string
		at   []int
		want int
	}{
		{"Slots", []int{0, 0}, 10}, {"Slots", []int{0, 1}, 5}, {"Pages", []int{0, 0}, 3}, {"Pages", []int{0, 1}, 3},
		{"Region", []int{0}, 48}, {"Region", []int{1}, 16}, {"Base", []int{1}, 48}, {"Base", []int{0}, 0}, {"Total", nil, 64},
	} {
		if got := ask(t, c, x.name, x.at...); got != x.want {
			t.Errorf("%s%d is %d, not %d", x.name, x.at, got, x.want)
		}
	}
	for _, at := range [][2]int{{2, 0}, {0, -1}} {
		if n, e := conf.Slots(c, at[0], at[1]); n != 0 || e != api.ErrArg {
			t.Errorf("Slots%d is %d, %d", at, n, e)
		}
	}
	c.Page = 3
	if e := conf.Check(c); e != api.ErrArg {
		t.Errorf("Check of the page 3 is %d", e)
	}
}

// TestCheck: P6.1, configurations that are valid.
func TestCheck(t *testing.T) {
	for _, c := range valid() {
		if e := conf.Check(c); e != api.OK {
			t.Errorf("Check of %v is %d", c, e)
		}
	}
}

// TestCheckNumbers: P6.1, each number alone, at its ends, between them, and outside.
func TestCheckNumbers(t *testing.T) {
	for i, x := range numbers() {
		for _, n := range append(about(), x.least, x.most, x.least-1, x.most+1, (x.least+x.most)/2) {
			want := api.OK
			if n < x.least || n > x.most {
				want = api.ErrArg
			}
			if e := conf.Check(changed(func(c *api.Config) { *x.of(c) = n })); e != want {
				t.Errorf("Check with %s (%d) %d is %d, not %d", x.name, i, n, e, want)
			}
		}
	}
}

// TestCheckGreatest: P6.1, the page and each quota begin with the greatest class, not with the first.
func TestCheckGreatest(t *testing.T) {
	for greatest := 3; greatest <= 64; greatest++ {
		for less := range 2 {
			want := []api.Errno{api.OK, api.ErrArg}[less]
			for i, c := range []api.Config{
				quotas([]int{2, greatest}, greatest-less, 64, 64),
				quotas([]int{2, greatest}, 64, greatest-less, 64),
				quotas([]int{2, greatest}, 64, 64, 64, greatest-less),
			} {
				if e := conf.Check(c); e != want {
					t.Errorf("%d: Check of %v is %d, not %d", i, c, e, want)
				}
			}
		}
	}
}

// TestCheckTenants: P6.1, as many tenants as there may be, and each of them is looked at.
func TestCheckTenants(t *testing.T) {
	for many := range 12 {
		c := changed(func(c *api.Config) { c.Tenants = slices.Repeat(c.Tenants[:1], many) })
		want := api.OK
		if many < 1 || many > 8 {
			want = api.ErrArg
		}
		if e := conf.Check(c); e != want {
			t.Errorf("Check with %d tenants is %d, not %d", many, e, want)
		}
		for i := range c.Tenants {
			bad := conf.Own(c)
			bad.Tenants[i].Caps = 0
			if e := conf.Check(bad); e != api.ErrArg {
				t.Errorf("Check with %d tenants, the one at %d not valid, is %d", many, i, e)
			}
		}
	}
}

// TestNotValid: P6.1 and P6.2, ErrArg for configurations that are not valid, and no result beside it.
func TestNotValid(t *testing.T) {
	for _, c := range notValid() {
		if e := conf.Check(c); e != api.ErrArg {
			t.Errorf("Check of %v is %d", c, e)
		}
		if n, e := conf.Total(c); n != 0 || e != api.ErrArg {
			t.Errorf("Total of %v is %d, %d", c, n, e)
		}
		for _, at := range []int{0, 1, -1, 2, math.MaxInt, math.MinInt} {
			for name, call := range tenantCalls() {
				if n, e := call(c, at); n != 0 || e != api.ErrArg {
					t.Errorf("%s(%v, %d) is %d, %d", name, c, at, n, e)
				}
			}
			for name, call := range slotCalls() {
				if n, e := call(c, at, 0); n != 0 || e != api.ErrArg {
					t.Errorf("%s(%v, %d, 0) is %d, %d", name, c, at, n, e)
				}
			}
		}
	}
}

// TestNotThere: P6.1 and P6.2, ErrArg for tenants and classes that do not exist, and no result beside it.
func TestNotThere(t *testing.T) {
	for _, c := range valid() {
		outside := func(many int) []int {
			return []int{-1, -2, -many, many, many + 1, 8, 9, 1 << 32, math.MinInt, math.MinInt + 1, math.MaxInt}
		}
		for _, tenant := range outside(len(c.Tenants)) {
			if tenant < len(c.Tenants) && tenant >= 0 {
				continue
			}
			for name, call := range tenantCalls() {
				if n, e := call(c, tenant); n != 0 || e != api.ErrArg {
					t.Errorf("%s(%v, %d) is %d, %d", name, c, tenant, n, e)
				}
			}
			for name, call := range slotCalls() {
				for _, class := range []int{0, len(c.Classes) - 1, -1, len(c.Classes)} {
					if n, e := call(c, tenant, class); n != 0 || e != api.ErrArg {
						t.Errorf("%s(%v, %d, %d) is %d, %d", name, c, tenant, class, n, e)
					}
				}
			}
		}
		for _, class := range outside(len(c.Classes)) {
			for name, call := range slotCalls() {
				if n, e := call(c, 0, class); n != 0 || e != api.ErrArg {
					t.Errorf("%s(%v, 0, %d) is %d, %d", name, c, class, n, e)
				}
			}
		}
	}
}

// TestSlotsPages: P6.1, how many slots a quota has, and the least number of pages that have them.
func TestSlotsPages(t *testing.T) {
	for _, c := range valid() {
		for tenant, x := range c.Tenants {
			for class, words := range c.Classes {
				if got, want := ask(t, c, "Slots", tenant, class), fits(x.Quota, words); got != want {
					t.Errorf("Slots(%v, %d, %d) is %d, not %d", c, tenant, class, got, want)
				}
				if got, want := ask(t, c, "Pages", tenant, class), expectedPages(c, tenant, class); got != want {
					t.Errorf("Pages(%v, %d, %d) is %d, not %d", c, tenant, class, got, want)
				}
			}
		}
	}
}

// TestEachQuota: P6.1, quotas one after the other, in pages that leave a rest and in such that do not.
func TestEachQuota(t *testing.T) {
	for _, page := range []int{7, 8, 12, 13, 64} {
		for quota := 7; quota <= 300; quota++ {
			c := quotas([]int{2, 3, 7}, page, quota)
			for class, words := range c.Classes {
				slots, pages := ask(t, c, "Slots", 0, class), ask(t, c, "Pages", 0, class)
				if slots != fits(quota, words) || pages != expectedPages(c, 0, class) {
					t.Errorf("page %d, quota %d, class %d: %d slots, %d pages", page, quota, class, slots, pages)
				}
			}
		}
	}
}

// TestRegionBaseTotal: P6.2, the words of a region, where it begins, and the words of all.
func TestRegionBaseTotal(t *testing.T) {
	for _, c := range valid() {
		base := 0
		for tenant := range c.Tenants {
			if got := ask(t, c, "Base", tenant); got != base {
				t.Errorf("Base(%v, %d) is %d, not %d", c, tenant, got, base)
			}
			want := expectedRegion(c, tenant)
			if got := ask(t, c, "Region", tenant); got != want {
				t.Errorf("Region(%v, %d) is %d, not %d", c, tenant, got, want)
			}
			base += want
		}
		if got := ask(t, c, "Total"); got != base {
			t.Errorf("Total(%v) is %d, not %d", c, got, base)
		}
	}
}

// TestApart: P6.4, each word of the memory is in one region, and their order is that of the tenants.
func TestApart(t *testing.T) {
	for _, c := range valid() {
		var owners []int
		for tenant := range c.Tenants {
			begin, words := ask(t, c, "Base", tenant), ask(t, c, "Region", tenant)
			if begin != len(owners) || words < 1 {
				t.Fatalf("%v: the region %d is at %d, with %d words, behind %d of the others", c, tenant, begin, words, len(owners))
			}
			owners = append(owners, slices.Repeat([]int{tenant}, words)...)
		}
		if got := ask(t, c, "Total"); got != len(owners) {
			t.Errorf("%v: all have %d words, the regions %d", c, got, len(owners))
		}
	}
}

// TestEnough: P6.4, the pages of a class have enough slots for the quota, and fewer than a page's in addition.
func TestEnough(t *testing.T) {
	for _, c := range valid() {
		for tenant, x := range c.Tenants {
			words := 0
			for class, size := range c.Classes {
				pages := ask(t, c, "Pages", tenant, class)
				more := pages*(c.Page/size) - x.Quota/size
				if more < 0 || more >= c.Page/size {
					t.Errorf("%v: the tenant %d has %d slots more than the class %d needs", c, tenant, more, class)
				}
				words += pages * c.Page
			}
			if got := ask(t, c, "Region", tenant); got != words {
				t.Errorf("%v: the region %d has %d words, its pages %d", c, tenant, got, words)
			}
		}
	}
}

// TestOthers: P6.5, a tenant alone has the same slots, pages and region, and the base 0.
func TestOthers(t *testing.T) {
	for _, c := range valid() {
		for tenant := range c.Tenants {
			alone := c
			alone.Tenants = c.Tenants[tenant : tenant+1]
			for class := range c.Classes {
				for name := range slotCalls() {
					if got, want := ask(t, c, name, tenant, class), ask(t, alone, name, 0, class); got != want {
						t.Errorf("%s(%v, %d, %d) is %d, and %d alone", name, c, tenant, class, got, want)
					}
				}
			}
			if got, want := ask(t, c, "Region", tenant), ask(t, alone, "Region", 0); got != want {
				t.Errorf("Region(%v, %d) is %d, and %d alone", c, tenant, got, want)
			}
			if got := ask(t, alone, "Base", 0); got != 0 {
				t.Errorf("Base(%v, 0) is %d", alone, got)
			}
		}
	}
}

// TestNumbersApart: P6.5 and P6.2, what is no part of the division does not change it.
func TestNumbersApart(t *testing.T) {
	for _, x := range numbers() {
		if x.name == "Page" || x.name == "Quota" {
			continue
		}
		for _, n := range []int{x.least, x.most} {
			c := changed(func(c *api.Config) { *x.of(c) = n })
			if ask(t, c, "Slots", 0, 1) != 5 || ask(t, c, "Pages", 0, 1) != 3 || ask(t, c, "Region", 0) != 48 || ask(t, c, "Base", 1) != 48 || ask(t, c, "Total") != 64 {
				t.Errorf("%s %d changes how the memory is divided", x.name, n)
			}
		}
	}
}

// odd are configurations beyond all bounds, which Own must copy as any other.
func odd() []api.Config {
	return append(notValid(), append(valid(),
		api.Config{Classes: []int{9, 9, -1}, Page: math.MinInt, Tenants: make([]api.Tenant, 1000), Workers: math.MaxInt, Grey: -1, Gens: math.MinInt},
		api.Config{Classes: make([]int, 5000), Tenants: make([]api.Tenant, 0, 7)},
		api.Config{Classes: make([]int, 0, 7), Tenants: []api.Tenant{{Quota: -1, Trigger: math.MinInt, Caps: math.MaxInt, Assist: 1}}},
		api.Config{Classes: []int{1}}, api.Config{Tenants: make([]api.Tenant, 1)},
	)...)
}

// TestOwn: P6.3, the same, with nil for empty lists, for any configuration.
func TestOwn(t *testing.T) {
	for _, c := range odd() {
		want := c
		if len(c.Classes) == 0 {
			want.Classes = nil
		}
		if len(c.Tenants) == 0 {
			want.Tenants = nil
		}
		if got := conf.Own(c); !reflect.DeepEqual(got, want) {
			t.Errorf("Own(%v) is %v", c, got)
		}
	}
}

// spoil overwrites both lists of a configuration, and what is behind their lengths.
func spoil(c api.Config) {
	classes, tenants := c.Classes[:cap(c.Classes)], c.Tenants[:cap(c.Tenants)]
	for i := range classes {
		classes[i] = -77
	}
	for i := range tenants {
		tenants[i] = api.Tenant{Quota: -77}
	}
}

// TestOwnMemory: P6.3 and R5, nothing that is done to one of them, or behind its length, is seen in the other.
func TestOwnMemory(t *testing.T) {
	for _, c := range odd() {
		// There is something behind the lists, which must remain too.
		classes := append(slices.Clone(c.Classes), 5, 6, 7)
		tenants := append(slices.Clone(c.Tenants), api.Tenant{Quota: 5}, api.Tenant{Caps: 6})
		given := c
		given.Classes, given.Tenants = classes[:len(c.Classes)], tenants[:len(c.Tenants)]
		wantClasses, wantTenants := slices.Clone(classes), slices.Clone(tenants)
		spoil(conf.Own(given))
		if !slices.Equal(classes, wantClasses) || !slices.Equal(tenants, wantTenants) {
			t.Errorf("what is done to the own one changes %v", c)
		}
		own := conf.Own(given)
		spoil(given)
		if !slices.Equal(own.Classes, c.Classes) || !slices.Equal(own.Tenants, c.Tenants) {
			t.Errorf("the own one of %v is changed to %v", c, own)
		}
	}
}

// TestNothingChanged: R5, the lists stay what they are, and so does what is behind them, and that does not count.
func TestNothingChanged(t *testing.T) {
	classes, tenants := []int{2, 4, 3, 65}, append(example().Tenants, api.Tenant{Quota: 9}, api.Tenant{Caps: -1})
	c := changed(func(c *api.Config) { c.Classes, c.Tenants = classes[:2], tenants[:2] })
	for _, at := range []int{-1, 0, 1, 2, 3} {
		conf.Check(c)
		conf.Total(c)
		conf.Own(c)
		for _, call := range tenantCalls() {
			call(c, at)
		}
		for _, call := range slotCalls() {
			call(c, at, 0)
			call(c, 0, at)
		}
	}
	if !slices.Equal(classes, []int{2, 4, 3, 65}) || !slices.Equal(tenants, append(example().Tenants, api.Tenant{Quota: 9}, api.Tenant{Caps: -1})) {
		t.Errorf("changed: %v, %v", classes, tenants)
	}
	if got := ask(t, c, "Total"); got != 64 {
		t.Errorf("with more behind the lists, Total is %d", got)
	}
	if got := conf.Own(c); !reflect.DeepEqual(got, example()) {
		t.Errorf("with more behind the lists, Own is %v", got)
	}
}
