package config_test

import (
	"math"
	"reflect"
	"slices"
	"testing"

	"hermitage/api"
	"hermitage/config"
)

const (
	none    = -1
	outside = -1
)

// wild are numbers of which many can be none of a configuration's.
var wild = []int{math.MinInt, math.MinInt + 1, math.MinInt32, -256, -65, -9, -8, -2, -1, 0, 1, 2, 3, 4, 5, 7, 8, 9, 15, 16, 31, 32, 33, 63, 64, 65, 127, 128, 255, 256, 257, 511, math.MaxInt32, 1 << 32, 1<<32 + 1, math.MaxInt - 31, math.MaxInt - 8, math.MaxInt - 1, math.MaxInt}

// base is a right configuration that has some of each kind: three categories, 2 + 1, 3 + 0 and 4 + 2 frames, and 3 rings.
func base() api.Config {
	return api.Config{
		Cats:   3,
		Guests: []api.Guest{{Label: 1, Pages: 2, Spare: 1}, {Label: 3, Pages: 3}, {Label: 3, Pages: 4, Spare: 2}},
		Ranges: []api.Range{{Label: 1, From: 2, N: 3}, {Label: 7, From: 8, N: 1}, {Label: 0, From: 20, N: 12}},
		Ports:  []api.Port{{Label: 4, Guest: outside}, {Label: 3, Guest: 2}, {Label: 0, Guest: outside}, {Label: 1, Guest: 0}},
		Rings:  []api.Ring{{From: 0, To: 2}, {From: 2, To: 1}, {From: 1, To: 2}},
		Slots:  []api.Slot{{Guest: 1, Budget: 5}, {Guest: 0, Budget: 1}, {Guest: 1, Budget: 32}},
		Gate:   2,
		Quota:  6,
	}
}

// small is the chapter's example.
func small() api.Config {
	return api.Config{
		Cats:   1,
		Guests: []api.Guest{{Label: 1, Pages: 4}},
		Slots:  []api.Slot{{Guest: 0, Budget: 5}},
		Gate:   none,
	}
}

// full is at all limits: every list as long as may be, every number as great, and no frame is left.
func full() api.Config {
	c := api.Config{Cats: api.MaxCats, Gate: api.MaxGuests - 1, Quota: api.MaxQuota}
	for range api.MaxGuests {
		c.Guests = append(c.Guests, api.Guest{Label: 255, Pages: 7})
	}
	for i := range api.MaxRanges {
		c.Ranges = append(c.Ranges, api.Range{Label: 255, From: 4 * i, N: 4})
	}
	for i := range api.MaxPorts {
		c.Ports = append(c.Ports, api.Port{Label: 255, Guest: max(api.MaxGuests-1-i, outside)})
	}
	for i := range api.MaxRings {
		c.Rings = append(c.Rings, api.Ring{From: i, To: (i + 1) % api.MaxGuests})
	}
	for range api.MaxSlots {
		c.Slots = append(c.Slots, api.Slot{Guest: api.MaxGuests - 1, Budget: api.MaxBudget})
	}
	return c
}

func checked(t *testing.T, what string, c api.Config, wantE api.Errno, want int) {
	t.Helper()
	if e, i := config.Check(c); e != wantE || i != want {
		t.Errorf("%s: Check: %d %d, not %d %d", what, e, i, wantE, want)
	}
}

// of is the base, changed by each of do.
func of(do ...func(*api.Config)) api.Config {
	c := base()
	for _, f := range do {
		f(&c)
	}
	return c
}

func TestRightOnes(t *testing.T) { // P4.1
	checked(t, "small", small(), api.OK, 0)
	checked(t, "base", base(), api.OK, 0)
	checked(t, "full", full(), api.OK, 0)
	checked(t, "nothing", api.Config{}, api.ErrGuest, 0)
}

func TestCats(t *testing.T) { // P4.1: 0 to MaxCats
	for _, n := range wild {
		c := small()
		c.Cats, c.Guests[0].Label = n, 0
		if n >= 0 && n <= 8 {
			checked(t, "cats", c, api.OK, 0)
		} else {
			checked(t, "wrong cats", c, api.ErrLabel, 0)
		}
	}
}

func TestHowManyGuests(t *testing.T) { // P4.1, P3: 1 to MaxGuests
	for _, l := range [][]api.Guest{nil, {}} {
		c := base()
		c.Guests = l
		checked(t, "no guests", c, api.ErrGuest, 0)
	}
	for n := 1; n <= 40; n++ {
		c := small()
		c.Guests = slices.Repeat([]api.Guest{{Label: 1, Pages: 1}}, n)
		if n <= 4 {
			checked(t, "guests", c, api.OK, 0)
		} else {
			checked(t, "too many guests", c, api.ErrGuest, 0)
			c.Guests[1].Label = -1
			checked(t, "too many guests, of which one is wrong", c, api.ErrGuest, 0)
		}
	}
}

// isLabel goes over all labels of the first cats categories.
func isLabel(l, cats int) bool {
	last := 1
	for range cats {
		last *= 2
	}
	for good := range last {
		if good == l {
			return true
		}
	}
	return false
}

// pick is the base, with v where put lays it, and errno at the place, if it is not ok there.
func pick(t *testing.T, what string, v int, ok bool, errno api.Errno, place int, put func(*api.Config)) {
	t.Helper()
	if ok {
		errno, place = api.OK, 0
	}
	if e, i := config.Check(of(put)); e != errno || i != place {
		t.Errorf("%s %d: Check: %d %d, not %d %d", what, v, e, i, errno, place)
	}
}

func TestGuestsLabels(t *testing.T) { // P4.1
	for cats := 0; cats <= api.MaxCats; cats++ {
		for _, l := range append([]int{6, 12, 30, 62, 126, 129, 254}, wild...) {
			c := small()
			c.Cats = cats
			c.Guests = []api.Guest{{Label: 0, Pages: 1}, {Label: l, Pages: 1}}
			if isLabel(l, cats) {
				checked(t, "a label", c, api.OK, 0)
			} else {
				checked(t, "no label", c, api.ErrGuest, 1)
			}
		}
	}
}

func TestGuestsPagesAndSpare(t *testing.T) { // P4.1, P6
	numbers := append([]int{6}, wild...)
	for _, pages := range numbers {
		for _, spare := range numbers {
			ok := false
			for p := 1; p <= 8; p++ {
				for s := 0; p+s <= 8; s++ {
					ok = ok || p == pages && s == spare
				}
			}
			for place := range 3 {
				pick(t, "pages", pages, ok, api.ErrGuest, place, func(c *api.Config) {
					c.Guests[place].Pages, c.Guests[place].Spare = pages, spare
				})
			}
		}
	}
}

func TestHowManyRanges(t *testing.T) { // P4.1, P3: MaxRanges at most
	for _, l := range [][]api.Range{nil, {}} {
		c := base()
		c.Ranges = l
		checked(t, "no ranges", c, api.OK, 0)
	}
	for n := 1; n <= 40; n++ {
		c := base()
		c.Ranges = nil
		for i := range n {
			c.Ranges = append(c.Ranges, api.Range{From: i % 32, N: 1})
		}
		if n <= 8 {
			checked(t, "ranges", c, api.OK, 0)
		} else {
			checked(t, "too many ranges", c, api.ErrRange, 0)
			c.Ranges[1].N = 0
			checked(t, "too many ranges, of which one is wrong", c, api.ErrRange, 0)
		}
	}
}

func TestRangesLabels(t *testing.T) { // P4.1
	for _, l := range append([]int{6}, wild...) {
		for place := range 3 {
			pick(t, "a range's label", l, l >= 0 && l <= 7, api.ErrRange, place, func(c *api.Config) { c.Ranges[place].Label = l })
		}
	}
}

// sectors are those from from on, n of them; there are none of what can't be.
func sectors(from, n int) []int {
	var l []int
	if n > 32 || from < 0 || from > 31 {
		return nil
	}
	for i := range n {
		if from+i > 31 {
			return nil
		}
		l = append(l, from+i)
	}
	return l
}

func meet(a, b []int) bool {
	return slices.ContainsFunc(a, func(s int) bool { return slices.Contains(b, s) })
}

func TestOneRange(t *testing.T) { // P4.1, P6: each From with each N
	c := base()
	for _, from := range append([]int{10, 30}, wild...) {
		for _, n := range append([]int{10, 22, 30}, wild...) {
			c.Ranges = []api.Range{{Label: 2, From: from, N: n}}
			if len(sectors(from, n)) > 0 {
				checked(t, "a range", c, api.OK, 0)
			} else {
				checked(t, "a range that can't be", c, api.ErrRange, 0)
			}
		}
	}
}

func TestRangesThatMeet(t *testing.T) { // P4.1: each range against each other one
	c := base()
	for from := range 32 {
		for n := 1; from+n <= 32; n++ {
			c.Ranges = []api.Range{{From: 20, N: 3}, {From: 6, N: 4}, {From: 13, N: 1}, {From: from, N: n}, {From: 31, N: 2}}
			taken := slices.Concat(sectors(20, 3), sectors(6, 4), sectors(13, 1))
			if meet(sectors(from, n), taken) {
				checked(t, "a range that meets others", c, api.ErrRange, 3)
			} else {
				checked(t, "a range that meets none", c, api.ErrRange, 4)
			}
		}
	}
	c.Ranges = []api.Range{{From: 4, N: 4}, {From: 0, N: 4}, {From: 8, N: 24}}
	checked(t, "ranges beside each other", c, api.OK, 0)
	c.Ranges = []api.Range{{From: 0, N: 32}, {From: 5, N: 1}}
	checked(t, "a range within another one", c, api.ErrRange, 1)
	c.Ranges = []api.Range{{From: 5, N: 1}, {From: 0, N: 32}, {From: 5, N: 1}}
	checked(t, "a range about another one", c, api.ErrRange, 1)
	c.Ranges = []api.Range{{Label: 1, From: 5, N: 2}, {Label: 1, From: 5, N: 2}}
	checked(t, "a range twice", c, api.ErrRange, 1)
}

func TestHowManyPorts(t *testing.T) { // P4.1, P3: MaxPorts at most
	for _, l := range [][]api.Port{nil, {}} {
		c := base()
		c.Ports = l
		checked(t, "no ports", c, api.OK, 0)
	}
	for n := 1; n <= 40; n++ {
		c := base()
		c.Ports = slices.Repeat([]api.Port{{Label: 5, Guest: outside}}, n)
		if n <= 8 {
			checked(t, "ports", c, api.OK, 0)
		} else {
			checked(t, "too many ports", c, api.ErrPort, 0)
			c.Ports[1].Label = 8
			checked(t, "too many ports, of which one is wrong", c, api.ErrPort, 0)
		}
	}
}

func TestPorts(t *testing.T) { // P4.1: the outside's have all labels, a guest's have its own
	labels := map[int]int{0: 1, 1: 3, 2: 3}
	for _, guest := range wild {
		for _, l := range append([]int{6}, wild...) {
			own, isGuest := labels[guest]
			ok := isGuest && l == own || guest == -1 && l >= 0 && l <= 7
			for place := range 3 {
				pick(t, "a port of the label", l, ok, api.ErrPort, place, func(c *api.Config) {
					c.Ports = slices.Repeat([]api.Port{{Label: 7, Guest: outside}}, 3)
					c.Ports[place] = api.Port{Label: l, Guest: guest}
				})
			}
		}
	}
}

func TestOnePortEach(t *testing.T) { // P4.1
	c := base()
	c.Ports = []api.Port{{Label: 3, Guest: 1}, {Label: 1, Guest: 0}, {Label: 3, Guest: outside}, {Label: 3, Guest: 2}}
	checked(t, "a port each", c, api.OK, 0)
	for i, p := range c.Ports {
		d := c
		d.Ports = append(slices.Clone(c.Ports), p)
		if i == 2 {
			checked(t, "one more to the outside", d, api.OK, 0)
		} else {
			checked(t, "one more of a guest's", d, api.ErrPort, 4)
		}
	}
	c.Ports[1] = c.Ports[0]
	c.Ports[3] = c.Ports[0]
	checked(t, "three of a guest's", c, api.ErrPort, 1)
}

func TestHowManyRings(t *testing.T) { // P4.1, P3: MaxRings at most
	for _, l := range [][]api.Ring{nil, {}} {
		c := base()
		c.Rings = l
		checked(t, "no rings", c, api.OK, 0)
	}
	for n := 1; n <= 40; n++ {
		c := base()
		c.Rings = slices.Repeat([]api.Ring{{From: 1, To: 2}}, n)
		if n <= 4 {
			checked(t, "rings", c, api.OK, 0)
		} else {
			checked(t, "too many rings", c, api.ErrRing, 0)
			c.Rings[1].To = 1
			checked(t, "too many rings, of which one is wrong", c, api.ErrRing, 0)
		}
	}
}

func TestRings(t *testing.T) { // P4.1, P4.3: of two guests, the one's label in the other's
	for _, from := range wild {
		for _, to := range wild {
			ok := slices.Contains([][2]int{{0, 1}, {0, 2}, {1, 2}, {2, 1}}, [2]int{from, to})
			for place := range 3 {
				pick(t, "a ring", from, ok, api.ErrRing, place, func(c *api.Config) { c.Rings[place] = api.Ring{From: from, To: to} })
			}
		}
	}
}

func TestRingsGoWhereLabelsFlow(t *testing.T) { // P4.1, P4.3: all labels
	c := small()
	c.Cats, c.Rings = api.MaxCats, []api.Ring{{From: 0, To: 1}}
	for a := range 256 {
		for b := range 256 {
			c.Guests = []api.Guest{{Label: a, Pages: 1}, {Label: b, Pages: 1}}
			within := true
			for worth := 1; worth < 256; worth *= 2 {
				within = within && (a/worth%2 == 0 || b/worth%2 == 1)
			}
			if within {
				checked(t, "a ring", c, api.OK, 0)
			} else {
				checked(t, "a ring down", c, api.ErrRing, 0)
			}
		}
	}
}

func TestHowManySlots(t *testing.T) { // P4.1, P3: 1 to MaxSlots
	for _, l := range [][]api.Slot{nil, {}} {
		c := base()
		c.Slots = l
		checked(t, "no slots", c, api.ErrSlot, 0)
	}
	for n := 1; n <= 40; n++ {
		c := base()
		c.Slots = slices.Repeat([]api.Slot{{Guest: 2, Budget: 1}}, n)
		if n <= 8 {
			checked(t, "slots", c, api.OK, 0)
		} else {
			checked(t, "too many slots", c, api.ErrSlot, 0)
			c.Slots[1].Budget = 0
			checked(t, "too many slots, of which one is wrong", c, api.ErrSlot, 0)
		}
	}
}

func TestSlots(t *testing.T) { // P4.1: each guest with each budget
	for _, guest := range wild {
		for _, budget := range wild {
			ok := guest >= 0 && guest <= 2 && budget >= 1 && budget <= 32
			for place := range 3 {
				pick(t, "a slot", guest, ok, api.ErrSlot, place, func(c *api.Config) { c.Slots[place] = api.Slot{Guest: guest, Budget: budget} })
			}
		}
	}
}

func TestGate(t *testing.T) { // P4.1: each guest with each quota; none has none
	for _, gate := range wild {
		for _, quota := range wild {
			ok := gate >= 0 && gate <= 2 && quota >= 0 && quota <= 64 || gate == -1 && quota == 0
			pick(t, "a gate", gate, ok, api.ErrGate, 0, func(c *api.Config) { c.Gate, c.Quota = gate, quota })
		}
	}
}

func TestRoom(t *testing.T) { // P4.1: MaxFrames at most, with those of the rings
	sizes := []api.Guest{{Pages: 1}, {Pages: 1, Spare: 6}, {Pages: 7}, {Pages: 8}, {Pages: 2, Spare: 6}}
	taken := []int{1, 7, 7, 8, 8}
	for a, first := range sizes {
		for b, second := range sizes {
			for d, third := range sizes {
				for rings := range api.MaxRings + 1 {
					c := small()
					c.Guests = []api.Guest{first, second, third, {Pages: 5, Spare: 3}}
					c.Rings = slices.Repeat([]api.Ring{{From: 3, To: 0}}, rings)
					if taken[a]+taken[b]+taken[d]+8+rings <= 32 {
						checked(t, "frames", c, api.OK, 0)
					} else {
						checked(t, "too many frames", c, api.ErrRoom, 0)
					}
				}
			}
		}
	}
}

// spoil is a change of the base that is refused, and as what; many: for how many there are.
type spoil struct {
	what  string
	errno api.Errno
	place int
	many  bool
	do    func(*api.Config)
}

// spoils come in the order in which errors are told.
func spoils() []spoil {
	return []spoil{
		{"cats below", api.ErrLabel, 0, false, func(c *api.Config) { c.Cats = -1 }},
		{"cats above", api.ErrLabel, 0, false, func(c *api.Config) { c.Cats = 9 }},
		{"no guests", api.ErrGuest, 0, true, func(c *api.Config) { c.Guests = nil }},
		{"five guests", api.ErrGuest, 0, true, func(c *api.Config) { c.Guests = slices.Repeat([]api.Guest{{Pages: 9}}, 5) }},
		{"a guest's label", api.ErrGuest, 0, false, func(c *api.Config) { c.Guests[0].Label = 8 }},
		{"a guest's pages", api.ErrGuest, 1, false, func(c *api.Config) { c.Guests[1].Pages = 0 }},
		{"a guest's spare", api.ErrGuest, 2, false, func(c *api.Config) { c.Guests[2].Spare = 5 }},
		{"nine ranges", api.ErrRange, 0, true, func(c *api.Config) { c.Ranges = make([]api.Range, 9) }},
		{"a range's label", api.ErrRange, 0, false, func(c *api.Config) { c.Ranges[0].Label = -1 }},
		{"a range of none", api.ErrRange, 1, false, func(c *api.Config) { c.Ranges[1].N = 0 }},
		{"a range beyond", api.ErrRange, 2, false, func(c *api.Config) { c.Ranges[2].N = 13 }},
		{"nine ports", api.ErrPort, 0, true, func(c *api.Config) { c.Ports = make([]api.Port, 9) }},
		{"a port's label", api.ErrPort, 0, false, func(c *api.Config) { c.Ports[0].Label = 8 }},
		{"a port of another label", api.ErrPort, 1, false, func(c *api.Config) { c.Ports[1].Label = 2 }},
		{"a port of no guest", api.ErrPort, 2, false, func(c *api.Config) { c.Ports[2].Guest = 4 }},
		{"a second port", api.ErrPort, 3, false, func(c *api.Config) { c.Ports[3] = c.Ports[1] }},
		{"five rings", api.ErrRing, 0, true, func(c *api.Config) { c.Rings = make([]api.Ring, 5) }},
		{"a ring from no guest", api.ErrRing, 0, false, func(c *api.Config) { c.Rings[0].From = -1 }},
		{"a ring down", api.ErrRing, 1, false, func(c *api.Config) { c.Rings[1].To = 0 }},
		{"a ring to the same", api.ErrRing, 2, false, func(c *api.Config) { c.Rings[2].To = 1 }},
		{"no slots", api.ErrSlot, 0, true, func(c *api.Config) { c.Slots = nil }},
		{"nine slots", api.ErrSlot, 0, true, func(c *api.Config) { c.Slots = make([]api.Slot, 9) }},
		{"a slot of no guest", api.ErrSlot, 0, false, func(c *api.Config) { c.Slots[0].Guest = 4 }},
		{"a slot of nothing", api.ErrSlot, 1, false, func(c *api.Config) { c.Slots[1].Budget = 0 }},
		{"a slot of too much", api.ErrSlot, 2, false, func(c *api.Config) { c.Slots[2].Budget = 33 }},
		{"a gate of no guest", api.ErrGate, 0, false, func(c *api.Config) { c.Gate = 4 }},
		{"a gate's quota", api.ErrGate, 0, false, func(c *api.Config) { c.Quota = 65 }},
		{"nobody's quota", api.ErrGate, 0, false, func(c *api.Config) { c.Gate = none }},
		{"too many frames", api.ErrRoom, 0, false, roomy},
	}
}

// roomy makes the guests as great as may be, one more of them.
func roomy(c *api.Config) {
	c.Guests = append(c.Guests, api.Guest{Pages: 8})
	for i := range c.Guests {
		c.Guests[i].Pages, c.Guests[i].Spare = 5, 3
	}
}

func TestTheFirstErrorCounts(t *testing.T) { // P4.1, P2: each alone, and each with each that comes behind it
	all := spoils()
	for i, a := range all {
		checked(t, a.what, of(a.do), a.errno, a.place)
		for _, b := range all[i+1:] {
			switch {
			case a.errno != b.errno:
				// That which is told first is done last, so that nothing changes it again.
				checked(t, a.what+", "+b.what, of(b.do, a.do), a.errno, a.place)
			case a.place != b.place && !a.many:
				checked(t, a.what+", then "+b.what, of(a.do, b.do), a.errno, a.place)
			}
		}
	}
}

func TestAllErrorsAtOnce(t *testing.T) { // P4.1, P2: mended one by one, from the first on
	c := base()
	c.Cats = -1
	c.Guests[1].Spare = 6
	c.Ranges[2].From = -1
	c.Ports[3].Guest = math.MaxInt
	c.Rings[1].From = 1
	c.Slots[2].Guest = math.MinInt
	c.Quota = -1
	good := base()
	mend := []struct {
		errno api.Errno
		place int
		do    func()
	}{
		{api.ErrLabel, 0, func() { c.Cats = good.Cats }},
		{api.ErrGuest, 1, func() { roomy(&c) }},
		{api.ErrRange, 2, func() { c.Ranges = good.Ranges }},
		{api.ErrPort, 3, func() { c.Ports = good.Ports }},
		{api.ErrRing, 1, func() { c.Rings = good.Rings }},
		{api.ErrSlot, 2, func() { c.Slots = good.Slots }},
		{api.ErrGate, 0, func() { c.Quota = good.Quota }},
		{api.ErrRoom, 0, func() { c.Guests = good.Guests }},
		{api.OK, 0, func() {}},
	}
	for _, m := range mend {
		checked(t, "all at once", c, m.errno, m.place)
		m.do()
	}
}

// host is whose each frame is, told frame by frame.
func host(c api.Config) []api.Owner {
	var l []api.Owner
	for i, g := range c.Guests {
		l = append(l, slices.Repeat([]api.Owner{{K: api.OGuest, I: i}}, g.Pages)...)
		l = append(l, slices.Repeat([]api.Owner{{K: api.OGuest, I: i}}, g.Spare)...)
	}
	for i := range c.Rings {
		l = append(l, api.Owner{K: api.ORing, I: i})
	}
	return l
}

// agree asks all that can be asked of a right configuration.
func agree(t *testing.T, c api.Config) {
	t.Helper()
	checked(t, "a right one", c, api.OK, 0)
	frames := host(c)
	if n := config.Frames(c); n != len(frames) {
		t.Errorf("Frames: %d, not %d", n, len(frames))
	}
	for _, i := range slices.Concat(wild, sectors(0, 32)) {
		var own api.Owner
		if i >= 0 && i < len(frames) {
			own = frames[i]
		}
		if o := config.Owner(c, i); o != own {
			t.Errorf("Owner(%d): %v, not %v", i, o, own)
		}
		if f, want := config.First(c, i), slices.Index(frames, api.Owner{K: api.OGuest, I: i}); f != want {
			t.Errorf("First(%d): %d, not %d", i, f, want)
		}
		if f, want := config.RingFrame(c, i), slices.Index(frames, api.Owner{K: api.ORing, I: i}); f != want {
			t.Errorf("RingFrame(%d): %d, not %d", i, f, want)
		}
		port, in := none, none
		for k, p := range c.Ports {
			if p.Guest == i && i >= 0 {
				port = k
			}
		}
		if p := config.PortOf(c, i); p != port {
			t.Errorf("PortOf(%d): %d, not %d", i, p, port)
		}
		for k, r := range c.Ranges {
			if slices.Contains(sectors(r.From, r.N), i) {
				in = k
			}
		}
		if r := config.RangeOf(c, i); r != in {
			t.Errorf("RangeOf(%d): %d, not %d", i, r, in)
		}
	}
	steps := 0
	for _, s := range c.Slots {
		for range s.Budget {
			steps++
		}
	}
	if n := config.Period(c); n != steps {
		t.Errorf("Period: %d, not %d", n, steps)
	}
	if n := config.Bound(c); n != 8341+4*c.Quota {
		t.Errorf("Bound: %d", n)
	}
}

func TestWhatFollows(t *testing.T) { // P4.2, P4.3
	agree(t, small())
	agree(t, base())
	agree(t, full())
	agree(t, of(func(c *api.Config) { c.Ranges, c.Ports, c.Rings = nil, nil, nil }))
	agree(t, of(func(c *api.Config) { c.Gate, c.Quota = none, 0 }))
	agree(t, of(func(c *api.Config) { c.Ranges = []api.Range{{From: 31, N: 1}, {From: 0, N: 31}} }))
	agree(t, of(func(c *api.Config) { c.Ports = slices.Repeat([]api.Port{{Guest: outside}}, 8) }))
	for quota := range api.MaxQuota + 1 {
		agree(t, of(func(c *api.Config) { c.Quota = quota }))
	}
}

func TestOfTheChapter(t *testing.T) { // P4.2: its example
	c := small()
	if config.Frames(c) != 4 || config.Period(c) != 5 || config.Bound(c) != 8341 {
		t.Errorf("Frames %d, Period %d, Bound %d", config.Frames(c), config.Period(c), config.Bound(c))
	}
}

func TestWhatFollowsOfTheBase(t *testing.T) { // P4.2: told by hand
	c := base()
	if config.Frames(c) != 15 || config.Period(c) != 38 || config.Bound(c) != 8365 {
		t.Errorf("Frames %d, Period %d, Bound %d", config.Frames(c), config.Period(c), config.Bound(c))
	}
	calls := []struct {
		what string
		call func(api.Config, int) int
		want []int // of -2, -1, 0 and so on
	}{
		{"First", config.First, []int{-1, -1, 0, 3, 6, -1, -1}},
		{"RingFrame", config.RingFrame, []int{-1, -1, 12, 13, 14, -1, -1}},
		{"PortOf", config.PortOf, []int{-1, -1, 3, -1, 1, -1, -1}},
		{"RangeOf", config.RangeOf, []int{-1, -1, -1, -1, 0, 0, 0, -1, -1, -1, 1, -1}},
	}
	for _, r := range calls {
		for k, want := range r.want {
			if got := r.call(c, k-2); got != want {
				t.Errorf("%s(%d): %d, not %d", r.what, k-2, got, want)
			}
		}
	}
	for f, want := range map[int]api.Owner{-1: {}, 0: {K: 1}, 2: {K: 1}, 3: {K: 1, I: 1}, 5: {K: 1, I: 1}, 6: {K: 1, I: 2}, 11: {K: 1, I: 2}, 12: {K: 2}, 13: {K: 2, I: 1}, 14: {K: 2, I: 2}, 15: {}, 31: {}, 32: {}} {
		if o := config.Owner(c, f); o != want {
			t.Errorf("Owner(%d): %v", f, o)
		}
	}
	for sector, want := range map[int]int{19: -1, 20: 2, 31: 2, 32: -1} {
		if r := config.RangeOf(c, sector); r != want {
			t.Errorf("RangeOf(%d): %d", sector, r)
		}
	}
}

func TestNothingFollowsOfWrongOnes(t *testing.T) { // P4.2
	for _, s := range spoils() {
		c := of(s.do)
		if config.Frames(c) != 0 || config.Period(c) != 0 || config.Bound(c) != 0 {
			t.Errorf("%s: Frames %d, Period %d, Bound %d", s.what, config.Frames(c), config.Period(c), config.Bound(c))
		}
		for _, i := range wild {
			if o := config.Owner(c, i); o != (api.Owner{K: api.ONone}) {
				t.Errorf("%s: Owner(%d): %v", s.what, i, o)
			}
			for _, call := range []func(api.Config, int) int{config.First, config.RingFrame, config.PortOf, config.RangeOf} {
				if n := call(c, i); n != none {
					t.Errorf("%s: of %d: %d", s.what, i, n)
				}
			}
		}
	}
}

func TestEachFrameBelongsToOne(t *testing.T) { // P4.3
	for _, c := range []api.Config{small(), base(), full()} {
		count := map[api.Owner]int{}
		for f := range config.Frames(c) {
			count[config.Owner(c, f)]++
		}
		if count[api.Owner{}] != 0 || len(count) != len(c.Guests)+len(c.Rings) {
			t.Errorf("owners: %v", count)
		}
		for i, g := range c.Guests {
			if own := (api.Owner{K: api.OGuest, I: i}); count[own] != g.Pages+g.Spare || config.Owner(c, config.First(c, i)) != own {
				t.Errorf("guest %d has %d frames from %d on", i, count[own], config.First(c, i))
			}
		}
		for i := range c.Rings {
			if own := (api.Owner{K: api.ORing, I: i}); count[own] != 1 || config.Owner(c, config.RingFrame(c, i)) != own {
				t.Errorf("ring %d has %d frames, the frame %d", i, count[own], config.RingFrame(c, i))
			}
		}
	}
}

// askAll calls all of c, at each of numbers.
func askAll(c api.Config, numbers []int) []int {
	e, place := config.Check(c)
	l := []int{int(e), place, config.Frames(c), config.Period(c), config.Bound(c)}
	for _, i := range numbers {
		o := config.Owner(c, i)
		l = append(l, o.K, o.I, config.First(c, i), config.RingFrame(c, i), config.PortOf(c, i), config.RangeOf(c, i))
	}
	return l
}

func TestNilAndEmptyAreTheSame(t *testing.T) { // P3
	bare := api.Config{Guests: []api.Guest{{Pages: 3}}, Slots: []api.Slot{{Budget: 2}}, Gate: none}
	empty := bare
	empty.Ranges, empty.Ports, empty.Rings = []api.Range{}, []api.Port{}, []api.Ring{}
	if a, b := askAll(bare, wild), askAll(empty, wild); !slices.Equal(a, b) {
		t.Errorf("of nil lists %v, of empty ones %v", a, b)
	}
	agree(t, bare)
	agree(t, empty)
	if a, b := askAll(api.Config{}, wild), askAll(api.Config{Guests: []api.Guest{}, Slots: []api.Slot{}}, wild); !slices.Equal(a, b) {
		t.Errorf("of no guests %v, of an empty list of them %v", a, b)
	}
}

func TestConfigurationsStayAsTheyAre(t *testing.T) { // P4
	c, good := base(), base()
	askAll(c, wild)
	if !reflect.DeepEqual(c, good) {
		t.Errorf("a configuration that was handed in is %v", c)
	}
	for _, s := range spoils() {
		c, was := of(s.do), of(s.do)
		askAll(c, wild)
		if !reflect.DeepEqual(c, was) {
			t.Errorf("%s: a configuration that was handed in is %v", s.what, c)
		}
	}
}

func TestAnswersHangOnArgumentsAlone(t *testing.T) { // P4, P5: nothing is kept of what was asked ahead
	want := askAll(base(), wild)
	c := base()
	for _, s := range spoils() {
		askAll(of(s.do), wild[:3])
		if got := askAll(c, wild); !slices.Equal(got, want) {
			t.Errorf("behind %s otherwise", s.what)
		}
	}
	askAll(c, wild)
	c.Ranges[0].From = 3
	c.Guests[0].Pages = 1
	agree(t, c)
}

// TestAnyArguments puts all wild numbers everywhere: that none panics is what it asks (P1), and that what is right has all that follows.
func TestAnyArguments(t *testing.T) {
	for _, a := range wild {
		for _, b := range wild {
			c := api.Config{
				Cats:   a,
				Guests: []api.Guest{{Label: b, Pages: a, Spare: b}, {Label: 0, Pages: 1, Spare: 0}},
				Ranges: []api.Range{{Label: b, From: a, N: b}, {From: b, N: a}},
				Ports:  []api.Port{{Label: a, Guest: b}, {Label: b, Guest: a}},
				Rings:  []api.Ring{{From: a, To: b}},
				Slots:  []api.Slot{{Guest: b, Budget: a}},
				Gate:   a,
				Quota:  b,
			}
			askAll(c, wild[:3])
			c.Cats, c.Guests = 8, []api.Guest{{Label: 1, Pages: 1}, {Label: 1, Pages: 1}}
			askAll(c, []int{a, b})
			c.Ranges = nil
			askAll(c, []int{a, b})
			c.Ports = nil
			askAll(c, []int{a, b})
			c.Rings = nil
			askAll(c, []int{a, b})
			c.Slots = []api.Slot{{Budget: 1}}
			askAll(c, []int{a, b})
		}
	}
	many := api.Config{Guests: make([]api.Guest, 1<<16), Ranges: make([]api.Range, 1<<16), Ports: make([]api.Port, 1<<16), Rings: make([]api.Ring, 1<<16), Slots: make([]api.Slot, 1<<16)}
	askAll(many, wild)
	many.Guests = []api.Guest{{Pages: 1}, {Pages: 1}}
	askAll(many, wild)
}
