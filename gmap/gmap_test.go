package gmap_test

import (
	"math"
	"slices"
	"sync"
	"testing"

	"hermitage/api"
	"hermitage/gmap"
)

// The numbers of the chapter and of the document's limits.
const (
	own    = 8
	pages  = 12
	frames = 32
	most   = 3 // of rights
)

var (
	// wild is numbers that pages, frames, rights and kinds are tried with: the least and the greatest, those about each edge, and such as come to a right one if bits are cut off.
	wild = []int{
		math.MinInt, math.MinInt + 1, math.MinInt + 8, -1 << 32, -1<<32 + 1, math.MinInt32, -256, -255, -33, -32, -31, -13, -12, -9, -8, -4, -3, -2, -1,
		0, 1, 2, 3, 4, 5, 6, 7, 8, 9, 10, 11, 12, 13, 15, 16, 17, 30, 31, 32, 33, 63, 64, 128, 255, 256, 257, 1 << 16, 1<<16 + 1, math.MaxInt32, 1 << 31, 1 << 32, 1<<32 + 1, 1<<32 + 11, math.MaxInt - 1, math.MaxInt,
	}

	// outside is numbers that are no pages.
	outside = slices.DeleteFunc(slices.Clone(wild), func(page int) bool { return 0 <= page && page < pages })
)

// model is what the chapter says of a map: where each page was set that was not dropped since.
type model map[int]api.Place

func (m model) set(page int, p api.Place) api.Errno {
	if page < 0 || page > 11 || p.Frame < 0 || p.Frame > 31 || p.Rights != 1 && p.Rights != 2 && p.Rights != 3 {
		return api.ErrArg
	}
	if _, there := m[page]; there {
		return api.ErrUsed
	}
	m[page] = p
	return api.OK
}

func (m model) drop(page int) api.Errno {
	if page < 0 || page > 11 {
		return api.ErrArg
	}
	if _, there := m[page]; !there {
		return api.ErrNone
	}
	delete(m, page)
	return api.OK
}

func (m model) allows(page, kind int) int {
	p, there := m[page]
	ok := false
	switch {
	case !there:
		return api.FAbsent
	case kind == api.KFetch:
		ok = page < 8
	case kind == api.KLoad:
		ok = p.Rights == 1 || p.Rights == 3
	case kind == api.KStore:
		ok = p.Rights == 2 || p.Rights == 3
	}
	if !ok {
		return api.FPerm
	}
	return api.FOk
}

func (m model) copied() model {
	n := make(model)
	for page, p := range m {
		n[page] = p
	}
	return n
}

// agree asks all that can be asked of a map, of each page and of such as can't be, with each kind of access and such as are none.
func agree(t *testing.T, g *gmap.Map, m model) {
	t.Helper()
	var there []int
	for page := range pages {
		if _, is := m[page]; is {
			there = append(there, page)
		}
	}
	for range 2 {
		if got := g.Pages(); !slices.Equal(got, there) {
			t.Fatalf("Pages: %v, not %v", got, there)
		}
		for page := -2; page < pages+3; page++ {
			want, is := m[page]
			if p, ok := g.Get(page); p != want || ok != is {
				t.Fatalf("Get(%d): %v %v, not %v %v", page, p, ok, want, is)
			}
			for kind := -2; kind < 7; kind++ {
				if f, want := g.Allows(page, kind), m.allows(page, kind); f != want {
					t.Fatalf("Allows(%d, %d): %d, not %d, of %v", page, kind, f, want, m)
				}
			}
		}
	}
}

func set(t *testing.T, g *gmap.Map, m model, page int, p api.Place) {
	t.Helper()
	want := m.set(page, p)
	if e := g.Set(page, p); e != want {
		t.Fatalf("Set(%d, %v): %d, not %d", page, p, e, want)
	}
}

func drop(t *testing.T, g *gmap.Map, m model, page int) {
	t.Helper()
	want := m.drop(page)
	if e := g.Drop(page); e != want {
		t.Fatalf("Drop(%d): %d, not %d", page, e, want)
	}
}

func made(t *testing.T) *gmap.Map {
	t.Helper()
	g := gmap.New()
	if g == nil {
		t.Fatal("New: nil")
	}
	return g
}

// filled is a map in which all pages are there, each in another frame.
func filled(t *testing.T) (*gmap.Map, model) {
	t.Helper()
	g, m := made(t), make(model)
	for page := range pages {
		set(t, g, m, page, api.Place{Frame: frames - 1 - page, Rights: 1 + page%most})
	}
	agree(t, g, m)
	return g, m
}

// half is a map in which every other page is there, own ones and rings'.
func half(t *testing.T) (*gmap.Map, model) {
	t.Helper()
	g, m := filled(t)
	for page := 1; page < pages; page += 2 {
		drop(t, g, m, page)
	}
	agree(t, g, m)
	return g, m
}

// all is each place that can be.
func all() []api.Place {
	var l []api.Place
	for frame := range frames {
		for rights := 1; rights <= most; rights++ {
			l = append(l, api.Place{Frame: frame, Rights: rights})
		}
	}
	return l
}

func TestTheLimits(t *testing.T) { // the numbers that the tests beside this one stand on
	if api.OwnPages != own || api.MaxPages != pages || api.MaxFrames != frames || api.RRead|api.RWrite != most {
		t.Errorf("OwnPages %d, MaxPages %d, MaxFrames %d, rights %d", api.OwnPages, api.MaxPages, api.MaxFrames, api.RRead|api.RWrite)
	}
}

func TestNew(t *testing.T) { // P15.1: no page is there
	agree(t, made(t), nil)
	if l := made(t).Pages(); len(l) != 0 {
		t.Errorf("Pages: %v", l)
	}
}

func TestOfTheChapter(t *testing.T) { // P15.1, P15.2
	g := made(t)
	if e := g.Set(8, api.Place{Frame: 3, Rights: api.RRead}); e != api.OK {
		t.Errorf("Set(8): %d", e)
	}
	if f := g.Allows(8, api.KLoad); f != api.FOk {
		t.Errorf("Allows(8, KLoad): %d", f)
	}
	if f := g.Allows(8, api.KFetch); f != api.FPerm {
		t.Errorf("Allows(8, KFetch): %d", f)
	}
	if p, ok := g.Get(8); p != (api.Place{Frame: 3, Rights: api.RRead}) || !ok {
		t.Errorf("Get(8): %v %v", p, ok)
	}
	if l := g.Pages(); !slices.Equal(l, []int{8}) {
		t.Errorf("Pages: %v", l)
	}
}

func TestSetByHand(t *testing.T) { // P15.1: the tests' own reckoning is held by it too
	const rd, wr, rw = api.RRead, api.RWrite, api.RRead | api.RWrite
	g, m := made(t), make(model)
	rows := []struct {
		page  int
		p     api.Place
		errno api.Errno
	}{
		{0, api.Place{Frame: 0, Rights: rd}, api.OK},
		{0, api.Place{Frame: 0, Rights: rd}, api.ErrUsed},
		{0, api.Place{Frame: 1, Rights: rw}, api.ErrUsed},
		{0, api.Place{}, api.ErrArg},
		{0, api.Place{Frame: 32, Rights: rd}, api.ErrArg},
		{0, api.Place{Frame: -1, Rights: rd}, api.ErrArg},
		{0, api.Place{Frame: 1, Rights: 4}, api.ErrArg},
		{7, api.Place{Frame: 31, Rights: rw}, api.OK},
		{8, api.Place{Frame: 31, Rights: wr}, api.OK}, // where another page lies too
		{11, api.Place{Frame: 5, Rights: rw}, api.OK},
		{12, api.Place{Frame: 5, Rights: rw}, api.ErrArg},
		{-1, api.Place{Frame: 5, Rights: rw}, api.ErrArg},
		{1, api.Place{Frame: 0, Rights: 0}, api.ErrArg},
		{1, api.Place{Frame: 5, Rights: 0}, api.ErrArg},
		{1, api.Place{Frame: 5, Rights: -1}, api.ErrArg},
		{1, api.Place{Frame: 5, Rights: api.RExec}, api.ErrArg},
		{1, api.Place{Frame: 5, Rights: api.RExec | rd}, api.ErrArg},
		{1, api.Place{Frame: 5, Rights: api.RUser}, api.ErrArg},
		{1, api.Place{Frame: 5, Rights: api.RUser | rw}, api.ErrArg},
		{1, api.Place{Frame: 0, Rights: wr}, api.OK},
	}
	for _, r := range rows {
		if e := m.set(r.page, r.p); e != r.errno {
			t.Errorf("the tests of %d, %v: %d, not %d", r.page, r.p, e, r.errno)
		}
		if e := g.Set(r.page, r.p); e != r.errno {
			t.Errorf("Set(%d, %v): %d, not %d", r.page, r.p, e, r.errno)
		}
		agree(t, g, m)
	}
	if l := g.Pages(); !slices.Equal(l, []int{0, 1, 7, 8, 11}) {
		t.Errorf("Pages: %v", l)
	}
}

func TestDropByHand(t *testing.T) { // P15.1: the tests' own reckoning is held by it too
	g, m := made(t), make(model)
	for _, page := range []int{0, 7, 8, 11} {
		set(t, g, m, page, api.Place{Frame: 0, Rights: api.RRead}) // of all places the nearest to the zero one
	}
	rows := []struct {
		page  int
		errno api.Errno
	}{
		{-1, api.ErrArg}, {12, api.ErrArg}, {math.MinInt, api.ErrArg}, {math.MaxInt, api.ErrArg},
		{1, api.ErrNone}, {10, api.ErrNone},
		{0, api.OK}, {0, api.ErrNone}, {0, api.ErrNone},
		{11, api.OK}, {11, api.ErrNone}, {12, api.ErrArg},
		{8, api.OK}, {7, api.OK}, {7, api.ErrNone},
	}
	for _, r := range rows {
		if e := m.drop(r.page); e != r.errno {
			t.Errorf("the tests of %d: %d, not %d", r.page, e, r.errno)
		}
		if e := g.Drop(r.page); e != r.errno {
			t.Errorf("Drop(%d): %d, not %d", r.page, e, r.errno)
		}
		agree(t, g, m)
	}
	agree(t, g, nil)
}

func TestAllowsByHand(t *testing.T) { // P15.2: of each kind, on a guest's own pages and on rings'
	const fetch, load, store = api.KFetch, api.KLoad, api.KStore
	const ok, perm = api.FOk, api.FPerm
	rows := []struct{ rights, kind, own, ring int }{
		{1, fetch, ok, perm}, {1, load, ok, ok}, {1, store, perm, perm},
		{2, fetch, ok, perm}, {2, load, perm, perm}, {2, store, ok, ok},
		{3, fetch, ok, perm}, {3, load, ok, ok}, {3, store, ok, ok},
		{3, -1, perm, perm}, {3, 3, perm, perm}, {3, 4, perm, perm}, {3, math.MinInt, perm, perm}, {3, math.MaxInt, perm, perm},
		{1, 1 << 32, perm, perm}, {3, 1<<32 + 1, perm, perm}, {3, 256, perm, perm}, {2, -2, perm, perm},
	}
	for _, r := range rows {
		for page := range pages {
			g, m, want := made(t), make(model), r.own
			if page >= own {
				want = r.ring
			}
			if f := g.Allows(page, r.kind); f != api.FAbsent {
				t.Errorf("Allows(%d, %d), which is not there: %d", page, r.kind, f)
			}
			set(t, g, m, page, api.Place{Frame: page, Rights: r.rights})
			if f := g.Allows(page, r.kind); f != want {
				t.Errorf("Allows(%d, %d), of rights %d: %d, not %d", page, r.kind, r.rights, f, want)
			}
			if f := m.allows(page, r.kind); f != want {
				t.Errorf("the tests of %d, %d, of rights %d: %d, not %d", page, r.kind, r.rights, f, want)
			}
			drop(t, g, m, page)
			if f := g.Allows(page, r.kind); f != api.FAbsent {
				t.Errorf("Allows(%d, %d), which was dropped: %d", page, r.kind, f)
			}
		}
	}
}

func TestAllowsOfAnyNumbers(t *testing.T) { // P15.2, P1, P6: FAbsent goes ahead, of pages that can't be too; then any kind
	g, m := filled(t)
	h, n := half(t)
	for _, page := range wild {
		for _, kind := range wild {
			if f, want := g.Allows(page, kind), m.allows(page, kind); f != want {
				t.Errorf("Allows(%d, %d): %d, not %d", page, kind, f, want)
			}
			if f, want := h.Allows(page, kind), n.allows(page, kind); f != want {
				t.Errorf("Allows(%d, %d), of every other page: %d, not %d", page, kind, f, want)
			}
		}
	}
	agree(t, g, m)
	agree(t, h, n)
}

func TestEachPlaceOfEachPage(t *testing.T) { // P15.1, P15.2, P15.4: it lies there alone, can't be set again, and is there no more behind Drop
	for page := range pages {
		g, m := made(t), make(model)
		for _, p := range all() {
			set(t, g, m, page, p)
			agree(t, g, m)
			set(t, g, m, page, p)
			set(t, g, m, page, api.Place{Frame: frames - 1 - p.Frame, Rights: most + 1 - p.Rights})
			agree(t, g, m)
			drop(t, g, m, page)
			agree(t, g, nil)
			drop(t, g, m, page)
			agree(t, g, nil)
		}
	}
}

func TestSetOfWhatCantBe(t *testing.T) { // P15.1, P2, P6: each argument at its edges; ErrArg goes ahead of ErrUsed, and nothing changes
	full, f := filled(t)
	part, h := half(t)
	for _, page := range wild {
		for _, frame := range wild {
			for _, rights := range wild {
				p := api.Place{Frame: frame, Rights: rights}
				empty, m := made(t), make(model)
				set(t, empty, m, page, p)
				set(t, full, f, page, p)
				if h.copied().set(page, p) != api.OK { // of what can be the map would be fuller behind it
					set(t, part, h, page, p)
				}
				if got, ok := empty.Get(page); got != m[page] || ok != (len(m) == 1) || len(empty.Pages()) != len(m) {
					t.Fatalf("behind Set(%d, %v): Get %v %v, Pages %v", page, p, got, ok, empty.Pages())
				}
			}
		}
		agree(t, full, f)
		agree(t, part, h)
	}
}

func TestNoSuchPage(t *testing.T) { // P15.1, P2, P6: what is answered of it, and nothing changes
	for _, of := range []func(*testing.T) (*gmap.Map, model){half, filled} {
		g, m := of(t)
		for _, page := range outside {
			if p, ok := g.Get(page); p != (api.Place{}) || ok {
				t.Errorf("Get(%d): %v %v", page, p, ok)
			}
			for _, p := range all() {
				if e := g.Set(page, p); e != api.ErrArg {
					t.Errorf("Set(%d, %v): %d", page, p, e)
				}
			}
			if e := g.Drop(page); e != api.ErrArg {
				t.Errorf("Drop(%d): %d", page, e)
			}
			agree(t, g, m)
		}
	}
}

func TestEachSetOfPages(t *testing.T) { // P15.1: those that are there, rising, whatever the order they came in
	for bits := range 1 << pages {
		rising, falling, dropped := made(t), made(t), made(t)
		m := make(model)
		var want []int
		for page := range pages {
			dropped.Set(page, api.Place{Rights: api.RRead})
			if bits>>page&1 == 1 {
				set(t, rising, m, page, api.Place{Rights: api.RRead})
				want = append(want, page)
			}
		}
		for page := pages - 1; page >= 0; page-- {
			if bits>>page&1 == 1 {
				falling.Set(page, api.Place{Frame: 1, Rights: api.RWrite})
			} else {
				dropped.Drop(page)
			}
		}
		for _, g := range []*gmap.Map{rising, falling, dropped} {
			if got := g.Pages(); !slices.Equal(got, want) {
				t.Fatalf("Pages: %v, not %v", got, want)
			}
		}
	}
}

func TestPagesAreNewMemory(t *testing.T) { // P4: neither changes the other
	g, m := filled(t)
	a, b := g.Pages(), g.Pages()
	want := slices.Clone(b)
	clear(a)
	a = append(a[:0], 5, 5, 5)
	if !slices.Equal(b, want) {
		t.Errorf("an answer changed by %v: %v", a, b)
	}
	agree(t, g, m)
	drop(t, g, m, 0)
	drop(t, g, m, 11)
	if !slices.Equal(b, want) {
		t.Errorf("an answer changed by Drop: %v", b)
	}
	set(t, g, m, 11, api.Place{Frame: 2, Rights: api.RWrite})
	if !slices.Equal(b, want) {
		t.Errorf("an answer changed by Set: %v", b)
	}
	agree(t, g, m)
}

func TestItLiesThereTillItIsDropped(t *testing.T) { // P15.4: whatever is done to others, and whatever is refused
	for page := range pages {
		g, m := made(t), make(model)
		where := api.Place{Frame: 17, Rights: api.RWrite}
		set(t, g, m, page, where)
		lies := func() {
			t.Helper()
			if p, ok := g.Get(page); p != where || !ok || g.Allows(page, api.KStore) != api.FOk {
				t.Fatalf("Get(%d): %v %v", page, p, ok)
			}
		}
		for other := -1; other <= pages; other++ {
			if other == page {
				continue
			}
			for _, p := range []api.Place{where, {Frame: 3, Rights: most}, {}} {
				set(t, g, m, other, p)
				lies()
				set(t, g, m, page, p)
				lies()
				drop(t, g, m, other)
				lies()
			}
			set(t, g, m, other, where)
		}
		agree(t, g, m)
		drop(t, g, m, page)
		agree(t, g, m)
		where = api.Place{Frame: 0, Rights: api.RWrite}
		set(t, g, m, page, where) // elsewhere than ahead
		lies()
		agree(t, g, m)
	}
}

func TestNothingIsFetchedFromRings(t *testing.T) { // P15.4
	for page := range pages {
		for _, p := range all() {
			g := made(t)
			g.Set(page, p)
			want := api.FOk
			if page >= own {
				want = api.FPerm
			}
			if f := g.Allows(page, api.KFetch); f != want {
				t.Errorf("Allows(%d, KFetch), at %v: %d, not %d", page, p, f, want)
			}
		}
	}
}

// nothing asks all of a map that is none, and behind each call that it is none still.
func nothing(t *testing.T, g *gmap.Map) {
	t.Helper()
	none := func() {
		t.Helper()
		if l := g.Pages(); len(l) != 0 {
			t.Errorf("Pages: %v", l)
		}
		for _, page := range wild {
			if p, ok := g.Get(page); p != (api.Place{}) || ok {
				t.Errorf("Get(%d): %v %v", page, p, ok)
			}
		}
	}
	none()
	for _, page := range wild { // no page, and no place, too: ErrZero goes ahead of ErrArg
		for _, kind := range wild {
			if f := g.Allows(page, kind); f != api.FAbsent {
				t.Errorf("Allows(%d, %d): %d", page, kind, f)
			}
		}
		for _, frame := range wild {
			for rights := -1; rights < most+2; rights++ {
				p := api.Place{Frame: frame, Rights: rights}
				if e := g.Set(page, p); e != api.ErrZero {
					t.Errorf("Set(%d, %v): %d", page, p, e)
				}
			}
		}
		none()
		for range 2 {
			if e := g.Drop(page); e != api.ErrZero {
				t.Errorf("Drop(%d): %d", page, e)
			}
		}
		none()
	}
}

func TestNilMap(t *testing.T) { // P15.3, P1
	nothing(t, nil)
}

func TestMapThatNoCallMade(t *testing.T) { // P15.3, P1
	nothing(t, new(gmap.Map))
	nothing(t, &gmap.Map{})
	var g gmap.Map
	nothing(t, &g)
	was, _ := filled(t)
	*was = gmap.Map{}
	nothing(t, was)
}

func TestMapsAreApart(t *testing.T) { // P15.4, P5: of two maps, and of a map and its copy, none sees what is done to the other
	g, m := half(t)
	h, n := made(t), make(model)
	copied, c := *g, m.copied()
	agree(t, &copied, c)
	drop(t, g, m, 0)
	set(t, g, m, 1, api.Place{Frame: 1, Rights: 1})
	drop(t, &copied, c, 2)
	set(t, &copied, c, 3, api.Place{Frame: 3, Rights: 3})
	set(t, h, n, 4, api.Place{Frame: 4, Rights: 2})
	agree(t, g, m)
	agree(t, &copied, c)
	agree(t, h, n)
	nothing(t, nil)
	agree(t, made(t), nil)
}

// chance is a row of numbers that look like chance, each below what is asked; the same ones for the same seed.
func chance(seed uint64) func(int) int {
	return func(below int) int {
		seed = seed*6364136223846793005 + 1442695040888963407
		return int(seed >> 33 % uint64(below))
	}
}

// pick is the arguments of one call: a page and a place, mostly such as can be.
func pick(next func(int) int) (int, api.Place) {
	page, p := next(pages), api.Place{Frame: next(frames), Rights: 1 + next(most)}
	switch next(8) {
	case 0:
		page = wild[next(len(wild))]
	case 1:
		p.Frame = wild[next(len(wild))]
	case 2:
		p.Rights = wild[next(len(wild))]
	}
	return page, p
}

func TestManyCalls(t *testing.T) { // P15.1, P15.2, P15.4: the map is as the model behind each
	for seed := range uint64(8) {
		g, m, next := made(t), make(model), chance(seed)
		for range 3000 {
			page, p := pick(next)
			if next(5) < 2 {
				drop(t, g, m, page)
			} else {
				set(t, g, m, page, p)
			}
			agree(t, g, m)
		}
	}
}

// answers is all that a map answers to many calls, the same ones for the same seed.
func answers(seed uint64) []int {
	var l []int
	g, next := gmap.New(), chance(seed)
	for range 2000 {
		page, p := pick(next)
		if next(5) < 2 {
			l = append(l, int(g.Drop(page)))
		} else {
			l = append(l, int(g.Set(page, p)))
		}
		got, _ := g.Get(page)
		l = append(l, got.Frame, got.Rights, g.Allows(page, next(4)))
		l = append(l, g.Pages()...)
	}
	return l
}

func TestAnswersHangOnTheCallsAlone(t *testing.T) { // P5: the same calls on many maps at once
	want := answers(5)
	var wait sync.WaitGroup
	for range 8 {
		wait.Go(func() {
			if got := answers(5); !slices.Equal(got, want) {
				t.Errorf("the same calls: %v, then %v", want, got)
			}
		})
	}
	wait.Wait()
}

// TestAnyArguments calls all with all wild arguments, on what was made and on what was not: that none panics is what it asks (P1).
func TestAnyArguments(t *testing.T) {
	for _, g := range []*gmap.Map{nil, new(gmap.Map), made(t)} {
		for _, a := range wild {
			for _, b := range wild {
				g.Allows(a, b)
				for _, c := range wild {
					g.Set(a, api.Place{Frame: b, Rights: c})
				}
				g.Get(a)
				g.Pages()
				g.Drop(b)
			}
		}
	}
}
