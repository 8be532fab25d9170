package walk_test

import (
	"bytes"
	"math"
	"slices"
	"sync"
	"testing"

	"hermitage/api"
	"hermitage/frames"
	"hermitage/gmap"
	"hermitage/view"
	"hermitage/walk"
)

// The numbers of the chapter and of the document's limits.
const (
	own    = 8
	pages  = 12
	size   = 64
	words  = 16
	ends   = 16384 // of all addresses by tables
	beyond = pages * size
)

const rd, wr, rw = api.RRead, api.RWrite, api.RRead | api.RWrite

var (
	// roots is numbers that roots are tried with: the least and the greatest, those about each edge, and such as come to a page if bits are cut off.
	roots = []int{
		math.MinInt, math.MinInt + 1, math.MinInt + 64, -1 << 58, -1<<58 + 1, -1 << 32, -1<<32 + 1, math.MinInt32, -1 << 26, -1<<26 + 1, -512, -256, -255, -64, -63, -32, -31, -16, -12, -8, -7, -6, -5, -4, -3, -2, -1,
		0, 1, 2, 3, 4, 5, 6, 7, 8, 9, 10, 11, 12, 13, 15, 16, 17, 31, 32, 33, 63, 64, 65, 128, 192, 255, 256, 257, 512, 768, 1 << 16, 1<<16 + 1,
		1 << 26, 1<<26 + 1, 1<<26 + 7, 1<<31 - 1, 1 << 31, 1<<32 - 8, 1<<32 - 1, 1 << 32, 1<<32 + 1, 1<<32 + 7, 1 << 58, 1<<58 + 1, 1<<58 + 7, math.MaxInt - 64, math.MaxInt - 1, math.MaxInt,
	}

	// far is addresses beyond all, and those about the ends of what there is.
	far = []uint32{
		beyond - 1, beyond, beyond + 1, 1023, 1024, ends - 1025, ends - 1024, ends - 65, ends - 64, ends - 2, ends - 1, ends, ends + 1, ends + 5, ends + 64, ends + 1024, 2*ends - 1, 2 * ends,
		1 << 16, 1<<16 + 69, 1 << 24, 1<<31 - 1, 1 << 31, 1<<31 + 69, math.MaxUint32 - ends + 1, math.MaxUint32 - 1023, math.MaxUint32 - 63, math.MaxUint32 - 1, math.MaxUint32,
	}

	// kinds is kinds of accesses, and numbers that are none.
	kinds = []int{api.KFetch, api.KLoad, api.KStore, math.MinInt, -1 << 32, -256, -1, 3, 4, 7, 8, 255, 256, 257, 1 << 32, 1<<32 + 1, math.MaxInt}
)

// model is what the chapters say of a guest's memory: its bytes, and where pages lie. A nil one is that of a view that is none.
type model struct {
	frames [][size]byte
	places map[int]api.Place
}

// word is a word of a table; false, if that page is no table.
func (m *model) word(page, place int) (uint32, bool) {
	if m == nil || page < 0 || page > 7 {
		return 0, false
	}
	p, there := m.places[page]
	if !there || p.Frame >= len(m.frames) {
		return 0, false
	}
	n := uint32(0)
	for i := 3; i >= 0; i-- {
		n = n*256 + uint32(m.frames[p.Frame][4*place+i])
	}
	return n, true
}

// entry is the entry of a word, and the fault of one that is none.
func entry(w uint32) (api.Pte, int) {
	if w%2 == 0 {
		return api.Pte{}, api.FInvalid
	}
	rights, page := w/2%16, w/256%32
	if w != 1+2*rights+256*page {
		return api.Pte{}, api.FForm
	}
	return api.Pte{On: true, Rights: int(rights), Page: int(page)}, api.FOk
}

func (m *model) walk(root int, va uint32) api.Step {
	if va >= 16384 {
		return api.Step{Fault: api.FRange, Root: -1, Leaf: -1}
	}
	w, ok := m.word(root, int(va/1024))
	if !ok {
		return api.Step{Fault: api.FTable, Root: -1, Leaf: -1}
	}
	p, fault := entry(w)
	if fault == api.FOk && p.Rights != 0 {
		fault = api.FForm
	}
	if fault != api.FOk {
		return api.Step{Fault: fault, Root: root, Leaf: -1}
	}
	if w, ok = m.word(p.Page, int(va/64)%16); !ok {
		return api.Step{Fault: api.FTable, Root: root, Leaf: -1}
	}
	leaf := p.Page
	p, fault = entry(w)
	if fault == api.FOk && p.Rights%8 == 0 {
		fault = api.FForm
	}
	if fault != api.FOk {
		return api.Step{Fault: fault, Root: root, Leaf: leaf}
	}
	return api.Step{P: p, Root: root, Leaf: leaf}
}

// lies is where a guest's own address lies.
func (m *model) lies(pa uint32, kind int) (api.Hit, int) {
	if m == nil {
		return api.Hit{}, api.FAbsent
	}
	if pa >= 768 {
		return api.Hit{}, api.FRange
	}
	page := int(pa / 64)
	p, there := m.places[page]
	if !there {
		return api.Hit{}, api.FAbsent
	}
	switch {
	case kind == api.KFetch && page < 8:
	case kind == api.KLoad && (p.Rights == 1 || p.Rights == 3):
	case kind == api.KStore && (p.Rights == 2 || p.Rights == 3):
	default:
		return api.Hit{}, api.FPerm
	}
	if p.Frame >= len(m.frames) {
		return api.Hit{}, api.FAbsent
	}
	return api.Hit{Page: page, Frame: p.Frame, Off: int(pa % 64)}, api.FOk
}

func (m *model) find(mode api.Mode, va uint32, kind int) (api.Hit, int) {
	if !mode.On {
		return m.lies(va, kind)
	}
	s := m.walk(mode.Root, va)
	if s.Fault != api.FOk {
		return api.Hit{}, s.Fault
	}
	right := map[int]int{api.KFetch: api.RExec, api.KLoad: api.RRead, api.KStore: api.RWrite}[kind]
	if s.P.Rights&right == 0 || mode.User && s.P.Rights < api.RUser {
		return api.Hit{}, api.FPerm
	}
	return m.lies(uint32(64*s.P.Page)+va%64, kind)
}

// laid is a view of pages that lie there, in as many frames of zeros.
func laid(t *testing.T, n int, places map[int]api.Place) (*view.View, *model) {
	t.Helper()
	s, e := frames.New(n)
	if e != api.OK {
		t.Fatalf("frames.New(%d): %d", n, e)
	}
	m := &model{make([][size]byte, n), make(map[int]api.Place)}
	g := gmap.New()
	for page, p := range places {
		if e := g.Set(page, p); e != api.OK {
			t.Fatalf("gmap.Set(%d, %v): %d", page, p, e)
		}
		m.places[page] = p
	}
	v, e := view.New(s, g)
	if v == nil || e != api.OK {
		t.Fatalf("view.New: %d", e)
	}
	return v, m
}

// put lays a word into a frame of the view and of the model alike, past the guest's rights.
func put(t *testing.T, v *view.View, m *model, frame, place int, w uint32) {
	t.Helper()
	if e := v.Store().Save(frame, 4*place, 4, w); e != api.OK {
		t.Fatalf("frames.Save(%d, %d): %d", frame, 4*place, e)
	}
	for i := range 4 {
		m.frames[frame][4*place+i] = byte(w)
		w /= 256
	}
}

// set lays a word into a page.
func set(t *testing.T, v *view.View, m *model, page, place int, w uint32) {
	t.Helper()
	put(t, v, m, m.places[page].Frame, place, w)
}

// chance is a row of numbers that look like chance, each below what is asked; the same ones for the same seed.
func chance(seed uint64) func(int) int {
	return func(below int) int {
		seed = seed*6364136223846793005 + 1442695040888963407
		return int(seed >> 33 % uint64(below))
	}
}

// someWord is mostly an entry, of a root's or of a leaf's.
func someWord(next func(int) int) uint32 {
	switch next(12) {
	case 0:
		return uint32(next(1<<30))*4 + uint32(next(4))
	case 1:
		return 1 + 2*uint32(next(16)) + 256*uint32(next(32)) + 1<<next(32)
	case 2:
		return 2*uint32(next(16)) + 256*uint32(next(32))
	case 3, 4, 5, 6:
		return 1 + 256*uint32(next(own+1))
	case 7:
		return 1 + 256*uint32(next(32))
	case 8:
		return 1 + 2*uint32(next(16)) + 256*uint32(next(32))
	}
	return 1 + 2*uint32(1+next(15)) + 256*uint32(next(pages+1))
}

// filled lays such words into all frames.
func filled(t *testing.T, v *view.View, m *model, seed uint64) (*view.View, *model) {
	t.Helper()
	next := chance(seed)
	for f := range m.frames {
		for place := range words {
			put(t, v, m, f, place, someWord(next))
		}
	}
	return v, m
}

// whole is a view whose pages are all there, to be read and written, the later ones in the lower frames.
func whole(t *testing.T) (*view.View, *model) {
	t.Helper()
	l := make(map[int]api.Place)
	for page := range pages {
		l[page] = api.Place{Frame: pages - page, Rights: rw}
	}
	v, m := laid(t, pages+2, l)
	return filled(t, v, m, 1)
}

// mixed is a view of pages with all rights, of some that are not there, and of some in frames that are not.
func mixed(t *testing.T) (*view.View, *model) {
	t.Helper()
	v, m := laid(t, 9, map[int]api.Place{
		0: {Frame: 8, Rights: rd}, 1: {Frame: 0, Rights: wr}, 2: {Frame: 5, Rights: rw}, 4: {Frame: 9, Rights: rw}, 5: {Frame: 2, Rights: wr}, 7: {Frame: 3, Rights: rd},
		8: {Frame: 4, Rights: rd}, 9: {Frame: 6, Rights: wr}, 10: {Frame: 31, Rights: rw}, 11: {Frame: 7, Rights: rw},
	})
	return filled(t, v, m, 2)
}

// shared is a view of pages of which several lie in one frame, own ones and a ring's.
func shared(t *testing.T) (*view.View, *model) {
	t.Helper()
	v, m := laid(t, 3, map[int]api.Place{0: {Frame: 1, Rights: rw}, 1: {Frame: 1, Rights: rd}, 2: {Frame: 2, Rights: rd}, 3: {Frame: 1, Rights: rw}, 9: {Frame: 1, Rights: rw}})
	return filled(t, v, m, 3)
}

// least is a view of one frame, in which one page lies.
func least(t *testing.T) (*view.View, *model) {
	t.Helper()
	v, m := laid(t, 1, map[int]api.Place{7: {Frame: 0, Rights: rw}})
	for place := range words {
		put(t, v, m, 0, place, []uint32{0x701, 0x70F, 0x703, 0x71D, 0x801}[place%5])
	}
	return v, m
}

// rings is a view of no pages but rings'.
func rings(t *testing.T) (*view.View, *model) {
	t.Helper()
	v, m := laid(t, 4, map[int]api.Place{8: {Frame: 0, Rights: rw}, 9: {Frame: 1, Rights: rw}, 10: {Frame: 2, Rights: rw}, 11: {Frame: 3, Rights: rw}})
	return filled(t, v, m, 4)
}

// empty is a view of no pages.
func empty(t *testing.T) (*view.View, *model) {
	t.Helper()
	v, m := laid(t, 32, nil)
	return filled(t, v, m, 5)
}

var views = []func(*testing.T) (*view.View, *model){whole, mixed, shared, least, rings, empty}

// walked asks for a walk, and is what it came to.
func walked(t *testing.T, v *view.View, m *model, root int, va uint32) api.Step {
	t.Helper()
	s := walk.Walk(v, root, va)
	if want := m.walk(root, va); s != want {
		t.Fatalf("Walk(%d, %d): %v, not %v", root, va, s, want)
	}
	return s
}

// found asks where an address lies, and is what was answered.
func found(t *testing.T, v *view.View, m *model, mode api.Mode, va uint32, kind int) (api.Hit, int) {
	t.Helper()
	h, fault := walk.Find(v, mode, va, kind)
	if want, wrong := m.find(mode, va, kind); h != want || fault != wrong {
		t.Fatalf("Find(%v, %d, %d): %v %d, not %v %d", mode, va, kind, h, fault, want, wrong)
	}
	return h, fault
}

// same asks what the store and the map have, and that no page was written.
func same(t *testing.T, v *view.View, m *model) {
	t.Helper()
	s, g := v.Store(), v.Map()
	if n := s.Len(); n != len(m.frames) {
		t.Fatalf("%d frames, not %d", n, len(m.frames))
	}
	for f := range m.frames {
		if b, e := s.Bytes(f); e != api.OK || !bytes.Equal(b, m.frames[f][:]) {
			t.Fatalf("frame %d: %d %v, not %v", f, e, b, m.frames[f])
		}
	}
	for page := range pages {
		p, ok := g.Get(page)
		if want, there := m.places[page]; p != want || ok != there {
			t.Fatalf("page %d: %v %v, not %v %v", page, p, ok, want, there)
		}
	}
	if l := v.Dirty(); len(l) != 0 {
		t.Fatalf("Dirty: %v", l)
	}
}

// agree asks for all places of all tables, as all kinds of accesses, and for all that lies behind.
func agree(t *testing.T, v *view.View, m *model) {
	t.Helper()
	for _, root := range []int{-1, 0, 1, 2, 3, 4, 5, 6, 7, 8, 9, 11, 12} {
		for va := uint32(0); va < ends+128; va += 64 {
			walked(t, v, m, root, va+va/64%64)
			for _, kind := range kinds[:5] {
				found(t, v, m, api.Mode{On: true, Root: root}, va+va/64%64, kind)
				found(t, v, m, api.Mode{On: true, Root: root, User: true}, va+63-va/64%64, kind)
			}
		}
	}
	for va := range uint32(beyond + 70) {
		for _, kind := range kinds {
			found(t, v, m, api.Mode{}, va, kind)
		}
	}
	if v != nil {
		same(t, v, m)
	}
}

func TestTheLimits(t *testing.T) { // the numbers of the chapter that package api has
	if own != api.OwnPages || pages != api.MaxPages || size != api.FrameBytes || words != api.FrameWords || ends != api.VaBytes {
		t.Error("the limits are others")
	}
}

func TestAgree(t *testing.T) { // P17.1, P17.2, P17.3
	for _, of := range views {
		v, m := of(t)
		agree(t, v, m)
	}
}

// plain is the chapter's example, and some more: root 1, leaf tables 2 and 5; page 3 in frame 9.
func plain(t *testing.T) (*view.View, *model) {
	t.Helper()
	l := map[int]api.Place{3: {Frame: 9, Rights: rw}, 8: {Frame: 3, Rights: rd}, 9: {Frame: 8, Rights: wr}}
	for page, f := range map[int]int{0: 7, 1: 5, 2: 0, 5: 1, 6: 4, 7: 2} {
		l[page] = api.Place{Frame: f, Rights: rw}
	}
	v, m := laid(t, 10, l)
	set(t, v, m, 1, 0, 0x201)
	set(t, v, m, 1, 1, 0x501)
	set(t, v, m, 1, 15, 0x201)
	set(t, v, m, 2, 0, 0x303)
	set(t, v, m, 2, 1, 0x61F)
	set(t, v, m, 2, 15, 0x711)
	set(t, v, m, 5, 1, 0x01B)
	set(t, v, m, 5, 15, 0x817)
	return v, m
}

// mapping is an entry that is one.
func mapping(rights, page int) api.Pte {
	return api.Pte{On: true, Rights: rights, Page: page}
}

func TestWalkByHand(t *testing.T) { // P17.1, and the example
	v, m := plain(t)
	for _, x := range []struct {
		va   uint32
		want api.Step
	}{
		{5, api.Step{P: mapping(rd, 3), Root: 1, Leaf: 2}},
		{0, api.Step{P: mapping(rd, 3), Root: 1, Leaf: 2}},
		{63, api.Step{P: mapping(rd, 3), Root: 1, Leaf: 2}},
		{64, api.Step{P: mapping(15, 6), Root: 1, Leaf: 2}},
		{127, api.Step{P: mapping(15, 6), Root: 1, Leaf: 2}},
		{128, api.Step{Fault: api.FInvalid, Root: 1, Leaf: 2}},
		{959, api.Step{Fault: api.FInvalid, Root: 1, Leaf: 2}},
		{960, api.Step{Fault: api.FForm, Root: 1, Leaf: 2}},
		{1023, api.Step{Fault: api.FForm, Root: 1, Leaf: 2}},
		{1024, api.Step{Fault: api.FInvalid, Root: 1, Leaf: 5}},
		{1088, api.Step{P: mapping(rd|api.RExec|api.RUser, 0), Root: 1, Leaf: 5}},
		{2047, api.Step{P: mapping(rw|api.RUser, 8), Root: 1, Leaf: 5}},
		{2048, api.Step{Fault: api.FInvalid, Root: 1, Leaf: -1}},
		{15359, api.Step{Fault: api.FInvalid, Root: 1, Leaf: -1}},
		{15360, api.Step{P: mapping(rd, 3), Root: 1, Leaf: 2}},
		{15424, api.Step{P: mapping(15, 6), Root: 1, Leaf: 2}},
		{16383, api.Step{Fault: api.FForm, Root: 1, Leaf: 2}},
		{16384, api.Step{Fault: api.FRange, Root: -1, Leaf: -1}},
		{16389, api.Step{Fault: api.FRange, Root: -1, Leaf: -1}},
		{math.MaxUint32, api.Step{Fault: api.FRange, Root: -1, Leaf: -1}},
	} {
		if s := walked(t, v, m, 1, x.va); s != x.want {
			t.Errorf("Walk(1, %d): %v, not %v", x.va, s, x.want)
		}
	}
	same(t, v, m)
}

func TestFindByHand(t *testing.T) { // P17.2, P17.3, and the example
	v, m := plain(t)
	on, user := api.Mode{On: true, Root: 1}, api.Mode{On: true, Root: 1, User: true}
	plain, low := api.Mode{Root: 1}, api.Mode{Root: 1, User: true}
	for _, x := range []struct {
		m     api.Mode
		va    uint32
		kind  int
		want  api.Hit
		fault int
	}{
		{on, 5, api.KLoad, api.Hit{Page: 3, Frame: 9, Off: 5}, api.FOk},
		{on, 5, api.KStore, api.Hit{}, api.FPerm},
		{on, 5, api.KFetch, api.Hit{}, api.FPerm},
		{user, 5, api.KLoad, api.Hit{}, api.FPerm},
		{on, 127, api.KStore, api.Hit{Page: 6, Frame: 4, Off: 63}, api.FOk},
		{user, 127, api.KStore, api.Hit{Page: 6, Frame: 4, Off: 63}, api.FOk},
		{user, 64, api.KFetch, api.Hit{Page: 6, Frame: 4}, api.FOk},
		{user, 128, api.KLoad, api.Hit{}, api.FInvalid},
		{on, 960, api.KLoad, api.Hit{}, api.FForm},
		{on, 1095, api.KFetch, api.Hit{Frame: 7, Off: 7}, api.FOk},
		{user, 1095, api.KLoad, api.Hit{Frame: 7, Off: 7}, api.FOk},
		{user, 1095, api.KStore, api.Hit{}, api.FPerm},
		{on, 1984, api.KLoad, api.Hit{Page: 8, Frame: 3}, api.FOk},
		{on, 1984, api.KStore, api.Hit{}, api.FPerm}, // the entry allows it, the map does not
		{on, 1984, 3, api.Hit{}, api.FPerm},
		{on, 16384, api.KLoad, api.Hit{}, api.FRange},
		{api.Mode{On: true}, 5, api.KLoad, api.Hit{}, api.FInvalid},
		{api.Mode{On: true, Root: 4}, 5, api.KLoad, api.Hit{}, api.FTable},
		{api.Mode{On: true, Root: 8}, 5, api.KLoad, api.Hit{}, api.FTable},
		{plain, 5, api.KStore, api.Hit{Page: 0, Frame: 7, Off: 5}, api.FOk},
		{low, 5, api.KStore, api.Hit{Page: 0, Frame: 7, Off: 5}, api.FOk},
		{low, 65, api.KFetch, api.Hit{Page: 1, Frame: 5, Off: 1}, api.FOk},
		{plain, 256, api.KLoad, api.Hit{}, api.FAbsent},
		{plain, 512, api.KLoad, api.Hit{Page: 8, Frame: 3}, api.FOk},
		{plain, 512, api.KStore, api.Hit{}, api.FPerm},
		{plain, 639, api.KStore, api.Hit{Page: 9, Frame: 8, Off: 63}, api.FOk},
		{plain, 639, api.KFetch, api.Hit{}, api.FPerm},
		{plain, 768, api.KLoad, api.Hit{}, api.FRange},
		{plain, 16384, api.KLoad, api.Hit{}, api.FRange},
	} {
		if h, fault := found(t, v, m, x.m, x.va, x.kind); h != x.want || fault != x.fault {
			t.Errorf("Find(%v, %d, %d): %v %d, not %v %d", x.m, x.va, x.kind, h, fault, x.want, x.fault)
		}
	}
	same(t, v, m)
}

func TestEachAddress(t *testing.T) { // P17.1, P17.2: each has its place in the root, in the leaf table, and in the page
	v, m := laid(t, 32, map[int]api.Place{0: {Frame: 30, Rights: rw}, 1: {Frame: 31, Rights: rw}, 2: {Frame: 7, Rights: rw}, 6: {Frame: 0, Rights: rw}, 7: {Frame: 12, Rights: rw}, 10: {Frame: 3, Rights: rw}})
	for place := range words {
		set(t, v, m, 6, place, []uint32{0x101, 0x201, 0x701}[place%3])
		set(t, v, m, 1, place, []uint32{0x01F, 0xA1F, 0x21F, 0x003, 0x705}[place%5])
		set(t, v, m, 2, place, []uint32{0x70F, 0x109, 0x61F, 0x605}[place%4])
		set(t, v, m, 7, place, 1+2*uint32(place)+256*uint32(place+4))
	}
	for va := range uint32(ends + 200) {
		walked(t, v, m, 6, va)
		for _, kind := range kinds[:3] {
			found(t, v, m, api.Mode{On: true, Root: 6}, va, kind)
			found(t, v, m, api.Mode{On: true, Root: 6, User: true}, va, kind)
			found(t, v, m, api.Mode{Root: 6, User: true}, va, kind)
		}
	}
	for _, va := range far {
		for root := range own + 1 {
			walked(t, v, m, root, va)
			for _, kind := range kinds {
				found(t, v, m, api.Mode{On: true, Root: root}, va, kind)
				found(t, v, m, api.Mode{Root: root}, va, kind)
			}
		}
	}
	same(t, v, m)
}

func TestEachPlaceApart(t *testing.T) { // P17.1: one entry of the root, one of the leaf table, and nothing else leads there
	for i := range words {
		for k := range words {
			v, m := laid(t, 2, map[int]api.Place{4: {Frame: 1, Rights: rw}, 5: {Frame: 0, Rights: rw}})
			set(t, v, m, 4, i, 0x501)
			set(t, v, m, 5, k, 0x403)
			for va := uint32(63); va < ends; va += 64 {
				s := walked(t, v, m, 4, va)
				if (s.Fault == api.FOk) != (int(va) == 1024*i+64*k+63) {
					t.Fatalf("entries %d and %d: Walk(4, %d): %v", i, k, va, s)
				}
			}
		}
	}
}

func TestEachWordOfARoot(t *testing.T) { // P17.1: pte.Table's faults, and pages that are no tables; Root is told, Leaf is not
	for _, of := range []func(*testing.T) (*view.View, *model){plain, mixed} {
		v, m := of(t)
		try := func(w uint32) {
			set(t, v, m, 1, 1, w)
			for _, va := range []uint32{1024, 1095, 2047} {
				if s := walked(t, v, m, 1, va); s.Root != 1 {
					t.Fatalf("Walk of %X: %v", w, s)
				}
				found(t, v, m, api.Mode{On: true, Root: 1}, va, api.KLoad)
			}
		}
		for w := range uint32(1 << 14) {
			try(w)
		}
		for bit := range 32 {
			for page := range uint32(32) {
				try(1<<bit | 256*page | 1)
				try(1<<bit ^ (256*page | 1))
				try(^(1<<bit ^ 256*page))
			}
		}
		set(t, v, m, 1, 1, 0)
		same(t, v, m)
	}
}

func TestEachWordOfALeaf(t *testing.T) { // P17.1, P17.2: pte.Leaf's faults; both tables are told
	for _, of := range []func(*testing.T) (*view.View, *model){plain, mixed} {
		v, m := of(t)
		set(t, v, m, 1, 1, 0x501)
		try := func(w uint32) {
			set(t, v, m, 5, 2, w)
			s := walked(t, v, m, 1, 1152)
			if s.Root != 1 || s.Leaf != 5 || (s.P == api.Pte{}) != (s.Fault != api.FOk) {
				t.Fatalf("Walk of %X: %v", w, s)
			}
			for _, kind := range kinds[:4] {
				found(t, v, m, api.Mode{On: true, Root: 1}, 1153, kind)
				found(t, v, m, api.Mode{On: true, Root: 1, User: true}, 1215, kind)
			}
		}
		for w := range uint32(1 << 14) {
			try(w)
		}
		for bit := range 32 {
			for page := range uint32(32) {
				try(1<<bit | 256*page | 7)
				try(1<<bit ^ (256*page | 1))
				try(^(1<<bit ^ 256*page))
			}
		}
	}
}

func TestEachRoot(t *testing.T) { // P17.1, P17.2, P6: FTable of none, whatever is left if bits are cut off; FRange goes ahead
	for _, of := range views {
		v, m := of(t)
		for _, root := range roots {
			for _, va := range append([]uint32{0, 5, 64, 512, 1024, 1100, 5000, 9999}, far...) {
				s := walked(t, v, m, root, va)
				if root < 0 || root >= own {
					want := api.FTable
					if va >= ends {
						want = api.FRange
					}
					if s != (api.Step{Fault: want, Root: -1, Leaf: -1}) {
						t.Fatalf("Walk(%d, %d): %v", root, va, s)
					}
				}
				for _, kind := range kinds {
					found(t, v, m, api.Mode{On: true, Root: root}, va, kind)
					found(t, v, m, api.Mode{On: true, Root: root, User: true}, va, kind)
					found(t, v, m, api.Mode{Root: root}, va, kind) // of no matter without tables
				}
			}
		}
		same(t, v, m)
	}
}

func TestTablesInAnyPage(t *testing.T) { // P17.1, P17.3: the guest's own that are there, in frames that there are; whatever rights it has to them
	for root := range pages + 2 {
		for leaf := range pages + 2 {
			for rights := 1; rights < 4; rights++ {
				for _, gone := range []bool{false, true} {
					places := make(map[int]api.Place)
					for page := range pages {
						places[page] = api.Place{Frame: 11 - page, Rights: rights}
					}
					if gone {
						delete(places, leaf)
					}
					v, m := laid(t, pages, places)
					for page := range places {
						set(t, v, m, page, 3, 1+256*uint32(leaf))
						set(t, v, m, page, 4, 0x00F)
					}
					s := walked(t, v, m, root, 3*1024+4*64+9)
					isRoot := root < own && !(gone && root == leaf)
					isLeaf := isRoot && leaf < own && !gone
					if (s.Root == root) != isRoot || (s.Leaf == leaf) != isLeaf || (s.Fault == api.FOk) != isLeaf || !isLeaf && s.Fault != api.FTable {
						t.Fatalf("root %d, leaf %d, gone %v: %v", root, leaf, gone, s)
					}
					for _, kind := range kinds[:3] {
						found(t, v, m, api.Mode{On: true, Root: root}, 3*1024+4*64+9, kind)
					}
				}
			}
		}
	}
}

func TestTablesInFramesThatAreNot(t *testing.T) { // P17.1: they can't be read
	for f := range 32 {
		v, m := laid(t, 6, map[int]api.Place{1: {Frame: 5, Rights: rw}, 2: {Frame: f, Rights: rw}, 3: {Frame: 4, Rights: rw}})
		set(t, v, m, 1, 0, 0x201)
		set(t, v, m, 1, 1, 0x301)
		if f < 6 {
			set(t, v, m, 2, 0, 0x201) // in frame 5, it is the root itself
		}
		set(t, v, m, 3, 0, 0x207)
		s := walked(t, v, m, 1, 7)
		if want := (api.Step{Fault: api.FTable, Root: 1, Leaf: -1}); f > 5 && s != want {
			t.Errorf("frame %d: Walk: %v", f, s)
		}
		if s := walked(t, v, m, 2, 7); f > 5 && s != (api.Step{Fault: api.FTable, Root: -1, Leaf: -1}) {
			t.Errorf("frame %d: Walk from there on: %v", f, s)
		}
		if s := walked(t, v, m, 1, 1031); f > 5 && s != (api.Step{P: mapping(rw, 2), Root: 1, Leaf: 3}) {
			t.Errorf("frame %d: Walk of what lies there: %v", f, s)
		}
		if h, fault := found(t, v, m, api.Mode{On: true, Root: 1}, 1031, api.KLoad); f > 5 && (h != api.Hit{} || fault != api.FAbsent) {
			t.Errorf("frame %d: Find of what lies there: %v %d", f, h, fault)
		}
	}
}

func TestOrderOfFaults(t *testing.T) { // P17.1, P17.2, P2: of several the first
	v, m := laid(t, 4, map[int]api.Place{0: {Frame: 0, Rights: wr}, 1: {Frame: 1, Rights: rw}, 2: {Frame: 9, Rights: rd}, 8: {Frame: 2, Rights: rd}})
	for place, w := range []uint32{0x101, 0x100, 0x103, 0x121, 0x302, 0x801, 0x301, 0x202, 0x203, 0x201, 0x123, 0x122} {
		set(t, v, m, 0, place, w)
	}
	for place, w := range []uint32{0x003, 0x005, 0x002, 0x011, 0x031, 0x030, 0x803, 0x805, 0x207, 0x303, 0xC03, 0x1F1F, 0x809, 0x205} {
		set(t, v, m, 1, place, w)
	}
	on, user := api.Mode{On: true}, api.Mode{On: true, User: true}
	for _, x := range []struct {
		m    api.Mode
		va   uint32
		kind int
		want int
	}{
		{api.Mode{On: true, Root: 3}, ends, 9, api.FRange},
		{api.Mode{On: true, Root: 3, User: true}, 0, 9, api.FTable},
		{api.Mode{On: true, Root: 8}, 0, 9, api.FTable},
		{user, 1024, 9, api.FInvalid},
		{user, 2048, 9, api.FForm},
		{user, 3072, 9, api.FForm},
		{user, 4096, 9, api.FInvalid}, // of page 3, which is not there, and with rights
		{user, 5120, 9, api.FTable},   // a ring's
		{user, 6144, 9, api.FTable},   // one that is not there
		{user, 7168, 9, api.FInvalid},
		{user, 8192, 9, api.FForm},
		{user, 9216, 9, api.FTable}, // in a frame that is not
		{user, 10240, 9, api.FForm},
		{user, 11264, 9, api.FInvalid}, // bits that can't be, but it is none
		{user, 128, 9, api.FInvalid},
		{user, 192, 9, api.FForm}, // for nothing but the user
		{user, 256, 9, api.FForm},
		{user, 320, 9, api.FInvalid},
		{user, 384, api.KLoad, api.FPerm},
		{on, 0, api.KLoad, api.FPerm}, // the entry allows it, the map does not
		{on, 0, api.KStore, api.FPerm},
		{on, 64, api.KStore, api.FOk},
		{user, 64, api.KStore, api.FPerm},
		{on, 384, api.KLoad, api.FOk},
		{on, 448, api.KStore, api.FPerm},
		{on, 512, api.KLoad, api.FAbsent},
		{on, 512, api.KStore, api.FPerm}, // the map's right goes ahead of the frame
		{on, 832, api.KStore, api.FPerm},
		{on, 576, api.KLoad, api.FAbsent},
		{on, 576, api.KStore, api.FPerm}, // the entry's right goes ahead
		{on, 640, api.KLoad, api.FRange}, // the first page that can't be
		{on, 640, api.KStore, api.FPerm},
		{user, 640, api.KLoad, api.FPerm},
		{user, 704, api.KFetch, api.FRange},
		{user, 704, 9, api.FPerm},
		{on, 768, api.KFetch, api.FPerm}, // the entry allows it, but nothing is fetched from rings
	} {
		h, fault := found(t, v, m, x.m, x.va, x.kind)
		if fault != x.want || fault != api.FOk && h != (api.Hit{}) {
			t.Errorf("Find(%v, %d, %d): %v %d, not %d", x.m, x.va, x.kind, h, fault, x.want)
		}
		if m.walk(x.m.Root, x.va).Fault != api.FOk && m.walk(x.m.Root, x.va).Fault != x.want {
			t.Errorf("the model of %v, %d: %v", x.m, x.va, m.walk(x.m.Root, x.va))
		}
	}
	same(t, v, m)
}

func TestEachRightAndKind(t *testing.T) { // P17.2: the entry's right, the user's, and the map's
	for rights := 1; rights < 16; rights++ {
		for mapped := 1; mapped < 4; mapped++ {
			for _, page := range []int{0, 3, 7, 8, 11} {
				v, m := laid(t, 3, map[int]api.Place{1: {Frame: 0, Rights: rw}, page: {Frame: 2, Rights: mapped}})
				set(t, v, m, 1, 8, 0x101)
				set(t, v, m, 1, 0, 1+2*uint32(rights)+256*uint32(page))
				for _, kind := range kinds {
					for _, user := range []bool{false, true} {
						h, fault := found(t, v, m, api.Mode{On: true, Root: 1, User: user}, 8192+17, kind)
						allowed := kind == api.KFetch && rights&api.RExec != 0 && page < own ||
							kind == api.KLoad && rights&mapped&rd != 0 ||
							kind == api.KStore && rights&mapped&wr != 0
						if user && rights&api.RUser == 0 {
							allowed = false
						}
						if allowed && (fault != api.FOk || h != api.Hit{Page: page, Frame: 2, Off: 17}) || !allowed && (rights&7 == 0) != (fault == api.FForm) || !allowed && rights&7 != 0 && fault != api.FPerm {
							t.Fatalf("rights %d, %d, page %d, kind %d, user %v: %v %d", rights, mapped, page, kind, user, h, fault)
						}
					}
				}
			}
		}
	}
}

func TestRootThatIsItsOwnLeaf(t *testing.T) { // P17.1: one page may be both
	v, m := laid(t, 1, map[int]api.Place{7: {Frame: 0, Rights: rw}})
	set(t, v, m, 7, 0, 0x701)
	set(t, v, m, 7, 1, 0x707)
	if s := walked(t, v, m, 7, 64); s != (api.Step{P: mapping(rw, 7), Root: 7, Leaf: 7}) {
		t.Errorf("Walk: %v", s)
	}
	if s := walked(t, v, m, 7, 0); s != (api.Step{Fault: api.FForm, Root: 7, Leaf: 7}) {
		t.Errorf("Walk of the root's own entry: %v", s)
	}
	if s := walked(t, v, m, 7, 1024); s != (api.Step{Fault: api.FForm, Root: 7, Leaf: -1}) {
		t.Errorf("Walk of the leaf's entry: %v", s)
	}
	if h, fault := found(t, v, m, api.Mode{On: true, Root: 7}, 68, api.KStore); h != (api.Hit{Page: 7, Off: 4}) || fault != api.FOk {
		t.Errorf("Find of the table itself: %v %d", h, fault)
	}
}

func TestTablesAreReadAnew(t *testing.T) { // P4, P5: what is done to the memory and to the map is seen at once
	v, m := plain(t)
	on := api.Mode{On: true, Root: 1}
	found(t, v, m, on, 5, api.KLoad)
	set(t, v, m, 2, 0, 0x607)
	if h, fault := found(t, v, m, on, 5, api.KStore); h != (api.Hit{Page: 6, Frame: 4, Off: 5}) || fault != api.FOk {
		t.Errorf("Find behind another entry: %v %d", h, fault)
	}
	set(t, v, m, 1, 0, 0x701)
	if s := walked(t, v, m, 1, 5); s != (api.Step{Fault: api.FInvalid, Root: 1, Leaf: 7}) {
		t.Errorf("Walk behind another table: %v", s)
	}
	v.Map().Drop(7)
	delete(m.places, 7)
	if s := walked(t, v, m, 1, 5); s != (api.Step{Fault: api.FTable, Root: 1, Leaf: -1}) {
		t.Errorf("Walk without that table: %v", s)
	}
	v.Map().Set(7, api.Place{Frame: 0, Rights: wr})
	m.places[7] = api.Place{Frame: 0, Rights: wr}
	if s := walked(t, v, m, 1, 5); s != (api.Step{P: mapping(rw, 6), Root: 1, Leaf: 7}) {
		t.Errorf("Walk by another frame: %v", s)
	}
	v.Map().Drop(1)
	delete(m.places, 1)
	if s := walked(t, v, m, 1, 5); s != (api.Step{Fault: api.FTable, Root: -1, Leaf: -1}) {
		t.Errorf("Walk without the root: %v", s)
	}
	agree(t, v, m)
}

// nothing asks all of a view that is none, and behind each call that it is none still.
func nothing(t *testing.T, v *view.View) {
	t.Helper()
	for _, root := range roots {
		for _, va := range append([]uint32{0, 5, 63, 64, 511, 512, 767, 768, 1024, 5000}, far...) {
			want := api.FTable
			if va >= ends {
				want = api.FRange
			}
			if s := walked(t, v, nil, root, va); s != (api.Step{Fault: want, Root: -1, Leaf: -1}) {
				t.Fatalf("Walk(%d, %d): %v", root, va, s)
			}
			for _, kind := range kinds {
				for _, user := range []bool{false, true} {
					if h, fault := found(t, v, nil, api.Mode{On: true, Root: root, User: user}, va, kind); h != (api.Hit{}) || fault != want {
						t.Fatalf("Find by tables from %d on, %d: %v %d", root, va, h, fault)
					}
					if h, fault := found(t, v, nil, api.Mode{Root: root, User: user}, va, kind); h != (api.Hit{}) || fault != api.FAbsent {
						t.Fatalf("Find(%d): %v %d", va, h, fault)
					}
				}
			}
		}
	}
	if v.Store() != nil || v.Map() != nil {
		t.Errorf("it is one now: %v %v", v.Store(), v.Map())
	}
}

func TestNilView(t *testing.T) { // P17.1, P17.2, P1
	nothing(t, nil)
}

func TestViewThatNoCallMade(t *testing.T) { // P17.1, P17.2, P1
	nothing(t, new(view.View))
	nothing(t, &view.View{})
	was, _ := plain(t)
	*was = view.View{}
	nothing(t, was)
}

func TestWhatItStandsOnIsMadeNoMore(t *testing.T) { // P1: no page is a table, and none panics
	for _, emptied := range []func(*view.View){
		func(v *view.View) { *v.Map() = gmap.Map{} },
		func(v *view.View) { *v.Store() = frames.Store{} },
		func(v *view.View) { *v.Map() = gmap.Map{}; *v.Store() = frames.Store{} },
	} {
		v, _ := plain(t)
		emptied(v)
		if s := walk.Walk(v, 1, 5); s != (api.Step{Fault: api.FTable, Root: -1, Leaf: -1}) {
			t.Errorf("Walk: %v", s)
		}
		if h, fault := walk.Find(v, api.Mode{On: true, Root: 1}, 5, api.KLoad); h != (api.Hit{}) || fault != api.FTable {
			t.Errorf("Find by tables: %v %d", h, fault)
		}
		if h, fault := walk.Find(v, api.Mode{}, 5, api.KLoad); h != (api.Hit{}) || fault != api.FAbsent {
			t.Errorf("Find: %v %d", h, fault)
		}
	}
}

// changed does one thing to the memory, or to the map, of the view and of the model alike.
func changed(t *testing.T, next func(int) int, v *view.View, m *model) {
	t.Helper()
	if next(4) > 0 {
		put(t, v, m, next(len(m.frames)), next(words), someWord(next))
		return
	}
	page, p := next(pages), api.Place{Frame: next(12), Rights: 1 + next(3)}
	if v.Map().Drop(page) == api.OK {
		delete(m.places, page)
	}
	if next(6) > 0 && v.Map().Set(page, p) == api.OK {
		m.places[page] = p
	}
}

// asked is a mode, an address and a kind, mostly such as lead somewhere.
func asked(next func(int) int) (api.Mode, uint32, int) {
	m := api.Mode{On: next(5) > 0, Root: next(own), User: next(3) == 0}
	va, kind := uint32(next(ends)), next(3)
	switch next(12) {
	case 0:
		m.Root = roots[next(len(roots))]
	case 1:
		va = far[next(len(far))]
	case 2:
		kind = kinds[next(len(kinds))]
	}
	if !m.On && next(4) > 0 {
		va %= beyond + 9
	}
	return m, va, kind
}

func TestManyCalls(t *testing.T) { // P17.1, P17.2, P17.3: as the model says, whatever was done ahead
	hits := 0
	for seed, of := range append(views, whole, mixed, whole) {
		v, m := of(t)
		next := chance(uint64(seed))
		for i := range 30000 {
			if next(3) == 0 {
				changed(t, next, v, m)
			}
			mode, va, kind := asked(next)
			s := walked(t, v, m, mode.Root, va)
			if s.Root >= own || s.Leaf >= own {
				t.Fatalf("a ring's page is a table: %v", s)
			}
			if _, fault := found(t, v, m, mode, va, kind); fault == api.FOk && mode.On {
				hits++
			}
			if i%500 == 0 {
				same(t, v, m)
			}
		}
		agree(t, v, m)
	}
	if hits < 1000 {
		t.Errorf("few addresses lay anywhere by tables: %d", hits)
	}
}

// answers is all that is answered to many calls, the same ones for the same seed.
func answers(v *view.View, seed uint64) []int {
	var l []int
	next := chance(seed)
	for range 5000 {
		v.Store().Save(next(v.Store().Len()), 4*next(words), 4, someWord(next))
		mode, va, kind := asked(next)
		s := walk.Walk(v, mode.Root, va)
		h, fault := walk.Find(v, mode, va, kind)
		l = append(l, s.P.Rights, s.P.Page, s.Fault, s.Root, s.Leaf, h.Page, h.Frame, h.Off, fault)
	}
	return l
}

func TestAnswersHangOnTheCallsAlone(t *testing.T) { // P5: the same calls on many views at once
	v, _ := whole(t)
	want := answers(v, 5)
	var wait sync.WaitGroup
	for range 8 {
		v, _ := whole(t)
		wait.Go(func() {
			if got := answers(v, 5); !slices.Equal(got, want) {
				t.Errorf("the same calls: %v, then %v", want, got)
			}
		})
	}
	wait.Wait()
}

func TestOneViewIsReadByMany(t *testing.T) { // P4, P5: a walk changes nothing, so that many at once are as one
	v, m := whole(t)
	var wait sync.WaitGroup
	for i := range 8 {
		wait.Go(func() {
			for va := uint32(i); va < ends; va += 31 {
				s := walk.Walk(v, i, va)
				h, fault := walk.Find(v, api.Mode{On: true, Root: i}, va, api.KLoad)
				if want, wrong := m.find(api.Mode{On: true, Root: i}, va, api.KLoad); s != m.walk(i, va) || h != want || fault != wrong {
					t.Errorf("Walk(%d, %d): %v, Find: %v %d", i, va, s, h, fault)
				}
			}
		})
	}
	wait.Wait()
	same(t, v, m)
}

// TestAnyArguments calls all with all wild arguments, on what was made and on what was not: that none panics is what it asks (P1).
func TestAnyArguments(t *testing.T) {
	made, _ := whole(t)
	for _, v := range []*view.View{nil, new(view.View), made} {
		for _, root := range roots {
			for _, n := range roots {
				walk.Walk(v, root, uint32(n))
				for _, kind := range kinds {
					for bits := range 4 {
						walk.Find(v, api.Mode{On: bits&1 != 0, Root: root, User: bits&2 != 0}, uint32(n), kind)
					}
				}
			}
		}
	}
}
