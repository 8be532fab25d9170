package view_test

import (
	"bytes"
	"math"
	"slices"
	"sync"
	"testing"

	"hermitage/api"
	"hermitage/frames"
	"hermitage/gmap"
	"hermitage/view"
)

// The numbers of the chapter and of the document's limits.
const (
	own    = 8
	pages  = 12
	size   = 64
	ends   = own * size   // of own bytes
	beyond = pages * size // of all addresses
)

const rd, wr, rw = api.RRead, api.RWrite, api.RRead | api.RWrite

var (
	// wild is numbers that widths, kinds and counts are tried with: the least and the greatest, those about each edge, and such as come to a right one if bits are cut off.
	wild = []int{
		math.MinInt, math.MinInt + 1, math.MinInt + 4, -1 << 32, -1<<32 + 4, math.MinInt32, -512, -256, -255, -64, -8, -4, -3, -2, -1,
		0, 1, 2, 3, 4, 5, 6, 7, 8, 12, 16, 32, 63, 64, 65, 127, 128, 255, 256, 257, 258, 260, 511, 512, 513, 767, 768, 769,
		1 << 16, 1<<16 + 4, math.MaxInt32, 1 << 31, 1<<32 - 512, 1<<32 - 4, 1<<32 - 1, 1 << 32, 1<<32 + 1, 1<<32 + 2, 1<<32 + 4, math.MaxInt - 512, math.MaxInt - 1, math.MaxInt,
	}

	// far is addresses beyond all pages, and those about their end.
	far = []uint32{
		beyond - 4, beyond - 2, beyond - 1, beyond, beyond + 1, beyond + 2, beyond + 4, beyond + 64, 1 << 10, 1<<10 + 5, 1 << 14, 1<<14 + 64, 1 << 16, 1<<16 + 64,
		1 << 24, 1<<31 - 64, 1<<31 - 1, 1 << 31, 1<<31 + 64, 1<<31 + 1, math.MaxUint32 - 767, math.MaxUint32 - 511, math.MaxUint32 - 63, math.MaxUint32 - 3, math.MaxUint32 - 1, math.MaxUint32,
	}
)

// model is what the chapter says of a view: its bytes, where pages lie, and which of them were written.
type model struct {
	frames  [][size]byte
	places  map[int]api.Place
	written map[int]bool
}

func (m *model) find(pa uint32, width, kind int) (api.Hit, int) {
	if width != 1 && width != 2 && width != 4 || int64(pa)%int64(width) != 0 {
		return api.Hit{}, api.FAlign
	}
	if pa >= 768 {
		return api.Hit{}, api.FRange
	}
	page, off := int(pa/64), int(pa%64)
	p, there := m.places[page]
	if !there {
		return api.Hit{}, api.FAbsent
	}
	switch {
	case kind == api.KFetch && page < 8:
	case kind == api.KLoad && (p.Rights == 1 || p.Rights == 3):
	case kind == api.KStore && (p.Rights == 2 || p.Rights == 3):
	default:
		return api.Hit{}, api.FPerm
	}
	if p.Frame >= len(m.frames) {
		return api.Hit{}, api.FAbsent
	}
	return api.Hit{Page: page, Frame: p.Frame, Off: off}, api.FOk
}

func (m *model) load(pa uint32, width int) (uint32, int) {
	h, fault := m.find(pa, width, api.KLoad)
	if fault != api.FOk {
		return 0, fault
	}
	n := uint32(0)
	for i := width - 1; i >= 0; i-- {
		n = n*256 + uint32(m.frames[h.Frame][h.Off+i])
	}
	return n, api.FOk
}

func (m *model) save(pa uint32, width int, w uint32) int {
	h, fault := m.find(pa, width, api.KStore)
	if fault != api.FOk {
		return fault
	}
	for i := range width {
		m.frames[h.Frame][h.Off+i] = byte(w % 256)
		w /= 256
	}
	m.written[h.Page] = true
	return api.FOk
}

// at is the byte that lies at an address, nil if it is no own one.
func (m *model) at(pa int) *byte {
	p, there := m.places[pa/64]
	if pa >= 512 || !there || p.Frame >= len(m.frames) {
		return nil
	}
	return &m.frames[p.Frame][pa%64]
}

func (m *model) own(pa uint32, n int) bool {
	if n < 0 || n > 512 || pa > 512 {
		return false
	}
	for i := range n {
		if m.at(int(pa)+i) == nil {
			return false
		}
	}
	return true
}

func (m *model) read(pa uint32, n int) ([]byte, bool) {
	if !m.own(pa, n) {
		return nil, false
	}
	var b []byte
	for i := range n {
		b = append(b, *m.at(int(pa) + i))
	}
	return b, true
}

func (m *model) write(pa uint32, b []byte) bool {
	if !m.own(pa, len(b)) {
		return false
	}
	for i, w := range b {
		*m.at(int(pa) + i) = w
		m.written[(int(pa)+i)/64] = true
	}
	return true
}

func (m *model) dirty() []int {
	var l []int
	for page := range pages {
		if m.written[page] {
			l = append(l, page)
		}
	}
	clear(m.written)
	return l
}

func (m *model) copied() *model {
	n := &model{slices.Clone(m.frames), make(map[int]api.Place), make(map[int]bool)}
	for page, p := range m.places {
		n.places[page] = p
	}
	for page := range m.written {
		n.written[page] = true
	}
	return n
}

// laid is a view of pages that lie there, in as many frames, all of whose bytes are others than their neighbours.
func laid(t *testing.T, n int, places map[int]api.Place) (*view.View, *model) {
	t.Helper()
	s, e := frames.New(n)
	if e != api.OK {
		t.Fatalf("frames.New(%d): %d", n, e)
	}
	m := &model{make([][size]byte, n), make(map[int]api.Place), make(map[int]bool)}
	for f := range n {
		for i := range size {
			m.frames[f][i] = byte(7*f + 3*i + f*i + 1)
			s.Save(f, i, 1, uint32(m.frames[f][i]))
		}
	}
	g := gmap.New()
	for page, p := range places {
		if e := g.Set(page, p); e != api.OK {
			t.Fatalf("gmap.Set(%d, %v): %d", page, p, e)
		}
		m.places[page] = p
	}
	v, e := view.New(s, g)
	if v == nil || e != api.OK {
		t.Fatalf("New: %d", e)
	}
	return v, m
}

// whole is a view whose pages are all there, to be read and written, the later ones in the lower frames.
func whole(t *testing.T) (*view.View, *model) {
	t.Helper()
	l := make(map[int]api.Place)
	for page := range pages {
		l[page] = api.Place{Frame: pages - page, Rights: rw}
	}
	return laid(t, pages+2, l)
}

// mixed is a view of pages with all rights, of some that are not there, and of some in frames that are not.
func mixed(t *testing.T) (*view.View, *model) {
	t.Helper()
	return laid(t, 9, map[int]api.Place{
		0: {Frame: 8, Rights: rd}, 1: {Frame: 0, Rights: wr}, 2: {Frame: 5, Rights: rw}, 4: {Frame: 9, Rights: rw}, 5: {Frame: 2, Rights: rw}, 7: {Frame: 3, Rights: rw},
		8: {Frame: 4, Rights: rd}, 9: {Frame: 6, Rights: wr}, 10: {Frame: 31, Rights: rw}, 11: {Frame: 7, Rights: rw},
	})
}

// shared is a view of pages of which several lie in one frame, own ones and a ring's.
func shared(t *testing.T) (*view.View, *model) {
	t.Helper()
	return laid(t, 3, map[int]api.Place{0: {Frame: 1, Rights: rw}, 1: {Frame: 1, Rights: rw}, 2: {Frame: 2, Rights: rd}, 3: {Frame: 1, Rights: rw}, 9: {Frame: 1, Rights: rw}})
}

// least is a view of one frame, in which one page lies.
func least(t *testing.T) (*view.View, *model) {
	t.Helper()
	return laid(t, 1, map[int]api.Place{7: {Frame: 0, Rights: rw}})
}

// none is a view of no pages.
func none(t *testing.T) (*view.View, *model) {
	t.Helper()
	return laid(t, 32, nil)
}

var views = []func(*testing.T) (*view.View, *model){whole, mixed, shared, least, none}

// agree asks all of a view that changes nothing: each address of its pages, and what its store and map have.
func agree(t *testing.T, v *view.View, m *model) {
	t.Helper()
	for pa := range uint32(beyond + 8) {
		for _, width := range []int{1, 2, 4} {
			w, fault := v.Load(pa, width)
			if want, wrong := m.load(pa, width); w != want || fault != wrong {
				t.Fatalf("Load(%d, %d): %X %d, not %X %d", pa, width, w, fault, want, wrong)
			}
		}
	}
	same(t, v, m)
}

// same asks what the store and the map have.
func same(t *testing.T, v *view.View, m *model) {
	t.Helper()
	s, g := v.Store(), v.Map()
	if n := s.Len(); n != len(m.frames) {
		t.Fatalf("%d frames, not %d", n, len(m.frames))
	}
	for f := range m.frames {
		if b, e := s.Bytes(f); e != api.OK || !bytes.Equal(b, m.frames[f][:]) {
			t.Fatalf("frame %d: %d %v, not %v", f, e, b, m.frames[f])
		}
	}
	for page := range pages {
		p, ok := g.Get(page)
		if want, there := m.places[page]; p != want || ok != there {
			t.Fatalf("page %d: %v %v, not %v %v", page, p, ok, want, there)
		}
	}
}

func find(t *testing.T, v *view.View, m *model, pa uint32, width, kind int) {
	t.Helper()
	h, fault := v.Find(pa, width, kind)
	if want, wrong := m.find(pa, width, kind); h != want || fault != wrong {
		t.Fatalf("Find(%d, %d, %d): %v %d, not %v %d", pa, width, kind, h, fault, want, wrong)
	}
}

func load(t *testing.T, v *view.View, m *model, pa uint32, width int) {
	t.Helper()
	w, fault := v.Load(pa, width)
	if want, wrong := m.load(pa, width); w != want || fault != wrong {
		t.Fatalf("Load(%d, %d): %X %d, not %X %d", pa, width, w, fault, want, wrong)
	}
}

func save(t *testing.T, v *view.View, m *model, pa uint32, width int, w uint32) {
	t.Helper()
	want := m.save(pa, width, w)
	if fault := v.Save(pa, width, w); fault != want {
		t.Fatalf("Save(%d, %d, %X): %d, not %d", pa, width, w, fault, want)
	}
}

func isOwn(t *testing.T, v *view.View, m *model, pa uint32, n int) {
	t.Helper()
	if ok, want := v.Own(pa, n), m.own(pa, n); ok != want {
		t.Fatalf("Own(%d, %d): %v, not %v", pa, n, ok, want)
	}
}

func read(t *testing.T, v *view.View, m *model, pa uint32, n int) {
	t.Helper()
	b, ok := v.Read(pa, n)
	if want, is := m.read(pa, n); !bytes.Equal(b, want) || ok != is {
		t.Fatalf("Read(%d, %d): %v %v, not %v %v", pa, n, b, ok, want, is)
	}
}

func write(t *testing.T, v *view.View, m *model, pa uint32, b []byte) {
	t.Helper()
	was := slices.Clone(b)
	want := m.write(pa, b)
	if ok := v.Write(pa, b); ok != want {
		t.Fatalf("Write(%d) of %d: %v, not %v", pa, len(b), ok, want)
	}
	if !bytes.Equal(b, was) {
		t.Fatalf("what was handed in: %v, not %v", b, was)
	}
}

func dirty(t *testing.T, v *view.View, m *model) {
	t.Helper()
	want := m.dirty()
	if l := v.Dirty(); !slices.Equal(l, want) {
		t.Fatalf("Dirty: %v, not %v", l, want)
	}
	if l := v.Dirty(); len(l) != 0 {
		t.Fatalf("Dirty, asked again: %v", l)
	}
}

// some is n bytes that are not all the same.
func some(n int, seed byte) []byte {
	b := make([]byte, n)
	for i := range b {
		b[i] = seed ^ byte(5*i+i/64)
	}
	return b
}

func TestTheLimits(t *testing.T) { // the numbers that the tests beside this one stand on
	if api.OwnPages != own || api.MaxPages != pages || api.FrameBytes != size || api.MaxFrames != 32 {
		t.Errorf("OwnPages %d, MaxPages %d, FrameBytes %d, MaxFrames %d", api.OwnPages, api.MaxPages, api.FrameBytes, api.MaxFrames)
	}
}

func TestNew(t *testing.T) { // P16.1
	s, _ := frames.New(1)
	most, _ := frames.New(32)
	empty, _ := frames.New(0)
	filled := gmap.New()
	for page := range pages {
		filled.Set(page, api.Place{Frame: 31, Rights: rd})
	}
	rows := []struct {
		name  string
		s     *frames.Store
		m     *gmap.Map
		errno api.Errno
	}{
		{"one frame, no page", s, gmap.New(), api.OK},
		{"one frame, all pages elsewhere", s, filled, api.OK},
		{"all frames", most, filled, api.OK},
		{"no frames", empty, filled, api.ErrZero},
		{"a store that is nil", nil, filled, api.ErrZero},
		{"a store that no call made", new(frames.Store), filled, api.ErrZero},
		{"a map that is nil", s, nil, api.ErrZero},
		{"a map that no call made", s, new(gmap.Map), api.ErrZero},
		{"neither", nil, nil, api.ErrZero},
		{"neither made", new(frames.Store), new(gmap.Map), api.ErrZero},
		{"no frames, no map", empty, nil, api.ErrZero},
	}
	for _, r := range rows {
		v, e := view.New(r.s, r.m)
		if e != r.errno || (v != nil) != (e == api.OK) {
			t.Errorf("%s: %v %d", r.name, v, e)
		}
		if e == api.OK && (v.Map() != r.m || v.Store() != r.s || len(v.Dirty()) != 0) {
			t.Errorf("%s: what it stands on", r.name)
		}
	}
	if l := filled.Pages(); len(l) != pages {
		t.Errorf("the map behind New: %v", l)
	}
	if !s.Clean(0) || s.Len() != 1 || !most.Clean(31) || most.Len() != 32 {
		t.Error("the stores behind New")
	}
}

func TestNewChangesNothing(t *testing.T) { // P4, P16.3
	for _, of := range views {
		v, m := of(t)
		same(t, v, m)
		for range 3 {
			w, e := view.New(v.Store(), v.Map())
			if e != api.OK {
				t.Fatalf("New: %d", e)
			}
			agree(t, w, m)
		}
		agree(t, v, m)
		dirty(t, v, m)
	}
}

func TestOfTheChapter(t *testing.T) { // P16.1, P16.3
	s, _ := frames.New(6)
	m := gmap.New()
	m.Set(1, api.Place{Frame: 5, Rights: rw})
	v, e := view.New(s, m)
	if e != api.OK {
		t.Fatalf("New: %d", e)
	}
	if f := v.Save(64, 4, 7); f != api.FOk {
		t.Errorf("Save: %d", f)
	}
	if w, f := v.Load(64, 4); w != 7 || f != api.FOk {
		t.Errorf("Load: %d %d", w, f)
	}
	if b, _ := s.Bytes(5); !bytes.Equal(b, append([]byte{7}, make([]byte, size-1)...)) {
		t.Errorf("frame 5: %v", b)
	}
	if l := v.Dirty(); !slices.Equal(l, []int{1}) {
		t.Errorf("Dirty: %v", l)
	}
	if l := v.Dirty(); len(l) != 0 {
		t.Errorf("Dirty, asked again: %v", l)
	}
}

func TestFindByHand(t *testing.T) { // P16.1, P2: each fault, and the first of several; the tests' own reckoning is held by it too
	const fetch, ld, st = api.KFetch, api.KLoad, api.KStore
	v, m := mixed(t)
	rows := []struct {
		pa          uint32
		width, kind int
		h           api.Hit
		fault       int
	}{
		{0, 4, ld, api.Hit{Frame: 8}, api.FOk},
		{60, 4, ld, api.Hit{Frame: 8, Off: 60}, api.FOk},
		{62, 2, ld, api.Hit{Frame: 8, Off: 62}, api.FOk},
		{63, 1, ld, api.Hit{Frame: 8, Off: 63}, api.FOk},
		{64, 1, st, api.Hit{Page: 1, Off: 0}, api.FOk},
		{127, 1, st, api.Hit{Page: 1, Off: 63}, api.FOk},
		{130, 2, fetch, api.Hit{Page: 2, Frame: 5, Off: 2}, api.FOk},
		{511, 1, st, api.Hit{Page: 7, Frame: 3, Off: 63}, api.FOk},
		{512, 4, ld, api.Hit{Page: 8, Frame: 4}, api.FOk},
		{576, 4, st, api.Hit{Page: 9, Frame: 6}, api.FOk},
		{764, 4, ld, api.Hit{Page: 11, Frame: 7, Off: 60}, api.FOk},
		{767, 1, st, api.Hit{Page: 11, Frame: 7, Off: 63}, api.FOk},
		{0, 0, ld, api.Hit{}, api.FAlign},
		{0, 3, ld, api.Hit{}, api.FAlign},
		{0, 8, ld, api.Hit{}, api.FAlign},
		{0, -4, ld, api.Hit{}, api.FAlign},
		{0, 1<<32 + 4, ld, api.Hit{}, api.FAlign},
		{0, 256 + 1, ld, api.Hit{}, api.FAlign},
		{1, 2, ld, api.Hit{}, api.FAlign},
		{2, 4, ld, api.Hit{}, api.FAlign},
		{63, 2, ld, api.Hit{}, api.FAlign},
		{62, 4, ld, api.Hit{}, api.FAlign},
		{769, 2, ld, api.Hit{}, api.FAlign},    // beyond all addresses, too
		{770, 4, 9, api.Hit{}, api.FAlign},     // no kind, too
		{768, 0, 9, api.Hit{}, api.FAlign},     // no width
		{193, 4, ld, api.Hit{}, api.FAlign},    // a page that is not there
		{513, 2, fetch, api.Hit{}, api.FAlign}, // nothing is fetched from rings
		{1<<32 - 1, 4, ld, api.Hit{}, api.FAlign},
		{768, 1, ld, api.Hit{}, api.FRange},
		{768, 4, 9, api.Hit{}, api.FRange},
		{768, 4, fetch, api.Hit{}, api.FRange},
		{1 << 14, 4, ld, api.Hit{}, api.FRange},
		{1<<32 - 1, 1, ld, api.Hit{}, api.FRange},
		{1<<32 - 4, 4, st, api.Hit{}, api.FRange},
		{192, 4, ld, api.Hit{}, api.FAbsent},
		{192, 4, 9, api.Hit{}, api.FAbsent},
		{384, 1, fetch, api.Hit{}, api.FAbsent},
		{0, 4, st, api.Hit{}, api.FPerm},
		{64, 4, ld, api.Hit{}, api.FPerm},
		{0, 4, 3, api.Hit{}, api.FPerm},
		{0, 4, -1, api.Hit{}, api.FPerm},
		{512, 4, st, api.Hit{}, api.FPerm},
		{512, 4, fetch, api.Hit{}, api.FPerm},
		{576, 1, ld, api.Hit{}, api.FPerm},
		{256, 4, ld, api.Hit{}, api.FAbsent}, // its frame is one past the last
		{256, 4, fetch, api.Hit{}, api.FAbsent},
		{256, 4, 3, api.Hit{}, api.FPerm}, // FPerm goes ahead
		{640, 4, st, api.Hit{}, api.FAbsent},
		{640, 4, fetch, api.Hit{}, api.FPerm},
		{64, 4, fetch, api.Hit{Page: 1}, api.FOk}, // fetched, though not to be read
	}
	for _, r := range rows {
		if h, fault := v.Find(r.pa, r.width, r.kind); h != r.h || fault != r.fault {
			t.Errorf("Find(%d, %d, %d): %v %d, not %v %d", r.pa, r.width, r.kind, h, fault, r.h, r.fault)
		}
		if h, fault := m.find(r.pa, r.width, r.kind); h != r.h || fault != r.fault {
			t.Errorf("the tests of %d, %d, %d: %v %d, not %v %d", r.pa, r.width, r.kind, h, fault, r.h, r.fault)
		}
	}
	agree(t, v, m)
	dirty(t, v, m)
}

func TestFindOfEachAddress(t *testing.T) { // P16.1: by each width, of each kind, and of such as are none
	for _, of := range views {
		v, m := of(t)
		for pa := range uint32(beyond + 80) {
			for width := -2; width < 10; width++ {
				for kind := -2; kind < 6; kind++ {
					find(t, v, m, pa, width, kind)
				}
			}
		}
		agree(t, v, m)
		dirty(t, v, m)
	}
}

func TestFindOfAnyNumbers(t *testing.T) { // P16.1, P1, P6
	for _, of := range views {
		v, m := of(t)
		for _, pa := range append([]uint32{0, 1, 2, 4, 60, 62, 63, 64, 192, 256, 320, 511, 512, 513, 576, 640}, far...) {
			for _, width := range wild {
				for _, kind := range wild {
					find(t, v, m, pa, width, kind)
				}
				load(t, v, m, pa, width)
			}
		}
		agree(t, v, m)
		dirty(t, v, m)
	}
}

func TestSaveAndLoadByHand(t *testing.T) { // P16.1: the lowest byte ahead, and nothing beside it changes
	v, m := least(t)
	b := bytes.Clone(m.frames[0][:])
	rows := []struct {
		pa    uint32
		width int
		w     uint32
		laid  []byte
		got   uint32
	}{
		{448, 4, 0x04030201, []byte{1, 2, 3, 4}, 0x04030201},
		{448, 2, 0xAABBCCDD, []byte{0xDD, 0xCC}, 0xCCDD},
		{449, 1, 0xFFFFFF80, []byte{0x80}, 0x80},
		{511, 1, 0x100, []byte{0}, 0},
		{510, 2, math.MaxUint32, []byte{0xFF, 0xFF}, 0xFFFF},
		{508, 4, math.MaxUint32, []byte{0xFF, 0xFF, 0xFF, 0xFF}, math.MaxUint32},
		{508, 4, 0, []byte{0, 0, 0, 0}, 0},
		{508, 4, 1 << 31, []byte{0, 0, 0, 0x80}, 1 << 31},
	}
	for _, r := range rows {
		if f := v.Save(r.pa, r.width, r.w); f != api.FOk {
			t.Fatalf("Save(%d, %d, %X): %d", r.pa, r.width, r.w, f)
		}
		copy(b[r.pa-448:], r.laid)
		if got, e := v.Store().Bytes(0); e != api.OK || !bytes.Equal(got, b) {
			t.Fatalf("behind Save(%d, %d, %X): %v, not %v", r.pa, r.width, r.w, got, b)
		}
		if w, f := v.Load(r.pa, r.width); w != r.got || f != api.FOk {
			t.Fatalf("Load(%d, %d): %X %d", r.pa, r.width, w, f)
		}
		if f := m.save(r.pa, r.width, r.w); f != api.FOk || !bytes.Equal(m.frames[0][:], b) {
			t.Fatalf("the tests of %d, %d, %X: %d", r.pa, r.width, r.w, f)
		}
	}
	agree(t, v, m)
}

func TestSaveAtEachAddress(t *testing.T) { // P16.1, P16.3: it stands there, the page was written; what is refused leaves all as it was
	for _, of := range views {
		v, m := of(t)
		for pa := range uint32(beyond + 8) {
			for _, width := range []int{1, 2, 4, 0, 3, 5, 8, -1, 1<<32 + 1} {
				save(t, v, m, pa, width, 0xF1E2D3C4+pa*0x01010101+uint32(width))
				load(t, v, m, pa, width)
				same(t, v, m)
				dirty(t, v, m)
			}
		}
		agree(t, v, m)
		for _, pa := range far {
			for _, width := range wild {
				if pa >= beyond {
					save(t, v, m, pa, width, math.MaxUint32)
				}
			}
		}
		agree(t, v, m)
		dirty(t, v, m)
	}
}

func TestOwnByHand(t *testing.T) { // P16.2: the tests' own reckoning is held by it too
	v, m := mixed(t) // own bytes: 0 to 191, 320 to 383, 448 to 511
	rows := []struct {
		pa uint32
		n  int
		is bool
	}{
		{0, 0, true}, {0, 1, true}, {0, 64, true}, {0, 65, true}, {0, 192, true}, {0, 193, false}, {0, 512, false}, {0, 513, false},
		{1, 191, true}, {1, 192, false}, {191, 1, true}, {191, 2, false}, {190, 2, true}, {63, 1, true}, {63, 2, true}, {64, 128, true},
		{0, -1, false}, {0, math.MinInt, false}, {0, math.MaxInt, false}, {0, 1 << 32, false}, {0, 1<<32 + 1, false}, {1, math.MaxInt, false}, {512, math.MaxInt, false},
		{192, 0, true}, {192, 1, false}, {192, -1, false}, {255, 1, false}, // a page that is not there
		{256, 0, true}, {256, 1, false}, {319, 1, false}, {319, 2, false}, // in a frame that is not there
		{320, 64, true}, {320, 65, false}, {319, 65, false}, {383, 1, true}, {383, 2, false}, {320, 192, false},
		{448, 64, true}, {448, 65, false}, {447, 1, false}, {511, 1, true}, {511, 2, false}, {510, 2, true},
		{512, 0, true}, {512, 1, false}, {512, -1, false}, {513, 0, false}, {513, 1, false}, {513, -1, false}, // rings' pages, that are there
		{704, 1, false}, {704, 0, false}, {768, 0, false}, {1 << 31, 0, false}, {math.MaxUint32, 0, false}, {math.MaxUint32, 1, false}, {math.MaxUint32, 2, false}, {math.MaxUint32 - 511, 512, false}, {math.MaxUint32 - 511, 513, false},
	}
	for _, r := range rows {
		if ok := v.Own(r.pa, r.n); ok != r.is {
			t.Errorf("Own(%d, %d): %v", r.pa, r.n, ok)
		}
		if ok := m.own(r.pa, r.n); ok != r.is {
			t.Errorf("the tests of %d, %d: %v", r.pa, r.n, ok)
		}
	}
	agree(t, v, m)
}

func TestOwnWhateverTheRights(t *testing.T) { // P16.2: it asks where they lie alone; and no ring's page is an own one, whatever its rights
	for page := range pages {
		for _, rights := range []int{rd, wr, rw} {
			v, m := laid(t, 2, map[int]api.Place{page: {Frame: 1, Rights: rights}})
			pa, is := uint32(page*size), page < own
			if v.Own(pa, 1) != is || v.Own(pa, size) != is || v.Own(pa, size+1) || v.Own(pa+1, size) || v.Own(pa+size-1, 1) != is {
				t.Errorf("Own of page %d, of rights %d", page, rights)
			}
			write(t, v, m, pa, some(size, 9))
			write(t, v, m, pa+1, some(size, 77))
			read(t, v, m, pa, size)
			read(t, v, m, pa, size+1)
			agree(t, v, m)
			dirty(t, v, m)
		}
	}
}

func TestOwnOfAllBytes(t *testing.T) { // P16.2: from each address, as many as there are, and more
	for _, of := range views {
		v, m := of(t)
		for pa := range uint32(ends + 70) {
			n := 0 // how many are own ones from here on, by the tests' reckoning
			for int(pa)+n < ends && m.at(int(pa)+n) != nil {
				n++
			}
			for more := -2; more < ends+3; more++ {
				if ok := v.Own(pa, more); ok != (pa <= ends && 0 <= more && more <= n) {
					t.Fatalf("Own(%d, %d): %v, of %d", pa, more, ok, n)
				}
			}
		}
		agree(t, v, m)
		dirty(t, v, m)
	}
}

func TestOwnOfAnyNumbers(t *testing.T) { // P16.2, P1, P6
	for _, of := range views {
		v, m := of(t)
		for _, pa := range append([]uint32{0, 1, 63, 64, 65, 192, 256, 448, 511, 512, 513, 575, 576}, far...) {
			for _, n := range wild {
				isOwn(t, v, m, pa, n)
				read(t, v, m, pa, n)
			}
		}
		agree(t, v, m)
		dirty(t, v, m)
	}
}

// counts is how many bytes are read and written: none, such as end within a page, at its end and behind it, and those about the end of all.
func counts(pa uint32) []int {
	left := ends - int(pa)
	l := []int{0, 1, 2, 3, 4, 5, 63, 64, 65, 127, 128, 129, 200, 256, ends, ends + 1, left - 1, left, left + 1}
	return slices.DeleteFunc(l, func(n int) bool { return n < 0 })
}

func TestWriteAndReadAtEachAddress(t *testing.T) { // P16.2, P16.3, P16.5: they stand there, their pages were written, and nothing else is changed
	for _, of := range views {
		v, m := of(t)
		for pa := range uint32(ends + 66) {
			for _, n := range counts(min(pa, ends)) {
				write(t, v, m, pa, some(n, byte(pa)+byte(n)))
				read(t, v, m, pa, n)
				same(t, v, m)
				dirty(t, v, m)
			}
		}
		agree(t, v, m)
	}
}

func TestReadByHand(t *testing.T) { // P16.2
	v, m := laid(t, 4, map[int]api.Place{2: {Frame: 3, Rights: rw}, 3: {Frame: 1, Rights: rw}, 5: {Frame: 0, Rights: rw}})
	if !v.Write(190, []byte{1, 2, 3, 4, 5}) {
		t.Fatal("Write")
	}
	write(t, v, m, 190, []byte{1, 2, 3, 4, 5})
	three, _ := v.Store().Bytes(3)
	one, _ := v.Store().Bytes(1)
	if !bytes.Equal(three[62:], []byte{1, 2}) || !bytes.Equal(one[:3], []byte{3, 4, 5}) {
		t.Errorf("the frames: %v %v", three, one)
	}
	if b, ok := v.Read(189, 7); !ok || !bytes.Equal(b, []byte{three[61], 1, 2, 3, 4, 5, one[3]}) {
		t.Errorf("Read: %v %v", b, ok)
	}
	if w, f := v.Load(192, 2); w != 0x0403 || f != api.FOk {
		t.Errorf("Load: %X %d", w, f)
	}
	if l := v.Dirty(); !slices.Equal(l, []int{2, 3}) {
		t.Errorf("Dirty: %v", l)
	}
	if b, ok := v.Read(192, 65); len(b) != 0 || ok {
		t.Errorf("Read of what is not all own: %v %v", b, ok)
	}
	if v.Write(255, []byte{9, 9}) || v.Write(319, []byte{9, 9}) || len(v.Dirty()) != 0 {
		t.Error("Write of what is not all own")
	}
	clear(m.written)
	agree(t, v, m)
}

func TestWriteOfNothing(t *testing.T) { // P16.2, P3: nil and an empty list are the same, and no page was written
	for _, of := range views {
		v, m := of(t)
		for pa := range uint32(ends + 3) {
			for _, b := range [][]byte{nil, {}} {
				if ok := v.Write(pa, b); ok != (pa <= ends) {
					t.Errorf("Write(%d) of nothing: %v", pa, ok)
				}
			}
			if b, ok := v.Read(pa, 0); len(b) != 0 || ok != (pa <= ends) {
				t.Errorf("Read(%d) of nothing: %v %v", pa, b, ok)
			}
		}
		if l := v.Dirty(); len(l) != 0 {
			t.Errorf("Dirty: %v", l)
		}
		agree(t, v, m)
	}
}

func TestWriteOfMoreThanThereCanBe(t *testing.T) { // P16.2: nothing is changed
	v, m := whole(t)
	for _, n := range []int{ends + 1, beyond, beyond + 1, 1 << 16, 1<<16 + 64, 1 << 20} {
		for _, pa := range []uint32{0, 1, ends - 1, ends, math.MaxUint32 - 63, math.MaxUint32} {
			write(t, v, m, pa, some(n, 1))
		}
	}
	agree(t, v, m)
	dirty(t, v, m)
}

func TestWhatIsNotOwnIsNotWritten(t *testing.T) { // P16.2, P16.5: one byte of all that is no own one keeps all as it was
	for _, of := range []func(*testing.T) (*view.View, *model){whole, mixed} {
		for gone := range own {
			v, m := of(t)
			v.Map().Drop(gone)
			delete(m.places, gone)
			for pa := uint32(0); pa < ends; pa += 16 {
				for _, n := range []int{1, 16, 17, 64, 65, 128, 192, ends - int(pa)} {
					write(t, v, m, pa, some(n, byte(n)))
					read(t, v, m, pa, n)
				}
			}
			agree(t, v, m)
			dirty(t, v, m)
		}
	}
}

func TestDirtyByHand(t *testing.T) { // P16.3: rising, whatever the order; those alone that were written
	v, m := mixed(t)
	if f := v.Save(767, 1, 1); f != api.FOk {
		t.Errorf("Save: %d", f)
	}
	if f := v.Save(576, 4, 1); f != api.FOk {
		t.Errorf("Save: %d", f)
	}
	if !v.Write(63, []byte{1, 2}) || !v.Write(448, []byte{1}) || v.Save(512, 4, 1) != api.FPerm || v.Save(256, 4, 1) != api.FAbsent || v.Write(191, []byte{1, 2}) {
		t.Error("what is written, and what is not")
	}
	v.Save(576, 4, 2)
	v.Load(128, 4)
	v.Read(320, 64)
	if l := v.Dirty(); !slices.Equal(l, []int{0, 1, 7, 9, 11}) {
		t.Errorf("Dirty: %v", l)
	}
	if l := v.Dirty(); len(l) != 0 {
		t.Errorf("Dirty, asked again: %v", l)
	}
	v.Save(130, 2, 5)
	if l := v.Dirty(); !slices.Equal(l, []int{2}) {
		t.Errorf("Dirty, behind one more: %v", l)
	}
	m.save(767, 1, 1)
	m.save(576, 4, 2)
	m.write(63, []byte{1, 2})
	m.write(448, []byte{1})
	m.save(130, 2, 5)
	clear(m.written)
	agree(t, v, m)
}

func TestDirtyOfTheSameBytes(t *testing.T) { // P16.3: written is written, though nothing is another than it was
	v, m := whole(t)
	for page := range pages {
		w, _ := v.Load(uint32(page*size), 4)
		save(t, v, m, uint32(page*size), 4, w)
	}
	b, _ := v.Read(0, ends)
	agree(t, v, m)
	if l := v.Dirty(); !slices.Equal(l, []int{0, 1, 2, 3, 4, 5, 6, 7, 8, 9, 10, 11}) {
		t.Errorf("Dirty: %v", l)
	}
	clear(m.written)
	write(t, v, m, 0, b)
	agree(t, v, m)
	if l := v.Dirty(); !slices.Equal(l, []int{0, 1, 2, 3, 4, 5, 6, 7}) {
		t.Errorf("Dirty: %v", l)
	}
}

func TestDirtyOfEachSetOfPages(t *testing.T) { // P16.3
	v, m := whole(t)
	for bits := range 1 << pages {
		for i := range pages {
			page := (bits + 5*i) % pages // 5 and 12 have no part in common: each page comes once
			if bits>>page&1 == 1 {
				save(t, v, m, uint32(page*size+i), 1, uint32(i))
			}
		}
		dirty(t, v, m)
	}
}

func TestDirtyOfAPageThatIsThereNoMore(t *testing.T) { // P16.3: it was written
	v, m := whole(t)
	save(t, v, m, 64, 4, 1)
	save(t, v, m, 704, 4, 1)
	v.Map().Drop(1)
	v.Map().Drop(11)
	delete(m.places, 1)
	delete(m.places, 11)
	save(t, v, m, 64, 4, 2)
	agree(t, v, m)
	dirty(t, v, m)
}

func TestAnswersAreNewMemory(t *testing.T) { // P4: neither the lists that are answered nor those that are handed in are kept
	v, m := whole(t)
	in := some(200, 3)
	write(t, v, m, 30, in)
	clear(in)
	agree(t, v, m)
	a, _ := v.Read(30, 200)
	b, _ := v.Read(30, 200)
	want := bytes.Clone(a)
	clear(a)
	a = append(a[:0], some(150, 99)...)
	if !bytes.Equal(b, want) {
		t.Errorf("an answer changed by %v: %v", a, b)
	}
	agree(t, v, m)
	write(t, v, m, 0, some(ends, 200))
	if !bytes.Equal(b, want) {
		t.Errorf("an answer changed by Write: %v", b)
	}
	l := v.Dirty()
	was := slices.Clone(l)
	m.dirty()
	save(t, v, m, 700, 1, 1)
	if !slices.Equal(l, was) {
		t.Errorf("an answer changed by Save: %v", l)
	}
	clear(l)
	dirty(t, v, m)
	agree(t, v, m)
}

func TestPagesInOneFrame(t *testing.T) { // P16.1, P16.5: what is written to one is seen through all, but that one alone was written
	v, m := shared(t)
	save(t, v, m, 576, 4, 0x01020304)
	for _, pa := range []uint32{0, 64, 192, 576} {
		if w, f := v.Load(pa, 4); w != 0x01020304 || f != api.FOk {
			t.Errorf("Load(%d): %X %d", pa, w, f)
		}
	}
	if l := v.Dirty(); !slices.Equal(l, []int{9}) {
		t.Errorf("Dirty: %v", l)
	}
	clear(m.written)
	write(t, v, m, 60, some(70, 8)) // the last bytes of page 0, all of page 1, some of page 2
	agree(t, v, m)
	dirty(t, v, m)
}

func TestItIsUsedAsItIs(t *testing.T) { // P4: what is done to the map and to the store is seen
	v, m := mixed(t)
	s, g := v.Store(), v.Map()
	s.Save(5, 8, 4, 0xCAFEBABE)
	copy(m.frames[5][8:], []byte{0xBE, 0xBA, 0xFE, 0xCA})
	agree(t, v, m)
	g.Set(3, api.Place{Frame: 5, Rights: rw})
	m.places[3] = api.Place{Frame: 5, Rights: rw}
	g.Drop(7)
	delete(m.places, 7)
	g.Drop(0)
	g.Set(0, api.Place{Frame: 1, Rights: rw})
	m.places[0] = api.Place{Frame: 1, Rights: rw}
	agree(t, v, m)
	write(t, v, m, 10, some(240, 6))
	agree(t, v, m)
	w, e := view.New(s, g)
	if e != api.OK {
		t.Fatalf("New: %d", e)
	}
	agree(t, w, m)
	if l := w.Dirty(); len(l) != 0 {
		t.Errorf("Dirty of another view: %v", l)
	}
	dirty(t, v, m)
}

func TestWhatItStandsOnIsMadeNoMore(t *testing.T) { // P1: no page is there, or no frame, and none panics
	for _, emptied := range []func(*view.View){
		func(v *view.View) { *v.Map() = gmap.Map{} },
		func(v *view.View) { *v.Store() = frames.Store{} },
		func(v *view.View) { *v.Map() = gmap.Map{}; *v.Store() = frames.Store{} },
	} {
		v, _ := whole(t)
		emptied(v)
		if h, f := v.Find(0, 4, api.KLoad); h != (api.Hit{}) || f != api.FAbsent {
			t.Errorf("Find: %v %d", h, f)
		}
		if w, f := v.Load(64, 4); w != 0 || f != api.FAbsent {
			t.Errorf("Load: %X %d", w, f)
		}
		if f := v.Save(64, 4, 1); f != api.FAbsent {
			t.Errorf("Save: %d", f)
		}
		if b, ok := v.Read(0, 4); len(b) != 0 || ok {
			t.Errorf("Read: %v %v", b, ok)
		}
		if v.Own(0, 1) || v.Write(0, []byte{1}) || len(v.Dirty()) != 0 {
			t.Error("Own, Write, Dirty")
		}
	}
}

func TestFewerFramesThanAhead(t *testing.T) { // P16.1, P16.2: those that there are, there are now
	v, m := whole(t)
	few, _ := frames.New(6)
	*v.Store() = *few
	m.frames = make([][size]byte, 6)
	agree(t, v, m)
	for pa := uint32(0); pa < ends+10; pa += 5 {
		for _, n := range []int{1, 3, 64, 100} {
			write(t, v, m, pa, some(n, byte(n)))
			save(t, v, m, pa+200, 1, pa)
		}
	}
	agree(t, v, m)
	dirty(t, v, m)
}

// nothing asks all of a view that is none, and behind each call that it is none still.
func nothing(t *testing.T, v *view.View) {
	t.Helper()
	addresses := append([]uint32{0, 1, 4, 63, 64, 511, 512, 513}, far...)
	for range 2 {
		if v.Map() != nil || v.Store() != nil || len(v.Dirty()) != 0 {
			t.Errorf("Map %v, Store %v, Dirty %v", v.Map(), v.Store(), v.Dirty())
		}
		for _, pa := range addresses {
			for _, n := range wild { // no width, and no address, too: FAbsent goes ahead
				for kind := -1; kind < 4; kind++ {
					if h, f := v.Find(pa, n, kind); h != (api.Hit{}) || f != api.FAbsent {
						t.Errorf("Find(%d, %d, %d): %v %d", pa, n, kind, h, f)
					}
				}
				if w, f := v.Load(pa, n); w != 0 || f != api.FAbsent {
					t.Errorf("Load(%d, %d): %X %d", pa, n, w, f)
				}
				if f := v.Save(pa, n, 7); f != api.FAbsent {
					t.Errorf("Save(%d, %d): %d", pa, n, f)
				}
				if b, ok := v.Read(pa, n); len(b) != 0 || ok || v.Own(pa, n) {
					t.Errorf("Read(%d, %d): %v %v", pa, n, b, ok)
				}
			}
			for _, b := range [][]byte{nil, {}, {1}, some(64, 1)} {
				if v.Write(pa, b) {
					t.Errorf("Write(%d) of %d", pa, len(b))
				}
			}
		}
	}
}

func TestNilView(t *testing.T) { // P16.4, P1
	nothing(t, nil)
}

func TestViewThatNoCallMade(t *testing.T) { // P16.4, P1
	nothing(t, new(view.View))
	nothing(t, &view.View{})
	var v view.View
	nothing(t, &v)
	was, _ := whole(t)
	was.Save(0, 4, 1)
	*was = view.View{}
	nothing(t, was)
}

func TestViewsAreApart(t *testing.T) { // P5: what was written through one was not through another, though they stand on the same
	v, m := whole(t)
	save(t, v, m, 0, 4, 1)
	copied := *v
	other, e := view.New(v.Store(), v.Map())
	if e != api.OK {
		t.Fatalf("New: %d", e)
	}
	save(t, v, m, 128, 4, 2)
	if f := copied.Save(256, 4, 3); f != api.FOk || m.copied().save(256, 4, 3) != api.FOk {
		t.Errorf("Save: %d", f)
	}
	m.frames[pages-4][0], m.frames[pages-4][1], m.frames[pages-4][2], m.frames[pages-4][3] = 3, 0, 0, 0
	if l := copied.Dirty(); !slices.Equal(l, []int{0, 4}) {
		t.Errorf("Dirty of the copy: %v", l)
	}
	if l := other.Dirty(); len(l) != 0 {
		t.Errorf("Dirty of the other: %v", l)
	}
	agree(t, v, m)
	agree(t, &copied, m)
	agree(t, other, m)
	dirty(t, v, m)
}

// chance is a row of numbers that look like chance, each below what is asked; the same ones for the same seed.
func chance(seed uint64) func(int) int {
	return func(below int) int {
		seed = seed*6364136223846793005 + 1442695040888963407
		return int(seed >> 33 % uint64(below))
	}
}

// address is mostly one of a page's.
func address(next func(int) int) uint32 {
	if next(12) == 0 {
		return far[next(len(far))]
	}
	return uint32(next(beyond + 4))
}

// aligned is a width that mostly is one, and an address that mostly is a multiple of it.
func aligned(next func(int) int) (uint32, int) {
	pa, width := address(next), 1<<next(3)
	if next(5) > 0 {
		pa -= pa % uint32(width)
	}
	if next(20) == 0 {
		width = wild[next(len(wild))]
	}
	return pa, width
}

// span is an address and how many bytes from there on, mostly own ones.
func span(next func(int) int) (uint32, int) {
	pa := uint32(next(ends + 1))
	n := next(ends - int(pa) + 1)
	switch next(12) {
	case 0:
		pa = address(next)
	case 1:
		n = wild[next(len(wild))]
	case 2:
		n = next(ends + 2)
	default:
		n = min(n, next(150))
	}
	return pa, n
}

// moved drops a page, or makes one lie somewhere, in the map of the view and in the model alike.
func moved(next func(int) int, v *view.View, m *model) {
	page, p := next(pages), api.Place{Frame: next(12), Rights: 1 + next(3)}
	if next(8) > 0 {
		p.Rights = rw
	}
	if v.Map().Drop(page) == api.OK {
		delete(m.places, page)
	}
	if next(4) > 0 && v.Map().Set(page, p) == api.OK {
		m.places[page] = p
	}
}

func TestManyCalls(t *testing.T) { // P16.1, P16.2, P16.3, P16.5: the view is as the model behind each
	for seed, of := range append(views, whole, mixed, whole) {
		v, m := of(t)
		next := chance(uint64(seed))
		for i := range 6000 {
			switch next(10) {
			case 0:
				dirty(t, v, m)
			case 1:
				moved(next, v, m)
			case 2, 3, 4:
				pa, width := aligned(next)
				save(t, v, m, pa, width, uint32(next(1<<30))*4+uint32(next(4)))
				load(t, v, m, pa, width)
			case 5, 6, 7:
				pa, n := span(next)
				isOwn(t, v, m, pa, n)
				write(t, v, m, pa, some(max(min(n, ends+5), 0), byte(next(256))))
			case 8:
				pa, n := span(next)
				read(t, v, m, pa, n)
			case 9:
				pa, width := aligned(next)
				find(t, v, m, pa, width, next(5)-1)
			}
			if i%8 == 0 {
				same(t, v, m)
			}
			if i%200 == 0 {
				agree(t, v, m)
			}
		}
		agree(t, v, m)
		dirty(t, v, m)
	}
}

// answers is all that a view answers to many calls, the same ones for the same seed.
func answers(v *view.View, m *model, seed uint64) []int {
	var l []int
	next := chance(seed)
	for range 3000 {
		moved(next, v, m)
		pa, width := aligned(next)
		l = append(l, v.Save(pa, width, pa*77))
		w, f := v.Load(pa, width)
		h, g := v.Find(pa, width, next(4))
		l = append(l, int(w), f, h.Page, h.Frame, h.Off, g)
		pa, n := span(next)
		b, _ := v.Read(pa, n)
		for _, w := range b {
			l = append(l, int(w))
		}
		if v.Own(pa, n) {
			l = append(l, n)
		}
		if v.Write(pa, some(max(min(n, ends+5), 0), byte(pa))) {
			l = append(l, v.Dirty()...)
		}
	}
	return l
}

func TestAnswersHangOnTheCallsAlone(t *testing.T) { // P5: the same calls on many views at once
	v, m := whole(t)
	want := answers(v, m, 5)
	var wait sync.WaitGroup
	for range 8 {
		v, m := whole(t)
		wait.Go(func() {
			if got := answers(v, m, 5); !slices.Equal(got, want) {
				t.Errorf("the same calls: %v, then %v", want, got)
			}
		})
	}
	wait.Wait()
}

// TestAnyArguments calls all with all wild arguments, on what was made and on what was not: that none panics is what it asks (P1).
func TestAnyArguments(t *testing.T) {
	made, _ := mixed(t)
	for _, v := range []*view.View{nil, new(view.View), made} {
		for _, a := range wild {
			for _, b := range wild {
				for _, c := range []int{-1, 0, 1, 2, 3, math.MinInt, math.MaxInt} {
					v.Find(uint32(a), b, c)
				}
				v.Load(uint32(a), b)
				v.Save(uint32(a), b, uint32(b))
				v.Own(uint32(a), b)
				v.Read(uint32(a), b)
				v.Write(uint32(a), some(b&1023, 1))
			}
			v.Dirty()
			v.Map()
			v.Store()
		}
	}
	for _, s := range []*frames.Store{nil, new(frames.Store), made.Store()} {
		for _, m := range []*gmap.Map{nil, new(gmap.Map), made.Map()} {
			view.New(s, m)
		}
	}
}
