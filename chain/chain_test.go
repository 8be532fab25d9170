package chain_test

import (
	"bytes"
	"math"
	"slices"
	"sync"
	"testing"

	"hermitage/api"
	"hermitage/chain"
	"hermitage/frames"
	"hermitage/gmap"
	"hermitage/view"
)

// The numbers of the chapters and of the document's limits.
const (
	own   = 8
	pages = 12
	size  = 64
	ends  = own * size // of own bytes
)

// Flags.
const next, write, both = uint32(1), uint32(2), uint32(3)

const rd, wr, rw = api.RRead, api.RWrite, api.RRead | api.RWrite

var (
	// wild is numbers that heads, counts and places are tried with: the least and the greatest, those about each edge, and such as come to a right one if bits are cut off.
	wild = []int{
		math.MinInt, math.MinInt + 1, math.MinInt + 2, math.MinInt + 4, -1 << 32, -1<<32 + 1, -1<<32 + 4, math.MinInt32, math.MinInt32 + 1, -65536, -256, -255, -64, -16, -9, -8, -7, -5, -4, -3, -2, -1,
		0, 1, 2, 3, 4, 5, 6, 7, 8, 9, 10, 15, 16, 17, 63, 64, 65, 127, 128, 255, 256, 257, 258, 511, 512, 513, 1 << 16, 1<<16 + 1, 1<<16 + 4,
		1<<28 + 1, math.MaxInt32, 1 << 31, 1<<31 + 1, math.MaxUint32, 1 << 32, 1<<32 + 1, 1<<32 + 2, 1<<32 + 4, 1<<32 + 8, 1<<60 + 1, math.MaxInt - 1, math.MaxInt,
	}

	// words is numbers that words of descriptors, and places of queues, are tried with.
	words = []uint32{
		0, 1, 2, 3, 4, 5, 6, 7, 8, 9, 16, 48, 62, 63, 64, 65, 66, 127, 128, 192, 255, 256, 257, 383, 384, 448, 496, 500, 508, 510, 511, 512, 513, 575, 576, 640, 768, 0x7FFF, 0x8000, 0x10000, 0x10001, 0x10010,
		0x7FFFFFFF, 0x80000000, 0x80000001, 0xFFFFFE00, 0xFFFFFFC0, 0xFFFFFFF0, 0xFFFFFFF8, 0xFFFFFFFC, 0xFFFFFFFE, 0xFFFFFFFF,
	}

	sizes = []int{2, 4, 8}
)

// model is what the chapters say of a guest's memory: its bytes, where pages lie, and which of them were written.
type model struct {
	frames  [][size]byte
	places  map[int]api.Place
	written map[int]bool
}

// at is the byte that lies at an address, nil if it is no own one.
func (m *model) at(pa int) *byte {
	p, there := m.places[pa/size]
	if pa < 0 || pa >= ends || !there || p.Frame >= len(m.frames) {
		return nil
	}
	return &m.frames[p.Frame][pa%size]
}

func (m *model) own(pa, n uint32) bool {
	if n > ends || pa > ends {
		return false
	}
	for i := range n {
		if m.at(int(pa+i)) == nil {
			return false
		}
	}
	return true
}

// word is four bytes, the lowest one first, by sums and products; false, if they are not all own ones.
func (m *model) word(pa uint32) (uint32, bool) {
	if !m.own(pa, 4) {
		return 0, false
	}
	n := uint32(0)
	for i := 3; i >= 0; i-- {
		n = n*256 + uint32(*m.at(int(pa) + i))
	}
	return n, true
}

// desc is a descriptor's words, false if they are not all own ones.
func (m *model) desc(pa uint32) (api.Desc, bool) {
	var l [4]uint32
	for i := range l {
		w, ok := m.word(pa + 4*uint32(i))
		if !ok {
			return api.Desc{}, false
		}
		l[i] = w
	}
	return api.Desc{Addr: l[0], Len: l[1], Flags: l[2], Next: l[3]}, true
}

// walk is what Walk answers, by the chapter: each descriptor is looked at with how many are ahead, and whether one of them is to be written.
func (m *model) walk(r api.Ring3, head int) ([]api.Desc, int) {
	if !slices.Contains(sizes, r.N) || r.Desc%4 != 0 || r.Avail%4 != 0 || r.Used%4 != 0 {
		return nil, api.XRange
	}
	l, wrong := m.rest(r, head, 0, false)
	if wrong != api.XOk {
		return nil, wrong
	}
	return l, api.XOk
}

// rest is the chain from a number on.
func (m *model) rest(r api.Ring3, at, ahead int, written bool) ([]api.Desc, int) {
	if at < 0 || at > r.N-1 {
		return nil, api.XIndex
	}
	if ahead >= r.N {
		return nil, api.XLoop
	}
	d, ok := m.desc(uint32((int64(r.Desc) + 16*int64(at)) % (1 << 32)))
	if !ok {
		return nil, api.XRange
	}
	goes, writes := d.Flags%2 == 1, d.Flags/2%2 == 1
	switch {
	case d.Flags > 3:
		return nil, api.XFlags
	case d.Len > 64:
		return nil, api.XLen
	case goes && int64(d.Next) >= int64(r.N):
		return nil, api.XIndex
	case !m.own(d.Addr, d.Len):
		return nil, api.XRange
	case !writes && written:
		return nil, api.XOrder
	case !goes:
		return []api.Desc{d}, api.XOk
	}
	l, wrong := m.rest(r, int(d.Next), ahead+1, written || writes)
	return append([]api.Desc{d}, l...), wrong
}

// addresses is those of all bytes of l that are to be written (or, without write, to be read), one behind the other.
func (m *model) addresses(l []api.Desc, write bool) []int {
	var all []int
	for _, d := range l {
		if (d.Flags/2%2 == 1) != write || !m.own(d.Addr, d.Len) {
			continue
		}
		for i := range d.Len {
			all = append(all, int(d.Addr+i))
		}
	}
	return all
}

func (m *model) gather(l []api.Desc, most int) []byte {
	var b []byte
	for i, pa := range m.addresses(l, false) {
		if i < most {
			b = append(b, *m.at(pa))
		}
	}
	return b
}

func (m *model) scatter(l []api.Desc, from int, b []byte) int {
	n := 0
	for i, pa := range m.addresses(l, true) {
		if i >= from && n < len(b) {
			*m.at(pa) = b[n]
			m.written[pa/size] = true
			n++
		}
	}
	return n
}

// lengthOf is what Length answers, in numbers of more bits than there can be.
func lengthOf(l []api.Desc, write bool) int64 {
	n := int64(0)
	for _, d := range l {
		if (d.Flags/2%2 == 1) == write {
			n += int64(d.Len)
		}
	}
	return n
}

// put lays a descriptor in the view and in the model alike.
func put(t *testing.T, v *view.View, m *model, pa uint32, d api.Desc) {
	t.Helper()
	for i, w := range []uint32{d.Addr, d.Len, d.Flags, d.Next} {
		lay(t, v, m, pa+4*uint32(i), bytesOf(w))
	}
}

// bytesOf is four bytes of a word, the lowest one first, by dividing.
func bytesOf(w uint32) []byte {
	return []byte{byte(w % 256), byte(w / 256 % 256), byte(w / 65536 % 256), byte(w / 16777216)}
}

// lay lays bytes in the view and in the model alike.
func lay(t *testing.T, v *view.View, m *model, pa uint32, b []byte) {
	t.Helper()
	if !v.Write(pa, b) {
		t.Fatalf("Write(%d) of %d bytes", pa, len(b))
	}
	for i, w := range b {
		*m.at(int(pa) + i) = w
		m.written[(int(pa)+i)/size] = true
	}
}

// laid is a view of pages that lie there, in as many frames, all of whose bytes are others than their neighbours.
func laid(t *testing.T, n int, places map[int]api.Place) (*view.View, *model) {
	t.Helper()
	s, e := frames.New(n)
	if e != api.OK {
		t.Fatalf("frames.New(%d): %d", n, e)
	}
	m := &model{make([][size]byte, n), make(map[int]api.Place), make(map[int]bool)}
	for f := range n {
		for i := range size {
			m.frames[f][i] = byte(7*f + 3*i + f*i + 1)
			s.Save(f, i, 1, uint32(m.frames[f][i]))
		}
	}
	g := gmap.New()
	for page, p := range places {
		if e := g.Set(page, p); e != api.OK {
			t.Fatalf("gmap.Set(%d, %v): %d", page, p, e)
		}
		m.places[page] = p
	}
	v, e := view.New(s, g)
	if v == nil || e != api.OK {
		t.Fatalf("view.New: %d", e)
	}
	return v, m
}

// whole is a view whose pages are all there, the later ones in the lower frames.
func whole(t *testing.T) (*view.View, *model) {
	t.Helper()
	l := make(map[int]api.Place)
	for page := range pages {
		l[page] = api.Place{Frame: pages - page, Rights: rw}
	}
	return laid(t, pages+2, l)
}

// mixed is a view of pages with all rights, of some that are not there, and of some in frames that are not: own bytes are 0 to 191, 320 to 383, 448 to 511.
func mixed(t *testing.T) (*view.View, *model) {
	t.Helper()
	return laid(t, 9, map[int]api.Place{
		0: {Frame: 8, Rights: rd}, 1: {Frame: 0, Rights: wr}, 2: {Frame: 5, Rights: rw}, 4: {Frame: 9, Rights: rw}, 5: {Frame: 2, Rights: rw}, 7: {Frame: 3, Rights: rw},
		8: {Frame: 4, Rights: rd}, 9: {Frame: 6, Rights: wr}, 10: {Frame: 31, Rights: rw}, 11: {Frame: 7, Rights: rw},
	})
}

// shared is a view of pages of which several lie in one frame, own ones and a ring's.
func shared(t *testing.T) (*view.View, *model) {
	t.Helper()
	return laid(t, 3, map[int]api.Place{0: {Frame: 1, Rights: rw}, 1: {Frame: 0, Rights: rw}, 2: {Frame: 2, Rights: rd}, 3: {Frame: 1, Rights: rw}, 4: {Frame: 2, Rights: rw}, 9: {Frame: 1, Rights: rw}})
}

var views = []func(*testing.T) (*view.View, *model){whole, mixed, shared}

// same asks what the frames and the map have, and which pages were written.
func same(t *testing.T, v *view.View, m *model) {
	t.Helper()
	s, g := v.Store(), v.Map()
	if n := s.Len(); n != len(m.frames) {
		t.Fatalf("%d frames, not %d", n, len(m.frames))
	}
	for f := range m.frames {
		if b, e := s.Bytes(f); e != api.OK || !bytes.Equal(b, m.frames[f][:]) {
			t.Fatalf("frame %d: %d %v, not %v", f, e, b, m.frames[f])
		}
	}
	var dirty []int
	for page := range pages {
		p, ok := g.Get(page)
		if want, there := m.places[page]; p != want || ok != there {
			t.Fatalf("page %d: %v %v, not %v %v", page, p, ok, want, there)
		}
		if m.written[page] {
			dirty = append(dirty, page)
		}
	}
	if l := v.Dirty(); !slices.Equal(l, dirty) {
		t.Fatalf("written were %v, not %v", l, dirty)
	}
	clear(m.written)
}

// walked asks Walk, and is its descriptors.
func walked(t *testing.T, v *view.View, m *model, r api.Ring3, head int) []api.Desc {
	t.Helper()
	l, wrong := chain.Walk(v, r, head)
	if want, w := m.walk(r, head); !slices.Equal(l, want) || wrong != w {
		t.Fatalf("Walk(%v, %d): %v %d, not %v %d", r, head, l, wrong, want, w)
	}
	if wrong == api.XOk && (len(l) == 0 || len(l) > r.N) || wrong != api.XOk && len(l) != 0 {
		t.Fatalf("Walk(%v, %d): %d descriptors, and %d", r, head, len(l), wrong)
	}
	return l
}

func length(t *testing.T, l []api.Desc) {
	t.Helper()
	was := slices.Clone(l)
	for _, write := range []bool{false, true} {
		if n, want := chain.Length(l, write), lengthOf(l, write); int64(n) != want {
			t.Fatalf("Length(%v, %v): %d, not %d", l, write, n, want)
		}
	}
	if !slices.Equal(l, was) {
		t.Fatalf("what was handed in: %v, not %v", l, was)
	}
}

func gathered(t *testing.T, v *view.View, m *model, l []api.Desc, most int) {
	t.Helper()
	was := slices.Clone(l)
	b := chain.Gather(v, l, most)
	if want := m.gather(l, most); !bytes.Equal(b, want) {
		t.Fatalf("Gather(%v, %d): %v, not %v", l, most, b, want)
	}
	if !slices.Equal(l, was) {
		t.Fatalf("what was handed in: %v, not %v", l, was)
	}
}

// scattered asks Scatter, and what all memory has behind it.
func scattered(t *testing.T, v *view.View, m *model, l []api.Desc, from int, b []byte) {
	t.Helper()
	was, had := slices.Clone(l), bytes.Clone(b)
	want := m.scatter(l, from, b)
	if n := chain.Scatter(v, l, from, b); n != want {
		t.Fatalf("Scatter(%v, %d, %d bytes): %d, not %d", l, from, len(b), n, want)
	}
	if !slices.Equal(l, was) || !bytes.Equal(b, had) {
		t.Fatalf("what was handed in: %v %v, not %v %v", l, b, was, had)
	}
	same(t, v, m)
}

// some is n bytes of which no two that are near are the same.
func some(n int, seed byte) []byte {
	b := make([]byte, n)
	for i := range b {
		b[i] = seed ^ byte(1+i*37%255)
	}
	return b
}

// row is n words that look like chance, the same ones for the same seed.
func row(seed uint64, n int) []uint32 {
	l := make([]uint32, n)
	for i := range l {
		seed = seed*6364136223846793005 + 1442695040888963407
		l[i] = uint32(seed >> 33)
	}
	return l
}

// queueAt is a queue of n whose descriptors lie at pa; its other parts lie anywhere.
func queueAt(pa uint32, n int) api.Ring3 {
	return api.Ring3{Desc: pa, Avail: 0x80000000, Used: 0xFFFFFFFC, N: n}
}

func TestTheLimits(t *testing.T) { // the numbers that the tests beside this one stand on
	if api.OwnPages != own || api.MaxPages != pages || api.FrameBytes != size || api.MaxLen != 64 || api.MaxQueue != 8 || api.FlagNext != next || api.FlagWrite != write {
		t.Error("the limits")
	}
}

func TestWalkByHand(t *testing.T) { // P22.1: the tests' own reckoning is held by it too
	a, b, c := api.Desc{Addr: 64, Len: 4, Flags: next, Next: 3}, api.Desc{Addr: 126, Len: 64, Flags: both, Next: 1}, api.Desc{Addr: 512, Flags: write, Next: 77}
	rows := []struct {
		name string
		q    []api.Desc
		head int
		l    []api.Desc
		x    int
	}{
		{"one", []api.Desc{{}, {}, {}, {}}, 2, []api.Desc{{}}, api.XOk},
		{"one of two, whose Next counts for nothing", []api.Desc{{Next: 9, Len: 3}, {Flags: 4}}, 0, []api.Desc{{Next: 9, Len: 3}}, api.XOk},
		{"three", []api.Desc{a, c, {}, b}, 0, []api.Desc{a, b, c}, api.XOk},
		{"two of them", []api.Desc{a, c, {}, b}, 3, []api.Desc{b, c}, api.XOk},
		{"the last of them", []api.Desc{a, c, {}, b}, 1, []api.Desc{c}, api.XOk},
		{"no such head", []api.Desc{a, c, {}, b}, 4, nil, api.XIndex},
		{"a head below 0", []api.Desc{a, c, {}, b}, -1, nil, api.XIndex},
		{"a head of another queue", []api.Desc{{}, {}}, 2, nil, api.XIndex},
		{"no such Next", []api.Desc{a, c, {}, {Flags: next, Next: 4}}, 0, nil, api.XIndex},
		{"itself", []api.Desc{{Flags: next}, {}}, 0, nil, api.XLoop},
		{"itself, behind one", []api.Desc{{Flags: next, Next: 1}, {Flags: next, Next: 1}}, 0, nil, api.XLoop},
		{"the one ahead", []api.Desc{{Flags: next, Next: 1}, {Flags: next}}, 1, nil, api.XLoop},
		{"all", []api.Desc{{Flags: next, Next: 2}, {Len: 5}, {Flags: next, Next: 3}, {Flags: next, Next: 1}}, 0, []api.Desc{{Flags: next, Next: 2}, {Flags: next, Next: 3}, {Flags: next, Next: 1}, {Len: 5}}, api.XOk},
		{"all, and one more", []api.Desc{{Flags: next, Next: 2}, {Flags: next, Next: 0}, {Flags: next, Next: 3}, {Flags: next, Next: 1}}, 0, nil, api.XLoop},
		{"flags that can't be", []api.Desc{a, c, {}, {Flags: 4}}, 0, nil, api.XFlags},
		{"longer than can be", []api.Desc{a, c, {}, {Len: 65}}, 0, nil, api.XLen},
		{"the longest", []api.Desc{{Addr: 448, Len: 64}, {}}, 0, []api.Desc{{Addr: 448, Len: 64}}, api.XOk},
		{"beyond own bytes", []api.Desc{{Addr: 449, Len: 64}, {}}, 0, nil, api.XRange},
		{"in a ring's page", []api.Desc{{Addr: 512, Len: 1}, {}}, 0, nil, api.XRange},
		{"past the greatest address", []api.Desc{{Addr: 0xFFFFFFFF, Len: 2}, {}}, 0, nil, api.XRange},
		{"nothing, where own bytes end", []api.Desc{{Addr: 512}, {}}, 0, []api.Desc{{Addr: 512}}, api.XOk},
		{"nothing, beyond", []api.Desc{{Addr: 513}, {}}, 0, nil, api.XRange},
		{"to be read behind one to be written", []api.Desc{{Flags: both, Next: 1}, {}}, 0, nil, api.XOrder},
		{"to be read behind one to be written, farther ahead", []api.Desc{{Flags: both, Next: 3}, {}, {Flags: next, Next: 1}, {Flags: both, Next: 2}}, 0, nil, api.XOrder},
		{"to be read behind one to be written, behind one to be read", []api.Desc{{Flags: next, Next: 1}, {Flags: both, Next: 2}, {Len: 1}, {}}, 0, nil, api.XOrder},
		{"to be read, all", []api.Desc{{Flags: next, Next: 1}, {Flags: 0, Len: 7}}, 0, []api.Desc{{Flags: next, Next: 1}, {Len: 7}}, api.XOk},
		{"to be written, all", []api.Desc{{Flags: both, Next: 1}, {Flags: write, Len: 7}}, 0, []api.Desc{{Flags: both, Next: 1}, {Flags: write, Len: 7}}, api.XOk},
	}
	for _, r := range rows {
		v, m := whole(t)
		for i, d := range r.q {
			put(t, v, m, uint32(192+16*i), d)
		}
		same(t, v, m)
		at := api.Ring3{Desc: 192, N: len(r.q)}
		if l, x := chain.Walk(v, at, r.head); !slices.Equal(l, r.l) || x != r.x {
			t.Errorf("%s: %v %d, not %v %d", r.name, l, x, r.l, r.x)
		}
		if l, x := m.walk(at, r.head); !slices.Equal(l, r.l) || x != r.x {
			t.Errorf("%s, the tests: %v %d, not %v %d", r.name, l, x, r.l, r.x)
		}
		same(t, v, m)
	}
}

func TestWhatIsWrongFirst(t *testing.T) { // P22.1, P2: each one with those behind it
	out := uint32(0x1000)
	rows := []struct {
		name string
		q    []api.Desc
		r    api.Ring3
		head int
		x    int
	}{
		{"no queue, no head", nil, api.Ring3{Desc: 192, N: 3}, 9, api.XRange},
		{"a queue at no word, no head", nil, api.Ring3{Desc: 193, N: 2}, 9, api.XRange},
		{"what is there at no word, no head", nil, api.Ring3{Desc: 192, Avail: 2, N: 2}, 9, api.XRange},
		{"what was used at no word, no head", nil, api.Ring3{Desc: 192, Used: 1, N: 2}, 9, api.XRange},
		{"no head, of none of its own bytes", nil, queueAt(0x8000, 2), 2, api.XIndex},
		{"no own bytes", nil, queueAt(0x8000, 2), 1, api.XRange},
		{"flags, length, number, place, order", []api.Desc{{Flags: both, Next: 1}, {Addr: out, Len: 65, Flags: 5, Next: 2}}, queueAt(192, 2), 0, api.XFlags},
		{"length, number, place, order", []api.Desc{{Flags: both, Next: 1}, {Addr: out, Len: 65, Flags: 1, Next: 2}}, queueAt(192, 2), 0, api.XLen},
		{"number, place, order", []api.Desc{{Flags: both, Next: 1}, {Addr: out, Len: 64, Flags: 1, Next: 2}}, queueAt(192, 2), 0, api.XIndex},
		{"place, order", []api.Desc{{Flags: both, Next: 1}, {Addr: out, Len: 64, Flags: 1}}, queueAt(192, 2), 0, api.XRange},
		{"order, and what would be a loop", []api.Desc{{Flags: both, Next: 1}, {Len: 64, Flags: 1}}, queueAt(192, 2), 0, api.XOrder},
		{"order, and behind it flags", []api.Desc{{Flags: both, Next: 1}, {Flags: 1, Next: 2}, {Flags: 4}, {}}, queueAt(192, 4), 0, api.XOrder},
		{"a place, and behind it order", []api.Desc{{Addr: out, Flags: both, Next: 1}, {}}, queueAt(192, 2), 0, api.XRange},
		{"a number, ahead of what is behind", []api.Desc{{Flags: both, Next: 1}, {Flags: both, Next: 4}, {}, {}}, queueAt(192, 4), 0, api.XIndex},
		{"a loop ahead of order", []api.Desc{{Flags: both, Next: 0}, {Flags: next, Next: 0}}, queueAt(192, 2), 1, api.XLoop},
		{"order ahead of a loop", []api.Desc{{Flags: both, Next: 1}, {Flags: next, Next: 0}, {}, {}}, queueAt(192, 4), 1, api.XOrder},
		{"as many as there are, then order", []api.Desc{{Flags: next, Next: 1}, {Flags: both, Next: 0}}, queueAt(192, 2), 0, api.XLoop},
		{"the last of as many as there are", []api.Desc{{Flags: next, Next: 1}, {Flags: 5, Next: 0}}, queueAt(192, 2), 0, api.XFlags},
	}
	for _, r := range rows {
		v, m := whole(t)
		for i, d := range r.q {
			put(t, v, m, uint32(192+16*i), d)
		}
		if l, x := chain.Walk(v, r.r, r.head); len(l) != 0 || x != r.x {
			t.Errorf("%s: %v %d, not %d", r.name, l, x, r.x)
		}
		if l, x := m.walk(r.r, r.head); len(l) != 0 || x != r.x {
			t.Errorf("%s, the tests: %v %d, not %d", r.name, l, x, r.x)
		}
		same(t, v, m)
	}
}

func TestExampleOfTheChapter(t *testing.T) { // P22.1: a descriptor whose Next is itself
	for _, n := range sizes {
		for at := range n {
			v, m := whole(t)
			put(t, v, m, uint32(16*at), api.Desc{Flags: next, Next: uint32(at)})
			if l, x := chain.Walk(v, api.Ring3{N: n}, at); len(l) != 0 || x != api.XLoop {
				t.Errorf("of %d, %d: %v %d", n, at, l, x)
			}
			same(t, v, m)
		}
	}
}

func TestWalkOfAnyHead(t *testing.T) { // P22.1, P6: those below 0, past the end, and such as are right if bits are cut off
	for _, of := range views {
		v, m := of(t)
		for i := range 8 {
			put(t, v, m, uint32(16*i), api.Desc{Addr: uint32(i), Len: uint32(i)})
		}
		for _, n := range sizes {
			for head := -300; head < 300; head++ {
				walked(t, v, m, queueAt(0, n), head)
			}
			for _, head := range wild {
				walked(t, v, m, queueAt(0, n), head)
			}
		}
		same(t, v, m)
	}
}

func TestWalkOfAnyQueue(t *testing.T) { // P22.1, P6: of queues that can't be, wherever their parts lie
	for _, of := range views {
		v, m := of(t)
		for i := range 8 {
			put(t, v, m, uint32(16*i), api.Desc{Addr: uint32(i), Len: uint32(i)})
		}
		for _, n := range wild {
			for _, w := range words {
				walked(t, v, m, api.Ring3{Desc: w, N: n}, 0)
				walked(t, v, m, api.Ring3{Avail: w, N: n}, 0)
				walked(t, v, m, api.Ring3{Used: w, N: n}, 1)
				walked(t, v, m, api.Ring3{Desc: w, Avail: w, Used: w, N: n}, 1)
			}
		}
		for n := -20; n < 20; n++ {
			for head := -2; head < 20; head++ {
				walked(t, v, m, queueAt(0, n), head)
			}
		}
		same(t, v, m)
	}
}

func TestWhereDescriptorsLie(t *testing.T) { // P22.1: at each word of all pages, and beyond: all 16 bytes are own ones, or it is XRange
	for _, of := range views {
		v, m := of(t)
		lay(t, v, m, 0, make([]byte, 64))
		for pa := uint32(0); pa < pages*size+40; pa += 4 {
			for head := range 9 {
				walked(t, v, m, queueAt(pa, 8), head)
				walked(t, v, m, queueAt(-pa, 8), head)
			}
		}
		same(t, v, m)
	}
	v, m := mixed(t)
	lay(t, v, m, 128, make([]byte, 64))
	lay(t, v, m, 320, make([]byte, 64))
	rows := []struct {
		pa   uint32
		head int
		x    int
	}{
		{176, 0, api.XOk}, {180, 0, api.XRange}, {188, 0, api.XRange}, {192, 0, api.XRange}, {160, 1, api.XOk}, {160, 2, api.XRange}, {164, 1, api.XRange},
		{304, 0, api.XRange}, {304, 1, api.XOk}, {304, 4, api.XOk}, {304, 5, api.XRange}, {308, 0, api.XRange}, {316, 0, api.XRange}, {316, 1, api.XOk}, {368, 0, api.XOk}, {372, 0, api.XRange},
		{512, 0, api.XRange}, {500, 0, api.XRange}, {768, 0, api.XRange}, {0x10000, 0, api.XRange},
	}
	for _, r := range rows {
		want := []api.Desc{{}}
		if r.x != api.XOk {
			want = nil
		}
		if l, x := chain.Walk(v, queueAt(r.pa, 8), r.head); !slices.Equal(l, want) || x != r.x {
			t.Errorf("descriptor %d at %d: %v %d, not %d", r.head, r.pa, l, x, r.x)
		}
	}
	same(t, v, m)
}

func TestDescriptorsPastTheGreatestAddress(t *testing.T) { // P22.1: 16 times its number, modulo 2^32
	v, m := whole(t)
	one, other := api.Desc{Addr: 100, Len: 5, Flags: both, Next: 3}, api.Desc{Addr: 200, Len: 6, Flags: write, Next: 1}
	put(t, v, m, 0, one)
	put(t, v, m, 16, other)
	same(t, v, m)
	r := queueAt(0xFFFFFFE0, 4) // numbers 2 and 3 lie at 0 and 16
	if l, x := chain.Walk(v, r, 2); !slices.Equal(l, []api.Desc{one, other}) || x != api.XOk {
		t.Errorf("Walk: %v %d", l, x)
	}
	for head := range 2 {
		if l, x := chain.Walk(v, r, head); len(l) != 0 || x != api.XRange {
			t.Errorf("Walk from %d: %v %d", head, l, x)
		}
	}
	put(t, v, m, 0, api.Desc{Flags: next, Next: 1})
	if l, x := chain.Walk(v, r, 2); len(l) != 0 || x != api.XRange {
		t.Errorf("Walk, from own bytes to others: %v %d", l, x)
	}
	for back := uint32(4); back <= 160; back += 4 {
		for _, n := range sizes {
			for head := range n {
				walked(t, v, m, queueAt(-back, n), head)
			}
		}
	}
	same(t, v, m)
}

func TestWhereBytesLie(t *testing.T) { // P22.1: from each address, as many as there may be, and more: all are own ones, or it is XRange
	for _, of := range views {
		v, m := of(t)
		for addr := range uint32(ends + 70) {
			for _, n := range []uint32{0, 1, 2, 3, 4, 31, 62, 63, 64, 65} {
				put(t, v, m, 64, api.Desc{Addr: addr, Len: n, Flags: addr % 2 * 2})
				walked(t, v, m, queueAt(64, 2), 0)
			}
		}
		for _, addr := range words {
			for n := range uint32(67) {
				put(t, v, m, 64, api.Desc{Addr: addr, Len: n})
				walked(t, v, m, queueAt(64, 2), 0)
			}
			for _, n := range words {
				put(t, v, m, 64, api.Desc{Addr: addr, Len: n})
				walked(t, v, m, queueAt(64, 2), 0)
			}
		}
		same(t, v, m)
	}
}

func TestRightsCountForNothing(t *testing.T) { // P22.1, P22.2: own bytes are the guest's own pages', whatever may be done with them
	for _, rights := range []int{rd, wr, rw} {
		v, m := laid(t, 2, map[int]api.Place{1: {Frame: 1, Rights: rights}, 8: {Frame: 0, Rights: rights}})
		put(t, v, m, 64, api.Desc{Addr: 100, Len: 8, Flags: next, Next: 1})
		put(t, v, m, 80, api.Desc{Addr: 110, Len: 8, Flags: write})
		l := walked(t, v, m, queueAt(64, 2), 0)
		if len(l) != 2 {
			t.Errorf("rights %d: %v", rights, l)
		}
		gathered(t, v, m, l, 100)
		scattered(t, v, m, l, 0, some(8, 5))
		put(t, v, m, 64, api.Desc{Addr: 512, Len: 8})
		walked(t, v, m, queueAt(64, 2), 0)
		walked(t, v, m, queueAt(512, 2), 0)
		same(t, v, m)
	}
}

// kinds is descriptors of which whole queues of n are made: those that go on, to be read and to be written, those that end it, and wrong ones.
func kinds(n int) []api.Desc {
	l := []api.Desc{{Len: 1}, {Addr: 512, Flags: write}, {Flags: 4}, {Len: 65}, {Addr: 513}, {Flags: next, Next: uint32(n)}}
	for i := range uint32(n) {
		l = append(l, api.Desc{Addr: i, Len: i, Flags: next, Next: i}, api.Desc{Addr: i, Len: 64, Flags: both, Next: i})
	}
	return l
}

func TestWalkOfAllSmallQueues(t *testing.T) { // P22.1: each kind of descriptor at each place of a queue, from each head
	v, m := whole(t)
	for _, a := range kinds(2) {
		for _, b := range kinds(2) {
			put(t, v, m, 256, a)
			put(t, v, m, 272, b)
			for head := range 3 {
				walked(t, v, m, queueAt(256, 2), head)
			}
		}
	}
	l := kinds(4)
	put(t, v, m, 432, api.Desc{Len: 66, Flags: 8, Next: 9}) // what is behind the queue's last counts for nothing
	for i := range len(l) * len(l) * len(l) * len(l) {
		for at := range uint32(4) {
			put(t, v, m, 368+16*at, l[i%len(l)])
			i /= len(l)
		}
		for head := range 4 {
			walked(t, v, m, queueAt(368, 4), head)
		}
	}
	same(t, v, m)
}

func TestWalkOfEachLength(t *testing.T) { // P22.1, P22.3: N and no more, in any order; and loops of each length, behind each number of others
	v, m := whole(t)
	for _, n := range sizes {
		for step := 1; step < n; step += 2 { // n and it have no part in common: each comes once
			for first := range n {
				var want []api.Desc
				for i := range n {
					at, to := (first+i*step)%n, (first+(i+1)*step)%n
					d := api.Desc{Addr: uint32(7 * i), Len: uint32(5 * i), Flags: next, Next: uint32(to)}
					if 2*i >= n {
						d.Flags = both
					}
					if i == n-1 {
						d.Flags = write
					}
					put(t, v, m, uint32(64+16*at), d)
					want = append(want, d)
				}
				for i := range n {
					l, x := chain.Walk(v, queueAt(64, n), (first+i*step)%n)
					if !slices.Equal(l, want[i:]) || x != api.XOk {
						t.Fatalf("of %d, from the place %d on: %v %d, not %v", n, i, l, x, want[i:])
					}
				}
				last := uint32((first + (n-1)*step) % n)
				for i := range n { // the last one goes on to each: N were followed ahead of it
					to := uint32((first + i*step) % n)
					put(t, v, m, 64+16*last, api.Desc{Flags: both, Next: to})
					if l, x := chain.Walk(v, queueAt(64, n), first); len(l) != 0 || x != api.XLoop {
						t.Fatalf("of %d, back to the place %d: %v %d", n, i, l, x)
					}
					walked(t, v, m, queueAt(64, n), int(to))
				}
			}
		}
	}
	same(t, v, m)
}

// near is a descriptor that is right, or nearly so, by four numbers that look like chance.
func near(l []uint32, n int) api.Desc {
	d := api.Desc{Addr: l[0] % 520, Len: l[1] % 66, Flags: l[2] % 4, Next: l[3] % uint32(n)}
	switch l[0] >> 16 % 40 {
	case 0:
		d.Flags = l[2]
	case 1:
		d.Next = uint32(n) + l[3]%3
	case 2:
		d.Addr = l[0]
	case 3:
		d.Len = l[1]
	}
	if l[0]>>24%3 > 0 {
		d.Addr, d.Flags = d.Addr%448, d.Flags|next
	}
	return d
}

func TestWalkOfAnyMemory(t *testing.T) { // P22.1: queues that are nearly right, and bytes that are nothing
	for i, of := range views {
		v, m := of(t)
		l := row(uint64(i+1), 1<<18)
		for len(l) >= 40 {
			n := sizes[l[0]%3]
			pa := l[1] % 16 * 4
			for at := range n {
				put(t, v, m, pa+uint32(16*at), near(l[2+4*at:], n))
			}
			for head := range n + 1 {
				walked(t, v, m, queueAt(pa, n), head)
			}
			l = l[34:]
		}
		for _, w := range row(uint64(i+10), 6000) {
			x := w >> 12 % 5 // most words are such as all parts may be, flags too
			if w>>20%16 == 0 {
				x = w
			}
			lay(t, v, m, w%32*4, bytesOf(x))
			for head := range 8 {
				walked(t, v, m, queueAt(0, 8), head)
			}
		}
		same(t, v, m)
	}
}

func TestWalkChangesNothing(t *testing.T) { // P22.1, P4: and what it answers is new memory
	v, m := whole(t)
	put(t, v, m, 0, api.Desc{Addr: 64, Len: 4, Flags: next, Next: 1})
	put(t, v, m, 16, api.Desc{Addr: 64, Len: 4, Flags: write})
	same(t, v, m)
	r := queueAt(0, 2)
	one, other := walked(t, v, m, r, 0), walked(t, v, m, r, 0)
	clear(one)
	_ = append(one[:1], api.Desc{Addr: 9})
	if want, _ := m.walk(r, 0); !slices.Equal(other, want) {
		t.Errorf("an answer changed by another one: %v", other)
	}
	walked(t, v, m, r, 0)
	same(t, v, m)
	was := slices.Clone(other)
	put(t, v, m, 0, api.Desc{Addr: 1, Len: 1})
	put(t, v, m, 16, api.Desc{Addr: 1, Len: 1})
	if !slices.Equal(other, was) {
		t.Errorf("an answer changed by Write: %v", other)
	}
	walked(t, v, m, r, 0)
}

func TestLengthByHand(t *testing.T) { // P22.2: the tests' own reckoning is held by it too
	rows := []struct {
		l              []api.Desc
		written, reads int
	}{
		{nil, 0, 0},
		{[]api.Desc{}, 0, 0},
		{[]api.Desc{{Len: 5}}, 0, 5},
		{[]api.Desc{{Len: 5, Flags: write}}, 5, 0},
		{[]api.Desc{{Len: 5, Flags: next}}, 0, 5},
		{[]api.Desc{{Len: 5, Flags: both}}, 5, 0},
		{[]api.Desc{{Len: 5, Flags: 4}}, 0, 5}, // flags that can't be: FlagWrite alone counts
		{[]api.Desc{{Len: 5, Flags: 6}}, 5, 0},
		{[]api.Desc{{Len: 5, Flags: 0x80000000}}, 0, 5},
		{[]api.Desc{{Len: 5, Flags: 0xFFFFFFFF}}, 5, 0},
		{[]api.Desc{{Len: 5, Flags: 0xFFFFFFFD}}, 0, 5},
		{[]api.Desc{{Len: 4, Flags: 1, Next: 1}, {Len: 6, Flags: 3}, {Len: 2, Flags: 2}}, 8, 4},
		{[]api.Desc{{Len: 2, Flags: 2}, {Len: 30}, {Len: 7, Flags: 3}, {Len: 500, Flags: 1}, {}}, 9, 530},                      // out of order
		{[]api.Desc{{Addr: 0xFFFFFFFF, Len: 65}, {Addr: 512, Len: 1, Flags: write}}, 1, 65},                                    // wherever they lie
		{[]api.Desc{{Len: 0xFFFFFFFF}, {Len: 0xFFFFFFFF}, {Len: 3, Flags: 2}}, 3, 0x1FFFFFFFE},                                 // exact
		{[]api.Desc{{Len: 0x80000000, Flags: 2}, {Len: 0x80000000, Flags: 3}, {Len: 1, Flags: 2}}, 0x100000001, 0},             // exact
		{slices.Repeat([]api.Desc{{Len: 0xFFFFFFFF}, {Flags: 2, Len: 1}}, 1<<12), 1 << 12, 0xFFFFFFFF * (1 << 12)},             // more than a queue has
		{slices.Repeat([]api.Desc{{Addr: 9, Len: 64, Flags: 2}, {Addr: 9, Len: 64, Flags: 2}}, 8), 16 * 64, 0},                 // the same bytes twice
		{[]api.Desc{{Flags: 2}, {Flags: 3}, {}, {Flags: 1}}, 0, 0},                                                             // of nothing
		{[]api.Desc{{Len: 1 << 31, Flags: 1}, {Len: 1<<31 - 1, Flags: 2}, {Len: 1 << 16, Flags: 0}}, 1<<31 - 1, 1<<31 + 1<<16}, // whatever its bits
	}
	for _, r := range rows {
		if a, b := chain.Length(r.l, true), chain.Length(r.l, false); a != r.written || b != r.reads {
			t.Errorf("Length(%v): %d %d, not %d %d", r.l, a, b, r.written, r.reads)
		}
		if a, b := lengthOf(r.l, true), lengthOf(r.l, false); a != int64(r.written) || b != int64(r.reads) {
			t.Errorf("the tests of %v: %d %d, not %d %d", r.l, a, b, r.written, r.reads)
		}
	}
}

func TestLengthOfAnyWords(t *testing.T) { // P22.2, P4
	var all []api.Desc
	for _, flags := range words {
		for _, n := range words {
			d := api.Desc{Addr: n, Len: n, Flags: flags, Next: flags}
			length(t, []api.Desc{d})
			all = append(all, d)
		}
		length(t, all)
	}
	l := row(5, 4000)
	for i := range 900 {
		var some []api.Desc
		for j := range i % 12 {
			some = append(some, api.Desc{Addr: l[i], Len: l[i+j*7], Flags: l[i+j*11], Next: l[j]})
		}
		length(t, some)
	}
}

func TestGatherByHand(t *testing.T) { // P22.2: the tests' own reckoning is held by it too
	v, m := mixed(t) // own bytes: 0 to 191, 320 to 383, 448 to 511
	lay(t, v, m, 0, []byte("abcdefghij"))
	lay(t, v, m, 62, []byte("klmn"))
	lay(t, v, m, 190, []byte("op"))
	lay(t, v, m, 320, []byte("qr"))
	lay(t, v, m, 510, []byte("st"))
	same(t, v, m)
	rows := []struct {
		l    []api.Desc
		most int
		b    string
	}{
		{nil, 9, ""},
		{[]api.Desc{}, 9, ""},
		{[]api.Desc{{Len: 4}}, 9, "abcd"},
		{[]api.Desc{{Len: 4}}, 4, "abcd"},
		{[]api.Desc{{Len: 4}}, 3, "abc"},
		{[]api.Desc{{Len: 4}}, 1, "a"},
		{[]api.Desc{{Len: 4}}, 0, ""},
		{[]api.Desc{{Len: 4}}, -1, ""},
		{[]api.Desc{{Len: 4}}, math.MinInt, ""},
		{[]api.Desc{{Len: 4}}, math.MaxInt, "abcd"},
		{[]api.Desc{{Addr: 4, Len: 2}, {Addr: 62, Len: 4}, {Addr: 2, Len: 1}}, 100, "efklmnc"},
		{[]api.Desc{{Addr: 4, Len: 2}, {Addr: 62, Len: 4}, {Addr: 2, Len: 1}}, 7, "efklmnc"},
		{[]api.Desc{{Addr: 4, Len: 2}, {Addr: 62, Len: 4}, {Addr: 2, Len: 1}}, 6, "efklmn"},
		{[]api.Desc{{Addr: 4, Len: 2}, {Addr: 62, Len: 4}, {Addr: 2, Len: 1}}, 5, "efklm"},
		{[]api.Desc{{Addr: 4, Len: 2}, {Addr: 62, Len: 4}, {Addr: 2, Len: 1}}, 2, "ef"},
		{[]api.Desc{{Addr: 4, Len: 2}, {Len: 3, Flags: write}, {Addr: 2, Len: 1, Flags: next}}, 9, "efc"},
		{[]api.Desc{{Len: 3, Flags: write}}, 9, ""},
		{[]api.Desc{{Len: 3, Flags: 4}, {Len: 3, Flags: 6}}, 9, "abc"},
		{[]api.Desc{{Len: 2}, {Len: 2}, {Addr: 1, Len: 2}}, 9, "ababbc"},
		{[]api.Desc{{Addr: 190, Len: 2}, {Addr: 190, Len: 3}, {Addr: 1, Len: 1}}, 9, "opb"},                    // the second has none
		{[]api.Desc{{Addr: 190, Len: 3}, {Addr: 1, Len: 1}}, 2, "b"},                                           // though two of its bytes were asked for
		{[]api.Desc{{Addr: 319, Len: 3}, {Addr: 320, Len: 2}}, 9, "qr"},                                        // nor what begins ahead of own bytes
		{[]api.Desc{{Addr: 192, Len: 1}, {Addr: 256, Len: 1}, {Addr: 512, Len: 1}, {Addr: 3, Len: 1}}, 9, "d"}, // not there, in no frame, a ring's
		{[]api.Desc{{Addr: 510, Len: 2}, {Addr: 510, Len: 3}, {Addr: 511, Len: 1}}, 9, "stt"},
		{[]api.Desc{{Addr: 0xFFFFFFFF, Len: 2}, {Addr: 0xFFFFFFFF, Len: 1}, {Addr: 1, Len: 1}}, 9, "b"},
		{[]api.Desc{{Addr: 0, Len: 0xFFFFFFFF}, {Addr: 1, Len: 0xFFFFFFFF}, {Addr: 1, Len: 1}}, 9, "b"},
		{[]api.Desc{{Addr: 512}, {Addr: 9999}, {}, {Addr: 1, Len: 1}}, 9, "b"}, // of nothing
	}
	for _, r := range rows {
		if b := chain.Gather(v, r.l, r.most); string(b) != r.b {
			t.Errorf("Gather(%v, %d): %q, not %q", r.l, r.most, b, r.b)
		}
		if b := m.gather(r.l, r.most); string(b) != r.b {
			t.Errorf("the tests of %v, %d: %q, not %q", r.l, r.most, b, r.b)
		}
	}
	same(t, v, m)
}

// lists is rows of descriptors that Gather and Scatter are tried with: such as a walk answers, and others.
func lists() [][]api.Desc {
	l := [][]api.Desc{
		nil, {},
		{{Len: 1}}, {{Len: 1, Flags: write}}, {{Len: 64, Addr: 60}}, {{Len: 64, Addr: 60, Flags: write}},
		{{Addr: 10, Len: 3, Flags: next}, {Addr: 5, Len: 4, Flags: next}, {Addr: 126, Len: 5, Flags: both}, {Addr: 0, Len: 2, Flags: write}},
		{{Addr: 126, Len: 5, Flags: both}, {Addr: 10, Len: 3}, {Addr: 320, Len: 7, Flags: write}, {Addr: 64, Len: 1}}, // out of order
		{{Addr: 126, Len: 5, Flags: both}, {Addr: 127, Len: 3, Flags: both}, {Addr: 125, Len: 5, Flags: write}},       // over each other
		{{Addr: 40, Len: 5}, {Addr: 41, Len: 3}, {Addr: 40, Len: 5}},
		{{Addr: 190, Len: 3, Flags: write}, {Addr: 188, Len: 4, Flags: write}, {Addr: 192, Len: 2, Flags: write}, {Addr: 3, Len: 3, Flags: write}}, // some that are not own, in some views
		{{Addr: 190, Len: 3}, {Addr: 188, Len: 4}, {Addr: 192, Len: 2}, {Addr: 3, Len: 3}},
		{{Addr: 510, Len: 3, Flags: write}, {Addr: 512, Len: 1, Flags: write}, {Addr: 512, Flags: write}, {Addr: 513, Flags: write}, {Addr: 510, Len: 2, Flags: write}},
		{{Addr: 510, Len: 3}, {Addr: 512, Len: 1}, {Addr: 512}, {Addr: 513}, {Addr: 510, Len: 2}},
		{{Addr: 0, Len: 65, Flags: write}, {Addr: 0, Len: 192, Flags: write}, {Addr: 0, Len: 512, Flags: write}, {Addr: 0, Len: 513, Flags: write}}, // longer than can be
		{{Addr: 0, Len: 65}, {Addr: 0, Len: 192}, {Addr: 0, Len: 512}, {Addr: 0, Len: 513}},
		{{Addr: 8, Len: 4, Flags: 0xFFFFFFFF}, {Addr: 8, Len: 5, Flags: 0xFFFFFFFD}, {Addr: 18, Len: 5, Flags: 6}, {Addr: 28, Len: 5, Flags: 4}},
		{{Addr: 0xFFFFFFFF, Len: 2, Flags: write}, {Addr: 0xFFFFFFC0, Len: 64, Flags: write}, {Addr: 0xFFFFFFC0, Len: 65}, {Addr: 1, Len: 0xFFFFFFFF, Flags: write}, {Addr: 0xFFFFFFFF, Len: 0xFFFFFFFF}, {Addr: 7, Len: 2, Flags: write}, {Addr: 7, Len: 2}},
		slices.Repeat([]api.Desc{{Addr: 1, Len: 3, Flags: write}, {Addr: 2, Len: 4}}, 12), // more than a queue has
	}
	for _, addr := range []uint32{0, 1, 60, 63, 64, 65, 128, 185, 191, 192, 255, 256, 320, 448, 500, 511, 512, 575, 700} {
		for _, flags := range []uint32{0, next, write, both} {
			l = append(l, []api.Desc{{Addr: addr, Len: 6, Flags: flags}, {Addr: addr + 3, Flags: flags}, {Addr: addr + 9, Len: 64, Flags: flags}})
		}
	}
	return l
}

func TestGatherOfEachCount(t *testing.T) { // P22.2, P4, P6: at most so many, and nothing changes
	for _, of := range views {
		v, m := of(t)
		for _, l := range lists() {
			for most := -2; most < 140; most++ {
				gathered(t, v, m, l, most)
			}
			for _, most := range wild {
				gathered(t, v, m, l, most)
			}
			length(t, l)
		}
		same(t, v, m)
	}
}

func TestGatherOfEachDescriptor(t *testing.T) { // P22.2: of each place and length
	for _, of := range views {
		v, m := of(t)
		for addr := range uint32(ends + 70) {
			for _, n := range []uint32{0, 1, 2, 63, 64, 65, 128, 129, 192, 512, 513} {
				l := []api.Desc{{Addr: addr, Len: n}, {Addr: 70, Len: 2}}
				for _, most := range []int{1, int(n), int(n) + 1, 600} {
					gathered(t, v, m, l, most)
				}
			}
		}
		for _, addr := range words {
			for _, n := range words {
				for _, flags := range []uint32{0, 2, 0xFFFFFFFD} {
					gathered(t, v, m, []api.Desc{{Addr: addr, Len: n, Flags: flags}, {Addr: 70, Len: 2}}, 700)
				}
			}
		}
		same(t, v, m)
	}
}

func TestScatterByHand(t *testing.T) { // P22.2: the tests' own reckoning is held by it too
	two := []api.Desc{{Len: 4}, {Addr: 126, Len: 6, Flags: both}, {Addr: 180, Len: 2, Flags: write}}
	rows := []struct {
		l    []api.Desc
		from int
		b    string
		n    int
		at   map[int]string
	}{
		{two, 0, "abcdefghij", 8, map[int]string{126: "abcdef", 180: "gh"}},
		{two, 0, "abcdefgh", 8, map[int]string{126: "abcdef", 180: "gh"}},
		{two, 0, "abcdefg", 7, map[int]string{126: "abcdef", 180: "g"}},
		{two, 0, "abcdef", 6, map[int]string{126: "abcdef"}},
		{two, 0, "a", 1, map[int]string{126: "a"}},
		{two, 0, "", 0, nil},
		{two, 1, "ab", 2, map[int]string{127: "ab"}},
		{two, 5, "abcd", 3, map[int]string{131: "a", 180: "bc"}},
		{two, 5, "a", 1, map[int]string{131: "a"}},
		{two, 6, "abcd", 2, map[int]string{180: "ab"}},
		{two, 7, "abcd", 1, map[int]string{181: "a"}},
		{two, 7, "a", 1, map[int]string{181: "a"}},
		{two, 8, "abcd", 0, nil},
		{two, 9, "abcd", 0, nil},
		{two, math.MaxInt, "abcd", 0, nil},
		{two, 1 << 32, "abcd", 0, nil},
		{two, -1, "abcd", 4, map[int]string{126: "abcd"}},
		{two, math.MinInt, "abcd", 4, map[int]string{126: "abcd"}},
		{two, -1 << 32, "abcd", 4, map[int]string{126: "abcd"}},
		{nil, 0, "abcd", 0, nil},
		{[]api.Desc{{Len: 4}, {Addr: 9, Len: 4, Flags: next}, {Addr: 9, Len: 4, Flags: 4}}, 0, "abcd", 0, nil},                                                        // to be read
		{[]api.Desc{{Addr: 9, Len: 2, Flags: 6}, {Addr: 20, Len: 2, Flags: 0xFFFFFFFF}}, 1, "abcd", 3, map[int]string{10: "a", 20: "bc"}},                             // flags that can't be
		{[]api.Desc{{Addr: 190, Len: 3, Flags: write}, {Addr: 20, Len: 2, Flags: write}}, 0, "abcd", 2, map[int]string{20: "ab"}},                                     // not all own: none
		{[]api.Desc{{Addr: 190, Len: 3, Flags: write}, {Addr: 20, Len: 2, Flags: write}}, 1, "abcd", 1, map[int]string{21: "a"}},                                      // nor do they count
		{[]api.Desc{{Addr: 190, Len: 3, Flags: write}, {Addr: 20, Len: 2, Flags: write}}, 0, "a", 1, map[int]string{20: "a"}},                                         // though one would be enough
		{[]api.Desc{{Addr: 512, Len: 3, Flags: write}, {Addr: 256, Len: 3, Flags: write}, {Addr: 510, Len: 2, Flags: write}}, 1, "abcd", 1, map[int]string{511: "a"}}, // a ring's page, no frame
		{[]api.Desc{{Addr: 0xFFFFFFFF, Len: 3, Flags: write}, {Len: 0xFFFFFFFF, Flags: write}, {Len: 1, Flags: write}}, 0, "abcd", 1, map[int]string{0: "a"}},
		{[]api.Desc{{Addr: 20, Len: 4, Flags: write}, {Addr: 22, Len: 4, Flags: write}}, 0, "abcdefgh", 8, map[int]string{20: "abefgh"}}, // the later ones lie over the earlier
		{[]api.Desc{{Addr: 20, Len: 4, Flags: write}, {Addr: 18, Len: 4, Flags: write}}, 2, "abcdef", 6, map[int]string{18: "cdef", 22: "ab"}},
		{[]api.Desc{{Addr: 5, Flags: write}, {Addr: 512, Flags: write}, {Addr: 20, Len: 2, Flags: write}, {Addr: 6, Flags: write}}, 0, "abc", 2, map[int]string{20: "ab"}}, // of nothing
	}
	for _, r := range rows {
		v, m := mixed(t)
		was := slices.Clone(m.frames)
		b := []byte(r.b)
		if n := chain.Scatter(v, r.l, r.from, b); n != r.n || string(b) != r.b {
			t.Errorf("Scatter(%v, %d, %q): %d, not %d", r.l, r.from, r.b, n, r.n)
		}
		if n := m.scatter(r.l, r.from, b); n != r.n {
			t.Errorf("the tests of %v, %d, %q: %d, not %d", r.l, r.from, r.b, n, r.n)
		}
		same(t, v, m)
		m.frames = was
		for pa, s := range r.at {
			for i := range len(s) {
				*m.at(pa + i) = s[i]
			}
		}
		same(t, v, m)
	}
}

func TestScatterFromEachPlace(t *testing.T) { // P22.2, P4, P6: they stand there, their pages were written, and nothing else is changed
	for _, of := range views {
		v, m := of(t)
		for i, l := range lists() {
			for from := -2; from < 82; from++ {
				for _, n := range []int{0, 1, 2, 5, 64, 200} {
					scattered(t, v, m, l, from, some(n, byte(i+from+n)))
				}
			}
			for _, from := range wild {
				scattered(t, v, m, l, from, some(70, byte(from)))
			}
			scattered(t, v, m, l, 0, nil)
			scattered(t, v, m, l, 1, []byte{})
		}
	}
}

func TestScatterIntoEachDescriptor(t *testing.T) { // P22.2: of each place and length
	for _, of := range views {
		v, m := of(t)
		for addr := range uint32(ends + 70) {
			for _, n := range []uint32{0, 1, 2, 63, 64, 65, 129, 512, 513} {
				l := []api.Desc{{Addr: addr, Len: n, Flags: write}, {Addr: 70, Len: 2, Flags: both}}
				scattered(t, v, m, l, int(addr%3), some(1+int(n)/2, byte(addr)))
				scattered(t, v, m, l, int(n)-1, some(3, byte(addr)+9))
			}
		}
		for _, addr := range words {
			for _, n := range words {
				scattered(t, v, m, []api.Desc{{Addr: addr, Len: n, Flags: 0xFFFFFFFF}, {Addr: 70, Len: 2, Flags: write}}, 1, some(600, byte(n)))
			}
		}
	}
}

func TestWhatWasScatteredIsGathered(t *testing.T) { // P22.3: it lies there, by the same descriptors to be read
	v, m := mixed(t)
	l := []api.Desc{{Addr: 60, Len: 10, Flags: both, Next: 1}, {Addr: 320, Len: 64, Flags: both, Next: 2}, {Addr: 100, Flags: both, Next: 3}, {Addr: 500, Len: 12, Flags: write}}
	to := slices.Clone(l)
	for i, d := range l {
		put(t, v, m, uint32(112+16*i), d)
		to[i].Flags -= write
	}
	same(t, v, m)
	all := chain.Length(l, true)
	for n := range all + 3 {
		for _, from := range []int{0, 1, 9, 10, 11, 73, 74, 75, 85, 86, 87} {
			b := some(n, byte(n+from))
			w := walked(t, v, m, queueAt(112, 4), 0)
			ahead := chain.Gather(v, to, all)
			got := chain.Scatter(v, w, from, b)
			if want := max(0, min(n, all-from)); got != want {
				t.Fatalf("Scatter of %d from %d on: %d, not %d", n, from, got, want)
			}
			m.scatter(l, from, b)
			behind := chain.Gather(v, to, all)
			if got > 0 {
				copy(ahead[from:], b[:got])
			}
			if !bytes.Equal(behind, ahead) {
				t.Fatalf("gathered behind %d from %d on: %v, not %v", n, from, behind, ahead)
			}
			same(t, v, m)
		}
	}
}

func TestScatterOverItsOwnDescriptors(t *testing.T) { // P22.2, P22.3: those that were handed in count, not what lies there now
	v, m := whole(t)
	put(t, v, m, 64, api.Desc{Addr: 64, Len: 20, Flags: both, Next: 1})
	put(t, v, m, 80, api.Desc{Addr: 70, Len: 26, Flags: write})
	l := walked(t, v, m, queueAt(64, 2), 0)
	scattered(t, v, m, l, 0, nil)
	scattered(t, v, m, l, 3, bytes.Repeat([]byte{255}, 60))
	walked(t, v, m, queueAt(64, 2), 0)
	walked(t, v, m, queueAt(64, 2), 1)
	same(t, v, m)
}

func TestGatherInMemoryOfItsOwn(t *testing.T) { // P22.2, P4
	v, m := whole(t)
	l := []api.Desc{{Addr: 60, Len: 8}, {Addr: 200, Len: 3}}
	one, other := chain.Gather(v, l, 100), chain.Gather(v, l, 100)
	want := bytes.Clone(other)
	clear(one)
	_ = append(one[:3], 9, 9, 9, 9)
	if !bytes.Equal(other, want) {
		t.Errorf("an answer changed by another one: %v", other)
	}
	gathered(t, v, m, l, 100)
	same(t, v, m)
	lay(t, v, m, 60, make([]byte, 200))
	if !bytes.Equal(other, want) {
		t.Errorf("an answer changed by Write: %v", other)
	}
	gathered(t, v, m, l, 100)
	single := chain.Gather(v, l[:1], 100)
	clear(single)
	single[0] = 77
	gathered(t, v, m, l[:1], 100)
	same(t, v, m)
}

func TestScatterKeepsNothing(t *testing.T) { // P22.2, P4: what is handed in may be changed behind it
	v, m := whole(t)
	l := []api.Desc{{Addr: 60, Len: 8, Flags: both}, {Addr: 200, Len: 3, Flags: write}}
	b := some(11, 3)
	scattered(t, v, m, l, 0, b)
	clear(b)
	clear(l)
	same(t, v, m)
	room := some(64, 8)
	scattered(t, v, m, []api.Desc{{Addr: 100, Len: 9, Flags: write}}, 0, room[20:30]) // what is about its bytes is none of them
	if !bytes.Equal(room, some(64, 8)) {
		t.Errorf("what is about what was handed in: %v", room)
	}
}

func TestNoView(t *testing.T) { // P1, P22.1, P22.2: nothing is own; what goes ahead of that is told all the same
	emptied := func(empty func(*view.View)) *view.View {
		v, _ := whole(t)
		empty(v)
		return v
	}
	none := []*view.View{
		nil, new(view.View),
		emptied(func(v *view.View) { *v.Map() = gmap.Map{} }),
		emptied(func(v *view.View) { *v.Store() = frames.Store{} }),
		emptied(func(v *view.View) { *v = view.View{} }),
	}
	for i, v := range none {
		m := &model{}
		for _, n := range wild {
			for _, head := range wild {
				walked(t, v, m, queueAt(0, n), head)
				walked(t, v, m, queueAt(0x8000, n), head)
			}
		}
		for _, l := range lists() {
			for _, n := range wild {
				if b := chain.Gather(v, l, n); len(b) != 0 {
					t.Errorf("%d: Gather(%v, %d): %v", i, l, n, b)
				}
				if done := chain.Scatter(v, l, n, some(20, 1)); done != 0 {
					t.Errorf("%d: Scatter(%v, %d): %d", i, l, n, done)
				}
			}
		}
	}
}

func TestItIsUsedAsItIs(t *testing.T) { // P4: what is done to the view's map and store is seen
	v, m := whole(t)
	put(t, v, m, 64, api.Desc{Addr: 130, Len: 4, Flags: next, Next: 1})
	put(t, v, m, 80, api.Desc{Addr: 131, Len: 4, Flags: write})
	l := walked(t, v, m, queueAt(64, 2), 0)
	v.Map().Drop(2)
	delete(m.places, 2)
	walked(t, v, m, queueAt(64, 2), 0)
	gathered(t, v, m, l, 100)
	scattered(t, v, m, l, 0, some(4, 1))
	v.Map().Set(2, api.Place{Frame: 13, Rights: rd})
	m.places[2] = api.Place{Frame: 13, Rights: rd}
	walked(t, v, m, queueAt(64, 2), 0)
	gathered(t, v, m, l, 100)
	scattered(t, v, m, l, 0, some(4, 1))
	few, _ := frames.New(12)
	*v.Store() = *few
	m.frames = make([][size]byte, 12)
	walked(t, v, m, queueAt(64, 2), 0)
	gathered(t, v, m, l, 100)
	scattered(t, v, m, l, 0, some(4, 1))
}

func TestAnswersHangOnArgumentsAlone(t *testing.T) { // P5: in any order, and many at once
	l := row(3, 2000)
	answers := func(backward bool) []int {
		v, m := whole(t)
		for i := range 8 {
			put(t, v, m, uint32(16*i), api.Desc{Addr: uint32(60 * i), Len: uint32(9 * i % 64), Flags: next, Next: uint32(i + 1)})
		}
		put(t, v, m, 112, api.Desc{Addr: 300, Len: 50, Flags: write})
		of := make([]int, len(l))
		for i := range l {
			if backward {
				i = len(l) - 1 - i
			}
			w := l[i]
			c, wrong := chain.Walk(v, queueAt(w%3*16, sizes[w%3]), int(w%9))
			b := chain.Gather(v, c, int(w%200))
			of[i] = 1000*wrong + 10*len(c) + chain.Length(c, true)
			for _, x := range b {
				of[i] = of[i]*31 + int(x)
			}
			of[i] += chain.Scatter(v, c, int(w%60), some(int(w%50), 0)[:w%50/2])
			lay(t, v, m, 300, make([]byte, 50))
		}
		return of
	}
	want := answers(false)
	var wait sync.WaitGroup
	for i := range 8 {
		wait.Go(func() {
			if got := answers(i%2 == 1); !slices.Equal(got, want) {
				t.Error("not the same")
			}
		})
	}
	wait.Wait()
}

// TestAnyArguments calls all with all wild arguments: that none panics is what it asks (P1).
func TestAnyArguments(t *testing.T) {
	v, _ := mixed(t)
	for _, w := range words {
		for _, n := range wild {
			for _, u := range []*view.View{v, nil, new(view.View)} {
				chain.Walk(u, api.Ring3{Desc: w, Avail: w, Used: w, N: n}, n)
				l := []api.Desc{{Addr: w, Len: w, Flags: w, Next: w}, {Addr: w, Len: uint32(n), Flags: 2}, {Addr: uint32(n), Len: w}}
				chain.Gather(u, l, n)
				chain.Scatter(u, l, n, some(70, 1))
				chain.Length(l, n%2 == 0)
				chain.Gather(u, nil, n)
				chain.Scatter(u, nil, n, nil)
			}
		}
	}
	many := slices.Repeat([]api.Desc{{Addr: 0, Len: 192}, {Addr: 0, Len: 192, Flags: write}}, 1<<12)
	if n := len(chain.Gather(v, many, math.MaxInt)); n != 192<<12 {
		t.Errorf("Gather of many: %d", n)
	}
	if n := chain.Scatter(v, many, 192<<12-5, make([]byte, 1<<20)); n != 5 {
		t.Errorf("Scatter into many: %d", n)
	}
}
