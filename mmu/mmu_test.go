package mmu_test

import (
	"math"
	"slices"
	"sync"
	"testing"

	"hermitage/api"
	"hermitage/frames"
	"hermitage/gmap"
	"hermitage/mmu"
	"hermitage/view"
	"hermitage/walk"
)

const (
	owns     = 8  // a guest's own pages
	pages    = 12 // all of them
	mostKept = 32 // of a shadow
	mostRoom = 4  // of a Tlb
	bytes    = 64 // of a page
	beyond   = 1 << 14
)

// wild is numbers that roots, pages, rooms, widths and kinds are tried with: the least and the greatest, those about each edge, and such as come to another one if bits are cut off.
var wild = []int{
	math.MinInt, math.MinInt + 1, -1 << 32, -1<<32 + 1, math.MinInt32, -256, -64, -9, -8, -4, -3, -2, -1,
	0, 1, 2, 3, 4, 5, 6, 7, 8, 9, 11, 12, 15, 16, 31, 32, 33, 64, 255, 256, 257, 1 << 16, math.MaxInt32, 1 << 31, 1 << 32, 1<<32 + 1, 1<<32 + 2, 1<<32 + 4, math.MaxInt - 1, math.MaxInt,
}

// addresses is some of each part of all that there are, and of those beyond.
var addresses = []uint32{
	0, 1, 2, 3, 4, 5, 7, 8, 62, 63, 64, 65, 66, 68, 127, 128, 130, 192, 256, 257, 320, 384, 448, 511, 512, 514, 576, 640, 704, 760, 764, 767, 768, 769, 832, 1020, 1023, 1024, 1028, 1087, 1088, 2047, 2048, 3072, 4096, 8192, 16380, 16383,
	beyond, beyond + 1, beyond + 5, 1<<16 - 1, 1 << 16, 1 << 20, 1<<31 - 1, 1 << 31, 1<<31 + 5, 1<<32 - 64, 1<<32 - 4, 1<<32 - 1,
}

// known is what one of the tests' own translations is: its key, its entry, the tables that it was found through.
type known struct {
	api.Kept
	root, leaf int
}

// world is a guest's memory, an Mmu of it, and what that must remember: the oldest first.
type world struct {
	s    *frames.Store
	m    *gmap.Map
	v    *view.View
	u    *mmu.Mmu
	room int
	kept []known
}

// word is that of an entry with these rights, to that page.
func word(rights, page int) uint32 {
	return 1 + uint32(rights)<<1 + uint32(page)<<8
}

// laid is a world of n frames, whose pages lie at these places, with nothing in them.
func laid(t *testing.T, n, room int, places map[int]api.Place) *world {
	t.Helper()
	s, e1 := frames.New(n)
	m := gmap.New()
	for page, p := range places {
		if e := m.Set(page, p); e != api.OK {
			t.Fatalf("Set(%d): %d", page, e)
		}
	}
	v, e2 := view.New(s, m)
	u, e3 := mmu.New(v, room)
	if e1 != api.OK || e2 != api.OK || e3 != api.OK || u == nil {
		t.Fatalf("New: %d %d %d", e1, e2, e3)
	}
	return &world{s: s, m: m, v: v, u: u, room: room}
}

// whole is a world with two roots, 1 and 5, three leaf tables, 2, 6 and 7, all own pages, and rings' pages of each right.
func whole(t *testing.T, room int) *world {
	t.Helper()
	places := map[int]api.Place{8: {Frame: 12, Rights: 1}, 9: {Frame: 13, Rights: 3}, 10: {Frame: 14, Rights: 2}}
	for page := range owns {
		places[page] = api.Place{Frame: 10 - page, Rights: 3}
	}
	w := laid(t, 16, room, places)
	for place, leaf := range map[int]int{0: 2, 1: 6, 2: 1, 3: 8, 4: 7, 15: 7} {
		w.save(t, 1, place, word(0, leaf))
	}
	for place, leaf := range map[int]int{0: 6, 1: 2, 2: 5} {
		w.save(t, 5, place, word(0, leaf))
	}
	for place, to := range []uint32{
		word(15, 3), word(1, 4), word(3, 4), word(3, 2), word(3, 1), word(15, 8), word(11, 9), word(4, 0),
		word(15, 11), word(12, 3), 0, 1<<31 + word(3, 3), word(15, 10), word(3, 0), word(0, 3), word(15, 12),
	} {
		w.save(t, 2, place, to)
	}
	for place := range 16 {
		w.save(t, 6, place, word(3+place%2*4, []int{0, 3, 4, 5, 6}[place%5]))
		w.save(t, 7, place, word(1+place%2*2, 3+place%3/2))
	}
	return w
}

// save is the view's own, of a word of a table.
func (w *world) save(t *testing.T, page, place int, to uint32) {
	t.Helper()
	if fault := w.v.Save(uint32(page*bytes+4*place), 4, to); fault != api.FOk {
		t.Fatalf("Save to %d of page %d: %d", place, page, fault)
	}
	w.wrote(page)
}

// frame is where page lies; -1, if it is not there.
func (w *world) frame(page int) int {
	if p, ok := w.m.Get(page); ok {
		return p.Frame
	}
	return -1
}

// lose makes all that are so be remembered no more.
func (w *world) lose(goes func(known) bool) {
	w.kept = slices.DeleteFunc(w.kept, goes)
}

// wrote is what follows of a page that was written: nothing is remembered through what lies there.
func (w *world) wrote(page int) {
	at := w.frame(page)
	w.lose(func(x known) bool { return w.frame(x.root) == at || w.frame(x.leaf) == at })
}

func (w *world) isTable(page int) bool {
	return slices.ContainsFunc(w.kept, func(x known) bool { return x.root == page || x.leaf == page })
}

// fast says whether an access must be found without walking tables.
func (w *world) fast(how api.Mode, va uint32, kind int) bool {
	k := api.Key{Root: how.Root, Page: int(va) / bytes}
	return how.On && slices.ContainsFunc(w.kept, func(x known) bool {
		may := map[int]int{0: x.E.Rights & 4, 1: x.E.Rights & 1, 2: x.E.Rights & 2}[kind]
		return x.K == k && may != 0 && (!how.User || x.E.Rights&8 != 0)
	})
}

// fill is what follows of an access that was found by tables.
func (w *world) fill(how api.Mode, va uint32) {
	s := walk.Walk(w.v, how.Root, va)
	k := api.Key{Root: how.Root, Page: int(va) / bytes}
	rights := s.P.Rights & 8
	for kind, right := range map[int]int{0: 4, 1: 1, 2: 2} {
		if w.m.Allows(s.P.Page, kind) == api.FOk {
			rights |= s.P.Rights & right
		}
	}
	w.lose(func(x known) bool { return x.K == k })
	w.kept = append(w.kept, known{api.Kept{K: k, E: api.Entry{Page: s.P.Page, Frame: w.frame(s.P.Page), Rights: rights}}, s.Root, s.Leaf})
	if len(w.kept) > mostKept {
		w.kept = w.kept[1:]
	}
	for i, x := range w.kept {
		if w.isTable(x.E.Page) {
			w.kept[i].E.Rights &= 8 + 4 + 1
		}
	}
}

// truth is where an access lies, and whether it is found fast.
func (w *world) truth(how api.Mode, va uint32, kind int) (api.Hit, int) {
	h, fault := walk.Find(w.v, how, va, kind)
	h.Fast = fault == api.FOk && w.fast(how, va, kind)
	return h, fault
}

// then is what follows of an access: what was found by tables is remembered.
func (w *world) then(how api.Mode, va uint32, h api.Hit, fault int) {
	if fault == api.FOk && how.On && !h.Fast {
		w.fill(how, va)
	}
}

func (w *world) find(t *testing.T, how api.Mode, va uint32, kind int) api.Hit {
	t.Helper()
	want, fault := w.truth(how, va, kind)
	h, f := w.u.Find(how, va, kind)
	if h != want || f != fault {
		t.Fatalf("Find(%v, %d, %d): %v %d, not %v %d", how, va, kind, h, f, want, fault)
	}
	w.then(how, va, h, f)
	return h
}

// aligned says whether an access of that width may begin there.
func aligned(va uint32, width int) bool {
	return width == 1 || width == 2 && va%2 == 0 || width == 4 && va%4 == 0
}

func (w *world) load(t *testing.T, how api.Mode, va uint32, width, kind int) {
	t.Helper()
	h, fault := w.truth(how, va, kind)
	want := uint32(0)
	if !aligned(va, width) {
		fault = api.FAlign
	} else if w.then(how, va, h, fault); fault == api.FOk {
		b, _ := w.s.Bytes(h.Frame)
		for i := range width {
			want += uint32(b[h.Off+i]) << (8 * i)
		}
	}
	if got, f := w.u.Load(how, va, width, kind); got != want || f != fault {
		t.Fatalf("Load(%v, %d, %d, %d): %x %d, not %x %d", how, va, width, kind, got, f, want, fault)
	}
}

// all is what all frames have.
func (w *world) all() [][]byte {
	var l [][]byte
	for f := range w.s.Len() {
		b, _ := w.s.Bytes(f)
		l = append(l, b)
	}
	return l
}

func (w *world) put(t *testing.T, how api.Mode, va uint32, width int, to uint32) {
	t.Helper()
	want := w.all()
	h, fault := w.truth(how, va, api.KStore)
	if !aligned(va, width) {
		fault = api.FAlign
	} else if w.then(how, va, h, fault); fault == api.FOk {
		for i := range width {
			want[h.Frame][h.Off+i] = byte(to >> (8 * i))
		}
		w.wrote(h.Page)
	}
	if f := w.u.Save(how, va, width, to); f != fault {
		t.Fatalf("Save(%v, %d, %d, %x): %d, not %d", how, va, width, to, f, fault)
	}
	for f, b := range w.all() {
		if !slices.Equal(b, want[f]) {
			t.Fatalf("Save(%v, %d, %d, %x): frame %d has %v, not %v", how, va, width, to, f, b, want[f])
		}
	}
}

// drop drops a page of the map, with Gone behind it.
func (w *world) drop(t *testing.T, page int) {
	t.Helper()
	w.m.Drop(page)
	w.gone(t, page)
}

func (w *world) gone(t *testing.T, page int) {
	t.Helper()
	w.lose(func(x known) bool { return x.root == page || x.leaf == page || x.E.Page == page })
	if e := w.u.Gone(page); e != api.OK {
		t.Fatalf("Gone(%d): %d", page, e)
	}
}

func (w *world) flush(t *testing.T) {
	t.Helper()
	if n := w.u.Flush(); n != len(w.kept) {
		t.Fatalf("Flush: %d, not %d", n, len(w.kept))
	}
	w.kept = nil
}

// agree asks all that is remembered, twice, and what must hold of it.
func (w *world) agree(t *testing.T) {
	t.Helper()
	for range 2 {
		l := w.u.Kept()
		if len(l) < len(w.kept) || len(l) > len(w.kept)+w.room {
			t.Fatalf("Kept: %v, not %v and at most %d", l, w.kept, w.room)
		}
		for i, x := range w.kept {
			if l[i] != x.Kept {
				t.Fatalf("Kept: %v, not %v", l, w.kept)
			}
		}
		for i, x := range l[len(w.kept):] {
			is := func(y api.Kept) bool { return x == y }
			if !slices.ContainsFunc(l[:len(w.kept)], is) || slices.ContainsFunc(l[len(w.kept)+i+1:], is) {
				t.Fatalf("Kept: %v, of which the last ones are remembered twice, or otherwise than in the shadow", l)
			}
		}
		for page := -1; page <= owns; page++ {
			if is := w.u.Table(page); is != w.isTable(page) {
				t.Fatalf("Table(%d): %v", page, is)
			}
		}
		w.holds(t, l)
	}
}

// holds asks what P20.5 says of all that is remembered.
func (w *world) holds(t *testing.T, l []api.Kept) {
	t.Helper()
	for _, x := range l {
		p, ok := w.m.Get(x.E.Page)
		if !ok || p.Frame != x.E.Frame || x.E.Rights&^15 != 0 {
			t.Fatalf("%v, where the map says %v %v", x, p, ok)
		}
		for kind, right := range map[int]int{0: 4, 1: 1, 2: 2} {
			if x.E.Rights&right != 0 && w.m.Allows(x.E.Page, kind) != api.FOk {
				t.Fatalf("%v has a right that the map does not give", x)
			}
		}
		if x.E.Rights&2 != 0 && w.u.Table(x.E.Page) {
			t.Fatalf("%v has the right to write a table", x)
		}
	}
}

// by is the way by the tables of root, in the kernel's mode.
func by(root int) api.Mode {
	return api.Mode{On: true, Root: root}
}

func TestTheLimits(t *testing.T) { // the numbers that the tests beside this one stand on
	if api.OwnPages != owns || api.MaxPages != pages || api.MaxShadow != mostKept || api.MaxTlb != mostRoom || api.FrameBytes != bytes || api.VaBytes != beyond {
		t.Error("package api has others")
	}
	if api.RRead != 1 || api.RWrite != 2 || api.RExec != 4 || api.RUser != 8 || api.KFetch != 0 || api.KLoad != 1 || api.KStore != 2 {
		t.Error("package api has other rights, or kinds")
	}
}

func TestNew(t *testing.T) { // P20.1: a view that a call made, rooms of 0 to MaxTlb; nothing is remembered
	s, _ := frames.New(1)
	v, _ := view.New(s, gmap.New())
	for _, room := range wild {
		u, e := mmu.New(v, room)
		if room < 0 || room > mostRoom {
			if u != nil || e != api.ErrArg {
				t.Errorf("New(v, %d): %v %d", room, u, e)
			}
		} else if u == nil || e != api.OK || len(u.Kept()) != 0 || u.Flush() != 0 || u.Table(0) {
			t.Errorf("New(v, %d): %v %d", room, u, e)
		}
		for _, v := range []*view.View{nil, new(view.View)} { // P2: it goes ahead of the room
			if u, e := mmu.New(v, room); u != nil || e != api.ErrZero {
				t.Errorf("New of none, %d: %v %d", room, u, e)
			}
		}
	}
}

func TestOfTheChapter(t *testing.T) { // P20.1: fast the second time; walked anew, when a word of the leaf table was saved
	w := whole(t, 2)
	for _, fast := range []bool{false, true, true} {
		if h, f := w.u.Find(by(1), 5, api.KLoad); h != (api.Hit{Page: 3, Frame: 7, Off: 5, Fast: fast}) || f != api.FOk {
			t.Fatalf("Find: %v %d", h, f)
		}
	}
	if f := w.u.Save(api.Mode{}, 2*bytes+60, 4, 7); f != api.FOk {
		t.Fatalf("Save: %d", f)
	}
	for _, fast := range []bool{false, true} {
		if h, f := w.u.Find(by(1), 5, api.KLoad); h != (api.Hit{Page: 3, Frame: 7, Off: 5, Fast: fast}) || f != api.FOk {
			t.Fatalf("Find behind it: %v %d", h, f)
		}
	}
	if f := w.u.Save(by(1), 3*bytes, 4, word(1, 4)); f != api.FOk { // by the table itself
		t.Fatalf("Save: %d", f)
	}
	for _, fast := range []bool{false, true} {
		if h, f := w.u.Find(by(1), 5, api.KLoad); h != (api.Hit{Page: 4, Frame: 6, Off: 5, Fast: fast}) || f != api.FOk {
			t.Fatalf("Find behind both: %v %d", h, f)
		}
	}
	if f := w.u.Save(by(1), 5, 1, 7); f != api.FPerm {
		t.Fatalf("Save of what is to be read: %d", f)
	}
}

func TestByHand(t *testing.T) { // P20.1, P20.3, P20.5: the tests' own reckoning is held by it too
	w := whole(t, 1)
	holds := func(want ...api.Kept) {
		t.Helper()
		w.agree(t)
		if l := w.u.Kept(); !slices.Equal(l, want) {
			t.Fatalf("Kept: %v, not %v", l, want)
		}
	}
	kept := func(root, va, page, rights int) api.Kept {
		return api.Kept{K: api.Key{Root: root, Page: va / bytes}, E: api.Entry{Page: page, Frame: 10 - page, Rights: rights}}
	}
	a, b, c := kept(1, 0, 3, 15), kept(1, 64, 4, 1), kept(1, 192, 2, 1)
	holds()
	w.find(t, by(1), 0, api.KFetch)
	holds(a, a) // the shadow's, then the Tlb's
	w.find(t, by(1), 68, api.KLoad)
	holds(a, b, b)
	w.find(t, by(1), 192, api.KLoad) // its own table: not to be written
	holds(a, b, c, c)
	w.find(t, by(1), 63, api.KLoad) // fast, and the Tlb has it again
	holds(a, b, c, a)
	w.find(t, by(1), 192, api.KStore) // walked, and the youngest
	holds(a, b, c, c)
	w.find(t, by(1), 0, api.KLoad)
	w.find(t, by(5), 64, api.KLoad) // page 3, by another root: 5 and 6 are tables too
	d := kept(5, 64, 3, 7)
	holds(a, b, c, d, d)
	w.put(t, by(1), 4, 4, 99)
	holds(a, b, c, d, a)
	w.gone(t, 4)
	holds(a, c, d, a)
	w.save(t, 2, 10, 0)
	holds(d)
	w.find(t, by(5), 64, api.KLoad)
	holds(d, d)
	w.flush(t)
	holds()
}

// modes is all ways that addresses may be meant: by roots that are tables, that are pages, that are none, or as they are.
func modes() []api.Mode {
	var l []api.Mode
	for _, root := range []int{1, 5, 0, 2, 8, 11, 12, -1, 1 << 32, 1<<32 + 1, math.MinInt, math.MaxInt} {
		l = append(l, api.Mode{On: true, Root: root}, api.Mode{On: true, Root: root, User: true})
	}
	return append(l, api.Mode{}, api.Mode{User: true}, api.Mode{Root: 1}, api.Mode{Root: -1, User: true})
}

func TestEachAccess(t *testing.T) { // P20.1: what walk.Find answers, each twice, and behind others, with all rooms
	for room := range mostRoom + 1 {
		w := whole(t, room)
		for range 2 {
			for _, how := range modes() {
				for _, va := range addresses {
					for _, kind := range []int{api.KLoad, api.KStore, api.KFetch, -1, 3, math.MinInt, math.MaxInt} {
						w.find(t, how, va, kind)
						w.find(t, how, va, kind)
					}
				}
				w.agree(t)
			}
		}
	}
}

func TestEachPage(t *testing.T) { // P20.1, P20.5: all pages of all addresses, more than can be remembered, to and fro
	for room := range mostRoom + 1 {
		w := whole(t, room)
		for i := range uint32(1024) {
			page := i * 37 % 256
			w.find(t, by(1), page*bytes+i%bytes, api.KLoad)
			w.find(t, by(1), page*bytes, api.KLoad)
			w.find(t, by(5), i%3*1024+page%16*bytes, int(i%3))
			if i%16 == 0 {
				w.agree(t)
			}
		}
	}
}

func TestWithoutTables(t *testing.T) { // P20.1: never fast, nothing is remembered
	w := whole(t, 4)
	for range 3 {
		for _, va := range addresses {
			for kind := range 3 {
				if h := w.find(t, api.Mode{Root: 1}, va, kind); h.Fast {
					t.Fatalf("Find(%d): %v", va, h)
				}
				if h := w.find(t, api.Mode{Root: 1, User: true}, va, kind); h.Fast {
					t.Fatalf("Find(%d): %v", va, h)
				}
			}
		}
	}
	if l := w.u.Kept(); len(l) != 0 {
		t.Errorf("Kept: %v", l)
	}
}

func TestFastTheNextTime(t *testing.T) { // P20.5: what was found to be loaded or fetched, at each byte of its page
	for room := range mostRoom + 1 {
		for _, how := range []api.Mode{by(1), by(5), {On: true, Root: 1, User: true}} {
			for page := range 48 {
				for _, kind := range []int{api.KLoad, api.KFetch} {
					w := whole(t, room)
					va := uint32(page * bytes)
					if _, f := w.u.Find(how, va, kind); f != api.FOk {
						if l := w.u.Kept(); len(l) != 0 {
							t.Fatalf("Kept behind a fault: %v", l)
						}
						continue
					}
					k := api.Key{Root: how.Root, Page: page}
					if l := w.u.Kept(); len(l) != 1+min(room, 1) || l[0].K != k || l[len(l)-1] != l[0] {
						t.Fatalf("Kept: %v", l)
					}
					for off := range uint32(bytes) {
						if h, f := w.u.Find(how, va+off, kind); f != api.FOk || !h.Fast || h.Off != int(off) {
							t.Fatalf("Find(%v, %d, %d): %v %d", how, va+off, kind, h, f)
						}
					}
				}
			}
		}
	}
}

func TestKeysAreRootAndPage(t *testing.T) { // P20.1, P6: what is remembered of one root, one page, is not another's
	w := whole(t, 4)
	w.find(t, by(1), 5, api.KLoad)
	for _, root := range append(wild, 1+1<<8, 1+1<<16) {
		w.find(t, by(root), 5, api.KLoad)
		w.find(t, by(root), 5, api.KLoad)
	}
	for bit := range 32 {
		w.find(t, by(1), 5|1<<bit, api.KLoad)
		w.find(t, by(1), 5, api.KLoad)
	}
	w.agree(t)
}

func TestOneMoreThanCanBeKept(t *testing.T) { // P20.5: the oldest goes, of the Tlb too, however lately it was used
	for room := range mostRoom + 1 {
		w := whole(t, room)
		w.find(t, by(1), 0, api.KLoad) // alone through page 2
		for page := range uint32(mostKept - 1) {
			w.find(t, by(1), (16+page%16+page/16*48)*bytes, api.KLoad)
			w.find(t, by(1), 0, api.KLoad)
		}
		w.agree(t)
		if n := len(w.kept); n != mostKept || !w.u.Table(2) {
			t.Fatalf("%d are kept", n)
		}
		w.find(t, by(1), 79*bytes, api.KLoad)
		w.agree(t)
		if n := len(w.kept); n != mostKept || w.u.Table(2) {
			t.Fatalf("%d are kept, page 2 a table: %v", n, w.u.Table(2))
		}
		w.save(t, 2, 0, word(1, 4))
		if h := w.find(t, by(1), 5, api.KLoad); h.Fast || h.Page != 4 {
			t.Fatalf("Find of what went: %v", h)
		}
		w.agree(t)
	}
}

// writers is ways to write that word of a table in that page.
var writers = []func(t *testing.T, w *world, page, place int, to uint32){
	func(t *testing.T, w *world, page, place int, to uint32) { w.save(t, page, place, to) },
	func(t *testing.T, w *world, page, place int, to uint32) {
		w.v.Save(uint32(page*bytes+4*place+3), 1, to>>24)
		w.wrote(page)
	},
	func(t *testing.T, w *world, page, place int, to uint32) {
		b := []byte{byte(to), byte(to >> 8), byte(to >> 16), byte(to >> 24)}
		if !w.v.Write(uint32(page*bytes+4*place), b) {
			t.Fatal("Write")
		}
		w.wrote(page)
	},
	func(t *testing.T, w *world, page, place int, to uint32) {
		w.put(t, api.Mode{}, uint32(page*bytes+4*place), 4, to)
	},
	func(t *testing.T, w *world, page, place int, to uint32) { // by a mapping of all own pages
		w.put(t, by(0), uint32(page*bytes+4*place), 4, to)
	},
	func(t *testing.T, w *world, page, place int, to uint32) { // fast, if it can be
		w.find(t, by(0), uint32(page*bytes), api.KStore)
		w.put(t, by(0), uint32(page*bytes+4*place), 2, to)
		w.put(t, by(0), uint32(page*bytes+4*place+2), 2, to>>16)
	},
}

// mapped is the whole with a root in page 0, whose own entries are all own pages, and who is its own leaf table.
func mapped(t *testing.T, room int) *world {
	t.Helper()
	w := whole(t, room)
	w.save(t, 0, 0, word(0, 4))
	for page := range owns {
		w.save(t, 4, page, word(3, page))
	}
	return w
}

func TestTablesThatAreWritten(t *testing.T) { // P20.1: whoever writes whichever word of them, none is found as it was
	for room := range mostRoom + 1 {
		for _, write := range writers {
			for _, page := range []int{0, 1, 2, 4, 5, 6} {
				for place := range 16 {
					for _, to := range []uint32{0, word(0, 6), word(7, 3)} {
						w := mapped(t, room)
						w.find(t, by(0), 0, api.KLoad)
						w.find(t, by(1), 0, api.KFetch)
						w.find(t, by(1), 1024, api.KLoad)
						w.find(t, by(5), 1024, api.KLoad)
						write(t, w, page, place, to)
						for _, root := range []int{1, 0, 5} {
							w.find(t, by(root), 0, api.KLoad)
							w.find(t, by(root), 1024, api.KLoad)
							w.find(t, by(root), uint32(place)*bytes, api.KLoad)
							w.find(t, by(root), uint32(place)*1024, api.KLoad)
						}
						w.agree(t)
					}
				}
			}
		}
	}
}

func TestTableIsWrittenUnchanged(t *testing.T) { // P20.1: with what it had; all that was found through it is walked anew
	for _, room := range []int{0, 4} {
		for _, page := range []int{1, 2} {
			w := whole(t, room)
			w.find(t, by(1), 0, api.KLoad)
			old, _ := w.v.Load(uint32(page*bytes), 4)
			w.save(t, page, 0, old)
			if h, f := w.u.Find(by(1), 0, api.KLoad); f != api.FOk || h.Fast {
				t.Errorf("Find: %v %d", h, f)
			}
		}
	}
}

func TestOtherPagesThatAreWritten(t *testing.T) { // P20.5: what is written beside the tables makes nothing be walked
	for _, room := range []int{0, 1, 4} {
		w := mapped(t, room)
		w.find(t, by(1), 0, api.KLoad)
		w.find(t, by(1), 64, api.KLoad)
		for _, page := range []int{0, 3, 4, 5, 6, 7} {
			w.save(t, page, 5, 1234)
			w.put(t, api.Mode{}, uint32(page*bytes), 1, 7)
			w.v.Write(uint32(page*bytes), make([]byte, bytes))
			for _, va := range []uint32{3, 65} {
				if h := w.find(t, by(1), va, api.KLoad); !h.Fast {
					t.Errorf("Find behind page %d: %v", page, h)
				}
			}
		}
		w.v.Write(3*bytes, make([]byte, bytes+1)) // two pages
		w.v.Write(2*bytes, nil)                   // none
		w.v.Write(7*bytes, make([]byte, bytes+1)) // refused
		w.v.Save(8*bytes, 4, 0)                   // refused
		w.v.Save(9*bytes, 4, 0)                   // a ring's
		for range 2 {
			if h := w.find(t, by(1), 3, api.KLoad); !h.Fast {
				t.Errorf("Find: %v", h)
			}
			w.agree(t)
		}
	}
}

// sharing is the whole with page 7 in the root's frame, and rings' pages in the leaf tables'.
func sharing(t *testing.T, room int) *world {
	t.Helper()
	places := map[int]api.Place{7: {Frame: 9, Rights: 3}, 8: {Frame: 8, Rights: 3}, 9: {Frame: 4, Rights: 2}, 10: {Frame: 7, Rights: 3}}
	for page := range owns - 1 {
		places[page] = api.Place{Frame: 10 - page, Rights: 3}
	}
	w := laid(t, 16, room, places)
	for place, to := range []uint32{word(0, 2), word(0, 6), word(0, 1)} {
		w.save(t, 1, place, to)
	}
	for place, page := range []int{3, 4, 7, 8, 10, 1, 2, 6} {
		w.save(t, 2, place, word(3, page))
		w.save(t, 6, place, word(7, page))
	}
	return w
}

func TestPagesInOneFrame(t *testing.T) { // P20.1: what is written by one page changes the tables in the others
	for _, room := range []int{0, 1, 4} {
		for _, page := range []int{7, 8, 9, 10, 3, 4} {
			for place := range 8 {
				for way := range 3 {
					w := sharing(t, room)
					for _, va := range []uint32{0, 64, 128, 192, 256, 1024, 1088} {
						w.find(t, by(1), va, api.KLoad)
						w.find(t, by(1), va, api.KStore)
					}
					at := uint32(page*bytes + 4*place)
					switch way {
					case 0:
						w.v.Save(at, 4, word(1, 4))
						w.wrote(page)
					case 1:
						w.put(t, api.Mode{}, at, 4, word(1, 4))
					case 2:
						va := map[int]uint32{3: 0, 4: 64, 7: 128, 8: 192, 9: 9, 10: 256}[page]
						w.put(t, by(1), va+4*uint32(place), 4, word(1, 4))
					}
					for _, va := range []uint32{0, 64, 128, 192, 256, 1024, 1088} {
						w.find(t, by(1), va, api.KLoad)
					}
					w.agree(t)
				}
			}
		}
	}
}

func TestPageIsWrittenAndDropped(t *testing.T) { // P20.1: the map says no more in which frame it lay, when it is asked
	for _, page := range []int{7, 8, 9, 10, 3} {
		for _, seen := range []bool{true, false} {
			for _, back := range []bool{true, false} {
				w := sharing(t, 4)
				p, _ := w.m.Get(page)
				w.drop(t, page)
				w.m.Set(page, api.Place{Frame: 14, Rights: 3}) // where it lay ahead is no matter
				w.find(t, by(1), 1088, api.KLoad)
				w.find(t, by(1), 64, api.KLoad)
				w.drop(t, page)
				w.find(t, by(1), 1088, api.KLoad)
				w.find(t, by(1), 64, api.KLoad)
				w.m.Set(page, p)
				if seen {
					w.find(t, by(1), 1088, api.KLoad)
				}
				w.v.Save(uint32(page*bytes), 4, word(0, 6)) // the root, or a leaf table, has it now
				w.v.Save(uint32(page*bytes+4), 4, word(1, 3))
				w.m.Drop(page)
				if e := w.u.Gone(page); e != api.OK {
					t.Fatalf("Gone(%d): %d", page, e)
				}
				if back {
					w.m.Set(page, api.Place{Frame: 15, Rights: 3})
				}
				for _, va := range []uint32{1088, 64, 0, 1024} {
					want, fault := walk.Find(w.v, by(1), va, api.KLoad)
					h, f := w.u.Find(by(1), va, api.KLoad)
					h.Fast = false
					if h != want || f != fault {
						t.Errorf("page %d, seen %v: Find(%d): %v %d, not %v %d", page, seen, va, h, f, want, fault)
					}
				}
			}
		}
	}
}

func TestPageBesideTablesIsWrittenAndDropped(t *testing.T) { // P20.5: nothing is walked for it
	for _, room := range []int{0, 4} {
		w := whole(t, room)
		w.find(t, by(1), 0, api.KLoad)
		w.find(t, by(1), 64, api.KLoad)
		for _, page := range []int{0, 4, 5, 6, 7, 9, 10} {
			w.v.Save(uint32(page*bytes), 4, 1)
			w.drop(t, page)
			if h := w.find(t, by(1), 0, api.KLoad); !h.Fast {
				t.Errorf("Find behind page %d: %v", page, h)
			}
			w.m.Set(page, api.Place{Frame: 9, Rights: 3}) // the root's
			w.find(t, by(1), 0, api.KLoad)
			w.drop(t, page)
			w.m.Set(page, api.Place{Frame: 15, Rights: 3})
			w.v.Save(uint32(page*bytes), 4, 1) // it lies there still when the map is asked
			w.find(t, by(1), 64, api.KLoad)
			w.v.Save(uint32(page*bytes), 4, 1)
			w.drop(t, page)
			if h := w.find(t, by(1), 0, api.KLoad); !h.Fast {
				t.Errorf("Find behind page %d in other frames: %v", page, h)
			}
			w.agree(t)
		}
	}
}

func TestGone(t *testing.T) { // P20.1, P20.3: nothing is remembered of that page, or through it; all else is
	for room := range mostRoom + 1 {
		for page := range pages {
			for _, drop := range []bool{true, false} {
				for _, back := range []int{-1, 15, 9, 8} {
					w := whole(t, room)
					for range 2 {
						for _, va := range []uint32{0, 64, 320, 384, 1024, 192, 4096} {
							w.find(t, by(1), va, api.KLoad)
							w.find(t, by(5), va, api.KLoad)
						}
						if drop {
							w.drop(t, page)
						} else {
							w.gone(t, page)
						}
						if back >= 0 && drop {
							w.m.Set(page, api.Place{Frame: back, Rights: 3})
						}
						w.agree(t)
					}
					for _, x := range w.u.Kept() {
						if drop && back < 0 && x.E.Page == page {
							t.Errorf("Kept behind Gone(%d): %v", page, x)
						}
					}
				}
			}
		}
	}
}

func TestGoneOfAnyNumber(t *testing.T) { // P20.3, P1, P6: of no page nothing is remembered; a key's root is none
	w := whole(t, 4)
	for range 2 {
		for _, page := range wild {
			if page >= 0 && page < pages {
				continue
			}
			w.find(t, by(1), 0, api.KLoad)
			w.find(t, by(1), 64, api.KLoad)
			w.gone(t, page)
			w.agree(t)
		}
	}
	if h := w.find(t, by(1), 0, api.KLoad); !h.Fast {
		t.Errorf("Find: %v", h)
	}
}

func TestFlush(t *testing.T) { // P20.3: how many of the shadow's there were; all is walked anew
	for room := range mostRoom + 1 {
		for n := range mostKept + 3 {
			w := whole(t, room)
			for range 2 {
				for i := range n {
					va := uint32(16+i%16+i/16*48) * bytes
					if i >= mostKept {
						va = uint32(i-mostKept) * bytes
					}
					if h := w.find(t, by(1), va, api.KLoad); h.Fast {
						t.Fatalf("Find: %v", h)
					}
				}
				if got := w.u.Flush(); got != min(n, mostKept) {
					t.Fatalf("Flush of %d: %d", n, got)
				}
				w.kept = nil
				w.agree(t)
				w.flush(t)
				if l := w.u.Kept(); len(l) != 0 || w.u.Table(1) {
					t.Fatalf("Kept: %v", l)
				}
			}
		}
	}
}

func TestKeptIsInOrder(t *testing.T) { // P20.3: the shadow's, the oldest first; then the Tlb's, which was used longest ago first
	w := whole(t, 3)
	at := func(l []api.Kept) []int {
		var ps []int
		for _, x := range l {
			ps = append(ps, x.K.Page)
		}
		return ps
	}
	for _, page := range []uint32{5, 0, 1, 9, 2} {
		kind := api.KLoad
		if page == 9 {
			kind = api.KFetch
		}
		w.find(t, by(1), page*bytes, kind)
	}
	if l := at(w.u.Kept()); !slices.Equal(l, []int{5, 0, 1, 9, 2, 1, 9, 2}) {
		t.Errorf("Kept: %v", l)
	}
	w.find(t, by(1), 1*bytes, api.KLoad)
	if l := at(w.u.Kept()); !slices.Equal(l, []int{5, 0, 1, 9, 2, 9, 2, 1}) {
		t.Errorf("Kept behind a use: %v", l)
	}
	w.find(t, by(1), 0, api.KLoad)
	if l := at(w.u.Kept()); !slices.Equal(l, []int{5, 0, 1, 9, 2, 2, 1, 0}) {
		t.Errorf("Kept behind one of the shadow's: %v", l)
	}
	w.agree(t)
}

func TestKeptIsNewMemory(t *testing.T) { // P4: neither the Mmu nor another answer changes with one, nor it behind it
	for _, room := range []int{0, 2, 4} {
		w := whole(t, room)
		for _, va := range []uint32{0, 64, 1024, 320} {
			w.find(t, by(1), va, api.KLoad)
		}
		a, b := w.u.Kept(), w.u.Kept()
		want := slices.Clone(b)
		clear(a)
		_ = append(a[:1], api.Kept{K: api.Key{Root: 9, Page: 9}})
		if !slices.Equal(b, want) {
			t.Errorf("an answer changed with another one: %v", b)
		}
		w.agree(t)
		w.find(t, by(1), 0, api.KLoad)
		w.find(t, by(5), 0, api.KLoad)
		w.gone(t, 4)
		w.save(t, 6, 0, 0)
		w.flush(t)
		w.find(t, by(1), 64, api.KLoad)
		if !slices.Equal(b, want) {
			t.Errorf("an answer changed behind it: %v", b)
		}
		w.agree(t)
	}
}

func TestEachRight(t *testing.T) { // P20.1, P20.5: no right that the map does not give, each right of the entry, each place, each kind, both modes
	for rights := range 16 {
		for place := range 4 {
			for _, page := range []int{3, 8} {
				for _, room := range []int{0, 4} {
					for first := range 6 {
						w := whole(t, room)
						w.drop(t, page)
						if place > 0 {
							w.m.Set(page, api.Place{Frame: 15, Rights: place})
						}
						w.save(t, 2, 1, word(rights, page))
						for i := range 12 {
							n := (first + i) % 6
							w.find(t, api.Mode{On: true, Root: 1, User: n > 2}, 68, n%3)
						}
						w.agree(t)
					}
				}
			}
		}
	}
}

func TestTable(t *testing.T) { // P20.3: those that something is remembered through, as long as it is
	for _, room := range []int{0, 4} {
		for _, forget := range []func(w *world){
			func(w *world) { w.v.Save(2*bytes, 4, 0) },
			func(w *world) { w.u.Save(api.Mode{}, 2*bytes, 4, 0) },
			func(w *world) { w.u.Gone(2) },
			func(w *world) { w.u.Gone(3) },
			func(w *world) { w.u.Flush() },
		} {
			w := whole(t, room)
			for page := range pages {
				if w.u.Table(page) {
					t.Errorf("Table(%d) of a new one", page)
				}
			}
			w.find(t, by(1), 0, api.KLoad)
			for _, page := range append(wild, 10, 13) {
				if is := w.u.Table(page); is != (page == 1 || page == 2) {
					t.Errorf("Table(%d): %v", page, is)
				}
			}
			forget(w)
			if w.u.Table(2) || w.u.Table(1) {
				t.Errorf("Table of what is forgotten")
			}
		}
	}
}

func TestTableIsNotWrittenFast(t *testing.T) { // P20.5: with the right to write it is walked each time; what it was a table of is walked anew
	for _, room := range []int{0, 1, 4} {
		for _, va := range []uint32{192, 256} { // page 2, page 1
			w := whole(t, room)
			for range 3 {
				if h := w.find(t, by(1), va, api.KStore); h.Fast {
					t.Errorf("Find of a table to be written: %v", h)
				}
				w.agree(t)
				w.find(t, by(1), va, api.KLoad)
				if h := w.find(t, by(1), va, api.KLoad); !h.Fast {
					t.Errorf("Find of a table to be read: %v", h)
				}
			}
			w.find(t, by(1), 0, api.KLoad)
			w.put(t, by(1), va+63, 1, 0)
			if l := w.u.Kept(); len(l) != 0 || w.u.Table(1) || w.u.Table(2) {
				t.Errorf("Kept behind a table that was written: %v", l)
			}
		}
	}
}

func TestPageThatComesToBeATable(t *testing.T) { // P20.1, P20.5: what had the right to write it has it no more
	for room := range mostRoom + 1 {
		w := whole(t, room)
		w.save(t, 2, 1, word(3, 6))
		w.save(t, 2, 2, word(3, 5))
		for _, va := range []uint32{64, 128} {
			w.find(t, by(1), va, api.KStore)
			if h := w.find(t, by(1), va, api.KStore); !h.Fast {
				t.Errorf("Find of no table yet: %v", h)
			}
		}
		w.find(t, by(5), 0, api.KLoad) // by 5 and 6
		w.agree(t)
		for _, va := range []uint32{64, 128} {
			if h := w.find(t, by(1), va, api.KStore); h.Fast {
				t.Errorf("Find of a table: %v", h)
			}
			w.put(t, by(1), va, 4, word(0, 6)) // then it is none any more
			w.find(t, by(1), va, api.KStore)
			w.agree(t)
			w.find(t, by(5), 0, api.KLoad)
		}
		w.put(t, by(1), 64, 4, word(1, 4))
		if h := w.find(t, by(5), 5, api.KLoad); h.Fast || h.Page != 4 {
			t.Errorf("Find by the table that was written: %v", h)
		}
	}
}

func TestPagesThatCome(t *testing.T) { // P20.1: that it was not there is not remembered
	w := whole(t, 4)
	for range 3 {
		w.find(t, by(1), 8*bytes, api.KLoad)
	}
	w.m.Set(11, api.Place{Frame: 15, Rights: 1})
	for range 3 {
		w.find(t, by(1), 8*bytes, api.KLoad)
		w.find(t, by(1), 8*bytes, api.KStore)
	}
	if h := w.find(t, by(1), 8*bytes, api.KLoad); !h.Fast || h.Page != 11 {
		t.Errorf("Find: %v", h)
	}
	w.drop(t, 2)
	w.find(t, by(1), 0, api.KLoad)
	w.m.Set(2, api.Place{Frame: 15, Rights: 3}) // with other words in it
	w.find(t, by(1), 0, api.KLoad)
	w.drop(t, 1)
	w.find(t, by(1), 1024, api.KLoad)
	w.m.Set(1, api.Place{Frame: 20, Rights: 3}) // the store has no such frame
	w.find(t, by(1), 1024, api.KLoad)
	w.drop(t, 3)
	w.m.Set(3, api.Place{Frame: 31, Rights: 3})
	w.find(t, by(5), 1024, api.KLoad)
	w.find(t, by(5), 64, api.KLoad)
	w.agree(t)
}

func TestRingsChange(t *testing.T) { // P20.1: by others, of whom nobody tells; what is there is loaded as it is
	w := whole(t, 4)
	for i := range uint32(3) {
		w.load(t, by(1), 320, 4, api.KLoad)
		w.s.Save(12, 0, 4, 77+i)
		w.load(t, by(1), 320, 4, api.KLoad)
		if got, f := w.u.Load(by(1), 320, 4, api.KLoad); got != 77+i || f != api.FOk {
			t.Errorf("Load: %d %d", got, f)
		}
		w.put(t, by(1), 384, 4, 99+i)
		if got, e := w.s.Load(13, 0, 4); got != 99+i || e != api.OK {
			t.Errorf("of a ring's page: %d %d", got, e)
		}
	}
	w.agree(t)
}

func TestSavedTablesAreKnownWhoeverAsks(t *testing.T) { // P20.1: the view's Dirty may be asked behind a Save
	for _, how := range []api.Mode{{}, by(1)} {
		w := whole(t, 4)
		w.find(t, by(1), 0, api.KLoad)
		w.put(t, how, map[bool]uint32{false: 128, true: 192}[how.On], 4, word(1, 4))
		w.v.Dirty()
		if h := w.find(t, by(1), 0, api.KLoad); h.Fast || h.Page != 4 {
			t.Errorf("Find: %v", h)
		}
	}
}

func TestLoad(t *testing.T) { // P20.2: each width and kind, at each kind of address; FAlign goes ahead
	for _, room := range []int{0, 2} {
		w := whole(t, room)
		for _, page := range []int{0, 3, 4, 9, 10} {
			for i := range uint32(bytes) {
				w.s.Save(w.frame(page), int(i), 1, 200+uint32(page)*5+i*3)
			}
		}
		w.s.Save(12, 3, 1, 0xFF)
		for range 2 {
			for _, how := range modes() {
				for _, va := range addresses {
					for _, width := range wild {
						w.load(t, how, va, width, int(va/3)%4)
					}
					for kind := -1; kind < 4; kind++ {
						w.load(t, how, va, 1, kind)
						w.load(t, how, va, 2, kind)
						w.load(t, how, va, 4, kind)
					}
				}
			}
			w.agree(t)
		}
	}
}

func TestLoadByHand(t *testing.T) { // P20.2: the lowest byte first; of what is to be fetched alone, or to be written alone
	w := whole(t, 4)
	w.put(t, by(1), 8, 4, 0x89ABCDEF)
	for _, c := range []struct {
		va    uint32
		width int
		want  uint32
		fault int
	}{
		{8, 4, 0x89ABCDEF, 0}, {8, 2, 0xCDEF, 0}, {10, 2, 0x89AB, 0}, {11, 1, 0x89, 0}, {8, 1, 0xEF, 0},
		{9, 2, 0, api.FAlign}, {10, 4, 0, api.FAlign}, {9, 4, 0, api.FAlign}, {8, 3, 0, api.FAlign}, {8, 8, 0, api.FAlign}, {8, 0, 0, api.FAlign},
		{640, 4, 0, api.FInvalid}, {641, 4, 0, api.FAlign}, {512, 4, 0, api.FAbsent}, {beyond, 4, 0, api.FRange}, {beyond + 2, 4, 0, api.FAlign},
	} {
		for range 2 {
			if got, f := w.u.Load(by(1), c.va, c.width, api.KLoad); got != c.want || f != c.fault {
				t.Errorf("Load(%d, %d): %x %d", c.va, c.width, got, f)
			}
		}
	}
	w.drop(t, 3)
	w.m.Set(3, api.Place{Frame: 15, Rights: api.RWrite})
	w.s.Save(15, 8, 4, 0x1234567)
	for _, how := range []api.Mode{by(1), {On: true, Root: 1, User: true}} {
		for kind, fault := range map[int]int{api.KFetch: api.FOk, api.KStore: api.FOk, api.KLoad: api.FPerm} {
			for range 2 {
				if got, f := w.u.Load(how, 8, 4, kind); f != fault || got != map[int]uint32{api.FOk: 0x1234567}[f] {
					t.Errorf("Load of kind %d: %x %d", kind, got, f)
				}
			}
		}
	}
	if got, f := w.u.Load(api.Mode{}, 3*bytes+8, 4, api.KFetch); got != 0x1234567 || f != api.FOk {
		t.Errorf("Load without tables: %x %d", got, f)
	}
}

func TestSave(t *testing.T) { // P20.2: each width, at each kind of address; it stands there and nowhere else
	for _, room := range []int{0, 2} {
		w := whole(t, room)
		for i, how := range modes() {
			for _, va := range addresses {
				for _, width := range wild {
					if !aligned(va, width) {
						w.put(t, how, va, width, 0xFFFFFFFF)
					}
				}
				for _, width := range []int{1, 2, 4} {
					if h, f := walk.Find(w.v, how, va, api.KStore); f == api.FOk && h.Page < 8 && h.Page != 0 && h.Page != 3 {
						continue // the tables stay as they are
					}
					w.put(t, how, va, width, 0x01020304*uint32(i+width))
				}
			}
			w.agree(t)
		}
	}
}

func TestSaveIsRefused(t *testing.T) { // P20.2, P2: nothing is written, nothing is forgotten
	w := whole(t, 4)
	for _, va := range []uint32{0, 64, 320, 448} {
		w.find(t, by(1), va, api.KLoad)
	}
	w.v.Dirty()
	for _, c := range []struct {
		how   api.Mode
		va    uint32
		width int
		fault int
	}{
		{by(1), 64, 4, api.FPerm}, {by(1), 320, 4, api.FPerm}, {by(1), 448, 1, api.FPerm}, {by(1), 512, 1, api.FAbsent}, {by(1), 640, 4, api.FInvalid},
		{by(1), 704, 4, api.FForm}, {by(1), 896, 4, api.FForm}, {by(1), beyond, 4, api.FRange}, {by(8), 0, 4, api.FTable}, {by(1), 3072, 4, api.FTable},
		{api.Mode{On: true, Root: 1, User: true}, 128, 4, api.FPerm}, {api.Mode{}, 8 * bytes, 4, api.FPerm}, {api.Mode{}, 11 * bytes, 4, api.FAbsent},
		{api.Mode{}, 12 * bytes, 4, api.FRange}, {api.Mode{}, 12*bytes + 1, 4, api.FAlign}, {by(8), 1, 2, api.FAlign}, {by(1), 0, 3, api.FAlign}, {by(1), 2, 4, api.FAlign},
	} {
		for range 2 {
			if f := w.u.Save(c.how, c.va, c.width, 0xFFFFFFFF); f != c.fault {
				t.Errorf("Save(%v, %d, %d): %d, not %d", c.how, c.va, c.width, f, c.fault)
			}
			w.put(t, c.how, c.va, c.width, 0xFFFFFFFF)
		}
		if l := w.v.Dirty(); len(l) != 0 {
			t.Errorf("Dirty: %v", l)
		}
	}
	w.agree(t)
}

// nothing asks all of an Mmu that is none, and behind each call that it is none still.
func nothing(t *testing.T, u *mmu.Mmu) {
	t.Helper()
	none := func() {
		t.Helper()
		if len(u.Kept()) != 0 || u.Flush() != 0 {
			t.Fatalf("Kept: %v", u.Kept())
		}
	}
	none()
	for _, n := range wild {
		for _, how := range []api.Mode{{}, {Root: n}, {On: true, Root: n}, {On: true, Root: 1, User: true}} {
			for _, va := range []uint32{0, 5, 64, beyond - 1, beyond, 1<<32 - 1} {
				if h, f := u.Find(how, va, n); h != (api.Hit{}) || f != api.FAbsent {
					t.Fatalf("Find: %v %d", h, f)
				}
				if got, f := u.Load(how, va, n, api.KLoad); got != 0 || f != api.FAbsent {
					t.Fatalf("Load: %d %d", got, f)
				}
				if got, f := u.Load(how, va, 1, n); got != 0 || f != api.FAbsent {
					t.Fatalf("Load: %d %d", got, f)
				}
				if f := u.Save(how, va, n, 7); f != api.FAbsent {
					t.Fatalf("Save: %d", f)
				}
			}
		}
		if e := u.Gone(n); e != api.ErrZero || u.Table(n) {
			t.Fatalf("Gone(%d): %d, Table %v", n, e, u.Table(n))
		}
		none()
	}
}

func TestNilMmu(t *testing.T) { // P20.4, P1
	nothing(t, nil)
}

func TestMmuThatNoCallMade(t *testing.T) { // P20.4, P1
	nothing(t, new(mmu.Mmu))
	nothing(t, &mmu.Mmu{})
	w := whole(t, 4)
	w.find(t, by(1), 0, api.KLoad)
	*w.u = mmu.Mmu{}
	nothing(t, w.u)
}

func TestWhatItStandsOnIsMadeNoMore(t *testing.T) { // P1: none panics, where the view, the map or the store was unmade behind it
	for i := range 3 {
		for _, room := range []int{0, 4} {
			w := whole(t, room)
			w.find(t, by(1), 0, api.KLoad)
			w.v.Save(128, 4, 1)
			switch i {
			case 0:
				*w.v = view.View{}
			case 1:
				*w.m = gmap.Map{}
			case 2:
				*w.s = frames.Store{}
			}
			for _, how := range modes() {
				for kind := range 3 {
					w.u.Find(how, 0, kind)
					w.u.Load(how, 64, 4, kind)
					w.u.Save(how, 0, 4, 7)
					w.u.Find(how, 64, kind)
				}
				w.u.Kept()
				w.u.Table(1)
				w.u.Gone(2)
			}
			w.u.Flush()
		}
	}
}

func TestMmusAreApart(t *testing.T) { // P5: what is done to one is not seen by another one
	a, b := whole(t, 4), whole(t, 2)
	a.find(t, by(1), 0, api.KLoad)
	b.find(t, by(5), 1024, api.KLoad)
	b.save(t, 2, 0, 0)
	a.agree(t)
	b.agree(t)
	a.find(t, by(1), 0, api.KLoad)
	b.find(t, by(1), 0, api.KLoad)
	a.flush(t)
	b.agree(t)
	b.gone(t, 2)
	a.agree(t)
}

// chance is a row of numbers that look like chance, each below what is asked; the same ones for the same seed.
func chance(seed uint64) func(int) int {
	return func(below int) int {
		seed = seed*6364136223846793005 + 1442695040888963407
		return int(seed >> 33 % uint64(below))
	}
}

// someWord is a word that a table may have, mostly one that leads on.
func someWord(next func(int) int) uint32 {
	switch next(8) {
	case 0:
		return uint32(next(1<<31)) << next(2)
	case 1:
		return 0
	case 2, 3, 4:
		return word(0, next(9))
	}
	return word(next(16), next(13))
}

// mixed is a world of pages in some frames, several in one, some in none, with tables of some words.
func mixed(t *testing.T, next func(int) int, room, ofFrames int) *world {
	t.Helper()
	places := map[int]api.Place{}
	for page := range pages {
		if next(8) > 0 {
			places[page] = api.Place{Frame: next(ofFrames), Rights: 1 + next(3)}
		}
	}
	w := laid(t, 10, room, places)
	for range 150 {
		w.v.Write(uint32(next(owns)*bytes+next(16)*4), leastFirst(someWord(next)))
	}
	return w
}

func leastFirst(w uint32) []byte {
	return []byte{byte(w), byte(w >> 8), byte(w >> 16), byte(w >> 24)}
}

// someAccess is an access, mostly one of few.
func someAccess(next func(int) int) (api.Mode, uint32, int) {
	how := api.Mode{On: next(8) > 0, Root: next(9), User: next(4) == 0}
	if next(30) == 0 {
		how.Root = wild[next(len(wild))]
	}
	va := uint32(next(5)*1024 + next(5)*bytes + next(bytes))
	if !how.On {
		va = uint32(next(13) * bytes)
	}
	if next(30) == 0 {
		va = addresses[next(len(addresses))]
	}
	return how, va, next(12) % 4
}

// change does one of the things that may be done to a guest's memory and its map; true, if it did.
func (w *world) change(t *testing.T, next func(int) int, what int) bool {
	t.Helper()
	page, place := next(pages), next(16)
	switch what {
	case 0:
		if w.v.Save(uint32(page*bytes+4*place), 4, someWord(next)) == api.FOk {
			w.wrote(page)
		}
	case 1:
		if w.v.Write(uint32(page*bytes+4*place), leastFirst(someWord(next))) {
			w.wrote(page)
		}
	case 2:
		if _, ok := w.m.Get(page); ok && next(3) == 0 {
			w.drop(t, page)
		}
	case 3:
		w.m.Set(page, api.Place{Frame: next(11), Rights: 1 + next(3)})
	case 4:
		if next(4) == 0 {
			w.gone(t, page)
		}
	default:
		return false
	}
	return true
}

func TestManyCalls(t *testing.T) { // P20.1, P20.2, P20.3, P20.5: it is as the model, whatever was done ahead
	for seed := range uint64(60) {
		next := chance(seed)
		w := mixed(t, next, int(seed%5), 10)
		for range 1200 {
			how, va, kind := someAccess(next)
			switch n := next(20); n {
			case 3:
				w.change(t, next, n)
				w.u.Table(0) // so that it knows where the page lies
			case 5:
				w.load(t, how, va&^3, []int{1, 2, 4, 3}[next(4)], kind)
			case 6, 7:
				w.put(t, how, va&^3, []int{1, 2, 4, 3}[next(4)], someWord(next))
			case 8:
				if next(20) == 0 {
					w.flush(t)
				}
			case 9:
				w.agree(t)
			default:
				if !w.change(t, next, n) {
					w.find(t, how, va, kind)
				}
			}
		}
		w.agree(t)
	}
}

func TestFoundAsWithoutMemory(t *testing.T) { // P20.1: where pages share few frames, and come and go unseen
	for seed := range uint64(60) {
		next := chance(1000 + seed)
		w := mixed(t, next, int(seed%5), 3+int(seed%5))
		for range 2000 {
			how, va, kind := someAccess(next)
			if w.change(t, next, next(12)) {
				continue
			}
			if next(4) == 0 {
				want, fault := walk.Find(w.v, how, va&^3, api.KStore)
				to := someWord(next)
				if f := w.u.Save(how, va&^3, 4, to); f != fault {
					t.Fatalf("Save(%v, %d): %d, not %d", how, va&^3, f, fault)
				}
				if got, _ := w.s.Load(want.Frame, want.Off, 4); fault == api.FOk && got != to {
					t.Fatalf("Save(%v, %d, %x): %x", how, va&^3, to, got)
				}
				continue
			}
			want, fault := walk.Find(w.v, how, va, kind)
			h, f := w.u.Find(how, va, kind)
			if h.Fast && !how.On {
				t.Fatalf("Find(%v, %d, %d): %v", how, va, kind, h)
			}
			if h.Fast = false; h != want || f != fault {
				t.Fatalf("Find(%v, %d, %d): %v %d, not %v %d", how, va, kind, h, f, want, fault)
			}
			w.holds(t, w.u.Kept())
		}
	}
}

// answers is all that is answered to many calls, the same ones for the same seed.
func answers(t *testing.T, seed uint64) []int {
	var l []int
	next := chance(seed)
	w := mixed(t, next, 4, 10)
	for range 1000 {
		how, va, kind := someAccess(next)
		switch next(6) {
		case 0:
			l = append(l, w.u.Save(how, va, 1, uint32(kind)))
		case 1:
			got, f := w.u.Load(how, va, 1, kind)
			l = append(l, int(got), f)
		case 2:
			w.v.Save(uint32(next(owns)*bytes), 4, someWord(next))
		default:
			h, f := w.u.Find(how, va, kind)
			l = append(l, h.Page, h.Frame, h.Off, f)
			if h.Fast {
				l = append(l, 1)
			}
		}
		for _, x := range w.u.Kept() {
			l = append(l, x.K.Root, x.K.Page, x.E.Page, x.E.Frame, x.E.Rights)
		}
	}
	return append(l, w.u.Flush())
}

func TestAnswersHangOnTheCallsAlone(t *testing.T) { // P5: the same calls on many at once
	want := answers(t, 5)
	var wait sync.WaitGroup
	for range 8 {
		wait.Go(func() {
			if got := answers(t, 5); !slices.Equal(got, want) {
				t.Error("the same calls are answered otherwise")
			}
		})
	}
	wait.Wait()
}

// TestAnyArguments calls all with all wild arguments, on what was made and on what was not: that none panics is what it asks (P1).
func TestAnyArguments(t *testing.T) {
	for _, u := range []*mmu.Mmu{nil, new(mmu.Mmu), whole(t, 0).u, whole(t, 4).u} {
		for _, a := range wild {
			for _, b := range wild {
				for _, how := range []api.Mode{{Root: a}, {On: true, Root: a}, {On: true, Root: 1, User: a > b}} {
					u.Find(how, uint32(b), a)
					u.Find(how, uint32(a), b)
					u.Load(how, uint32(b), a, 1)
					u.Load(how, uint32(b)&^3, 4, a)
					u.Save(how, uint32(a), b, uint32(b))
					u.Save(how, uint32(a)&^3, 4, uint32(b))
				}
			}
			u.Table(a)
			u.Gone(a)
			u.Kept()
		}
		u.Flush()
	}
}
