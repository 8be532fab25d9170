package stlb_test

import (
	"math"
	"slices"
	"sync"
	"testing"

	"hermitage/api"
	"hermitage/stlb"
)

const most = 4 // the greatest room of the document's limits

// wild is numbers that rooms, roots, pages, frames and rights are tried with: the least and the greatest, those about each edge, and such as come to another one if bits are cut off.
var wild = []int{
	math.MinInt, math.MinInt + 1, math.MinInt + 2, -1 << 32, -1<<32 + 1, math.MinInt32, -256, -33, -16, -15, -8, -5, -4, -3, -2, -1,
	0, 1, 2, 3, 4, 5, 6, 7, 8, 9, 11, 12, 13, 14, 15, 16, 17, 31, 32, 33, 255, 256, 257, 1 << 16, math.MaxInt32, 1 << 31, 1 << 32, 1<<32 + 1, 1<<32 + 2, 1<<32 + 4, math.MaxInt - 1, math.MaxInt,
}

// model is what the chapter says of a Tlb: its room, and what is remembered, the one whose last use is longest ago first: a row in which what is used goes to its end.
type model struct {
	room int
	l    []api.Kept
}

func (m *model) place(k api.Key) int {
	for i, x := range m.l {
		if x.K.Root == k.Root && x.K.Page == k.Page {
			return i
		}
	}
	return -1
}

func (m *model) put(k api.Key, e api.Entry) {
	m.drop(k)
	m.l = append(m.l, api.Kept{K: k, E: e})
	if len(m.l) > m.room {
		m.l = m.l[1:]
	}
}

func (m *model) get(k api.Key) (api.Entry, bool) {
	i := m.place(k)
	if i < 0 {
		return api.Entry{}, false
	}
	x := m.l[i]
	m.drop(k)
	m.l = append(m.l, x)
	return x.E, true
}

func (m *model) drop(k api.Key) bool {
	i := m.place(k)
	if i < 0 {
		return false
	}
	m.l = append(slices.Clone(m.l[:i]), m.l[i+1:]...)
	return true
}

func (m *model) gone(page int) int {
	var l []api.Kept
	for _, x := range m.l {
		if x.E.Page != page {
			l = append(l, x)
		}
	}
	n := len(m.l) - len(l)
	m.l = l
	return n
}

func (m *model) narrow(page int) int {
	n := 0
	m.l = slices.Clone(m.l)
	for i, x := range m.l {
		if x.E.Page == page && x.E.Rights>>1&1 == 1 { // in two's complement, of numbers below 0 too
			m.l[i].E.Rights -= 2
			n++
		}
	}
	return n
}

func (m *model) flush() int {
	n := len(m.l)
	m.l = nil
	return n
}

// pair is a Tlb, and what it must be.
type pair struct {
	u *stlb.Tlb
	m *model
}

func made(t *testing.T, room int) pair {
	t.Helper()
	u, e := stlb.New(room)
	if u == nil || e != api.OK {
		t.Fatalf("New(%d): %v %d", room, u, e)
	}
	return pair{u, &model{room: room}}
}

// agree asks what is remembered, and in which order: these are no uses.
func (p pair) agree(t *testing.T) {
	t.Helper()
	for range 2 {
		if n := p.u.Len(); n != len(p.m.l) {
			t.Fatalf("Len: %d, not %d, of room %d", n, len(p.m.l), p.m.room)
		}
		if l := p.u.List(); !slices.Equal(l, p.m.l) {
			t.Fatalf("List: %v, not %v, of room %d", l, p.m.l, p.m.room)
		}
	}
	if len(p.m.l) > p.m.room {
		t.Fatalf("more than room %d: %v", p.m.room, p.m.l)
	}
}

func (p pair) put(t *testing.T, k api.Key, e api.Entry) {
	t.Helper()
	p.m.put(k, e)
	if errno := p.u.Put(k, e); errno != api.OK {
		t.Fatalf("Put(%v, %v): %d", k, e, errno)
	}
	p.agree(t)
}

func (p pair) get(t *testing.T, k api.Key) {
	t.Helper()
	want, there := p.m.get(k)
	if e, ok := p.u.Get(k); e != want || ok != there {
		t.Fatalf("Get(%v): %v %v, not %v %v", k, e, ok, want, there)
	}
	p.agree(t)
}

func (p pair) drop(t *testing.T, k api.Key) {
	t.Helper()
	want := p.m.drop(k)
	if ok := p.u.Drop(k); ok != want {
		t.Fatalf("Drop(%v): %v, not %v", k, ok, want)
	}
	p.agree(t)
}

func (p pair) gone(t *testing.T, page int) {
	t.Helper()
	want := p.m.gone(page)
	if n := p.u.Gone(page); n != want {
		t.Fatalf("Gone(%d): %d, not %d", page, n, want)
	}
	p.agree(t)
}

func (p pair) narrow(t *testing.T, page int) {
	t.Helper()
	want := p.m.narrow(page)
	if n := p.u.Narrow(page); n != want {
		t.Fatalf("Narrow(%d): %d, not %d", page, n, want)
	}
	p.agree(t)
}

func (p pair) flush(t *testing.T) {
	t.Helper()
	want := p.m.flush()
	if n := p.u.Flush(); n != want {
		t.Fatalf("Flush: %d, not %d", n, want)
	}
	p.agree(t)
}

// copied is both as they are now: a Tlb as a value has entries of its own.
func (p pair) copied() pair {
	u, m := *p.u, *p.m
	m.l = slices.Clone(m.l)
	return pair{&u, &m}
}

// key is the key of that number; some have their root in common, some their page, no two both.
func key(n int) api.Key {
	return api.Key{Root: n / 3, Page: n % 3}
}

// entry is that of page, with all rights that can be.
func entry(page int) api.Entry {
	return api.Entry{Page: page, Frame: page + 20, Rights: api.RRead | api.RWrite | api.RExec | api.RUser}
}

// filled is one of that room with as many entries, each of another page.
func filled(t *testing.T, room int) pair {
	t.Helper()
	p := made(t, room)
	for n := range room {
		p.put(t, key(n), entry(n))
	}
	if p.u.Len() != room {
		t.Fatalf("Len of a full one of room %d: %d", room, p.u.Len())
	}
	return p
}

// keys is those of a list, in its order.
func keys(l []api.Kept) []api.Key {
	var ks []api.Key
	for _, x := range l {
		ks = append(ks, x.K)
	}
	return ks
}

func TestTheLimits(t *testing.T) { // the numbers that the tests beside this one stand on
	if api.MaxTlb != most || api.RWrite != 2 {
		t.Errorf("MaxTlb %d, RWrite %d", api.MaxTlb, api.RWrite)
	}
}

func TestNew(t *testing.T) { // P18.1: nothing is remembered, whatever the room
	for room := range most + 1 {
		p := made(t, room)
		p.agree(t)
		for n := range 6 {
			p.get(t, key(n))
			p.drop(t, key(n))
			p.gone(t, n)
			p.narrow(t, n)
		}
		p.get(t, api.Key{}) // the zero ones are as others
		p.flush(t)
		p.agree(t)
	}
}

func TestNewOfNoSuchRoom(t *testing.T) { // P18.1, P2, P6: one below, one beyond, the ends
	for _, room := range append(slices.Clone(wild), -1, most+1) {
		if room >= 0 && room <= most {
			continue
		}
		if u, e := stlb.New(room); u != nil || e != api.ErrArg {
			t.Errorf("New(%d): %v %d", room, u, e)
		}
	}
}

func TestOfTheChapter(t *testing.T) { // P18.1
	u, e := stlb.New(2)
	if u == nil || e != api.OK {
		t.Fatalf("New(2): %d", e)
	}
	a, b, c := api.Key{Root: 1, Page: 1}, api.Key{Root: 1, Page: 2}, api.Key{Root: 2, Page: 1}
	if u.Put(a, entry(1)) != api.OK || u.Put(b, entry(2)) != api.OK {
		t.Error("Put of a, of b")
	}
	if e, ok := u.Get(a); e != entry(1) || !ok {
		t.Errorf("Get(a): %v %v", e, ok)
	}
	if u.Put(c, entry(3)) != api.OK {
		t.Error("Put of c")
	}
	if l := u.List(); !slices.Equal(l, []api.Kept{{K: a, E: entry(1)}, {K: c, E: entry(3)}}) {
		t.Errorf("List: %v", l)
	}
	if e, ok := u.Get(b); e != (api.Entry{}) || ok {
		t.Errorf("Get(b): %v %v", e, ok)
	}
}

func TestWhoGoesByHand(t *testing.T) { // P18.1, P18.2: the tests' own reckoning is held by it too
	p := made(t, 3)
	ks := func(want ...int) {
		t.Helper()
		var l []api.Key
		for _, n := range want {
			l = append(l, key(n))
		}
		if got := keys(p.u.List()); !slices.Equal(got, l) || !slices.Equal(keys(p.m.l), l) {
			t.Fatalf("keys: %v, the tests' %v, not %v", got, keys(p.m.l), l)
		}
	}
	p.put(t, key(0), entry(0))
	p.put(t, key(1), entry(1))
	ks(0, 1)
	p.put(t, key(2), entry(2))
	ks(0, 1, 2)
	p.put(t, key(3), entry(3))
	ks(1, 2, 3)
	p.get(t, key(1)) // a use
	ks(2, 3, 1)
	p.put(t, key(4), entry(4))
	ks(3, 1, 4)
	p.put(t, key(3), entry(5)) // a use, and none goes
	ks(1, 4, 3)
	p.get(t, key(3))
	ks(1, 4, 3)
	p.get(t, key(4))
	ks(1, 3, 4)
	p.get(t, key(2)) // it is forgotten: no use
	ks(1, 3, 4)
	p.narrow(t, 1) // no use
	ks(1, 3, 4)
	p.put(t, key(5), entry(5))
	ks(3, 4, 5)
	p.drop(t, key(4))
	ks(3, 5)
	p.put(t, key(6), entry(6)) // there is room
	ks(3, 5, 6)
	p.gone(t, 5) // what 3 has since it was put again, and what 5 has
	ks(6)
	p.put(t, key(0), entry(0))
	ks(6, 0)
	p.flush(t)
	ks()
	p.put(t, key(1), entry(1))
	ks(1)
}

func TestEachTurnOfUses(t *testing.T) { // P18.1: whichever was used last, by Get or by Put, in each order of four
	for room := range most + 1 {
		for turn := range 256 {
			for by := range 16 {
				p := filled(t, room)
				for i := range 4 {
					k := key(turn >> (2 * i) & 3)
					if by>>i&1 == 0 {
						p.get(t, k)
					} else {
						p.put(t, k, entry(9+i))
					}
				}
				for n := range room + 1 {
					p.put(t, key(20+n), entry(20+n))
				}
			}
		}
	}
}

func TestPutOfOneThatIsThere(t *testing.T) { // P18.1: it has the new entry alone, and none goes
	for room := 1; room <= most; room++ {
		for n := range room {
			p := filled(t, room)
			p.put(t, key(n), api.Entry{Page: 7, Frame: 9, Rights: 1})
			if l := p.u.List(); len(l) != room || l[room-1] != (api.Kept{K: key(n), E: api.Entry{Page: 7, Frame: 9, Rights: 1}}) {
				t.Errorf("Put of key %d of %d: %v", n, room, l)
			}
			p.put(t, key(n), api.Entry{}) // the zero entry is one
			if e, ok := p.u.Get(key(n)); e != (api.Entry{}) || !ok {
				t.Errorf("Get of the zero entry: %v %v", e, ok)
			}
			p.drop(t, key(n))
			p.drop(t, key(n)) // there was one alone
		}
	}
}

func TestWithoutRoom(t *testing.T) { // P18.1: nothing is remembered, and Put is no error
	p := made(t, 0)
	for _, n := range wild {
		k := api.Key{Root: n, Page: -n}
		if e := p.u.Put(k, api.Entry{Page: n, Frame: n, Rights: n}); e != api.OK {
			t.Errorf("Put: %d", e)
		}
		if e, ok := p.u.Get(k); e != (api.Entry{}) || ok {
			t.Errorf("Get: %v %v", e, ok)
		}
		if p.u.Drop(k) || p.u.Gone(n) != 0 || p.u.Narrow(n) != 0 || p.u.Flush() != 0 || p.u.Len() != 0 || len(p.u.List()) != 0 {
			t.Errorf("of room 0 behind Put of %d: %v", n, p.u.List())
		}
	}
}

func TestNeverMoreThanRoom(t *testing.T) { // P18.4: and what was put last is got
	for room := 1; room <= most; room++ {
		p := made(t, room)
		for n := range 100 {
			k := api.Key{Root: n % 7, Page: n * n % 11}
			p.put(t, k, entry(n))
			if p.u.Len() > room {
				t.Fatalf("Len of room %d: %d", room, p.u.Len())
			}
			if e, ok := p.u.Get(k); e != entry(n) || !ok {
				t.Fatalf("Get of what was put last: %v %v", e, ok)
			}
		}
	}
}

func TestKeysAreBothNumbers(t *testing.T) { // P18.1, P6: any numbers may be a key's, and an entry's
	for _, root := range wild {
		for _, page := range wild {
			p := made(t, most)
			k := api.Key{Root: root, Page: page}
			p.put(t, k, api.Entry{Page: page, Frame: root, Rights: page})
			for _, other := range []api.Key{{Root: root + 1, Page: page}, {Root: root, Page: page + 1}, {Root: root - 1, Page: page}, {Root: root, Page: page - 1}, {Root: root ^ 1<<32, Page: page}, {Root: root, Page: page ^ 1<<32}, {Root: ^root, Page: ^page}} {
				p.get(t, other)
				p.drop(t, other)
			}
			if root != page {
				p.get(t, api.Key{Root: page, Page: root})
				p.drop(t, api.Key{Root: page, Page: root})
			}
			p.get(t, k)
			p.put(t, api.Key{Root: root + 1, Page: page}, api.Entry{Page: 1})
			p.put(t, api.Key{Root: root, Page: page + 1}, api.Entry{Page: 2})
			p.get(t, k)
			p.gone(t, page)
			p.get(t, k)
		}
	}
}

func TestDrop(t *testing.T) { // P18.1: it alone is forgotten, once; the others keep their order
	for room := range most + 1 {
		for n := range room + 1 {
			for m := range room + 1 {
				p := filled(t, room)
				p.get(t, key(m))
				p.drop(t, key(n))
				p.drop(t, key(n))
				p.get(t, key(n))
				p.drop(t, api.Key{Root: key(m).Root + 9, Page: key(m).Page})
				p.put(t, key(9), entry(9))
				p.put(t, key(10), entry(10))
			}
		}
	}
}

func TestGoneIsOfTheEntrysPage(t *testing.T) { // P18.2: not of the key's, nor of a frame
	p := made(t, most)
	p.put(t, api.Key{Root: 1, Page: 5}, api.Entry{Page: 6, Frame: 5, Rights: 3})
	p.put(t, api.Key{Root: 5, Page: 2}, api.Entry{Page: 5, Frame: 6, Rights: 3})
	p.put(t, api.Key{Root: 6, Page: 6}, api.Entry{Page: 7, Frame: 7, Rights: 3})
	if n := p.u.Narrow(5); n != 1 {
		t.Errorf("Narrow(5): %d", n)
	}
	p.m.narrow(5)
	p.agree(t)
	if n := p.u.Gone(5); n != 1 {
		t.Errorf("Gone(5): %d", n)
	}
	p.m.gone(5)
	p.agree(t)
	if l := keys(p.u.List()); !slices.Equal(l, []api.Key{{Root: 1, Page: 5}, {Root: 6, Page: 6}}) {
		t.Errorf("List: %v", l)
	}
	p.gone(t, 6)
	if l := keys(p.u.List()); !slices.Equal(l, []api.Key{{Root: 6, Page: 6}}) {
		t.Errorf("List: %v", l)
	}
}

// ofPages is a full one of room most, whose entries are of page 0 or 1, as the bits say, used in the order of turn.
func ofPages(t *testing.T, bits, turn int) pair {
	t.Helper()
	p := made(t, most)
	for n := range most {
		p.put(t, key(n), entry(bits>>n&1))
	}
	for i := range most {
		p.get(t, key(turn>>(2*i)&3))
	}
	return p
}

func TestGone(t *testing.T) { // P18.2: all of that page, whichever they are; the others keep their order
	for bits := range 1 << most {
		for turn := range 256 {
			for page := range 3 {
				p := ofPages(t, bits, turn)
				p.gone(t, page)
				p.gone(t, page)
				p.put(t, key(7), entry(2))
				p.gone(t, 1-page)
			}
		}
	}
}

func TestNarrow(t *testing.T) { // P18.2: all of that page lose it, and are not used by that
	for bits := range 1 << most {
		for turn := range 256 {
			for page := range 3 {
				p := ofPages(t, bits, turn)
				p.narrow(t, page)
				p.narrow(t, page)
				p.put(t, key(7), entry(page))
				p.narrow(t, page)
				p.narrow(t, 1-page)
			}
		}
	}
}

func TestNarrowOfEachRights(t *testing.T) { // P18.2, P6: the other rights stay, and those that have none of it count for nothing
	for _, rights := range wild {
		p := made(t, 2)
		p.put(t, key(0), api.Entry{Page: 3, Frame: 4, Rights: rights})
		p.put(t, key(1), api.Entry{Page: 4, Frame: 3, Rights: rights})
		want := 0
		if rights&2 != 0 {
			want = 1
		}
		if n := p.u.Narrow(3); n != want {
			t.Errorf("Narrow, of rights %d: %d, not %d", rights, n, want)
		}
		if e, ok := p.u.Get(key(0)); e != (api.Entry{Page: 3, Frame: 4, Rights: rights &^ 2}) || !ok {
			t.Errorf("Get behind Narrow, of rights %d: %v %v", rights, e, ok)
		}
		if e, ok := p.u.Get(key(1)); e != (api.Entry{Page: 4, Frame: 3, Rights: rights}) || !ok {
			t.Errorf("Get of another page, of rights %d: %v %v", rights, e, ok)
		}
		if n := p.u.Narrow(3); n != 0 {
			t.Errorf("Narrow again, of rights %d: %d", rights, n)
		}
	}
}

func TestNarrowedIsPutWideAgain(t *testing.T) { // P18.1, P18.2: it has what was put, whatever was taken from it ahead
	p := filled(t, 2)
	p.narrow(t, 0)
	p.put(t, key(0), entry(0))
	if e, ok := p.u.Get(key(0)); e != entry(0) || !ok {
		t.Errorf("Get: %v %v", e, ok)
	}
	p.m.get(key(0))
	p.narrow(t, 0)
}

func TestPagesOfAnyNumbers(t *testing.T) { // P18.2, P1, P6
	for _, page := range wild {
		p := filled(t, 3)
		p.narrow(t, page)
		p.gone(t, page)
		p.put(t, key(3), api.Entry{Page: page, Frame: -1, Rights: 2})
		p.narrow(t, page+1)
		p.gone(t, page+1)
		p.narrow(t, page^1<<32)
		p.gone(t, page^1<<32)
		p.narrow(t, page)
		p.gone(t, page)
	}
}

func TestFlush(t *testing.T) { // P18.2: whatever was there; it can be filled anew
	for room := range most + 1 {
		for n := range room + 1 {
			p := made(t, room)
			for i := range n {
				p.put(t, key(i), entry(i%2))
			}
			if got := p.u.Flush(); got != n {
				t.Errorf("Flush of %d: %d", n, got)
			}
			p.m.flush()
			p.agree(t)
			p.flush(t)
			for i := range room + 2 {
				p.get(t, key(i))
				p.put(t, key(i), entry(i))
			}
		}
	}
}

func TestAskingIsNoUse(t *testing.T) { // P18.2: none of these, whatever they answer, changes who goes next
	for room := 1; room <= most; room++ {
		for n := range room {
			p := filled(t, room)
			p.get(t, key(0))
			for range 3 {
				p.u.Len()
				p.u.List()
				p.narrow(t, n)
				p.gone(t, 99)
				p.drop(t, key(99))
				p.get(t, key(99))
			}
			for i := range room {
				p.put(t, key(30+i), entry(30+i))
			}
		}
	}
}

func TestListsAreNewMemory(t *testing.T) { // P4: neither the Tlb nor another answer changes with it, nor it behind it
	for room := 1; room <= most; room++ {
		p := filled(t, room)
		a, b := p.u.List(), p.u.List()
		want := slices.Clone(b)
		clear(a)
		a = append(a[:0], api.Kept{K: key(50)})
		if !slices.Equal(b, want) {
			t.Errorf("an answer changed by %v: %v", a, b)
		}
		p.agree(t)
		for _, change := range []func(){
			func() { p.narrow(t, 0) },
			func() { p.get(t, key(0)) },
			func() { p.put(t, key(0), entry(8)) },
			func() { p.put(t, key(9), entry(9)) },
			func() { p.drop(t, key(9)) },
			func() { p.gone(t, 8) },
			func() { p.flush(t) },
		} {
			change()
			if !slices.Equal(b, want) {
				t.Errorf("an answer changed behind it: %v", b)
			}
		}
	}
}

// nothing asks all of a Tlb that is none, and behind each call that it is none still.
func nothing(t *testing.T, u *stlb.Tlb) {
	t.Helper()
	none := func() {
		t.Helper()
		if u.Len() != 0 || len(u.List()) != 0 || u.Flush() != 0 {
			t.Fatalf("Len %d, List %v", u.Len(), u.List())
		}
	}
	none()
	for _, n := range wild {
		for _, page := range wild {
			k := api.Key{Root: n, Page: page}
			if e := u.Put(k, api.Entry{Page: n, Frame: page, Rights: n}); e != api.ErrZero {
				t.Fatalf("Put(%v): %d", k, e)
			}
			if e, ok := u.Get(k); e != (api.Entry{}) || ok {
				t.Fatalf("Get(%v): %v %v", k, e, ok)
			}
			if u.Drop(k) {
				t.Fatalf("Drop(%v)", k)
			}
		}
		if u.Gone(n) != 0 || u.Narrow(n) != 0 {
			t.Fatalf("Gone(%d), Narrow(%d)", n, n)
		}
		none()
	}
}

func TestNilTlb(t *testing.T) { // P18.3, P1
	nothing(t, nil)
}

func TestTlbThatNoCallMade(t *testing.T) { // P18.3, P1
	nothing(t, new(stlb.Tlb))
	nothing(t, &stlb.Tlb{})
	var u stlb.Tlb
	nothing(t, &u)
	p := filled(t, most)
	*p.u = stlb.Tlb{}
	nothing(t, p.u)
	u2, _ := stlb.New(most + 1)
	nothing(t, u2)
}

func TestTlbsAreApart(t *testing.T) { // P5: of two, and of one and its copy, none sees what is done to the other
	a, b := filled(t, 3), made(t, 3)
	c := a.copied()
	a.get(t, key(0))
	c.put(t, key(5), entry(5))
	b.put(t, key(1), entry(9))
	a.agree(t)
	c.agree(t)
	a.narrow(t, 2)
	c.drop(t, key(1))
	b.get(t, key(0))
	a.put(t, key(6), entry(6))
	for _, p := range []pair{a, b, c} {
		p.agree(t)
		for n := range 8 {
			p.get(t, key(n))
		}
	}
	c.flush(t)
	a.agree(t)
	b.agree(t)
}

// calls is calls of each kind, on four keys and two pages, so that in most rooms some go, and in the greatest none does.
var calls = []func(*testing.T, pair){
	func(t *testing.T, p pair) { p.put(t, key(0), entry(0)) },
	func(t *testing.T, p pair) { p.put(t, key(1), entry(1)) },
	func(t *testing.T, p pair) { p.put(t, key(2), entry(0)) },
	func(t *testing.T, p pair) { p.put(t, key(3), api.Entry{Page: 1, Frame: 1, Rights: 1}) },
	func(t *testing.T, p pair) { p.put(t, key(0), entry(1)) },
	func(t *testing.T, p pair) { p.get(t, key(0)) },
	func(t *testing.T, p pair) { p.get(t, key(1)) },
	func(t *testing.T, p pair) { p.get(t, key(2)) },
	func(t *testing.T, p pair) { p.drop(t, key(0)) },
	func(t *testing.T, p pair) { p.drop(t, key(2)) },
	func(t *testing.T, p pair) { p.gone(t, 0) },
	func(t *testing.T, p pair) { p.narrow(t, 1) },
	func(t *testing.T, p pair) { p.flush(t) },
}

func TestEachRowOfCalls(t *testing.T) { // P18.1, P18.2, P18.4: all rows of five calls, in each room
	var on func(p pair, left int)
	on = func(p pair, left int) {
		if left == 0 {
			return
		}
		for _, call := range calls {
			next := p.copied()
			call(t, next)
			on(next, left-1)
		}
	}
	for room := range most + 1 {
		on(made(t, room), 5)
	}
}

// chance is a row of numbers that look like chance, each below what is asked; the same ones for the same seed.
func chance(seed uint64) func(int) int {
	return func(below int) int {
		seed = seed*6364136223846793005 + 1442695040888963407
		return int(seed >> 33 % uint64(below))
	}
}

// pick is the arguments of one call, mostly such as others have too.
func pick(next func(int) int) (api.Key, api.Entry) {
	k, e := key(next(7)), api.Entry{Page: next(4), Frame: next(32), Rights: next(16)}
	switch next(20) {
	case 0:
		k.Root = wild[next(len(wild))]
	case 1:
		k.Page = wild[next(len(wild))]
	case 2:
		e.Page = wild[next(len(wild))]
	case 3:
		e.Rights = wild[next(len(wild))]
	}
	return k, e
}

func TestManyCalls(t *testing.T) { // P18.1, P18.2, P18.4: it is as the model behind each
	for seed := range uint64(20) {
		p, next := made(t, int(seed)%(most+1)), chance(seed)
		for range 5000 {
			k, e := pick(next)
			switch next(16) {
			case 0:
				p.drop(t, k)
			case 1:
				p.gone(t, e.Page)
			case 2, 3:
				p.narrow(t, e.Page)
			case 4, 5, 6, 7, 8:
				p.get(t, k)
			case 9:
				if next(8) == 0 {
					p.flush(t)
				}
			default:
				p.put(t, k, e)
			}
		}
	}
}

// answers is all that is answered to many calls, the same ones for the same seed.
func answers(room int, seed uint64) []int {
	var l []int
	u, _ := stlb.New(room)
	next := chance(seed)
	for range 3000 {
		k, e := pick(next)
		switch next(12) {
		case 0:
			if u.Drop(k) {
				l = append(l, -1)
			}
		case 1:
			l = append(l, u.Gone(e.Page))
		case 2:
			l = append(l, u.Narrow(e.Page))
		case 3, 4, 5, 6:
			got, _ := u.Get(k)
			l = append(l, got.Page, got.Frame, got.Rights)
		case 7:
			if next(20) == 0 {
				l = append(l, u.Flush())
			}
		default:
			l = append(l, int(u.Put(k, e)))
		}
		for _, x := range u.List() {
			l = append(l, x.K.Root, x.K.Page, x.E.Page, x.E.Frame, x.E.Rights)
		}
	}
	return l
}

func TestAnswersHangOnTheCallsAlone(t *testing.T) { // P5: the same calls on many at once
	for room := range most + 1 {
		want := answers(room, 5)
		var wait sync.WaitGroup
		for range 8 {
			wait.Go(func() {
				if got := answers(room, 5); !slices.Equal(got, want) {
					t.Errorf("the same calls, of room %d: %v, then %v", room, want, got)
				}
			})
		}
		wait.Wait()
	}
}

// TestAnyArguments calls all with all wild arguments, on what was made and on what was not: that none panics is what it asks (P1).
func TestAnyArguments(t *testing.T) {
	tlbs := []*stlb.Tlb{nil, new(stlb.Tlb)}
	for _, room := range wild {
		u, _ := stlb.New(room)
		tlbs = append(tlbs, u)
	}
	for _, u := range tlbs {
		for _, a := range wild {
			for _, b := range wild {
				k, e := api.Key{Root: a, Page: b}, api.Entry{Page: b, Frame: a, Rights: a}
				u.Put(k, e)
				u.Get(k)
				u.Put(api.Key{Root: b, Page: a}, e)
				u.Narrow(b)
				u.List()
				u.Drop(k)
				u.Get(k)
				u.Len()
			}
			u.Gone(a)
		}
		u.Flush()
		u.Flush()
	}
}
