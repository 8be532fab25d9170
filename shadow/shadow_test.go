package shadow_test

import (
	"math"
	"slices"
	"sync"
	"testing"

	"hermitage/api"
	"hermitage/shadow"
)

const (
	most = 32 // how many there may be, by the document's limits
	owns = 8  // a guest's own pages
)

// wild is numbers that keys, pages, frames and rights are tried with: the least and the greatest, those about each edge, and such as come to another one if bits are cut off.
var wild = []int{
	math.MinInt, math.MinInt + 1, math.MinInt + 2, -1 << 32, -1<<32 + 1, math.MinInt32, -256, -33, -9, -8, -7, -4, -3, -2, -1,
	0, 1, 2, 3, 4, 5, 6, 7, 8, 9, 11, 12, 13, 15, 16, 31, 32, 33, 255, 256, 257, 1 << 16, math.MaxInt32, 1 << 31, 1 << 32, 1<<32 + 1, 1<<32 + 7, math.MaxInt - 1, math.MaxInt,
}

// filling is a translation of the tests' own reckoning: its entry, the two pages it was filled through, the number of its Fill.
type filling struct {
	e          api.Entry
	root, leaf int
	born       int
}

// model is what the chapter says of a Shadow: what each key has, in no order but that of the numbers.
type model struct {
	fills int
	m     map[api.Key]filling
}

func (m *model) copied() *model {
	c := &model{m.fills, map[api.Key]filling{}}
	for k, x := range m.m {
		c.m[k] = x
	}
	return c
}

func (m *model) tables() map[int]int {
	n := map[int]int{}
	for _, x := range m.m {
		n[x.root]++
		n[x.leaf]++
	}
	return n
}

// byAge is all keys, the oldest first.
func (m *model) byAge() []api.Key {
	var ks []api.Key
	for k := range m.m {
		ks = append(ks, k)
	}
	slices.SortFunc(ks, func(a, b api.Key) int { return m.m[a].born - m.m[b].born })
	return ks
}

func (m *model) list() []api.Kept {
	var l []api.Kept
	for _, k := range m.byAge() {
		l = append(l, api.Kept{K: k, E: m.m[k].e})
	}
	return l
}

// without is those rights less the one to write, in two's complement, of numbers below 0 too.
func without(rights int) int {
	if rights>>1&1 == 1 {
		return rights - 2
	}
	return rights
}

func (m *model) fill(k api.Key, e api.Entry, root, leaf int) []int {
	var told []int
	tables := m.tables()
	for _, page := range []int{root, leaf} {
		if tables[page] == 0 && !slices.Contains(told, page) {
			told = append(told, page)
		}
	}
	slices.Sort(told)
	delete(m.m, k)
	m.fills++
	m.m[k] = filling{e, root, leaf, m.fills}
	if len(m.m) > most {
		delete(m.m, m.byAge()[0])
	}
	for _, other := range m.byAge() {
		x := m.m[other]
		if x.e.Page == root || x.e.Page == leaf {
			x.e.Rights = without(x.e.Rights)
		}
		m.m[other] = x
	}
	x := m.m[k]
	if m.tables()[x.e.Page] > 0 {
		x.e.Rights = without(x.e.Rights)
	}
	m.m[k] = x
	return told
}

// wrote is what goes of the tables in page, and, with toIt, of what leads to it too.
func (m *model) wrote(page int, toIt bool) []api.Key {
	var gone []api.Key
	for _, k := range m.byAge() {
		x := m.m[k]
		if x.root == page || x.leaf == page || toIt && x.e.Page == page {
			gone = append(gone, k)
			delete(m.m, k)
		}
	}
	return gone
}

func (m *model) flush() int {
	n := len(m.m)
	clear(m.m)
	return n
}

// pair is a Shadow, and what it must be.
type pair struct {
	s *shadow.Shadow
	m *model
}

func made(t *testing.T) pair {
	t.Helper()
	s := shadow.New()
	if s == nil {
		t.Fatal("New: nil")
	}
	return pair{s, &model{m: map[api.Key]filling{}}}
}

// agree asks all that is there, in its order, and what is said of it.
func (p pair) agree(t *testing.T) {
	t.Helper()
	want, tables := p.m.list(), p.m.tables()
	for range 2 {
		if n := p.s.Len(); n != len(want) || n > most {
			t.Fatalf("Len: %d, not %d", n, len(want))
		}
		if l := p.s.List(); !slices.Equal(l, want) {
			t.Fatalf("List: %v, not %v", l, want)
		}
		for page := -1; page <= owns+1; page++ {
			if is := p.s.Table(page); is != (tables[page] > 0) {
				t.Fatalf("Table(%d): %v", page, is)
			}
		}
	}
	for _, x := range want {
		if x.E.Rights&2 != 0 && tables[x.E.Page] > 0 { // P19.4
			t.Fatalf("a table can be written by %v", x)
		}
	}
}

func (p pair) fill(t *testing.T, k api.Key, e api.Entry, root, leaf int) {
	t.Helper()
	want := p.m.fill(k, e, root, leaf)
	if l, errno := p.s.Fill(k, e, root, leaf); !slices.Equal(l, want) || errno != api.OK {
		t.Fatalf("Fill(%v, %v, %d, %d): %v %d, not %v", k, e, root, leaf, l, errno, want)
	}
	p.agree(t)
}

func (p pair) get(t *testing.T, k api.Key) {
	t.Helper()
	x, there := p.m.m[k]
	if e, ok := p.s.Get(k); e != x.e || ok != there {
		t.Fatalf("Get(%v): %v %v, not %v %v", k, e, ok, x.e, there)
	}
	p.agree(t)
}

func (p pair) wrote(t *testing.T, page int) {
	t.Helper()
	want := p.m.wrote(page, false)
	if l := p.s.Wrote(page); !slices.Equal(l, want) {
		t.Fatalf("Wrote(%d): %v, not %v", page, l, want)
	}
	if p.s.Table(page) { // P19.4
		t.Fatalf("Table(%d) behind Wrote", page)
	}
	p.agree(t)
}

func (p pair) gone(t *testing.T, page int) {
	t.Helper()
	want := p.m.wrote(page, true)
	if l := p.s.Gone(page); !slices.Equal(l, want) {
		t.Fatalf("Gone(%d): %v, not %v", page, l, want)
	}
	if p.s.Table(page) {
		t.Fatalf("Table(%d) behind Gone", page)
	}
	p.agree(t)
}

func (p pair) flush(t *testing.T) {
	t.Helper()
	want := p.m.flush()
	if n := p.s.Flush(); n != want {
		t.Fatalf("Flush: %d, not %d", n, want)
	}
	p.agree(t)
}

// copied is both as they are now: a Shadow as a value has translations of its own.
func (p pair) copied() pair {
	s := *p.s
	return pair{&s, p.m.copied()}
}

// key is the key of that number; some have their root in common, some their page, no two both.
func key(n int) api.Key {
	return api.Key{Root: n / 5, Page: n % 5}
}

// entry is that of page, with all rights that can be.
func entry(page int) api.Entry {
	return api.Entry{Page: page, Frame: page + 20, Rights: api.RRead | api.RWrite | api.RExec | api.RUser}
}

// filled is one with n translations, keys 0 and on, to pages 4 to 7 in turn, through 1 and one of 2 and 3.
func filled(t *testing.T, n int) pair {
	t.Helper()
	p := made(t)
	for i := range n {
		p.fill(t, key(i), entry(4+i%4), 1, 2+i%2)
	}
	return p
}

// holds asks by hand what is there: keys' numbers and rights in turn, the oldest first, of the Shadow and of the tests' own reckoning.
func (p pair) holds(t *testing.T, want ...int) {
	t.Helper()
	l := p.s.List()
	if len(l) != len(want)/2 || !slices.Equal(l, p.m.list()) {
		t.Fatalf("List: %v, the tests' %v, not %v", l, p.m.list(), want)
	}
	for i, x := range l {
		if x.K != key(want[2*i]) || x.E.Rights != want[2*i+1] {
			t.Fatalf("List: %v, not %v", l, want)
		}
	}
}

func TestTheLimits(t *testing.T) { // the numbers that the tests beside this one stand on
	if api.MaxShadow != most || api.OwnPages != owns || api.RWrite != 2 {
		t.Errorf("MaxShadow %d, OwnPages %d, RWrite %d", api.MaxShadow, api.OwnPages, api.RWrite)
	}
}

func TestNew(t *testing.T) { // P19.1: nothing is there
	p := made(t)
	p.agree(t)
	for _, n := range wild {
		p.get(t, api.Key{Root: n, Page: n}) // the zero key is as others
		p.wrote(t, n)
		p.gone(t, n)
	}
	p.flush(t)
	p.flush(t)
}

func TestOfTheChapter(t *testing.T) { // P19.1
	s := shadow.New()
	a, b := api.Key{Root: 1, Page: 5}, api.Key{Root: 1, Page: 6}
	if l, e := s.Fill(a, api.Entry{Page: 3, Frame: 9, Rights: api.RRead | api.RWrite}, 1, 2); !slices.Equal(l, []int{1, 2}) || e != api.OK {
		t.Errorf("Fill of a: %v %d", l, e)
	}
	if l, e := s.Fill(b, api.Entry{Page: 4, Frame: 8, Rights: api.RRead | api.RWrite}, 1, 3); !slices.Equal(l, []int{3}) || e != api.OK {
		t.Errorf("Fill of b: %v %d", l, e)
	}
	if l := s.List(); !slices.Equal(l, []api.Kept{{K: a, E: api.Entry{Page: 3, Frame: 9, Rights: api.RRead}}, {K: b, E: api.Entry{Page: 4, Frame: 8, Rights: api.RRead | api.RWrite}}}) {
		t.Errorf("List: %v", l)
	}
}

func TestByHand(t *testing.T) { // P19.1, P19.2: the tests' own reckoning is held by it too
	p := made(t)
	told := func(k int, e api.Entry, root, leaf int, want ...int) {
		t.Helper()
		if l := p.m.fill(key(k), e, root, leaf); !slices.Equal(l, want) {
			t.Fatalf("the tests' own Fill of key %d: %v, not %v", k, l, want)
		}
		if l, errno := p.s.Fill(key(k), e, root, leaf); !slices.Equal(l, want) || errno != api.OK {
			t.Fatalf("Fill of key %d: %v %d, not %v", k, l, errno, want)
		}
		p.agree(t)
	}
	told(0, entry(6), 2, 1, 1, 2) // rising, not the root's first
	p.holds(t, 0, 15)
	told(1, entry(1), 2, 1) // its own table
	p.holds(t, 0, 15, 1, 13)
	told(2, entry(6), 3, 3, 3) // once
	p.holds(t, 0, 15, 1, 13, 2, 15)
	told(3, entry(2), 3, 4, 4) // one that others were filled through
	p.holds(t, 0, 15, 1, 13, 2, 15, 3, 13)
	told(4, entry(0), 3, 6, 6) // all that lead to 6 lose it
	p.holds(t, 0, 13, 1, 13, 2, 13, 3, 13, 4, 15)
	told(1, entry(7), 4, 0, 0) // the youngest now; 4 loses it
	p.holds(t, 0, 13, 2, 13, 3, 13, 4, 13, 1, 15)
	told(0, entry(1), 4, 4) // nothing was filled through 1 any more
	p.holds(t, 2, 13, 3, 13, 4, 13, 1, 15, 0, 15)
	told(5, entry(1), 1, 4, 1)
	p.holds(t, 2, 13, 3, 13, 4, 13, 1, 15, 0, 13, 5, 13)
	p.wrote(t, 4) // 3, 1, 0 and 5
	p.holds(t, 2, 13, 4, 13)
	p.gone(t, 6) // 2 leads to it, 4 was filled through it
	p.holds(t)
	told(2, entry(6), 0, 0, 0) // it has its rights anew
	p.holds(t, 2, 15)
	p.flush(t)
	p.holds(t)
}

func TestFillThroughNoOwnPages(t *testing.T) { // P19.1, P2, P6: one below, one beyond, the ends; nothing is changed
	for _, n := range []int{0, 1, 5, most} {
		p := filled(t, n)
		for _, root := range wild {
			for _, leaf := range wild {
				if root >= 0 && root < owns && leaf >= 0 && leaf < owns {
					continue
				}
				for _, k := range []api.Key{key(0), key(3), key(most + 1), {Root: root, Page: leaf}} {
					if l, e := p.s.Fill(k, entry(1), root, leaf); len(l) != 0 || e != api.ErrArg {
						t.Fatalf("Fill through %d and %d: %v %d", root, leaf, l, e)
					}
				}
			}
		}
		p.agree(t)
	}
}

func TestFillTells(t *testing.T) { // P19.1: which of both are no tables yet, rising, each once, with all pairs of pages three times
	pages := []int{0, 1, 6, 7}
	var on func(p pair, left int)
	on = func(p pair, left int) {
		if left == 0 {
			return
		}
		for _, root := range pages {
			for _, leaf := range pages {
				next := p.copied()
				next.fill(t, key(left), entry(root), root, leaf)
				on(next, left-1)
			}
		}
	}
	on(made(t), 3)
}

func TestEachPairOfPages(t *testing.T) { // P19.1, P19.2: all own pages, as the root's and the leaf's, with entries of each page
	for root := range owns {
		for leaf := range owns {
			for page := range owns + 4 {
				p := made(t)
				p.fill(t, key(1), entry(page), root, leaf)
				p.fill(t, key(2), entry(leaf), root, root)
				p.fill(t, key(3), entry(page), leaf, page%owns)
				p.copied().wrote(t, root)
				p.copied().wrote(t, leaf)
				p.copied().wrote(t, page)
				p.gone(t, page)
			}
		}
	}
}

func TestWhatIsToldIsAskedAhead(t *testing.T) { // P19.1: what goes in that Fill was there till then
	p := made(t)
	p.fill(t, key(0), entry(5), 1, 2)
	if l, e := p.s.Fill(key(0), entry(5), 2, 1); len(l) != 0 || e != api.OK {
		t.Errorf("Fill again, through both: %v %d", l, e)
	}
	p.m.fill(key(0), entry(5), 2, 1)
	p.agree(t)
	p.fill(t, key(0), entry(5), 3, 2) // 1 is none any more
	if l, e := p.s.Fill(key(0), entry(5), 1, 3); !slices.Equal(l, []int{1}) || e != api.OK {
		t.Errorf("Fill through one that was a table once: %v %d", l, e)
	}
	p = filled(t, 0)
	p.fill(t, key(0), entry(5), 6, 7)
	for i := 1; i < most; i++ {
		p.fill(t, key(i), entry(0), 1, 2)
	}
	if l, e := p.s.Fill(key(most), entry(0), 7, 6); len(l) != 0 || e != api.OK { // the oldest goes, and it alone was filled through them
		t.Errorf("Fill of one more, through the oldest's: %v %d", l, e)
	}
	if !p.s.Table(6) || !p.s.Table(7) {
		t.Error("Table of those that the youngest was filled through")
	}
}

func TestRightsHangOnTheTablesThatAreLeft(t *testing.T) { // P19.1: what went in that Fill makes no tables
	p := made(t)
	p.fill(t, key(0), entry(5), 1, 2)
	p.fill(t, key(0), entry(1), 3, 4)
	p.holds(t, 0, 15)
	p.fill(t, key(0), entry(3), 3, 5)
	p.holds(t, 0, 13)

	p = made(t)
	p.fill(t, key(0), entry(0), 6, 7)
	for i := 1; i < most; i++ {
		p.fill(t, key(i), entry(0), 1, 2)
	}
	q := p.copied()
	p.fill(t, key(most), entry(6), 1, 2) // the oldest goes, and 6 is no table any more
	if e, ok := p.s.Get(key(most)); e != entry(6) || !ok || p.s.Table(6) {
		t.Errorf("Get of one to what was a table: %v %v", e, ok)
	}
	q.fill(t, key(1), entry(6), 1, 2) // none goes but its own
	if e, ok := q.s.Get(key(1)); e.Rights != 13 || !ok || !q.s.Table(6) {
		t.Errorf("Get of one to a table: %v %v", e, ok)
	}
}

func TestFillNarrowsTheOthers(t *testing.T) { // P19.1: all that lead to root or leaf, whichever they are, and no others
	for pages := range 81 { // the pages of four: 3, 4 or 5 each
		for root := 2; root < 7; root++ {
			for leaf := 2; leaf < 7; leaf++ {
				p := made(t)
				for i, n := 0, pages; i < 4; i, n = i+1, n/3 {
					p.fill(t, key(i), entry(3+n%3), 0, 1)
				}
				p.fill(t, key(4), entry(7), root, leaf)
				p.fill(t, key(1), entry(root), leaf, 1)
			}
		}
	}
}

func TestEachRights(t *testing.T) { // P19.1, P6: the other rights stay, of whatever number
	for _, rights := range wild {
		p := made(t)
		e := api.Entry{Page: 3, Frame: 4, Rights: rights}
		p.fill(t, key(0), e, 1, 2)
		if got, ok := p.s.Get(key(0)); got != e || !ok {
			t.Errorf("Get, of rights %d: %v %v", rights, got, ok)
		}
		p.fill(t, key(1), api.Entry{Page: 4, Frame: 3, Rights: rights}, 1, 3)
		e.Rights = rights &^ 2
		if got, ok := p.s.Get(key(0)); got != e || !ok {
			t.Errorf("Get of one to a table, of rights %d: %v %v", rights, got, ok)
		}
		if got, ok := p.s.Get(key(1)); got.Rights != rights || !ok {
			t.Errorf("Get of another page, of rights %d: %v %v", rights, got, ok)
		}
		p.fill(t, key(2), api.Entry{Page: 2, Frame: 3, Rights: rights}, 5, 5)
		if got, ok := p.s.Get(key(2)); got.Rights != rights&^2 || !ok {
			t.Errorf("Get of one put to a table, of rights %d: %v %v", rights, got, ok)
		}
	}
}

func TestNarrowedStays(t *testing.T) { // P19.1, P19.2: behind the table too, till its key has another
	p := made(t)
	p.fill(t, key(0), entry(3), 1, 2)
	p.fill(t, key(1), entry(4), 1, 3)
	p.holds(t, 0, 13, 1, 15)
	p.wrote(t, 3)
	p.holds(t, 0, 13)
	p.get(t, key(0))
	p.fill(t, key(2), entry(3), 1, 2) // it has them
	p.holds(t, 0, 13, 2, 15)
	p.fill(t, key(0), entry(3), 1, 2)
	p.holds(t, 2, 15, 0, 15)
}

func TestOneMoreThanThereMayBe(t *testing.T) { // P19.1, P19.4: the oldest goes, each time
	p := made(t)
	for n := range 3 * most {
		p.fill(t, key(n), entry(n%4), 4, 5+n%3)
		if want := min(n+1, most); p.s.Len() != want {
			t.Fatalf("Len behind %d: %d", n+1, p.s.Len())
		}
		if first := p.s.List()[0].K; first != key(max(0, n+1-most)) {
			t.Fatalf("the oldest behind %d: %v", n+1, first)
		}
		if e, ok := p.s.Get(key(n)); e != entry(n%4) || !ok {
			t.Fatalf("Get of the youngest: %v %v", e, ok)
		}
		p.get(t, key(n-most))
		p.get(t, key(n-most+1))
	}
}

func TestFillOfOneThatIsThere(t *testing.T) { // P19.1: it is the youngest, and no other goes, of a full one too
	for _, n := range []int{1, 2, 3, most - 1, most} {
		for i := range n {
			p := filled(t, n)
			p.fill(t, key(i), entry(0), 1, 2)
			if l := p.s.List(); len(l) != n || l[n-1] != (api.Kept{K: key(i), E: entry(0)}) {
				t.Errorf("Fill of key %d of %d: %v", i, n, l)
			}
			p.fill(t, key(most), entry(4), 1, 2)
			p.fill(t, key(i), api.Entry{}, 1, 2) // the zero entry is one
			if e, ok := p.s.Get(key(i)); e != (api.Entry{}) || !ok {
				t.Errorf("Get of the zero entry: %v %v", e, ok)
			}
			p.fill(t, key(most+1), entry(4), 3, 2)
		}
	}
}

func TestGetChangesNothing(t *testing.T) { // P19.2: nor do the others that ask
	p := filled(t, most)
	for i := range most {
		p.get(t, key(i))
		p.get(t, key(most+i))
	}
	p.get(t, key(0))
	p.fill(t, key(most), entry(0), 1, 2)
	if _, ok := p.s.Get(key(0)); ok {
		t.Error("the oldest is there, behind Get of it")
	}
}

func TestKeysAreBothNumbers(t *testing.T) { // P19.1, P6: any numbers may be a key's, and an entry's
	for _, root := range wild {
		for _, page := range wild {
			p := made(t)
			k := api.Key{Root: root, Page: page}
			p.fill(t, k, api.Entry{Page: page, Frame: root, Rights: page}, 1, 2)
			for _, other := range []api.Key{{Root: root + 1, Page: page}, {Root: root, Page: page + 1}, {Root: root - 1, Page: page}, {Root: root ^ 1<<32, Page: page}, {Root: root, Page: page ^ 1<<32}, {Root: ^root, Page: ^page}, {Root: page, Page: root}} {
				if _, ok := p.s.Get(other); ok != (other == k) {
					t.Fatalf("Get(%v) of %v: %v", other, k, ok)
				}
			}
			p.get(t, k)
			p.fill(t, api.Key{Root: root + 1, Page: page}, entry(1), 1, 2)
			p.fill(t, api.Key{Root: root, Page: page + 1}, entry(2), 3, 3)
			p.get(t, k)
			p.fill(t, k, entry(5), 3, 4)
			p.copied().wrote(t, page)
			p.copied().wrote(t, root)
			p.gone(t, page)
		}
	}
}

func TestPagesAreTheEntrysAndTheTables(t *testing.T) { // P19.1, P19.2: not a key's, nor a frame
	p := made(t)
	p.fill(t, api.Key{Root: 5, Page: 6}, api.Entry{Page: 4, Frame: 5, Rights: 3}, 1, 2)
	p.fill(t, api.Key{Root: 3, Page: 5}, api.Entry{Page: 4, Frame: 6, Rights: 3}, 5, 6) // neither leads to 5 or 6
	if l := p.s.List(); len(l) != 2 || l[0].E.Rights != 3 || l[1].E.Rights != 3 || p.s.Table(3) || p.s.Table(4) {
		t.Fatalf("List: %v", l)
	}
	if l := p.s.Wrote(3); len(l) != 0 {
		t.Errorf("Wrote of a key's root: %v", l)
	}
	if l := p.s.Gone(3); len(l) != 0 {
		t.Errorf("Gone of a key's root: %v", l)
	}
	if l := p.s.Wrote(4); len(l) != 0 {
		t.Errorf("Wrote of a page that is no table: %v", l)
	}
	if l := p.s.Wrote(6); !slices.Equal(l, []api.Key{{Root: 3, Page: 5}}) {
		t.Errorf("Wrote of a leaf table: %v", l)
	}
	if l := p.s.Gone(4); !slices.Equal(l, []api.Key{{Root: 5, Page: 6}}) {
		t.Errorf("Gone of a page that is no table: %v", l)
	}
}

// ofPages is one of four, each filled through 0 and 0, 0 and 1, 1 and 0 or 2 and 3, as the digits say.
func ofPages(t *testing.T, digits int) pair {
	t.Helper()
	p := made(t)
	through := [4][2]int{{0, 0}, {0, 1}, {1, 0}, {2, 3}}
	for i := range 4 {
		x := through[digits>>(2*i)&3]
		p.fill(t, key(3-i), entry(i%3), x[0], x[1])
	}
	return p
}

func TestWroteAndGone(t *testing.T) { // P19.2: all of that page, whichever they are, the oldest first; the others stay in their order
	for digits := range 256 {
		for page := -1; page < 5; page++ {
			p := ofPages(t, digits)
			q := p.copied()
			p.wrote(t, page)
			p.wrote(t, page)
			p.fill(t, key(9), entry(2), page&7, 1)
			p.wrote(t, 1)
			q.gone(t, page)
			q.gone(t, page)
			q.fill(t, key(9), entry(1), 3, page&7)
			q.gone(t, 1)
		}
	}
}

func TestWroteAndGoneOfAFullOne(t *testing.T) { // P19.2: and it is filled again
	for page := range 9 {
		p := filled(t, most)
		q := p.copied()
		p.wrote(t, page)
		q.gone(t, page)
		for i := range most + 2 {
			p.fill(t, key(50+i), entry(i%8), 1, 2)
			q.fill(t, key(50+i), entry(i%8), 3, 0)
		}
	}
}

func TestPagesOfAnyNumbers(t *testing.T) { // P19.1, P19.2, P1, P6: an entry's page may be any, a table's may not
	for _, page := range wild {
		p := filled(t, 3)
		if is := p.s.Table(page); is != (page >= 1 && page <= 3) {
			t.Errorf("Table(%d): %v", page, is)
		}
		p.fill(t, key(3), api.Entry{Page: page, Frame: -1, Rights: 2}, 1, 2)
		p.copied().wrote(t, page)
		p.copied().gone(t, page^1<<32)
		p.copied().gone(t, page&7)
		p.copied().gone(t, page+1)
		p.gone(t, page)
		p.gone(t, page)
	}
}

func TestFlush(t *testing.T) { // P19.2: whatever was there; it can be filled anew
	for n := range most + 3 {
		p := filled(t, n)
		if got := p.s.Flush(); got != min(n, most) {
			t.Errorf("Flush of %d: %d", n, got)
		}
		p.m.flush()
		p.agree(t)
		p.flush(t)
		for i := range 5 {
			p.get(t, key(i))
			p.fill(t, key(i), entry(1+i), 1, 2)
		}
		p.flush(t)
	}
}

func TestListsAreNewMemory(t *testing.T) { // P4: neither the Shadow nor another answer changes with one, nor it behind it
	p := filled(t, 5)
	a, b := p.s.List(), p.s.List()
	want := slices.Clone(b)
	clear(a)
	a = append(a[:0], api.Kept{K: key(50)})
	if !slices.Equal(b, want) {
		t.Errorf("an answer changed by %v: %v", a, b)
	}
	p.agree(t)
	told, _ := p.s.Fill(key(5), entry(4), 6, 7)
	p.m.fill(key(5), entry(4), 6, 7)
	keys := p.s.Wrote(6)
	p.m.wrote(6, false)
	for _, change := range []func(){
		func() { p.get(t, key(0)) },
		func() { p.fill(t, key(0), entry(0), 4, 4) },
		func() { p.fill(t, key(9), entry(4), 0, 3) },
		func() { p.wrote(t, 0) },
		func() { p.gone(t, 4) },
		func() { p.flush(t) },
		func() { p.fill(t, key(1), entry(1), 2, 5) },
	} {
		change()
		if !slices.Equal(b, want) || !slices.Equal(told, []int{6, 7}) || !slices.Equal(keys, []api.Key{key(5)}) {
			t.Errorf("an answer changed behind it: %v %v %v", b, told, keys)
		}
	}
	for _, going := range []func(pair) []api.Key{
		func(p pair) []api.Key { p.m.wrote(1, false); return p.s.Wrote(1) },
		func(p pair) []api.Key { p.m.wrote(5, true); return p.s.Gone(5) },
	} {
		p = filled(t, most)
		clear(going(p))
		p.agree(t)
		told, _ = p.s.Fill(key(60), entry(4), 6, 0)
		p.m.fill(key(60), entry(4), 6, 0)
		clear(told)
		p.agree(t)
	}
}

// nothing asks all of a Shadow that is none, and behind each call that it is none still.
func nothing(t *testing.T, s *shadow.Shadow) {
	t.Helper()
	none := func() {
		t.Helper()
		if s.Len() != 0 || len(s.List()) != 0 || s.Flush() != 0 {
			t.Fatalf("Len %d, List %v", s.Len(), s.List())
		}
	}
	none()
	for _, n := range wild {
		for _, page := range wild {
			k := api.Key{Root: n, Page: page}
			if l, e := s.Fill(k, api.Entry{Page: n, Frame: page, Rights: n}, n, page); len(l) != 0 || e != api.ErrZero {
				t.Fatalf("Fill(%v): %v %d", k, l, e)
			}
			if e, ok := s.Get(k); e != (api.Entry{}) || ok {
				t.Fatalf("Get(%v): %v %v", k, e, ok)
			}
		}
		if s.Table(n) || len(s.Wrote(n)) != 0 || len(s.Gone(n)) != 0 {
			t.Fatalf("Table(%d), Wrote(%d), Gone(%d)", n, n, n)
		}
		none()
	}
}

func TestNilShadow(t *testing.T) { // P19.3, P1
	nothing(t, nil)
}

func TestShadowThatNoCallMade(t *testing.T) { // P19.3, P1
	nothing(t, new(shadow.Shadow))
	nothing(t, &shadow.Shadow{})
	var s shadow.Shadow
	nothing(t, &s)
	p := filled(t, most)
	*p.s = shadow.Shadow{}
	nothing(t, p.s)
}

func TestShadowsAreApart(t *testing.T) { // P5: of two, and of one and its copy, none sees what is done to the other
	a, b := filled(t, 6), made(t)
	c := a.copied()
	c.fill(t, key(0), entry(5), 4, 6)
	b.fill(t, key(1), entry(7), 5, 6)
	a.agree(t)
	c.agree(t)
	a.fill(t, key(9), entry(0), 0, 7)
	c.wrote(t, 2)
	b.get(t, key(0))
	a.gone(t, 3)
	for _, p := range []pair{a, b, c} {
		p.agree(t)
		for n := range 10 {
			p.get(t, key(n))
		}
	}
	c.flush(t)
	a.agree(t)
	b.agree(t)
}

// calls is calls of each kind, on three keys and four pages, so that each page is a table, is led to, and is neither.
var calls = []func(*testing.T, pair){
	func(t *testing.T, p pair) { p.fill(t, key(0), entry(3), 1, 2) },
	func(t *testing.T, p pair) { p.fill(t, key(1), entry(4), 1, 3) },
	func(t *testing.T, p pair) { p.fill(t, key(2), entry(1), 4, 2) },
	func(t *testing.T, p pair) { p.fill(t, key(0), entry(4), 3, 3) },
	func(t *testing.T, p pair) { p.fill(t, key(1), entry(2), 4, 1) },
	func(t *testing.T, p pair) { p.fill(t, key(2), entry(9), 2, 2) },
	func(t *testing.T, p pair) { p.wrote(t, 1) },
	func(t *testing.T, p pair) { p.wrote(t, 3) },
	func(t *testing.T, p pair) { p.gone(t, 2) },
	func(t *testing.T, p pair) { p.gone(t, 4) },
	func(t *testing.T, p pair) { p.flush(t) },
}

func TestEachRowOfCalls(t *testing.T) { // P19.1, P19.2, P19.4: all rows of four calls
	var on func(p pair, left int)
	on = func(p pair, left int) {
		if left == 0 {
			return
		}
		for _, call := range calls {
			next := p.copied()
			call(t, next)
			on(next, left-1)
		}
	}
	on(made(t), 4)
}

// chance is a row of numbers that look like chance, each below what is asked; the same ones for the same seed.
func chance(seed uint64) func(int) int {
	return func(below int) int {
		seed = seed*6364136223846793005 + 1442695040888963407
		return int(seed >> 33 % uint64(below))
	}
}

// pick is the arguments of one call, mostly such as others have too; of keys there are so many.
func pick(next func(int) int, keys int) (api.Key, api.Entry, int, int) {
	k, e := key(next(keys)), api.Entry{Page: next(12), Frame: next(32), Rights: next(16)}
	switch next(20) {
	case 0:
		k.Root = wild[next(len(wild))]
	case 1:
		e.Page = wild[next(len(wild))]
	case 2:
		e.Rights = wild[next(len(wild))]
	}
	return k, e, next(owns), next(owns)
}

func TestManyCalls(t *testing.T) { // P19.1, P19.2, P19.4: it is as the model behind each
	for seed := range uint64(20) {
		p, next := made(t), chance(seed)
		for range 1000 {
			k, e, root, leaf := pick(next, 10+int(seed)*4)
			if seed%2 == 0 { // few tables, so that many stay
				root, leaf = root%2, leaf%3
			}
			switch next(16) {
			case 0:
				if next(4) == 0 {
					p.wrote(t, leaf)
				}
			case 1:
				if next(4) == 0 {
					p.gone(t, e.Page)
				}
			case 2, 3:
				p.get(t, k)
			case 4:
				if next(16) == 0 {
					p.flush(t)
				}
			default:
				p.fill(t, k, e, root, leaf)
			}
		}
	}
}

// answers is all that is answered to many calls, the same ones for the same seed.
func answers(seed uint64) []int {
	var l []int
	s := shadow.New()
	next := chance(seed)
	for range 1000 {
		k, e, root, leaf := pick(next, 50)
		var ks []api.Key
		switch next(16) {
		case 0:
			ks = s.Wrote(leaf)
		case 1:
			ks = s.Gone(e.Page)
		case 2:
			got, _ := s.Get(k)
			l = append(l, got.Page, got.Frame, got.Rights)
		case 3:
			if next(10) == 0 {
				l = append(l, s.Flush())
			}
		default:
			told, errno := s.Fill(k, e, root, leaf)
			l = append(append(l, told...), int(errno))
		}
		for _, k := range ks {
			l = append(l, k.Root, k.Page)
		}
		for _, x := range s.List() {
			l = append(l, x.K.Root, x.K.Page, x.E.Page, x.E.Frame, x.E.Rights)
		}
	}
	return l
}

func TestAnswersHangOnTheCallsAlone(t *testing.T) { // P5: the same calls on many at once
	want := answers(5)
	var wait sync.WaitGroup
	for range 8 {
		wait.Go(func() {
			if got := answers(5); !slices.Equal(got, want) {
				t.Errorf("the same calls: %v, then %v", want, got)
			}
		})
	}
	wait.Wait()
}

// TestAnyArguments calls all with all wild arguments, on what was made and on what was not: that none panics is what it asks (P1).
func TestAnyArguments(t *testing.T) {
	for _, s := range []*shadow.Shadow{nil, new(shadow.Shadow), shadow.New(), filled(t, most).s} {
		for _, a := range wild {
			for _, b := range wild {
				k, e := api.Key{Root: a, Page: b}, api.Entry{Page: b, Frame: a, Rights: a}
				s.Fill(k, e, a, b)
				s.Get(k)
				s.Fill(k, e, 1, 2)
				s.Fill(api.Key{Root: b, Page: a}, e, b, a)
				s.Fill(k, e, a&7, b&7)
				s.List()
				s.Table(b)
				s.Wrote(b)
				s.Len()
			}
			s.Gone(a)
		}
		s.Flush()
		s.Flush()
	}
}
