package pte_test

import (
	"math"
	"slices"
	"sync"
	"testing"

	"hermitage/api"
	"hermitage/pte"
)

// wild is numbers that rights, pages and kinds of accesses are tried with: the least and the greatest, those about each edge, and such as come to a right one if bits are cut off.
var wild = []int{
	math.MinInt, math.MinInt + 1, math.MinInt + 3, -1 << 32, -1<<32 + 1, math.MinInt32, math.MinInt32 + 1, -257, -256, -255, -33, -32, -31, -17, -16, -15, -8, -4, -3, -2, -1,
	0, 1, 2, 3, 4, 5, 7, 8, 9, 14, 15, 16, 17, 24, 30, 31, 32, 33, 47, 63, 64, 127, 128, 255, 256, 257, 1 << 15, 1 << 16, 1<<16 + 1, 1<<24 + 1, 1<<30 + 3, math.MaxInt32, 1 << 31, 1<<31 + 1, math.MaxUint32, 1 << 32, 1<<32 + 1, 1<<32 + 3, 1<<32 + 15, 1<<32 + 31, math.MaxInt - 1, math.MaxInt,
}

// kinds is numbers of kinds of accesses: all three, and those that are none.
var kinds = append(slices.Clone(wild), 6, 10, 11, 12, 13)

// bit says whether bit n of w is 1, by dividing.
func bit(w uint32, n int) bool {
	for range n {
		w /= 2
	}
	return w%2 == 1
}

// has says whether that one of the four rights is in rights, by dividing, whatever else is.
func has(rights, right int) bool {
	// Down to 0 to 15 first, of numbers below 0 too.
	rest := (rights%16 + 16) % 16
	return rest/right%2 == 1
}

// entry is what Get answers of w, by the chapter.
func entry(w uint32) (api.Pte, int) {
	if !bit(w, 0) {
		return api.Pte{}, api.FInvalid
	}
	p := api.Pte{On: true}
	for n := 1; n < 32; n++ {
		switch {
		case !bit(w, n):
		case n == 1:
			p.Rights += api.RRead
		case n == 2:
			p.Rights += api.RWrite
		case n == 3:
			p.Rights += api.RExec
		case n == 4:
			p.Rights += api.RUser
		case n == 8:
			p.Page++
		case n == 9:
			p.Page += 2
		case n == 10:
			p.Page += 4
		case n == 11:
			p.Page += 8
		case n == 12:
			p.Page += 16
		default:
			return api.Pte{}, api.FForm
		}
	}
	return p, api.FOk
}

// wordOf is what Put answers of p, by the chapter.
func wordOf(p api.Pte) (uint32, api.Errno) {
	switch {
	case p.Rights < 0 || p.Rights > 15 || p.Page < 0 || p.Page > 31:
		return 0, api.ErrForm
	case !p.On && (p.Rights != 0 || p.Page != 0):
		return 0, api.ErrForm
	case !p.On:
		return 0, api.OK
	}
	return uint32(1 + 2*p.Rights + 256*p.Page), api.OK
}

// table is what Table answers of w, by the chapter.
func table(w uint32) (int, int) {
	p, fault := entry(w)
	if fault == api.FOk && p.Rights != 0 {
		fault = api.FForm
	}
	if fault != api.FOk {
		return 0, fault
	}
	return p.Page, api.FOk
}

// leaf is what Leaf answers of w, by the chapter.
func leaf(w uint32) (api.Pte, int) {
	p, fault := entry(w)
	if fault == api.FOk && (p.Rights == 0 || p.Rights == api.RUser) {
		fault = api.FForm
	}
	if fault != api.FOk {
		return api.Pte{}, fault
	}
	return p, api.FOk
}

// allows is what Allows answers, by the chapter.
func allows(p api.Pte, kind int, user bool) bool {
	right, is := map[int]int{api.KFetch: api.RExec, api.KLoad: api.RRead, api.KStore: api.RWrite}[kind]
	if !is || !p.On || user && !has(p.Rights, api.RUser) {
		return false
	}
	return has(p.Rights, right)
}

// checkWord holds what is told of w against the chapter.
func checkWord(t *testing.T, w uint32) {
	t.Helper()
	p, fault := entry(w)
	if got, f := pte.Get(w); got != p || f != fault {
		t.Fatalf("Get(%x): %v %d, not %v %d", w, got, f, p, fault)
	}
	n, fault := table(w)
	if got, f := pte.Table(w); got != n || f != fault {
		t.Fatalf("Table(%x): %d %d, not %d %d", w, got, f, n, fault)
	}
	p, fault = leaf(w)
	if got, f := pte.Leaf(w); got != p || f != fault {
		t.Fatalf("Leaf(%x): %v %d, not %v %d", w, got, f, p, fault)
	}
}

// checkPut holds p's word against the chapter.
func checkPut(t *testing.T, p api.Pte) {
	t.Helper()
	w, errno := wordOf(p)
	if got, e := pte.Put(p); got != w || e != errno {
		t.Fatalf("Put(%v): %x %d, not %x %d", p, got, e, w, errno)
	}
}

// checkAllows holds what p allows against the chapter, of all kinds.
func checkAllows(t *testing.T, p api.Pte) {
	t.Helper()
	for _, kind := range kinds {
		for _, user := range []bool{false, true} {
			if got := pte.Allows(p, kind, user); got != allows(p, kind, user) {
				t.Fatalf("Allows(%v, %d, %v): %v", p, kind, user, got)
			}
		}
	}
}

// entries is all entries that can be.
func entries() []api.Pte {
	var l []api.Pte
	for rights := range 16 {
		for page := range 32 {
			l = append(l, api.Pte{On: true, Rights: rights, Page: page})
		}
	}
	return l
}

// row is n words that look like chance, the same ones for the same seed.
func row(seed uint64, n int) []uint32 {
	l := make([]uint32, n)
	for i := range l {
		seed = seed*6364136223846793005 + 1442695040888963407
		l[i] = uint32(seed >> 32)
	}
	return l
}

func TestPutByHand(t *testing.T) { // P14.1: the tests' own reckoning is held by it too
	rows := []struct {
		p     api.Pte
		word  uint32
		errno api.Errno
	}{
		{api.Pte{On: true, Rights: api.RRead, Page: 3}, 0x303, api.OK},
		{api.Pte{}, 0, api.OK},
		{api.Pte{On: true}, 1, api.OK},
		{api.Pte{On: true, Rights: api.RRead}, 3, api.OK},
		{api.Pte{On: true, Rights: api.RWrite}, 5, api.OK},
		{api.Pte{On: true, Rights: api.RExec}, 9, api.OK},
		{api.Pte{On: true, Rights: api.RUser}, 0x11, api.OK},
		{api.Pte{On: true, Rights: 15}, 0x1F, api.OK},
		{api.Pte{On: true, Page: 1}, 0x101, api.OK},
		{api.Pte{On: true, Page: 2}, 0x201, api.OK},
		{api.Pte{On: true, Page: 16}, 0x1001, api.OK},
		{api.Pte{On: true, Page: 31}, 0x1F01, api.OK},
		{api.Pte{On: true, Rights: 15, Page: 31}, 0x1F1F, api.OK},
		{api.Pte{On: true, Rights: api.RRead | api.RUser, Page: 12}, 0xC13, api.OK},
		{api.Pte{On: true, Rights: 16}, 0, api.ErrForm},
		{api.Pte{On: true, Rights: -1}, 0, api.ErrForm},
		{api.Pte{On: true, Page: 32}, 0, api.ErrForm},
		{api.Pte{On: true, Page: -1}, 0, api.ErrForm},
		{api.Pte{On: true, Rights: 16, Page: 32}, 0, api.ErrForm},
		{api.Pte{Page: 1}, 0, api.ErrForm},
		{api.Pte{Page: 31}, 0, api.ErrForm},
		{api.Pte{Page: 32}, 0, api.ErrForm},
		{api.Pte{Page: -1}, 0, api.ErrForm},
		{api.Pte{Rights: api.RRead}, 0, api.ErrForm},
		{api.Pte{Rights: api.RUser}, 0, api.ErrForm},
		{api.Pte{Rights: 16}, 0, api.ErrForm},
		{api.Pte{Rights: -1}, 0, api.ErrForm},
		{api.Pte{Rights: 15, Page: 31}, 0, api.ErrForm},
		{api.Pte{Rights: -1, Page: 1}, 0, api.ErrForm},
	}
	for _, r := range rows {
		if w, e := pte.Put(r.p); w != r.word || e != r.errno {
			t.Errorf("Put(%v): %x %d, not %x %d", r.p, w, e, r.word, r.errno)
		}
		if w, e := wordOf(r.p); w != r.word || e != r.errno {
			t.Errorf("the tests of %v: %x %d, not %x %d", r.p, w, e, r.word, r.errno)
		}
	}
}

func TestWordsByHand(t *testing.T) { // P14.1, P14.2: Get's, Table's and Leaf's fault of each, and its entry
	const ok, invalid, form = api.FOk, api.FInvalid, api.FForm
	rows := []struct {
		w                uint32
		p                api.Pte
		get, table, leaf int
	}{
		{0, api.Pte{}, invalid, invalid, invalid},
		{1, api.Pte{On: true}, ok, ok, form},
		{2, api.Pte{}, invalid, invalid, invalid},
		{0x302, api.Pte{}, invalid, invalid, invalid},
		{0x20, api.Pte{}, invalid, invalid, invalid},
		{0xFFFFFFFE, api.Pte{}, invalid, invalid, invalid},
		{0xFFFFFFFF, api.Pte{}, form, form, form},
		{0x21, api.Pte{}, form, form, form},
		{0x41, api.Pte{}, form, form, form},
		{0x81, api.Pte{}, form, form, form},
		{0x83, api.Pte{}, form, form, form},
		{0x2001, api.Pte{}, form, form, form},
		{0x2003, api.Pte{}, form, form, form},
		{0x10001, api.Pte{}, form, form, form},
		{0x80000001, api.Pte{}, form, form, form},
		{0x80000303, api.Pte{}, form, form, form},
		{0x501, api.Pte{On: true, Page: 5}, ok, ok, form},
		{0x1F01, api.Pte{On: true, Page: 31}, ok, ok, form},
		{0x503, api.Pte{On: true, Rights: api.RRead, Page: 5}, ok, form, ok},
		{0x505, api.Pte{On: true, Rights: api.RWrite, Page: 5}, ok, form, ok},
		{0x509, api.Pte{On: true, Rights: api.RExec, Page: 5}, ok, form, ok},
		{0x511, api.Pte{On: true, Rights: api.RUser, Page: 5}, ok, form, form},
		{0x11, api.Pte{On: true, Rights: api.RUser}, ok, form, form},
		{0x13, api.Pte{On: true, Rights: api.RRead | api.RUser}, ok, form, ok},
		{0x303, api.Pte{On: true, Rights: api.RRead, Page: 3}, ok, form, ok},
		{0x1F1F, api.Pte{On: true, Rights: 15, Page: 31}, ok, form, ok},
	}
	for _, r := range rows {
		if p, f := pte.Get(r.w); p != r.p || f != r.get {
			t.Errorf("Get(%x): %v %d, not %v %d", r.w, p, f, r.p, r.get)
		}
		page := 0
		if r.table == ok {
			page = r.p.Page
		}
		if n, f := pte.Table(r.w); n != page || f != r.table {
			t.Errorf("Table(%x): %d %d, not %d %d", r.w, n, f, page, r.table)
		}
		var p api.Pte
		if r.leaf == ok {
			p = r.p
		}
		if got, f := pte.Leaf(r.w); got != p || f != r.leaf {
			t.Errorf("Leaf(%x): %v %d, not %v %d", r.w, got, f, p, r.leaf)
		}
		checkWord(t, r.w) // that the tests' own reckoning says so too
	}
}

func TestAllowsByHand(t *testing.T) { // P14.3
	const fetch, load, store = api.KFetch, api.KLoad, api.KStore
	rows := []struct {
		rights, kind int
		kernel, user bool
	}{
		{0, fetch, false, false}, {0, load, false, false}, {0, store, false, false},
		{api.RRead, fetch, false, false}, {api.RRead, load, true, false}, {api.RRead, store, false, false},
		{api.RWrite, fetch, false, false}, {api.RWrite, load, false, false}, {api.RWrite, store, true, false},
		{api.RExec, fetch, true, false}, {api.RExec, load, false, false}, {api.RExec, store, false, false},
		{api.RUser, fetch, false, false}, {api.RUser, load, false, false}, {api.RUser, store, false, false},
		{api.RUser | api.RRead, fetch, false, false}, {api.RUser | api.RRead, load, true, true}, {api.RUser | api.RRead, store, false, false},
		{api.RUser | api.RWrite, fetch, false, false}, {api.RUser | api.RWrite, load, false, false}, {api.RUser | api.RWrite, store, true, true},
		{api.RUser | api.RExec, fetch, true, true}, {api.RUser | api.RExec, load, false, false}, {api.RUser | api.RExec, store, false, false},
		{7, fetch, true, false}, {7, load, true, false}, {7, store, true, false},
		{15, fetch, true, true}, {15, load, true, true}, {15, store, true, true},
		{15, -1, false, false}, {15, 3, false, false}, {15, 4, false, false}, {15, math.MinInt, false, false}, {15, math.MaxInt, false, false},
	}
	for _, r := range rows {
		for page := range 32 {
			p := api.Pte{On: true, Rights: r.rights, Page: page}
			if kernel, user := pte.Allows(p, r.kind, false), pte.Allows(p, r.kind, true); kernel != r.kernel || user != r.user {
				t.Errorf("Allows(%v, %d): %v, and the user %v", p, r.kind, kernel, user)
			}
			if kernel, user := allows(p, r.kind, false), allows(p, r.kind, true); kernel != r.kernel || user != r.user {
				t.Errorf("the tests of %v, %d: %v, and the user %v", p, r.kind, kernel, user)
			}
			p.On = false
			if pte.Allows(p, r.kind, false) || pte.Allows(p, r.kind, true) {
				t.Errorf("Allows(%v, %d), which is none", p, r.kind)
			}
		}
	}
}

func TestPutOfAnyParts(t *testing.T) { // P14.1, P2, P6: wild parts beside wild ones, and all that can be, and some beyond
	for _, on := range []bool{false, true} {
		for _, rights := range wild {
			for _, page := range wild {
				checkPut(t, api.Pte{On: on, Rights: rights, Page: page})
			}
		}
		for rights := -40; rights < 80; rights++ {
			for page := -70; page < 140; page++ {
				checkPut(t, api.Pte{On: on, Rights: rights, Page: page})
			}
		}
	}
}

func TestEachLowWord(t *testing.T) { // P14.1, P14.2: all bits that are an entry's, beside each other one, and none
	for w := range uint32(1 << 16) {
		checkWord(t, w)
	}
	for n := 16; n < 32; n++ {
		for w := range uint32(1 << 13) {
			checkWord(t, w|1<<n)
		}
	}
}

func TestManyWords(t *testing.T) { // P14.1, P14.2
	for _, w := range row(1, 200000) {
		checkWord(t, w)
		checkWord(t, w|1)
		checkWord(t, w%0x2000)
		checkWord(t, w%0x2000|1)
	}
}

func TestOfPairsOfBits(t *testing.T) { // P14.1, P14.2: which of two faults goes ahead
	for a := range 32 {
		for b := range 32 {
			w := uint32(1)<<a | 1<<b
			checkWord(t, w)
			checkWord(t, w|1)
			checkWord(t, ^w)
			checkWord(t, ^w|1)
		}
	}
}

func TestAllowsOfAnyParts(t *testing.T) { // P14.3, P6: rights that no entry has are looked at by their bits
	for _, on := range []bool{false, true} {
		for _, rights := range wild {
			for _, page := range []int{math.MinInt, -1, 0, 1, 31, 32, math.MaxInt} {
				checkAllows(t, api.Pte{On: on, Rights: rights, Page: page})
			}
		}
		for rights := range 64 {
			checkAllows(t, api.Pte{On: on, Rights: rights, Page: rights % 32})
		}
	}
}

func TestEachEntryHasOneWord(t *testing.T) { // P14.4: no two the same one, each read back, and no other word reads as one
	words := make(map[uint32]api.Pte)
	for _, p := range entries() {
		w, e := pte.Put(p)
		if e != api.OK {
			t.Fatalf("Put(%v): %d", p, e)
		}
		if other, is := words[w]; is {
			t.Fatalf("%x is the word of %v and of %v", w, other, p)
		}
		words[w] = p
		if back, f := pte.Get(w); back != p || f != api.FOk {
			t.Fatalf("Get(Put(%v)): %v %d", p, back, f)
		}
	}
	n := 0
	for w := range uint32(1 << 16) {
		p, f := pte.Get(w)
		if f != api.FOk {
			continue
		}
		n++
		if back, e := pte.Put(p); back != w || e != api.OK {
			t.Fatalf("Put(Get(%x)): %x %d", w, back, e)
		}
	}
	if n != len(words) || n != 512 {
		t.Errorf("%d words are read, of %d entries", n, len(words))
	}
}

func TestOfTablesAndLeaves(t *testing.T) { // P14.2, P14.4: an entry is a root's, a leaf's, or (the user's alone) neither, never both
	roots, leaves := 0, 0
	for _, p := range entries() {
		w, _ := pte.Put(p)
		n, of := pte.Table(w)
		if of == api.FOk {
			roots++
			if n != p.Page {
				t.Errorf("Table(%x): %d, not %d", w, n, p.Page)
			}
		}
		got, f := pte.Leaf(w)
		if f == api.FOk {
			leaves++
			if got != p {
				t.Errorf("Leaf(%x): %v, not %v", w, got, p)
			}
		}
		if of == api.FOk && f == api.FOk {
			t.Errorf("%x is a root's and a leaf's", w)
		}
	}
	if roots != 32 || leaves != 14*32 {
		t.Errorf("%d roots' entries, %d leaves'", roots, leaves)
	}
}

func TestMoreRightsAllowNoLess(t *testing.T) { // P14.4
	for less := range 16 {
		for more := range 16 {
			if less&more != less {
				continue
			}
			for _, kind := range kinds {
				p, q := api.Pte{On: true, Rights: less, Page: 1}, api.Pte{On: true, Rights: more, Page: 1}
				if pte.Allows(p, kind, false) && !pte.Allows(q, kind, false) || pte.Allows(p, kind, true) && !pte.Allows(q, kind, true) {
					t.Errorf("kind %d: of %d, not of %d", kind, less, more)
				}
				if pte.Allows(p, kind, true) && !pte.Allows(p, kind, false) {
					t.Errorf("kind %d: of %d for the user alone", kind, less)
				}
			}
		}
	}
}

func TestAnswersHangOnArgumentsAlone(t *testing.T) { // P5: in any order, and many at once
	words := []uint32{0, 1, 0x303, 0x501, 0x21}
	for _, w := range row(2, 2000) {
		words = append(words, w, w%0x2000|1)
	}
	answers := func(l []uint32) map[uint32]api.Pte {
		of := make(map[uint32]api.Pte)
		for _, w := range l {
			pte.Put(api.Pte{On: true, Rights: int(w % 17), Page: int(w % 33)})
			pte.Table(^w)
			pte.Leaf(w)
			of[w], _ = pte.Get(w)
			pte.Allows(of[w], int(w%3), true)
		}
		return of
	}
	want := answers(words)
	backward := slices.Clone(words)
	slices.Reverse(backward)
	var wait sync.WaitGroup
	for i := range 8 {
		wait.Go(func() {
			l := words
			if i%2 == 1 {
				l = backward
			}
			for w, got := range answers(l) {
				if got != want[w] {
					t.Errorf("Get(%x): %v, then %v", w, want[w], got)
				}
			}
		})
	}
	wait.Wait()
}

// TestAnyArguments calls all with all wild arguments: that none panics is what it asks (P1).
func TestAnyArguments(t *testing.T) {
	for _, a := range wild {
		pte.Get(uint32(a))
		pte.Table(uint32(a))
		pte.Leaf(uint32(a))
		for _, b := range wild {
			for _, on := range []bool{false, true} {
				p := api.Pte{On: on, Rights: a, Page: b}
				pte.Put(p)
				for _, kind := range kinds {
					pte.Allows(p, kind, on)
					pte.Allows(p, kind, !on)
				}
			}
		}
	}
}
