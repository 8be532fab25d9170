package parts_test

import (
	"math"
	"slices"
	"testing"

	"hermitage/api"
	"hermitage/parts"
)

const (
	most  = 64
	owner = 63 // the greatest one
	none  = -1
)

// wild are numbers of which many can be no place, no count, and nobody.
var wild = []int{math.MinInt, math.MinInt + 1, math.MinInt32, -65, -64, -2, -1, 0, 1, 2, 31, 32, 62, 63, 64, 65, 127, 128, 256, math.MaxInt32, 1 << 32, 1<<32 + 1, math.MaxInt - 63, math.MaxInt - 1, math.MaxInt}

// model says of each place whose it is: a table reckoned the long way.
type model []int

func newModel(n int) model {
	return slices.Repeat(model{none}, n)
}

// give goes over the places one by one, so that no sum of from and n is reckoned.
func (m model) give(from, n, who int) api.Errno {
	if from < 0 || n < 1 || n > len(m) || who < 0 || who > owner {
		return api.ErrArg
	}
	for i := range n {
		if from >= len(m)-i {
			return api.ErrArg
		}
	}
	for i := range n {
		if m[from+i] != none {
			return api.ErrUsed
		}
	}
	for i := range n {
		m[from+i] = who
	}
	return api.OK
}

func (m model) of(who int) []int {
	var l []int
	for i, w := range m {
		if w == who && w != none {
			l = append(l, i)
		}
	}
	return l
}

// runs are cut from behind: what a run is hangs on no order in which places were given.
func (m model) runs() []api.Run {
	var l []api.Run
	for i, who := range slices.Backward(m) {
		if i+1 < len(m) && m[i+1] == who {
			l[0].From--
			l[0].N++
			continue
		}
		l = slices.Insert(l, 0, api.Run{From: i, N: 1, Who: who})
	}
	return l
}

// agree asks all that can be asked of a table.
func agree(t *testing.T, p *parts.Table, m model) {
	t.Helper()
	free := 0
	for i, want := range m {
		w, ok := p.Who(i)
		if want == none {
			free++
			want = 0
		}
		if w != want || ok != (m[i] != none) {
			t.Errorf("Who(%d) of %v: %d %v", i, m, w, ok)
		}
	}
	for _, i := range []int{none, len(m), len(m) + 1, math.MinInt, math.MaxInt} {
		if w, ok := p.Who(i); w != 0 || ok {
			t.Errorf("Who(%d) of %d places: %d %v", i, len(m), w, ok)
		}
	}
	for who := -2; who <= owner+2; who++ {
		if l := p.Of(who); !slices.Equal(l, m.of(who)) {
			t.Errorf("Of(%d) of %v: %v", who, m, l)
		}
	}
	if p.Free() != free || p.Len() != len(m) {
		t.Errorf("of %v: Free %d, Len %d", m, p.Free(), p.Len())
	}
	if l := p.Runs(); !slices.Equal(l, m.runs()) {
		t.Errorf("Runs of %v: %v, not %v", m, l, m.runs())
	}
}

func made(t *testing.T, n int) *parts.Table {
	t.Helper()
	p, e := parts.New(n)
	if p == nil || e != api.OK {
		t.Fatalf("New(%d): %v %d", n, p, e)
	}
	return p
}

// given is a table of n places, of which those of each row are given: from, how many, whose.
func given(t *testing.T, n int, rows ...[3]int) (*parts.Table, model) {
	t.Helper()
	p, m := made(t, n), newModel(n)
	for _, r := range rows {
		if e := p.Give(r[0], r[1], r[2]); e != api.OK || m.give(r[0], r[1], r[2]) != api.OK {
			t.Fatalf("Give(%v) of %d places: %d", r, n, e)
		}
	}
	return p, m
}

func TestNew(t *testing.T) { // P3.1: 0 to 64 places, nobody's
	for n := 0; n <= most; n++ {
		agree(t, made(t, n), newModel(n))
	}
}

func TestNewOfTooMany(t *testing.T) { // P3.1, P2
	for _, n := range wild {
		if n >= 0 && n <= most {
			continue
		}
		if p, e := parts.New(n); p != nil || e != api.ErrArg {
			t.Errorf("New(%d): %v %d", n, p, e)
		}
	}
}

func TestNewOfNone(t *testing.T) { // P3.1, P3.3: a table of no places was made
	p := made(t, 0)
	for _, from := range wild {
		if e := p.Give(from, 1, 0); e != api.ErrArg {
			t.Errorf("Give(%d, 1, 0) of no places: %d", from, e)
		}
	}
	if e := p.Give(0, 0, 0); e != api.ErrArg {
		t.Errorf("Give(0, 0, 0) of no places: %d", e)
	}
	agree(t, p, nil)
}

func TestGiveOfTheChapter(t *testing.T) { // P3.1, P3.2
	p, m := given(t, 5, [3]int{1, 2, 7})
	agree(t, p, m)
	if l := p.Runs(); !slices.Equal(l, []api.Run{{From: 0, N: 1, Who: -1}, {From: 1, N: 2, Who: 7}, {From: 3, N: 2, Who: -1}}) {
		t.Errorf("Runs: %v", l)
	}
}

func TestGiveOnce(t *testing.T) { // P3.1: all places that are there, at tables of all kinds of lengths
	for _, n := range []int{1, 2, 3, 8, most - 1, most} {
		for from := range n {
			for count := 1; from+count <= n; count++ {
				p, m := given(t, n, [3]int{from, count, (from + count) % most})
				agree(t, p, m)
			}
		}
	}
}

func TestGiveToEachOwner(t *testing.T) { // P3.1: 0 to 63
	p, m := made(t, most), newModel(most)
	for who := range most {
		if e := p.Give(owner-who, 1, who); e != api.OK || m.give(owner-who, 1, who) != api.OK {
			t.Errorf("Give to %d: %d", who, e)
		}
		agree(t, p, m)
	}
	if l := p.Runs(); len(l) != most || p.Free() != 0 {
		t.Errorf("Runs of %d owners: %v", most, l)
	}
}

// refused holds the table against what it was: a refusal changes nothing.
func refused(t *testing.T, p *parts.Table, m model, row [3]int, want api.Errno) {
	t.Helper()
	if e := p.Give(row[0], row[1], row[2]); e != want {
		t.Errorf("Give(%v) of %v: %d, not %d", row, m, e, want)
	}
	agree(t, p, m)
}

func TestGiveWhatCannotBe(t *testing.T) { // P3.1, P3.3, P6: each edge, and one beyond
	p, m := given(t, 6, [3]int{2, 1, 5})
	rows := [][3]int{
		{-1, 1, 0}, {-1, 2, 0}, {math.MinInt, 1, 0}, {math.MinInt, math.MaxInt, 0}, {0, 0, 0}, {0, -1, 0}, {0, math.MinInt, 0}, {6, 0, 0}, {3, -1, 0},
		{6, 1, 0}, {7, 1, 0}, {5, 2, 0}, {3, 4, 0}, {0, 7, 0}, {4, math.MaxInt, 0}, {math.MaxInt, 1, 0}, {math.MaxInt, math.MaxInt, 0}, {math.MaxInt, math.MinInt, 0}, {1 << 32, 1, 0},
		{3, 1, -1}, {3, 1, 64}, {3, 1, 65}, {3, 1, 256}, {3, 1, 1 << 32}, {3, 1, math.MinInt}, {3, 1, math.MaxInt},
	}
	for _, r := range rows {
		refused(t, p, m, r, api.ErrArg)
	}
	refused(t, p, m, [3]int{2, 1, 0}, api.ErrUsed)
	if e := p.Give(3, 3, owner); e != api.OK || m.give(3, 3, owner) != api.OK {
		t.Errorf("Give of all behind: %d", e)
	}
	agree(t, p, m)
}

func TestGiveWhatIsSomeones(t *testing.T) { // P3.1, P3.3, P3.4: the first, the last, one within, all, his own as well
	p, m := given(t, 12, [3]int{2, 3, 5}, [3]int{7, 1, 0}, [3]int{9, 1, 5})
	rows := [][2]int{{2, 1}, {3, 1}, {4, 1}, {2, 3}, {1, 2}, {0, 3}, {4, 2}, {4, 3}, {1, 5}, {0, 12}, {6, 2}, {7, 1}, {7, 2}, {5, 3}, {5, 5}, {8, 2}, {9, 3}, {6, 6}, {8, 4}}
	for _, r := range rows {
		for _, who := range []int{0, 5, 6, owner} {
			refused(t, p, m, [3]int{r[0], r[1], who}, api.ErrUsed)
		}
	}
}

func TestTheFirstErrorCounts(t *testing.T) { // P2: a number that can't be is told ahead of what is someone's
	p, m := given(t, 4, [3]int{0, 4, 1})
	for _, r := range [][3]int{{-1, 2, 1}, {0, 0, 1}, {0, 5, 1}, {3, 2, 1}, {0, 1, -1}, {0, 1, 64}, {0, 4, 64}} {
		refused(t, p, m, r, api.ErrArg)
	}
	refused(t, p, m, [3]int{0, 4, 1}, api.ErrUsed)
}

func TestAllPlacesByAllGives(t *testing.T) { // P3.1 to P3.4: every call there is on small tables, in many orders
	for n := range 6 {
		p, m := made(t, n), newModel(n)
		for seed := range 400 {
			if seed%13 == 0 {
				p, m = made(t, n), newModel(n)
			}
			row := [3]int{seed*7%(n+3) - 1, seed*5%(n+2) - 1, seed * 11 % 3}
			if e, want := p.Give(row[0], row[1], row[2]), m.give(row[0], row[1], row[2]); e != want {
				t.Errorf("Give(%v) of %v: %d, not %d", row, m, e, want)
			}
			agree(t, p, m)
		}
	}
}

func TestALongRowOfGives(t *testing.T) { // P3.1 to P3.4: at 64 places
	for step := 1; step < most; step += 6 {
		p, m := made(t, most), newModel(most)
		for k := range most {
			row := [3]int{k * step % most, 1 + k%4, k / 3 % 5 * 15}
			if e, want := p.Give(row[0], row[1], row[2]), m.give(row[0], row[1], row[2]); e != want {
				t.Errorf("Give(%v): %d, not %d", row, e, want)
			}
			agree(t, p, m)
		}
	}
}

func TestRuns(t *testing.T) { // P3.2
	rows := []struct {
		n     int
		gives [][3]int
		want  []api.Run
	}{
		{0, nil, nil},
		{1, nil, []api.Run{{From: 0, N: 1, Who: -1}}},
		{most, nil, []api.Run{{From: 0, N: most, Who: -1}}},
		{1, [][3]int{{0, 1, 0}}, []api.Run{{From: 0, N: 1, Who: 0}}},
		{most, [][3]int{{0, most, owner}}, []api.Run{{From: 0, N: most, Who: owner}}},
		{4, [][3]int{{0, 1, 3}}, []api.Run{{From: 0, N: 1, Who: 3}, {From: 1, N: 3, Who: -1}}},
		{4, [][3]int{{3, 1, 3}}, []api.Run{{From: 0, N: 3, Who: -1}, {From: 3, N: 1, Who: 3}}},
		{4, [][3]int{{2, 2, 3}, {0, 2, 3}}, []api.Run{{From: 0, N: 4, Who: 3}}},
		{4, [][3]int{{0, 2, 3}, {2, 2, 3}}, []api.Run{{From: 0, N: 4, Who: 3}}},
		{4, [][3]int{{0, 2, 3}, {2, 2, 4}}, []api.Run{{From: 0, N: 2, Who: 3}, {From: 2, N: 2, Who: 4}}},
		{3, [][3]int{{0, 1, 3}, {2, 1, 3}}, []api.Run{{From: 0, N: 1, Who: 3}, {From: 1, N: 1, Who: -1}, {From: 2, N: 1, Who: 3}}},
		{3, [][3]int{{0, 1, 3}, {2, 1, 3}, {1, 1, 3}}, []api.Run{{From: 0, N: 3, Who: 3}}},
		{3, [][3]int{{0, 1, 3}, {2, 1, 3}, {1, 1, 0}}, []api.Run{{From: 0, N: 1, Who: 3}, {From: 1, N: 1, Who: 0}, {From: 2, N: 1, Who: 3}}},
		{6, [][3]int{{4, 1, 1}, {1, 2, 0}}, []api.Run{{From: 0, N: 1, Who: -1}, {From: 1, N: 2, Who: 0}, {From: 3, N: 1, Who: -1}, {From: 4, N: 1, Who: 1}, {From: 5, N: 1, Who: -1}}},
	}
	for _, r := range rows {
		p, m := given(t, r.n, r.gives...)
		if l := p.Runs(); !slices.Equal(l, r.want) {
			t.Errorf("Runs of %d, given %v: %v, not %v", r.n, r.gives, l, r.want)
		}
		agree(t, p, m)
	}
}

func TestOrderOfGivesIsNotSeen(t *testing.T) { // P3.2, P3.4: what is given counts, not in how many calls
	whole, m := given(t, 10, [3]int{1, 4, 2}, [3]int{5, 3, 9})
	pieces, _ := given(t, 10, [3]int{7, 1, 9}, [3]int{4, 1, 2}, [3]int{1, 1, 2}, [3]int{5, 1, 9}, [3]int{2, 2, 2}, [3]int{6, 1, 9})
	agree(t, whole, m)
	agree(t, pieces, m)
}

func nothing(t *testing.T, p *parts.Table) {
	t.Helper()
	for _, from := range wild {
		for _, n := range wild {
			for _, who := range wild {
				if e := p.Give(from, n, who); e != api.ErrZero {
					t.Fatalf("Give(%d, %d, %d): %d", from, n, who, e)
				}
			}
		}
		if w, ok := p.Who(from); w != 0 || ok {
			t.Errorf("Who(%d): %d %v", from, w, ok)
		}
		if l := p.Of(from); len(l) != 0 {
			t.Errorf("Of(%d): %v", from, l)
		}
	}
	if p.Free() != 0 || p.Len() != 0 || len(p.Runs()) != 0 {
		t.Errorf("Free %d, Len %d, Runs %v", p.Free(), p.Len(), p.Runs())
	}
}

func TestNilTable(t *testing.T) { // P3.3, P1
	nothing(t, nil)
}

func TestTableThatNoCallMade(t *testing.T) { // P3.3, P1
	nothing(t, new(parts.Table))
	var p parts.Table
	nothing(t, &p)
	q, _ := given(t, 3, [3]int{0, 2, 1})
	*q = parts.Table{}
	nothing(t, q)
}

func TestOneOwnerForEver(t *testing.T) { // P3.4
	p, m := given(t, 16, [3]int{3, 4, 1}, [3]int{10, 2, 2})
	for from := range 16 {
		for n := 1; from+n <= 16; n++ {
			for _, who := range []int{1, 2, 3} {
				old := slices.Clone(m)
				if e, want := p.Give(from, n, who), m.give(from, n, who); e != want {
					t.Errorf("Give(%d, %d, %d): %d, not %d", from, n, who, e, want)
				}
				for i, was := range old {
					if w, ok := p.Who(i); was != none && (w != was || !ok) {
						t.Errorf("place %d was %d's, and is %d's", i, was, w)
					}
				}
			}
		}
	}
	agree(t, p, m)
}

func TestRunsAreAllPlaces(t *testing.T) { // P3.4
	p := made(t, most)
	for k := range 40 {
		p.Give(k*19%most, 1+k%3, k%4)
		at, free := 0, 0
		for _, r := range p.Runs() {
			if r.From != at || r.N < 1 {
				t.Errorf("a run at %d: %v", at, r)
			}
			for i := range r.N {
				if w, ok := p.Who(r.From + i); ok != (r.Who != none) || ok && w != r.Who {
					t.Errorf("place %d is in %v, and %d's", r.From+i, r, w)
				}
			}
			if r.Who == none {
				free += r.N
			}
			at += r.N
		}
		if at != most || free != p.Free() {
			t.Errorf("runs have %d places, %d of nobody", at, free)
		}
	}
}

func TestListsAreNotChangedBehind(t *testing.T) { // P4
	p, m := given(t, 8, [3]int{1, 3, 4})
	runs, of := p.Runs(), p.Of(4)
	wantRuns, wantOf := slices.Clone(runs), slices.Clone(of)
	p.Give(4, 2, 4)
	p.Give(0, 1, 9)
	if !slices.Equal(runs, wantRuns) || !slices.Equal(of, wantOf) {
		t.Errorf("answers changed behind them: %v, %v", runs, of)
	}
	m.give(4, 2, 4)
	m.give(0, 1, 9)
	for _, l := range [][]api.Run{p.Runs(), made(t, 8).Runs()} {
		clear(l)
		_ = append(l[:0], api.Run{From: 7, N: 7, Who: 7})
	}
	clear(p.Of(4))
	agree(t, p, m)
}

func TestTablesAreApart(t *testing.T) { // P5: of two tables, and of a table and its copy, none sees what is given of the other
	p, m := given(t, 8, [3]int{1, 3, 4})
	q, k := given(t, 8)
	copied, c := *p, slices.Clone(m)
	p.Give(4, 1, 4)
	m.give(4, 1, 4)
	copied.Give(5, 2, 6)
	c.give(5, 2, 6)
	agree(t, p, m)
	agree(t, q, k)
	agree(t, &copied, c)
}

func TestAnswersHangOnCallsAlone(t *testing.T) { // P5: asking, and being refused, change nothing
	p, m := given(t, 20, [3]int{0, 3, 1}, [3]int{5, 5, 2})
	q, k := given(t, 20, [3]int{0, 3, 1})
	agree(t, q, k)
	q.Give(2, 2, 9)
	q.Give(5, 16, 2)
	agree(t, q, k)
	q.Give(5, 5, 2)
	agree(t, p, m)
	agree(t, q, m)
}

// TestAnyArguments calls all with all wild arguments: that none panics is what it asks, and that all are as the model says (P1).
func TestAnyArguments(t *testing.T) {
	for _, n := range []int{0, 1, 2, 33, most} {
		p, m := made(t, n), newModel(n)
		for _, from := range wild {
			for _, count := range wild {
				for _, who := range wild {
					if e, want := p.Give(from, count, who), m.give(from, count, who); e != want {
						t.Fatalf("Give(%d, %d, %d) of %d places: %d, not %d", from, count, who, n, e, want)
					}
				}
			}
			w, ok := p.Who(from)
			has := from >= 0 && from < n && m[from] != none
			if ok != has || !ok && w != 0 || ok && w != m[from] {
				t.Errorf("Who(%d): %d %v", from, w, ok)
			}
			if l := p.Of(from); !slices.Equal(l, m.of(from)) {
				t.Errorf("Of(%d): %v", from, l)
			}
		}
		agree(t, p, m)
	}
}
