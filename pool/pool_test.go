package pool_test

import (
	"math"
	"slices"
	"testing"

	"hermitage/api"
	"hermitage/frames"
	"hermitage/pool"
)

const (
	most       = 32 // frames
	size       = 64 // bytes of each
	partitions = 16
	nobody     = -1
)

// wild are numbers of which most can be no frame, and no partition.
var wild = []int{math.MinInt, math.MinInt + 1, math.MinInt + 32, math.MinInt32, -65, -33, -32, -17, -16, -2, -1, 0, 1, 2, 3, 14, 15, 16, 17, 30, 31, 32, 33, 63, 64, 255, 256, math.MaxInt32, 1 << 32, 1<<32 + 1, 1<<32 + 15, math.MaxInt - 31, math.MaxInt - 1, math.MaxInt}

// model says of each frame whose it is, is it taken, and its bytes: a pool reckoned the long way, without heaps.
type model []struct {
	who   int
	taken bool
	bytes []byte
}

func (m model) has(f int) bool {
	return f >= 0 && f < len(m)
}

func isPartition(who int) bool {
	return who >= 0 && who < partitions
}

func (m model) own(f, who int) api.Errno {
	switch {
	case !m.has(f) || !isPartition(who):
		return api.ErrArg
	case m[f].who != nobody:
		return api.ErrUsed
	}
	m[f].who = who
	m[f].bytes = make([]byte, size)
	return api.OK
}

func (m model) leftOf(who int) []int {
	var l []int
	for f, x := range m {
		if isPartition(who) && x.who == who && !x.taken {
			l = append(l, f)
		}
	}
	return l
}

func (m model) take(who int) (int, api.Errno) {
	left := m.leftOf(who)
	switch {
	case !isPartition(who):
		return 0, api.ErrArg
	case len(left) == 0:
		return 0, api.ErrFull
	}
	m[left[0]].taken = true
	m[left[0]].bytes = make([]byte, size)
	return left[0], api.OK
}

func (m model) back(f int) api.Errno {
	switch {
	case !m.has(f):
		return api.ErrArg
	case !m[f].taken:
		return api.ErrNone
	}
	m[f].taken = false
	m[f].bytes = make([]byte, size)
	return api.OK
}

func (m model) copied() model {
	c := slices.Clone(m)
	for f := range c {
		c[f].bytes = slices.Clone(m[f].bytes)
	}
	return c
}

// host is a pool with its store, and what both must be.
type host struct {
	p *pool.Pool
	s *frames.Store
	m model
}

// filled is a store of n frames in which no byte is 0, and no two frames are the same, and a pool of it.
func filled(t *testing.T, n int) host {
	t.Helper()
	s, e := frames.New(n)
	if e != api.OK {
		t.Fatalf("frames.New(%d): %d", n, e)
	}
	h := host{s: s, m: make(model, n)}
	for f := range n {
		h.m[f].who = nobody
		h.m[f].bytes = make([]byte, size)
		h.write(f, f)
	}
	h.p, e = pool.New(s)
	if h.p == nil || e != api.OK {
		t.Fatalf("New of %d frames: %v %d", n, h.p, e)
	}
	return h
}

// write fills frame f past the pool, with no 0 among its bytes.
func (h host) write(f, seed int) {
	for off := range size {
		v := byte(1 + (seed*101+off*37)%255)
		h.s.Save(f, off, 1, uint32(v))
		h.m[f].bytes[off] = v
	}
}

func (h host) own(t *testing.T, f, who int) {
	t.Helper()
	want := h.m.own(f, who)
	if e := h.p.Own(f, who); e != want {
		t.Errorf("Own(%d, %d) of %d frames: %d, not %d", f, who, len(h.m), e, want)
	}
}

func (h host) take(t *testing.T, who int) {
	t.Helper()
	want, no := h.m.take(who)
	if f, e := h.p.Take(who); f != want || e != no {
		t.Errorf("Take(%d) of %d frames: %d %d, not %d %d", who, len(h.m), f, e, want, no)
	}
}

func (h host) back(t *testing.T, f int) {
	t.Helper()
	want := h.m.back(f)
	if e := h.p.Back(f); e != want {
		t.Errorf("Back(%d) of %d frames: %d, not %d", f, len(h.m), e, want)
	}
}

// agree asks all that can be asked of a pool, of its frames and partitions and of those that are not there, and all its frames' bytes.
func (h host) agree(t *testing.T) {
	t.Helper()
	for f, x := range h.m {
		want := x.who
		if want == nobody {
			want = 0
		}
		if w, ok := h.p.Who(f); w != want || ok != (x.who != nobody) {
			t.Errorf("Who(%d) of %d frames: %d %v, not %d", f, len(h.m), w, ok, x.who)
		}
		if h.p.Taken(f) != x.taken {
			t.Errorf("Taken(%d) of %d frames: %v", f, len(h.m), h.p.Taken(f))
		}
		if b, e := h.s.Bytes(f); !slices.Equal(b, x.bytes) || e != api.OK {
			t.Errorf("frame %d of %d: %v %d, not %v", f, len(h.m), b, e, x.bytes)
		}
	}
	for _, f := range []int{-1, len(h.m), most, math.MinInt, math.MaxInt} {
		if w, ok := h.p.Who(f); !h.m.has(f) && (w != 0 || ok || h.p.Taken(f)) {
			t.Errorf("Who(%d) of %d frames: %d %v; Taken: %v", f, len(h.m), w, ok, h.p.Taken(f))
		}
	}
	for who := -1; who <= partitions; who++ {
		if n := h.p.Left(who); n != len(h.m.leftOf(who)) {
			t.Errorf("Left(%d) of %d frames: %d, not %d", who, len(h.m), n, len(h.m.leftOf(who)))
		}
	}
	if h.s.Len() != len(h.m) {
		t.Errorf("the store's Len: %d, not %d", h.s.Len(), len(h.m))
	}
}

func TestTheLimits(t *testing.T) { // the numbers that the tests beside this one stand on
	if api.MaxFrames != most || api.FrameBytes != size {
		t.Errorf("MaxFrames %d, FrameBytes %d", api.MaxFrames, api.FrameBytes)
	}
}

func TestNew(t *testing.T) { // P7.1: all frames are nobody's, and none is changed
	for n := 1; n <= most; n++ {
		h := filled(t, n)
		h.agree(t)
		for who := range partitions {
			h.take(t, who)
		}
		for f := range n {
			h.back(t, f)
		}
		h.agree(t)
	}
}

func TestNewOfNoFrames(t *testing.T) { // P7.1, P2
	empty, e := frames.New(0)
	if empty == nil || e != api.OK {
		t.Fatalf("frames.New(0): %v %d", empty, e)
	}
	for i, s := range []*frames.Store{nil, empty, new(frames.Store)} {
		if p, e := pool.New(s); p != nil || e != api.ErrZero {
			t.Errorf("New of store %d: %v %d", i, p, e)
		}
	}
}

func TestOfTheChapter(t *testing.T) { // P7.1
	h := filled(t, 4)
	if h.p.Own(3, 1) != api.OK || h.p.Own(1, 1) != api.OK {
		t.Error("Own")
	}
	for _, want := range []int{1, 3} {
		if f, e := h.p.Take(1); f != want || e != api.OK {
			t.Errorf("Take(1): %d %d, not %d", f, e, want)
		}
	}
	if f, e := h.p.Take(1); f != 0 || e != api.ErrFull {
		t.Errorf("Take(1) of none: %d %d", f, e)
	}
}

func TestOwn(t *testing.T) { // P7.1: each frame, each partition: it is left, and cleared, and no other one changes
	for _, n := range []int{1, 2, 31, most} {
		for f := range n {
			for _, who := range []int{0, 1, 14, 15} {
				h := filled(t, n)
				h.own(t, f, who)
				h.agree(t)
				if !h.s.Clean(f) || h.p.Left(who) != 1 || h.p.Taken(f) {
					t.Errorf("Own(%d, %d) of %d frames: clean %v, left %d, taken %v", f, who, n, h.s.Clean(f), h.p.Left(who), h.p.Taken(f))
				}
			}
		}
	}
}

func TestOwnOfEachPartition(t *testing.T) { // P7.1
	h := filled(t, most)
	for f := range most {
		h.own(t, f, f%partitions)
		h.agree(t)
	}
	for who := range partitions {
		h.take(t, who)
		h.agree(t)
	}
}

func TestOwnOfWhatCannotBe(t *testing.T) { // P7.1, P2, P6: nothing changes
	for _, n := range []int{1, 2, 31, most} {
		h := filled(t, n)
		h.own(t, 0, 7)
		h.write(0, 9)
		for _, f := range append(slices.Clone(wild), n, n+1) {
			for _, who := range wild {
				if h.m.has(f) && isPartition(who) {
					continue
				}
				if e := h.p.Own(f, who); e != api.ErrArg { // of frame 0, which is someone's, too
					t.Errorf("Own(%d, %d) of %d frames: %d", f, who, n, e)
				}
			}
			h.agree(t)
		}
	}
}

func TestOwnOfSomeones(t *testing.T) { // P7.1: by any partition, left, taken, or given back: nothing changes
	refused := func(h host) {
		t.Helper()
		h.write(2, 5)
		for who := range partitions {
			if e := h.p.Own(2, who); e != api.ErrUsed {
				t.Errorf("Own(2, %d) of another's: %d", who, e)
			}
			h.agree(t)
		}
	}
	for _, who := range []int{0, 6, 15} {
		h := filled(t, 4)
		h.own(t, 2, who)
		refused(h)
		h.take(t, who)
		refused(h)
		h.back(t, 2)
		refused(h)
	}
}

func TestForEver(t *testing.T) { // P7.1, P7.3: taken and given back, it is the same one's, and its alone
	h := filled(t, 3)
	h.own(t, 1, 4)
	for i := range 10 {
		h.take(t, 4)
		h.write(1, i)
		h.agree(t)
		for who := range partitions {
			h.take(t, who)
		}
		h.back(t, 1)
		h.agree(t)
	}
}

// orders calls do with each order of the numbers below n.
func orders(n int, do func([]int)) {
	var put func(l []int)
	put = func(l []int) {
		if len(l) == n {
			do(l)
			return
		}
		for f := range n {
			if !slices.Contains(l, f) {
				put(append(slices.Clone(l), f))
			}
		}
	}
	put(nil)
}

func TestTheLowestIsTaken(t *testing.T) { // P7.1: in whatever order they were owned, and given back
	orders(5, func(l []int) {
		h := filled(t, 6)
		for _, f := range l {
			h.own(t, f, 3)
		}
		for want := range 5 {
			if f, e := h.p.Take(3); f != want || e != api.OK {
				t.Errorf("Take behind Own of %v: %d %d, not %d", l, f, e, want)
			}
		}
		for _, f := range l {
			if e := h.p.Back(f); e != api.OK {
				t.Errorf("Back(%d) of %v: %d", f, l, e)
			}
		}
		for want := range 5 {
			if f, e := h.p.Take(3); f != want || e != api.OK {
				t.Errorf("Take behind Back of %v: %d %d, not %d", l, f, e, want)
			}
		}
		if f, e := h.p.Take(3); f != 0 || e != api.ErrFull {
			t.Errorf("Take of none: %d %d", f, e)
		}
	})
}

func TestTakeOfAllFrames(t *testing.T) { // P7.1: as many as there are, one's alone
	for _, step := range []int{1, 3, 7, 13, 31} { // none shares a factor with 32: all frames come
		h := filled(t, most)
		for i := range most {
			h.own(t, i*step%most, 15)
		}
		h.agree(t)
		for range most + 1 {
			h.take(t, 15)
			h.agree(t)
		}
		for i := range most {
			h.back(t, i*step%most)
			h.agree(t)
		}
		for range most + 1 {
			h.take(t, 15)
		}
		h.agree(t)
	}
}

func TestTakeTellsOfGaps(t *testing.T) { // P7.1: what comes back is the lowest again, behind it go on those that never went
	h := filled(t, 8)
	for f := range 8 {
		h.own(t, f, 2)
	}
	for range 4 {
		h.take(t, 2)
	}
	h.back(t, 3)
	h.back(t, 1)
	for _, want := range []int{1, 3, 4} {
		if f, e := h.p.Take(2); f != want || e != api.OK {
			t.Errorf("Take(2): %d %d, not %d", f, e, want)
		}
	}
	if h.p.Left(2) != 3 {
		t.Errorf("Left(2): %d", h.p.Left(2))
	}
}

func TestTakeOfNoPartition(t *testing.T) { // P7.1, P2, P6
	h := filled(t, most)
	for f := range most {
		h.own(t, f, f%partitions)
	}
	for _, who := range append(slices.Clone(wild), partitions, -1) {
		if isPartition(who) {
			continue
		}
		if f, e := h.p.Take(who); f != 0 || e != api.ErrArg {
			t.Errorf("Take(%d): %d %d", who, f, e)
		}
		if n := h.p.Left(who); n != 0 {
			t.Errorf("Left(%d): %d", who, n)
		}
	}
	h.agree(t)
}

func TestTakeOfNone(t *testing.T) { // P7.1, P7.3: that others have some left, or nobody has, is no matter
	for who := range partitions {
		h := filled(t, 3)
		h.own(t, 0, (who+1)%partitions)
		h.own(t, 2, (who+15)%partitions)
		for range 2 {
			if f, e := h.p.Take(who); f != 0 || e != api.ErrFull {
				t.Errorf("Take(%d) of none: %d %d", who, f, e)
			}
			h.agree(t)
		}
	}
}

func TestTakenHasZeros(t *testing.T) { // P7.3: though it was written while it was left
	h := filled(t, 4)
	for f := range 3 {
		h.own(t, f, 5)
		h.write(f, f+7)
	}
	for range 2 {
		f, e := h.p.Take(5)
		if e != api.OK || !h.s.Clean(f) {
			t.Errorf("Take(5): %d %d, clean %v", f, e, h.s.Clean(f))
		}
		h.m.take(5)
		h.agree(t) // the ones that are left have what was written
	}
}

func TestBack(t *testing.T) { // P7.1: it is left, and cleared, and no other one changes
	for _, n := range []int{1, 2, 31, most} {
		for last := range n {
			h := filled(t, n)
			for f := range n {
				h.own(t, f, f%3)
				h.take(t, f%3)
				h.write(f, f+1)
			}
			h.back(t, last)
			h.agree(t)
			if !h.s.Clean(last) || h.p.Taken(last) || h.p.Left(last%3) != 1 {
				t.Errorf("Back(%d) of %d frames: clean %v, taken %v, left %d", last, n, h.s.Clean(last), h.p.Taken(last), h.p.Left(last%3))
			}
		}
	}
}

func TestBackOfNotTaken(t *testing.T) { // P7.1, P2: nobody's, left, and given back already: nothing changes
	h := filled(t, 3)
	h.own(t, 1, 0)
	h.own(t, 2, 0)
	h.take(t, 0)
	h.back(t, 1)
	for f := range 3 {
		h.write(f, f+3)
		for range 2 {
			if e := h.p.Back(f); e != api.ErrNone {
				t.Errorf("Back(%d), which is not taken: %d", f, e)
			}
			h.agree(t)
		}
	}
}

func TestNoSuchFrame(t *testing.T) { // P7.1, P2, P6: one below, one beyond, the ends
	for _, n := range []int{1, 2, 31, most} {
		h := filled(t, n)
		for f := range n {
			h.own(t, f, 1)
		}
		for range n {
			h.take(t, 1)
		}
		for f := range n {
			h.write(f, f)
		}
		for _, f := range append(slices.Clone(wild), n, n+1, -n) {
			if h.m.has(f) {
				continue
			}
			if e := h.p.Back(f); e != api.ErrArg {
				t.Errorf("Back(%d) of %d frames: %d", f, n, e)
			}
			if w, ok := h.p.Who(f); w != 0 || ok || h.p.Taken(f) {
				t.Errorf("Who(%d) of %d frames: %d %v; Taken: %v", f, n, w, ok, h.p.Taken(f))
			}
		}
		h.agree(t)
	}
}

func TestWhoOfTheFirst(t *testing.T) { // P7.1: partition 0 is someone
	h := filled(t, 2)
	h.own(t, 1, 0)
	if w, ok := h.p.Who(1); w != 0 || !ok {
		t.Errorf("Who of 0's: %d %v", w, ok)
	}
	if w, ok := h.p.Who(0); w != 0 || ok {
		t.Errorf("Who of nobody's: %d %v", w, ok)
	}
}

func TestOthersAreAsTheyWere(t *testing.T) { // P7.3: what one takes, and gives back, changes nothing of others'
	for who := range partitions {
		h := filled(t, most)
		for f := range most {
			h.own(t, f, f*5%partitions)
			h.take(t, f*5%partitions)
			h.write(f, f+2)
		}
		h.back(t, 11)
		h.back(t, 20)
		for range 3 {
			for f := range most {
				if f*5%partitions == who {
					h.back(t, f)
					h.agree(t)
				}
			}
			for range 3 {
				h.take(t, who)
				h.agree(t)
			}
		}
	}
}

func nothing(t *testing.T, p *pool.Pool) {
	t.Helper()
	for _, f := range wild {
		for _, who := range wild {
			if e := p.Own(f, who); e != api.ErrZero {
				t.Fatalf("Own(%d, %d): %d", f, who, e)
			}
		}
		if x, e := p.Take(f); x != 0 || e != api.ErrZero {
			t.Errorf("Take(%d): %d %d", f, x, e)
		}
		if e := p.Back(f); e != api.ErrZero {
			t.Errorf("Back(%d): %d", f, e)
		}
		if w, ok := p.Who(f); w != 0 || ok {
			t.Errorf("Who(%d): %d %v", f, w, ok)
		}
		if p.Taken(f) || p.Left(f) != 0 {
			t.Errorf("Taken(%d): %v; Left: %d", f, p.Taken(f), p.Left(f))
		}
	}
}

func TestNilPool(t *testing.T) { // P7.2, P1
	nothing(t, nil)
}

func TestPoolThatNoCallMade(t *testing.T) { // P7.2, P1
	nothing(t, new(pool.Pool))
	var p pool.Pool
	nothing(t, &p)
	h := filled(t, 3)
	h.own(t, 0, 0)
	h.own(t, 1, 1)
	h.take(t, 1)
	*h.p = pool.Pool{}
	nothing(t, h.p)
}

func TestStoreThatIsEmptied(t *testing.T) { // P1, P7.1: a store that has no frames any more has none to own, or to give back
	h := filled(t, 3)
	h.own(t, 0, 1)
	h.own(t, 1, 1)
	h.take(t, 1)
	*h.s = frames.Store{}
	for _, f := range wild {
		if e := h.p.Own(f, 1); e != api.ErrArg {
			t.Errorf("Own(%d, 1): %d", f, e)
		}
		if e := h.p.Back(f); e != api.ErrArg {
			t.Errorf("Back(%d): %d", f, e)
		}
		h.p.Take(f)
		h.p.Who(f)
		h.p.Taken(f)
		h.p.Left(f)
	}
}

func TestPoolsAreApart(t *testing.T) { // P5: of two pools, and of a pool and its copy, none tells what the other was asked
	a, b := filled(t, 5), filled(t, 5)
	for f := range 5 {
		a.own(t, 4-f, 1)
	}
	a.take(t, 1)
	b.agree(t)
	copied := *a.p
	c := host{p: &copied, s: a.s, m: a.m.copied()}
	for range 2 {
		a.take(t, 1)
	}
	a.back(t, 0)
	c.agree(t)
	for range 4 {
		c.take(t, 1)
	}
	c.back(t, 3)
	a.agree(t)
	for range 3 {
		a.take(t, 1)
	}
	a.agree(t)
	c.agree(t)
	b.agree(t)
}

func TestTwoPoolsOfOneStore(t *testing.T) { // P5, P4: the store is used as it is; whose its frames are each pool says
	a := filled(t, 3)
	p, e := pool.New(a.s)
	if p == nil || e != api.OK {
		t.Fatalf("New: %v %d", p, e)
	}
	b := host{p: p, s: a.s, m: a.m.copied()}
	a.own(t, 1, 2)
	b.own(t, 1, 3)
	a.take(t, 2)
	if w, ok := a.p.Who(1); w != 2 || !ok || !a.p.Taken(1) {
		t.Errorf("Who(1) of the first: %d %v", w, ok)
	}
	if w, ok := b.p.Who(1); w != 3 || !ok || b.p.Taken(1) {
		t.Errorf("Who(1) of the second: %d %v", w, ok)
	}
	a.s.Save(1, 0, 4, 9)
	b.take(t, 3)
	if !a.s.Clean(1) {
		t.Error("what the second took has no zeros")
	}
}

func TestAnswersHangOnCallsAlone(t *testing.T) { // P5: asking, and being refused, change nothing
	a, b := filled(t, 4), filled(t, 4)
	for _, h := range []host{a, b} {
		h.own(t, 3, 1)
		h.own(t, 0, 1)
		h.own(t, 2, 2)
		h.take(t, 1)
	}
	for f := -1; f <= 4; f++ {
		b.p.Who(f)
		b.p.Taken(f)
		b.p.Left(f)
		b.p.Own(f, 16)
		b.p.Own(4, f)
	}
	b.p.Own(3, 2)
	b.p.Own(0, 0)
	b.p.Take(3)
	b.p.Take(16)
	b.p.Back(1)
	b.p.Back(3)
	b.p.Back(4)
	pool.New(b.s)
	for _, h := range []host{a, b} {
		h.agree(t)
		h.take(t, 1)
		h.take(t, 2)
		h.agree(t)
	}
}

// TestAnyArguments calls all with all wild arguments: that none panics is what it asks, and that all are as the model says (P1, P6).
func TestAnyArguments(t *testing.T) {
	for _, n := range []int{1, 2, 31, most} {
		h := filled(t, n)
		for round := range 3 {
			for _, f := range wild {
				for _, who := range wild {
					h.own(t, f, who)
				}
				h.take(t, f)
				h.take(t, f/2)
				h.agree(t)
			}
			for f := range n {
				h.write(f, f+round)
			}
			for _, f := range wild {
				h.back(t, f)
				h.agree(t)
			}
		}
	}
}

// row makes numbers that are below their ends, one behind the other, the same ones each time.
func row(seed uint32) func(end int) int {
	return func(end int) int {
		seed = seed*1664525 + 1013904223
		return int(seed>>8) % end
	}
}

func TestALongRowOfCalls(t *testing.T) { // P7.1, P7.3: many orders, right and wrong calls
	for _, n := range []int{1, 2, 3, 8, 17, most} {
		for _, many := range []int{1, 2, 4, partitions} {
			h := filled(t, n)
			next := row(uint32(n*100 + many))
			for i := range 600 {
				f, who := next(n+2)-1, next(many+1)
				switch next(8) {
				case 0, 1:
					h.own(t, f, who)
				case 2, 3, 4:
					h.take(t, who)
				case 5, 6:
					h.back(t, f)
				default:
					if h.m.has(f) {
						h.write(f, i)
					}
				}
				h.agree(t)
			}
		}
	}
}
