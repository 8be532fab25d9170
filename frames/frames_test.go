package frames_test

import (
	"math"
	"slices"
	"testing"

	"hermitage/api"
	"hermitage/frames"
)

const (
	most = 32 // frames
	size = 64 // bytes of each
)

var (
	widths = []int{1, 2, 4}

	// wild are numbers of which most can be no frame, no place in one, and no width.
	wild = []int{math.MinInt, math.MinInt + 1, math.MinInt + 64, math.MinInt32, -65, -64, -33, -32, -4, -2, -1, 0, 1, 2, 3, 4, 5, 8, 16, 31, 32, 33, 60, 61, 62, 63, 64, 65, 128, 256, math.MaxInt32, 1 << 32, 1<<32 + 1, 1<<32 + 4, math.MaxInt - 63, math.MaxInt - 4, math.MaxInt - 1, math.MaxInt}

	values = []uint32{0, 1, 0x7F, 0x80, 0xFF, 0x100, 0x8000, 0xFFFF, 0x10000, 0x12345678, 0x80FF7F01, 0x00FF0000, 0xFF000000, 0x80000000, 0x7FFFFFFF, 0xFFFFFF00, 0xFFFFFFFF}
)

// model has the bytes of each frame one by one: a store reckoned the long way, without shifts.
type model [][]byte

func newModel(n int) model {
	m := make(model, n)
	for f := range m {
		m[f] = make([]byte, size)
	}
	return m
}

func (m model) has(f int) bool {
	return f >= 0 && f < len(m)
}

// holds goes over the bytes one by one, so that no sum of off and width is reckoned.
func (m model) holds(f, off, width int) bool {
	if !m.has(f) || !slices.Contains(widths, width) {
		return false
	}
	for i := range width {
		if off < 0 || off >= size-i {
			return false
		}
	}
	return true
}

func (m model) load(f, off, width int) (uint32, api.Errno) {
	if !m.holds(f, off, width) {
		return 0, api.ErrArg
	}
	v := uint32(0)
	for _, b := range slices.Backward(m[f][off : off+width]) {
		v = v*256 + uint32(b)
	}
	return v, api.OK
}

func (m model) save(f, off, width int, v uint32) api.Errno {
	if !m.holds(f, off, width) {
		return api.ErrArg
	}
	for i := range width {
		m[f][off+i] = byte(v % 256)
		v /= 256
	}
	return api.OK
}

func (m model) clear(f int) api.Errno {
	if !m.has(f) {
		return api.ErrArg
	}
	m[f] = make([]byte, size)
	return api.OK
}

func (m model) clean(f int) bool {
	return m.has(f) && !slices.ContainsFunc(m[f], func(b byte) bool { return b != 0 })
}

func (m model) copied() model {
	c := make(model, len(m))
	for f := range m {
		c[f] = slices.Clone(m[f])
	}
	return c
}

// agree asks all that can be asked of a store's frames, and of those that are not there.
func agree(t *testing.T, s *frames.Store, m model) {
	t.Helper()
	if s.Len() != len(m) {
		t.Errorf("Len: %d, not %d", s.Len(), len(m))
	}
	for f, want := range m {
		if b, e := s.Bytes(f); !slices.Equal(b, want) || e != api.OK {
			t.Errorf("Bytes(%d): %v %d, not %v", f, b, e, want)
		}
		if s.Clean(f) != m.clean(f) {
			t.Errorf("Clean(%d) of %v: %v", f, want, s.Clean(f))
		}
		for off := 0; off < size; off += 4 {
			word, _ := m.load(f, off, 4)
			if v, e := s.Load(f, off, 4); v != word || e != api.OK {
				t.Errorf("Load(%d, %d, 4): %x %d, not %x", f, off, v, e, word)
			}
		}
	}
	for _, f := range []int{-1, len(m), most, math.MinInt, math.MaxInt} {
		if b, e := s.Bytes(f); !m.has(f) && (len(b) != 0 || e != api.ErrArg || s.Clean(f)) {
			t.Errorf("Bytes(%d) of %d frames: %v %d; Clean: %v", f, len(m), b, e, s.Clean(f))
		}
	}
}

func made(t *testing.T, n int) *frames.Store {
	t.Helper()
	s, e := frames.New(n)
	if s == nil || e != api.OK {
		t.Fatalf("New(%d): %v %d", n, s, e)
	}
	return s
}

// filled is a store of n frames in which no byte is 0, and no two frames are the same.
func filled(t *testing.T, n int) (*frames.Store, model) {
	t.Helper()
	s, m := made(t, n), newModel(n)
	for f := range n {
		for off := range size {
			v := uint32(1 + (f*101+off*37)%255)
			if e := s.Save(f, off, 1, v); e != api.OK || m.save(f, off, 1, v) != api.OK {
				t.Fatalf("Save(%d, %d, 1) of %d frames: %d", f, off, n, e)
			}
		}
	}
	return s, m
}

func TestTheLimits(t *testing.T) { // the numbers that the tests beside this one stand on
	if api.MaxFrames != most || api.FrameBytes != size {
		t.Errorf("MaxFrames %d, FrameBytes %d", api.MaxFrames, api.FrameBytes)
	}
}

func TestNew(t *testing.T) { // P6.1: 0 to MaxFrames frames of zeros
	for n := 0; n <= most; n++ {
		s := made(t, n)
		agree(t, s, newModel(n))
		for f := range n {
			if !s.Clean(f) {
				t.Errorf("frame %d of %d new ones is not clean", f, n)
			}
		}
	}
}

func TestNewOfWhatCannotBe(t *testing.T) { // P6.1, P2, P6
	for _, n := range wild {
		if n >= 0 && n <= most {
			continue
		}
		if s, e := frames.New(n); s != nil || e != api.ErrArg {
			t.Errorf("New(%d): %v %d", n, s, e)
		}
	}
}

func TestNewOfNone(t *testing.T) { // P6.1, P6.2: a store of no frames was made: what is wrong is the frame
	s := made(t, 0)
	for _, f := range wild {
		refused(t, s, newModel(0), f, 0, 4, api.ErrArg)
		noFrame(t, s, newModel(0), f, api.ErrArg)
	}
}

func TestOfTheChapter(t *testing.T) { // P6.1
	s := made(t, 1)
	if e := s.Save(0, 60, 4, 1); e != api.OK {
		t.Errorf("Save(0, 60, 4, 1): %d", e)
	}
	if v, e := s.Load(0, 60, 4); v != 1 || e != api.OK {
		t.Errorf("Load(0, 60, 4): %d %d", v, e)
	}
	if v, e := s.Load(0, 61, 4); v != 0 || e != api.ErrArg {
		t.Errorf("Load(0, 61, 4): %d %d", v, e)
	}
}

func TestTheLowestFirst(t *testing.T) { // P6.1
	s := made(t, 2)
	s.Save(1, 0, 4, 0x04030201)
	s.Save(1, 5, 2, 0xABCD0706) // at no multiple of its width
	s.Save(1, 63, 1, 0xFFFFFF80)
	want := make([]byte, size)
	copy(want, []byte{1, 2, 3, 4, 0, 6, 7})
	want[63] = 0x80
	if b, e := s.Bytes(1); !slices.Equal(b, want) || e != api.OK {
		t.Errorf("Bytes: %v %d", b, e)
	}
	rows := []struct {
		off, width int
		want       uint32
	}{{0, 1, 1}, {1, 1, 2}, {0, 2, 0x0201}, {1, 2, 0x0302}, {3, 2, 4}, {1, 4, 0x00040302}, {3, 4, 0x07060004}, {63, 1, 0x80}, {62, 2, 0x8000}, {60, 4, 0x80000000}}
	for _, r := range rows {
		if v, e := s.Load(1, r.off, r.width); v != r.want || e != api.OK {
			t.Errorf("Load(1, %d, %d): %x %d, not %x", r.off, r.width, v, e, r.want)
		}
	}
}

func TestLoad(t *testing.T) { // P6.1: each width at each place of each frame, from 0 to the last one that it fits at
	s, m := filled(t, most)
	for f := range most {
		for _, width := range widths {
			for off := 0; off <= size-width; off++ {
				want, _ := m.load(f, off, width)
				if v, e := s.Load(f, off, width); v != want || e != api.OK {
					t.Errorf("Load(%d, %d, %d): %x %d, not %x", f, off, width, v, e, want)
				}
			}
		}
	}
	agree(t, s, m)
}

func TestSave(t *testing.T) { // P6.1, P6.3: the lowest bytes stand there, and no others change
	for _, width := range widths {
		for off := 0; off <= size-width; off++ {
			s, m := filled(t, 3)
			for i, v := range values {
				f := i % 3
				if e := s.Save(f, off, width, v); e != api.OK || m.save(f, off, width, v) != api.OK {
					t.Errorf("Save(%d, %d, %d, %x): %d", f, off, width, v, e)
				}
				agree(t, s, m)
			}
		}
	}
}

func TestSaveInEachFrame(t *testing.T) { // P6.1, P6.3: the first, the last, and all between
	for _, n := range []int{1, 2, 31, most} {
		s, m := made(t, n), newModel(n)
		for f := range n {
			if e := s.Save(f, f, 4, 0x80402010); e != api.OK || m.save(f, f, 4, 0x80402010) != api.OK {
				t.Errorf("Save(%d, %d, 4) of %d frames: %d", f, f, n, e)
			}
			agree(t, s, m)
		}
	}
}

func TestWhatWasSavedIsLoaded(t *testing.T) { // P6.1: as many bytes of it as were saved
	s := made(t, 1)
	for _, width := range widths {
		for off := 0; off <= size-width; off++ {
			for _, v := range values {
				s.Save(0, off, width, v)
				want := uint32(uint64(v) % []uint64{1, 1 << 8, 1 << 16, 1 << 24, 1 << 32}[width])
				if got, e := s.Load(0, off, width); got != want || e != api.OK {
					t.Errorf("Load behind Save of %x at %d of %d: %x %d", v, off, width, got, e)
				}
			}
		}
	}
}

// refused loads and saves what can't be: there is no answer beside the error, and nothing changes.
func refused(t *testing.T, s *frames.Store, m model, f, off, width int, want api.Errno) {
	t.Helper()
	if v, e := s.Load(f, off, width); v != 0 || e != want {
		t.Errorf("Load(%d, %d, %d) of %d frames: %x %d, not %d", f, off, width, len(m), v, e, want)
	}
	for _, v := range []uint32{0, 0xA1B2C3D4, 0xFFFFFFFF} {
		if e := s.Save(f, off, width, v); e != want {
			t.Errorf("Save(%d, %d, %d, %x) of %d frames: %d, not %d", f, off, width, v, len(m), e, want)
		}
	}
	agree(t, s, m)
}

// noFrame asks all that is asked of a frame alone, of one that is not there.
func noFrame(t *testing.T, s *frames.Store, m model, f int, want api.Errno) {
	t.Helper()
	if e := s.Clear(f); e != want {
		t.Errorf("Clear(%d) of %d frames: %d, not %d", f, len(m), e, want)
	}
	if b, e := s.Bytes(f); len(b) != 0 || e != want {
		t.Errorf("Bytes(%d) of %d frames: %v %d, not %d", f, len(m), b, e, want)
	}
	if s.Clean(f) {
		t.Errorf("Clean(%d) of %d frames", f, len(m))
	}
	agree(t, s, m)
}

func TestNoSuchFrame(t *testing.T) { // P6.1, P2, P6: one below, one beyond, the ends
	for _, n := range []int{0, 1, 2, 31, most} {
		s, m := filled(t, n)
		for _, f := range append(slices.Clone(wild), n, n+1, -n) {
			if m.has(f) {
				continue
			}
			noFrame(t, s, m, f, api.ErrArg)
			for _, width := range []int{1, 2, 4, 3} {
				refused(t, s, m, f, 0, width, api.ErrArg)
			}
			refused(t, s, m, f, -1, 1, api.ErrArg)
		}
	}
}

func TestNoSuchPlace(t *testing.T) { // P6.1, P2, P6: where a frame ends, the next one does not go on
	s, m := filled(t, 3)
	for f := range 3 {
		for _, width := range widths {
			for _, off := range append(slices.Clone(wild), size-width+1, -width) {
				if off < 0 || off > size-width {
					refused(t, s, m, f, off, width, api.ErrArg)
				}
			}
		}
	}
}

func TestNoSuchWidth(t *testing.T) { // P6.1, P2, P6
	s, m := filled(t, 2)
	for _, width := range append(slices.Clone(wild), 6, 7) {
		if slices.Contains(widths, width) {
			continue
		}
		for _, off := range []int{0, 1, 4, 60, 63, 64, -1, math.MinInt, math.MaxInt} {
			refused(t, s, m, 1, off, width, api.ErrArg)
		}
	}
}

func TestClear(t *testing.T) { // P6.1, P6.3: that frame alone
	for _, n := range []int{1, 2, most} {
		for f := range n {
			s, m := filled(t, n)
			for range 2 { // a clean one is cleared too
				if e := s.Clear(f); e != api.OK || m.clear(f) != api.OK || !s.Clean(f) {
					t.Errorf("Clear(%d) of %d frames: %d", f, n, e)
				}
				agree(t, s, m)
			}
		}
	}
}

func TestClearThenSave(t *testing.T) { // P6.1: what was there does not come again
	s, m := filled(t, 2)
	s.Clear(1)
	m.clear(1)
	s.Save(1, 30, 2, 0xFFFF)
	m.save(1, 30, 2, 0xFFFF)
	agree(t, s, m)
}

func TestCleanTellsEachBit(t *testing.T) { // P6.1
	s, m := made(t, 3), newModel(3)
	for off := range size {
		for bit := range 8 {
			s.Save(1, off, 1, 1<<bit)
			if !s.Clean(0) || s.Clean(1) || !s.Clean(2) {
				t.Errorf("Clean of bit %d of byte %d: %v %v %v", bit, off, s.Clean(0), s.Clean(1), s.Clean(2))
			}
			s.Save(1, off, 1, 0)
			if !s.Clean(1) {
				t.Errorf("Clean behind bit %d of byte %d went", bit, off)
			}
		}
	}
	s.Save(1, 0, 1, 0x100) // of which the lowest byte is 0
	agree(t, s, m)
}

func TestBytesAreACopy(t *testing.T) { // P6.1, P6.3, P4: neither changes the other
	s, m := filled(t, 3)
	b, _ := s.Bytes(1)
	again, _ := s.Bytes(1)
	want := slices.Clone(b)
	clear(b)
	_ = append(b[:0], 7, 7, 7)
	_ = append(b, 9, 9, 9, 9)
	if !slices.Equal(again, want) {
		t.Errorf("an answer changed by another one: %v", again)
	}
	agree(t, s, m)
	s.Save(1, 0, 4, 0xFFFFFFFF)
	m.save(1, 0, 4, 0xFFFFFFFF)
	s.Clear(2)
	m.clear(2)
	if !slices.Equal(again, want) {
		t.Errorf("an answer changed by Save: %v", again)
	}
	s.Clear(1)
	m.clear(1)
	if !slices.Equal(again, want) {
		t.Errorf("an answer changed by Clear: %v", again)
	}
	agree(t, s, m)
}

func nothing(t *testing.T, s *frames.Store) {
	t.Helper()
	for _, f := range wild {
		for _, off := range wild {
			for _, width := range wild {
				if v, e := s.Load(f, off, width); v != 0 || e != api.ErrZero {
					t.Fatalf("Load(%d, %d, %d): %d %d", f, off, width, v, e)
				}
				if e := s.Save(f, off, width, 0xFFFFFFFF); e != api.ErrZero {
					t.Fatalf("Save(%d, %d, %d): %d", f, off, width, e)
				}
			}
		}
		if e := s.Clear(f); e != api.ErrZero {
			t.Errorf("Clear(%d): %d", f, e)
		}
		if b, e := s.Bytes(f); len(b) != 0 || e != api.ErrZero {
			t.Errorf("Bytes(%d): %v %d", f, b, e)
		}
		if s.Clean(f) {
			t.Errorf("Clean(%d)", f)
		}
	}
	if s.Len() != 0 {
		t.Errorf("Len: %d", s.Len())
	}
}

func TestNilStore(t *testing.T) { // P6.2, P1
	nothing(t, nil)
}

func TestStoreThatNoCallMade(t *testing.T) { // P6.2, P1
	nothing(t, new(frames.Store))
	var s frames.Store
	nothing(t, &s)
	was, _ := filled(t, 3)
	*was = frames.Store{}
	nothing(t, was)
}

func TestStoresAreApart(t *testing.T) { // P6.3, P5: of two stores, and of a store and its copy, none sees what is done to the other
	s, m := filled(t, 3)
	q, k := made(t, 3), newModel(3)
	copied, c := *s, m.copied()
	agree(t, &copied, c)
	s.Save(0, 8, 4, 0x11223344)
	m.save(0, 8, 4, 0x11223344)
	copied.Clear(1)
	c.clear(1)
	copied.Save(2, 0, 2, 0xEEDD)
	c.save(2, 0, 2, 0xEEDD)
	agree(t, s, m)
	agree(t, q, k)
	agree(t, &copied, c)
	s.Clear(2)
	m.clear(2)
	agree(t, s, m)
	agree(t, &copied, c)
}

func TestAnswersHangOnCallsAlone(t *testing.T) { // P5: asking, and being refused, change nothing
	s, m := filled(t, 4)
	q, k := filled(t, 4)
	for f := -1; f <= 4; f++ {
		q.Load(f, 62, 2)
		q.Load(f, 62, 4)
		q.Save(f, 61, 4, 0)
		q.Save(f, 0, 3, 0)
		q.Bytes(f)
		q.Clean(f)
	}
	q.Clear(4)
	q.Len()
	frames.New(4)
	agree(t, s, m)
	agree(t, q, k)
	agree(t, s, k)
}

// row makes numbers that are below their ends, one behind the other, the same ones each time.
func row(seed uint32) func(end int) int {
	return func(end int) int {
		seed = seed*1664525 + 1013904223
		return int(seed>>8) % end
	}
}

func TestALongRowOfCalls(t *testing.T) { // P6.1, P6.3: many orders, right and wrong calls
	for n := range 7 {
		s, m := made(t, n), newModel(n)
		next := row(uint32(n))
		for range 3000 {
			f, off, width := next(n+2)-1, next(size+4)-2, next(6)
			v := values[next(len(values))]
			if next(20) == 0 {
				if e, want := s.Clear(f), m.clear(f); e != want {
					t.Errorf("Clear(%d) of %d frames: %d, not %d", f, n, e, want)
				}
			}
			if e, want := s.Save(f, off, width, v), m.save(f, off, width, v); e != want {
				t.Errorf("Save(%d, %d, %d, %x) of %d frames: %d, not %d", f, off, width, v, n, e, want)
			}
			agree(t, s, m)
		}
	}
}

// TestAnyArguments calls all with all wild arguments: that none panics is what it asks, and that all are as the model says (P1, P6).
func TestAnyArguments(t *testing.T) {
	for _, n := range []int{0, 1, 2, most} {
		s, m := filled(t, n)
		for _, f := range wild {
			for _, off := range wild {
				for _, width := range wild {
					want, no := m.load(f, off, width)
					if v, e := s.Load(f, off, width); v != want || e != no {
						t.Fatalf("Load(%d, %d, %d) of %d frames: %x %d, not %x %d", f, off, width, n, v, e, want, no)
					}
					if e, no := s.Save(f, off, width, 0xC0FFEE00), m.save(f, off, width, 0xC0FFEE00); e != no {
						t.Fatalf("Save(%d, %d, %d) of %d frames: %d, not %d", f, off, width, n, e, no)
					}
				}
			}
			agree(t, s, m)
		}
		for _, f := range wild {
			if e, no := s.Clear(f), m.clear(f); e != no {
				t.Errorf("Clear(%d) of %d frames: %d, not %d", f, n, e, no)
			}
		}
		agree(t, s, m)
	}
}
