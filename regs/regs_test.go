package regs_test

import (
	"math"
	"slices"
	"sync"
	"testing"

	"hermitage/api"
	"hermitage/regs"
)

const most = 16 // registers

var (
	// wild are numbers of which most can be no register.
	wild = []int{math.MinInt, math.MinInt + 1, math.MinInt + 16, math.MinInt32, -1 << 32, -65, -64, -33, -32, -17, -16, -15, -2, -1, 0, 1, 2, 3, 7, 8, 14, 15, 16, 17, 18, 31, 32, 33, 63, 64, 255, 256, 257, math.MaxInt32, 1 << 32, 1<<32 + 1, 1<<32 + 15, math.MaxInt - 15, math.MaxInt - 1, math.MaxInt}

	values = []uint32{0, 1, 2, 3, 4, 5, 15, 16, 0x7F, 0x80, 0xFF, 0x100, 0x8000, 0xFFFF, 0x10000, 0x12345678, 0x7FFFFFFF, 0x80000000, 0x80000001, 0xDEADBEEF, 0xFFFFFFFE, 0xFFFFFFFF}
)

// model is what the chapter says of a file: what was given to each register, and where it goes on.
type model struct {
	given map[int]uint32
	pc    uint32
}

func newModel() *model {
	return &model{given: make(map[int]uint32)}
}

func (m *model) get(i int) (uint32, api.Errno) {
	if i < 0 || i > 15 {
		return 0, api.ErrArg
	}
	return m.given[i], api.OK
}

func (m *model) set(i int, v uint32) api.Errno {
	if i < 0 || i > 15 {
		return api.ErrArg
	}
	if i > 0 {
		m.given[i] = v
	}
	return api.OK
}

// agree asks all that can be asked of a file, of registers that are not there too, and asks All ahead of it and behind it.
func agree(t *testing.T, f *regs.File, m *model) {
	t.Helper()
	var want [most]uint32
	for i := range want {
		want[i] = m.given[i]
	}
	for range 2 {
		if got := f.All(); got != want {
			t.Errorf("All: %x, not %x", got, want)
		}
		for i, w := range want {
			if v, e := f.Get(i); v != w || e != api.OK {
				t.Errorf("Get(%d): %x %d, not %x", i, v, e, w)
			}
		}
		for _, i := range []int{-1, most, math.MinInt, math.MaxInt} {
			if v, e := f.Get(i); v != 0 || e != api.ErrArg {
				t.Errorf("Get(%d): %x %d", i, v, e)
			}
		}
		if got := f.Pc(); got != m.pc {
			t.Errorf("Pc: %x, not %x", got, m.pc)
		}
	}
}

func set(t *testing.T, f *regs.File, m *model, i int, v uint32) {
	t.Helper()
	want := m.set(i, v)
	if e := f.Set(i, v); e != want {
		t.Errorf("Set(%d, %x): %d, not %d", i, v, e, want)
	}
}

func jump(t *testing.T, f *regs.File, m *model, pc uint32) {
	t.Helper()
	m.pc = pc
	if e := f.Jump(pc); e != api.OK {
		t.Errorf("Jump(%x): %d", pc, e)
	}
}

func cleared(t *testing.T, f *regs.File, m *model) {
	t.Helper()
	*m = *newModel()
	if e := f.Clear(); e != api.OK {
		t.Errorf("Clear: %d", e)
	}
}

func made(t *testing.T) *regs.File {
	t.Helper()
	f := regs.New()
	if f == nil {
		t.Fatal("New: nil")
	}
	return f
}

// filled is a file in which each register but 0 has another number, none of them 0, and which goes on elsewhere.
func filled(t *testing.T) (*regs.File, *model) {
	t.Helper()
	f, m := made(t), newModel()
	for i := range most {
		set(t, f, m, i, 0xA0B0C0D0+uint32(i)*0x01010101)
	}
	jump(t, f, m, 0x01020304)
	agree(t, f, m)
	return f, m
}

func TestTheLimit(t *testing.T) { // the number that the tests beside this one stand on
	if api.MaxRegs != most {
		t.Errorf("MaxRegs %d", api.MaxRegs)
	}
}

func TestNew(t *testing.T) { // P11.1: all 0, and where it goes on: 0
	agree(t, made(t), newModel())
}

func TestOfTheChapter(t *testing.T) { // P11.1
	f := made(t)
	if e := f.Set(0, 5); e != api.OK {
		t.Errorf("Set(0, 5): %d", e)
	}
	if v, e := f.Get(0); v != 0 || e != api.OK {
		t.Errorf("Get(0): %d %d", v, e)
	}
	if e := f.Set(3, 5); e != api.OK {
		t.Errorf("Set(3, 5): %d", e)
	}
	if v, e := f.Get(3); v != 5 || e != api.OK {
		t.Errorf("Get(3): %d %d", v, e)
	}
	if f.All() != [most]uint32{3: 5} || f.Pc() != 0 {
		t.Errorf("All: %v, Pc: %d", f.All(), f.Pc())
	}
}

func TestSet(t *testing.T) { // P11.1, P11.3: each register but 0 has what it was given last, and no other one changes
	for i := range most {
		f, m := made(t), newModel()
		g, n := filled(t)
		for _, v := range values {
			set(t, f, m, i, v)
			agree(t, f, m)
			set(t, g, n, i, v)
			agree(t, g, n)
		}
	}
}

func TestSetOfEachBit(t *testing.T) { // P11.1, P6: a register has all of a word
	for i := range most {
		for bit := range 32 {
			f, m := made(t), newModel()
			set(t, f, m, i, 1<<bit)
			agree(t, f, m)
			g, n := filled(t)
			set(t, g, n, i, ^uint32(1<<bit))
			agree(t, g, n)
		}
	}
}

func TestRegisterZero(t *testing.T) { // P11.1, P11.3: 0 for ever, whatever is set ahead of it and behind it
	f, m := filled(t)
	for _, v := range values {
		if e := f.Set(0, v); e != api.OK {
			t.Errorf("Set(0, %x): %d", v, e)
		}
		if got, e := f.Get(0); got != 0 || e != api.OK || f.All()[0] != 0 {
			t.Errorf("behind Set(0, %x): Get(0) %x %d, All %x", v, got, e, f.All())
		}
		agree(t, f, m)
		set(t, f, m, 1, v)
		jump(t, f, m, v)
		agree(t, f, m)
	}
	cleared(t, f, m)
	f.Set(0, 9)
	agree(t, f, m)
}

func TestNoSuchRegister(t *testing.T) { // P11.1, P2, P6: one below, one beyond, the ends: nothing is answered beside the error, nothing changes
	f, m := filled(t)
	for _, i := range wild {
		if i >= 0 && i < most {
			continue
		}
		if v, e := f.Get(i); v != 0 || e != api.ErrArg {
			t.Errorf("Get(%d): %x %d", i, v, e)
		}
		for _, v := range values {
			if e := f.Set(i, v); e != api.ErrArg {
				t.Errorf("Set(%d, %x): %d", i, v, e)
			}
		}
		agree(t, f, m)
	}
}

func TestJump(t *testing.T) { // P11.1: to any number, and no register changes
	f, m := made(t), newModel()
	g, n := filled(t)
	for _, pc := range append(slices.Clone(values), 0) { // of no four bytes, beyond all addresses: what can be there the registers don't ask
		jump(t, f, m, pc)
		agree(t, f, m)
		jump(t, g, n, pc)
		agree(t, g, n)
	}
	for bit := range 32 {
		jump(t, f, m, 1<<bit)
		agree(t, f, m)
	}
}

func TestClear(t *testing.T) { // P11.1: all as at first, as often as it is asked
	f, m := filled(t)
	for range 3 {
		cleared(t, f, m)
		agree(t, f, m)
	}
	for i := range most { // what has one thing alone is cleared of it too
		set(t, f, m, i, 7)
		cleared(t, f, m)
		agree(t, f, m)
	}
	jump(t, f, m, 4)
	cleared(t, f, m)
	agree(t, f, m)
}

func TestClearThenSet(t *testing.T) { // P11.1: a file that was cleared goes on as a new one
	f, m := filled(t)
	cleared(t, f, m)
	set(t, f, m, 15, 0xFFFFFFFF)
	set(t, f, m, 16, 1)
	agree(t, f, m)
	jump(t, f, m, 8)
	agree(t, f, m)
	for i := range most {
		set(t, f, m, i, uint32(i))
	}
	agree(t, f, m)
}

func TestAllIsAValue(t *testing.T) { // P11.1, P11.3, P4: neither changes the other
	f, m := filled(t)
	a, b := f.All(), f.All()
	want := b
	a[0], a[3], a[15] = 1, 2, 3
	clear(a[4:9])
	if b != want {
		t.Errorf("an answer changed by another one: %x", b)
	}
	agree(t, f, m)
	set(t, f, m, 3, 77)
	cleared(t, f, m)
	if b != want {
		t.Errorf("an answer changed by Set, Clear: %x", b)
	}
	agree(t, f, m)
}

// nothing asks all of a file that is none, and behind each call that it is none still.
func nothing(t *testing.T, f *regs.File) {
	t.Helper()
	none := func() {
		t.Helper()
		for _, i := range wild {
			if v, e := f.Get(i); v != 0 || e != api.ErrZero {
				t.Errorf("Get(%d): %x %d", i, v, e)
			}
		}
		if f.Pc() != 0 || f.All() != [most]uint32{} {
			t.Errorf("Pc: %x, All: %x", f.Pc(), f.All())
		}
	}
	none()
	for _, i := range wild { // no register, too: ErrZero goes ahead of ErrArg
		for _, v := range values {
			if e := f.Set(i, v); e != api.ErrZero {
				t.Errorf("Set(%d, %x): %d", i, v, e)
			}
		}
	}
	none()
	for _, pc := range values {
		if e := f.Jump(pc); e != api.ErrZero {
			t.Errorf("Jump(%x): %d", pc, e)
		}
		none()
	}
	for range 2 {
		if e := f.Clear(); e != api.ErrZero {
			t.Errorf("Clear: %d", e)
		}
		none()
	}
}

func TestNilFile(t *testing.T) { // P11.2, P1
	nothing(t, nil)
}

func TestFileThatNoCallMade(t *testing.T) { // P11.2, P1
	nothing(t, new(regs.File))
	nothing(t, &regs.File{})
	var f regs.File
	nothing(t, &f)
	was, _ := filled(t)
	*was = regs.File{}
	nothing(t, was)
}

func TestFilesAreApart(t *testing.T) { // P11.3, P5: of two files, and of a file and its copy, none sees what is done to the other
	f, m := filled(t)
	g, n := made(t), newModel()
	copied, c := *f, &model{given: make(map[int]uint32), pc: m.pc}
	for i, v := range m.given {
		c.given[i] = v
	}
	agree(t, &copied, c)
	set(t, f, m, 2, 0x11111111)
	jump(t, f, m, 0x100)
	set(t, &copied, c, 3, 0x22222222)
	jump(t, &copied, c, 0x200)
	set(t, g, n, 4, 0x33333333)
	agree(t, f, m)
	agree(t, &copied, c)
	agree(t, g, n)
	cleared(t, f, m)
	agree(t, f, m)
	agree(t, &copied, c)
	agree(t, g, n)
	nothing(t, nil)
	agree(t, made(t), newModel())
}

// walk makes calls that look like chance, the same ones for the same seed, and holds the file against the model behind each.
func walk(t *testing.T, seed uint64, n int) [most + 1]uint32 {
	t.Helper()
	f, m := made(t), newModel()
	next := func() uint32 {
		seed = seed*6364136223846793005 + 1442695040888963407
		return uint32(seed >> 33)
	}
	for range n {
		i, v := int(next()%most), next()<<16^next()
		switch next() % 16 {
		case 0:
			cleared(t, f, m)
		case 1, 2, 3:
			jump(t, f, m, v)
		case 4:
			i = wild[next()%uint32(len(wild))]
			fallthrough
		default:
			set(t, f, m, i, v)
		}
		agree(t, f, m)
	}
	all := f.All()
	return [most + 1]uint32(append(all[:], f.Pc()))
}

func TestManyCalls(t *testing.T) { // P11.1, P11.3
	for seed := range uint64(8) {
		walk(t, seed, 2000)
	}
}

func TestAnswersHangOnTheCallsAlone(t *testing.T) { // P5: the same calls on many files at once
	want := walk(t, 5, 300)
	var wait sync.WaitGroup
	for range 8 {
		wait.Go(func() {
			if got := walk(t, 5, 300); got != want {
				t.Errorf("the same calls: %x, then %x", want, got)
			}
		})
	}
	wait.Wait()
}

// TestAnyArguments calls all with all wild arguments, on what was made and on what was not: that none panics is what it asks (P1).
func TestAnyArguments(t *testing.T) {
	for _, f := range []*regs.File{nil, new(regs.File), made(t)} {
		for _, i := range wild {
			for _, v := range values {
				f.Get(i)
				f.Set(i, v)
				f.Jump(v)
				f.Pc()
				f.All()
			}
			f.Clear()
		}
	}
}
