package csr_test

import (
	"math"
	"slices"
	"sync"
	"testing"

	"hermitage/api"
	"hermitage/csr"
)

var (
	// wild are numbers of which most can be no register, no guest.
	wild = []int{math.MinInt, math.MinInt + 1, math.MinInt + 5, math.MinInt32, -1 << 32, -65, -64, -33, -32, -17, -16, -10, -9, -8, -7, -6, -5, -2, -1, 0, 1, 2, 3, 4, 5, 6, 7, 8, 9, 10, 11, 15, 16, 31, 32, 33, 63, 64, 255, 256, 257, math.MaxInt32, 1 << 32, 1<<32 + 1, 1<<32 + 5, 1<<32 + 8, math.MaxInt - 8, math.MaxInt - 1, math.MaxInt}

	values = []uint32{0, 1, 2, 3, 4, 5, 6, 7, 8, 9, 12, 15, 16, 31, 64, 0x7F, 0x80, 0xFF, 0x100, 0x101, 0x1F00, 0x1F01, 0x2000, 0x2F05, 0x8000, 0xFFFF, 0x10000, 0x12345678, 0x7FFFFFFF, 0x80000000, 0x80000001, 0xDEADBEEF, 0xFFFFFFFE, 0xFFFFFFFF}

	clocks = []int{0, 1, 2, 9, 0x7FFFFFFF, 0x80000000, 0xFFFFFFFF, 1 << 32, 1<<32 + 7, -1, -2, -1 << 31, -1 << 32, -1<<32 + 5, math.MinInt, math.MinInt + 3, math.MaxInt, math.MaxInt - 1}
)

// model is what the chapter says of a file: its registers by words, its status by what its bits mean.
type model struct {
	id                                    int
	tables                                bool
	root                                  uint32
	tvec, epc, cause, tval, scratch       uint32
	taken, wereTaken, kernel, wasOfKernel bool
}

func newModel(id int) *model {
	return &model{id: id, kernel: true}
}

func bit(on bool, b uint32) uint32 {
	if on {
		return b
	}
	return 0
}

func (m *model) all() [7]uint32 {
	return [7]uint32{
		bit(m.tables, 1) + m.root*256,
		m.tvec, m.epc, m.cause, m.tval,
		bit(m.taken, 1) + bit(m.wereTaken, 2) + bit(m.kernel, 4) + bit(m.wasOfKernel, 8),
		m.scratch,
	}
}

func (m *model) read(n, clock int) (uint32, api.Errno) {
	switch {
	case !m.kernel:
		return 0, api.ErrPerm
	case n < 0 || n > 8:
		return 0, api.ErrArg
	case n == 7:
		return uint32(clock), api.OK
	case n == 8:
		return uint32(m.id), api.OK
	}
	return m.all()[n], api.OK
}

func (m *model) write(n int, v uint32) api.Errno {
	if !m.kernel {
		return api.ErrPerm
	}
	switch n {
	case 0:
		m.tables, m.root = v%2 == 1, v/256%32
	case 1:
		m.tvec = v
	case 2:
		m.epc = v
	case 3:
		m.cause = v
	case 4:
		m.tval = v
	case 5:
		m.taken, m.wereTaken, m.kernel, m.wasOfKernel = v%2 == 1, v/2%2 == 1, v/4%2 == 1, v/8%2 == 1
	case 6:
		m.scratch = v
	default:
		return api.ErrArg
	}
	return api.OK
}

func (m *model) enter(pc, cause, tval uint32) uint32 {
	m.epc, m.cause, m.tval = pc, cause, tval
	m.wereTaken, m.wasOfKernel = m.taken, m.kernel
	m.taken, m.kernel = false, true
	return m.tvec
}

func (m *model) leave() uint32 {
	m.taken, m.kernel = m.wereTaken, m.wasOfKernel
	return m.epc
}

func (m *model) mode() api.Mode {
	return api.Mode{On: m.tables, Root: int(m.root), User: !m.kernel}
}

// agree asks all that can be asked of a file, of registers that are not there too, and asks it twice.
func agree(t *testing.T, f *csr.File, m *model) {
	t.Helper()
	for range 2 {
		if got, want := f.All(), m.all(); got != want {
			t.Errorf("All: %x, not %x", got, want)
		}
		if got, want := f.Mode(), m.mode(); got != want {
			t.Errorf("Mode: %v, not %v", got, want)
		}
		if got, want := f.Handles(), m.tvec != 0; got != want {
			t.Errorf("Handles: %v, not %v", got, want)
		}
		if got, want := f.Open(), m.tvec != 0 && m.taken; got != want {
			t.Errorf("Open: %v, not %v", got, want)
		}
		for n := -1; n <= 9; n++ {
			read(t, f, m, n, 77)
		}
	}
}

func read(t *testing.T, f *csr.File, m *model, n, clock int) {
	t.Helper()
	want, wrong := m.read(n, clock)
	if v, e := f.Read(n, clock); v != want || e != wrong {
		t.Errorf("Read(%d, %d): %x %d, not %x %d", n, clock, v, e, want, wrong)
	}
}

func write(t *testing.T, f *csr.File, m *model, n int, v uint32) {
	t.Helper()
	want := m.write(n, v)
	if e := f.Write(n, v); e != want {
		t.Errorf("Write(%d, %x): %d, not %d", n, v, e, want)
	}
}

func enter(t *testing.T, f *csr.File, m *model, pc, cause, tval uint32) {
	t.Helper()
	want := m.enter(pc, cause, tval)
	if to, e := f.Enter(pc, cause, tval); to != want || e != api.OK {
		t.Errorf("Enter(%x, %x, %x): %x %d, not %x", pc, cause, tval, to, e, want)
	}
}

func leave(t *testing.T, f *csr.File, m *model) {
	t.Helper()
	want := m.leave()
	if to, e := f.Leave(); to != want || e != api.OK {
		t.Errorf("Leave: %x %d, not %x", to, e, want)
	}
}

func reset(t *testing.T, f *csr.File, m *model) {
	t.Helper()
	*m = *newModel(m.id)
	if e := f.Reset(); e != api.OK {
		t.Errorf("Reset: %d", e)
	}
}

func made(t *testing.T, id int) (*csr.File, *model) {
	t.Helper()
	f, e := csr.New(id)
	if f == nil || e != api.OK {
		t.Fatalf("New(%d): %v %d", id, f, e)
	}
	return f, newModel(id)
}

// filled is a file of guest 3 in which each register has another number, with that status.
func filled(t *testing.T, status uint32) (*csr.File, *model) {
	t.Helper()
	f, m := made(t, 3)
	for n, v := range []uint32{0x1501, 0x40, 0xA1B2C3D4, 0xB1C2D3E4, 0xC1D2E3F4, 4, 0xE1F2A3B4} {
		write(t, f, m, n, v)
	}
	write(t, f, m, api.CsrStatus, status)
	agree(t, f, m)
	return f, m
}

func TestTheNumbers(t *testing.T) { // those of package api that the tests beside this one stand on
	if api.MaxGuests != 4 || api.MaxCsr != 9 {
		t.Errorf("MaxGuests %d, MaxCsr %d", api.MaxGuests, api.MaxCsr)
	}
	if got := []int{api.CsrSatp, api.CsrTvec, api.CsrEpc, api.CsrCause, api.CsrTval, api.CsrStatus, api.CsrScratch, api.CsrClock, api.CsrId}; !slices.Equal(got, []int{0, 1, 2, 3, 4, 5, 6, 7, 8}) {
		t.Errorf("registers: %v", got)
	}
	if got := []int{api.StOpen, api.StWas, api.StKernel, api.StKwas}; !slices.Equal(got, []int{1, 2, 4, 8}) {
		t.Errorf("bits of the status: %v", got)
	}
}

func TestNew(t *testing.T) { // P12.1: all 0, but Status, for each guest there can be
	for id := range 4 {
		f, m := made(t, id)
		agree(t, f, m)
		if got := f.All(); got != [7]uint32{5: 4} {
			t.Errorf("New(%d): %x", id, got)
		}
		if v, e := f.Read(api.CsrId, 0); v != uint32(id) || e != api.OK {
			t.Errorf("New(%d): its number is %x %d", id, v, e)
		}
	}
}

func TestNewOfNoGuest(t *testing.T) { // P12.1, P2, P6: one below, one beyond, the ends
	for _, id := range wild {
		if id >= 0 && id < 4 {
			continue
		}
		if f, e := csr.New(id); f != nil || e != api.ErrArg {
			t.Errorf("New(%d): %v %d", id, f, e)
		}
	}
}

func TestOfTheChapter(t *testing.T) { // P12.1, P12.3
	f, m := made(t, 0)
	if e := f.Write(api.CsrTvec, 64); e != api.OK {
		t.Errorf("Write: %d", e)
	}
	m.tvec = 64
	if to, e := f.Enter(8, 1, 0); to != 64 || e != api.OK {
		t.Errorf("Enter: %d %d", to, e)
	}
	if got := f.All(); got != [7]uint32{1: 64, 2: 8, 3: 1, 5: 0xC} {
		t.Errorf("All: %x", got)
	}
	m.enter(8, 1, 0)
	agree(t, f, m)
	if to, e := f.Leave(); to != 8 || e != api.OK {
		t.Errorf("Leave: %d %d", to, e)
	}
	m.leave()
	agree(t, f, m)
}

func TestWrite(t *testing.T) { // P12.1: each register has what it was given last, and no other one changes
	for n := range 7 {
		if n == api.CsrStatus {
			continue // it has a test of its own: by some of these the mode would be the user's
		}
		for _, v := range values {
			f, m := made(t, 1)
			write(t, f, m, n, v)
			agree(t, f, m)
			g, o := filled(t, 0xF)
			write(t, g, o, n, v)
			agree(t, g, o)
			write(t, g, o, n, ^v)
			agree(t, g, o)
		}
	}
}

func TestWriteOfEachBit(t *testing.T) { // P12.1: of Satp and Status those bits alone that they may have
	for n := range 7 {
		for b := range 32 {
			f, m := made(t, 2)
			write(t, f, m, n, 1<<b)
			agree(t, f, m)
			g, o := filled(t, 0xF)
			write(t, g, o, n, ^uint32(1<<b))
			agree(t, g, o)
		}
	}
	f, m := made(t, 2)
	for n, want := range []uint32{0x1F01, 0xFFFFFFFF, 0xFFFFFFFF, 0xFFFFFFFF, 0xFFFFFFFF, 0xF, 0xFFFFFFFF} {
		write(t, f, m, n, 0xFFFFFFFF)
		if v, e := f.Read(n, 0); v != want || e != api.OK {
			t.Errorf("register %d: %x %d, not %x", n, v, e, want)
		}
	}
}

func TestWriteOfStatus(t *testing.T) { // P12.1, P12.2: each status, from each status of the kernel's mode
	for from := range uint32(16) {
		if from&api.StKernel == 0 {
			continue
		}
		for to := range uint32(16) {
			for _, more := range []uint32{0, 0x10, 0xFFFFFFF0, 0x80000000} {
				f, m := filled(t, from)
				write(t, f, m, api.CsrStatus, to|more)
				agree(t, f, m)
				if got := f.All()[5]; got != to {
					t.Errorf("status %x, then %x: %x", from, to|more, got)
				}
			}
		}
	}
}

func TestReadOfTheClock(t *testing.T) { // P12.1, P6: the clock is what it is told, modulo 2^32, and of no other register
	f, m := filled(t, 0xF)
	for _, clock := range clocks {
		for n := range 9 {
			read(t, f, m, n, clock)
		}
		if v, e := f.Read(api.CsrClock, clock); v != uint32(clock&0xFFFFFFFF) || e != api.OK {
			t.Errorf("the clock of %d: %x %d", clock, v, e)
		}
	}
	agree(t, f, m)
}

func TestNoSuchRegister(t *testing.T) { // P12.1, P2, P6: nothing is answered beside the error, nothing changes
	f, m := filled(t, 0xF)
	for _, n := range wild {
		for _, clock := range clocks {
			if n >= 0 && n < 9 {
				continue
			}
			if v, e := f.Read(n, clock); v != 0 || e != api.ErrArg {
				t.Errorf("Read(%d, %d): %x %d", n, clock, v, e)
			}
		}
		for _, v := range values {
			if n >= 0 && n < 7 {
				continue
			}
			if e := f.Write(n, v); e != api.ErrArg { // the clock and the number too: they are only read
				t.Errorf("Write(%d, %x): %d", n, v, e)
			}
		}
		agree(t, f, m)
	}
}

func TestTheUsersMode(t *testing.T) { // P12.1, P2: ErrPerm, of whatever register, ahead of ErrArg; nothing changes
	for status := range uint32(16) {
		if status&api.StKernel != 0 {
			continue
		}
		f, m := filled(t, status)
		for _, n := range wild {
			for _, clock := range clocks {
				if v, e := f.Read(n, clock); v != 0 || e != api.ErrPerm {
					t.Errorf("Read(%d, %d): %x %d", n, clock, v, e)
				}
			}
			for _, v := range values {
				if e := f.Write(n, v); e != api.ErrPerm {
					t.Errorf("Write(%d, %x): %d", n, v, e)
				}
			}
			agree(t, f, m)
		}
	}
}

func TestMode(t *testing.T) { // P12.2: On and Root by Satp, User by Status
	for root := range uint32(32) {
		for on := range uint32(2) {
			for status := range uint32(16) {
				f, m := made(t, 0)
				write(t, f, m, api.CsrSatp, root<<8|on|0xFFFFE0FE)
				write(t, f, m, api.CsrStatus, status)
				want := api.Mode{On: on == 1, Root: int(root), User: status&4 == 0}
				if got := f.Mode(); got != want {
					t.Errorf("root %d, on %d, status %x: %v", root, on, status, got)
				}
				agree(t, f, m)
			}
		}
	}
}

func TestOpenAndHandles(t *testing.T) { // P12.2: traps go anywhere but to 0; interrupts are taken, if they do
	for _, tvec := range values {
		for status := range uint32(16) {
			f, m := made(t, 0)
			write(t, f, m, api.CsrTvec, tvec)
			write(t, f, m, api.CsrStatus, status)
			if got := f.Handles(); got != (tvec != 0) {
				t.Errorf("Tvec %x: Handles %v", tvec, got)
			}
			if got := f.Open(); got != (tvec != 0 && status%2 == 1) {
				t.Errorf("Tvec %x, status %x: Open %v", tvec, status, got)
			}
			agree(t, f, m)
		}
	}
}

func TestEnter(t *testing.T) { // P12.3: from each status, of the user's mode too
	want := []uint32{4, 6, 4, 6, 12, 14, 12, 14, 4, 6, 4, 6, 12, 14, 12, 14}
	for status := range uint32(16) {
		f, m := filled(t, status)
		enter(t, f, m, 0x1010, 0x2020, 0x3030)
		agree(t, f, m)
		if got := f.All(); got != [7]uint32{0x1501, 0x40, 0x1010, 0x2020, 0x3030, want[status], 0xE1F2A3B4} {
			t.Errorf("Enter from status %x: %x", status, got)
		}
	}
}

func TestEnterOfAnyNumbers(t *testing.T) { // P12.3, P6: Epc, Cause and Tval have all of a word; where it goes on is Tvec, 0 too
	for _, v := range values {
		for i := range 4 {
			f, m := filled(t, 0xD)
			given := [4]uint32{8, 1, 5, 64}
			given[i] = v
			write(t, f, m, api.CsrTvec, given[3])
			enter(t, f, m, given[0], given[1], given[2])
			agree(t, f, m)
		}
	}
}

func TestLeave(t *testing.T) { // P12.3: from each status; what was stays
	want := []uint32{0, 0, 3, 3, 0, 0, 3, 3, 12, 12, 15, 15, 12, 12, 15, 15}
	for status := range uint32(16) {
		f, m := filled(t, status)
		for range 2 { // behind the first one nothing changes
			leave(t, f, m)
			agree(t, f, m)
			if got := f.All(); got != [7]uint32{0x1501, 0x40, 0xA1B2C3D4, 0xB1C2D3E4, 0xC1D2E3F4, want[status], 0xE1F2A3B4} {
				t.Errorf("Leave from status %x: %x", status, got)
			}
		}
	}
}

func TestLeaveToAnyPlace(t *testing.T) { // P12.3: where it goes on is Epc, as it is by then
	for _, epc := range values {
		f, m := filled(t, 0xD)
		write(t, f, m, api.CsrEpc, epc)
		leave(t, f, m)
		agree(t, f, m)
	}
}

func TestEnterThenLeave(t *testing.T) { // P12.5: the mode is as it was, and whether interrupts are taken
	for status := range uint32(16) {
		for _, satp := range []uint32{0, 1, 0x1F00, 0x0701} {
			for _, tvec := range []uint32{0, 4} {
				f, m := made(t, 0)
				write(t, f, m, api.CsrSatp, satp)
				write(t, f, m, api.CsrTvec, tvec)
				write(t, f, m, api.CsrStatus, status)
				mode, open, handles := f.Mode(), f.Open(), f.Handles()
				for _, pc := range []uint32{0, 8, 0xFFFFFFFC} {
					enter(t, f, m, pc, 1, 2)
					if got := f.Mode(); got.User || got.On != mode.On || got.Root != mode.Root || f.Open() || f.Handles() != handles {
						t.Errorf("behind Enter: %v, Open %v", got, f.Open())
					}
					leave(t, f, m)
					if f.Mode() != mode || f.Open() != open || f.Handles() != handles {
						t.Errorf("behind Leave: %v, not %v; Open %v, not %v", f.Mode(), mode, f.Open(), open)
					}
					agree(t, f, m)
				}
			}
		}
	}
}

func TestEnterTwice(t *testing.T) { // P12.3: what was is what was ahead of the last one
	f, m := filled(t, api.StOpen)
	enter(t, f, m, 8, 1, 2)
	enter(t, f, m, 12, 3, 4)
	agree(t, f, m)
	leave(t, f, m)
	agree(t, f, m)
	if f.Mode().User || f.Open() {
		t.Errorf("Mode %v, Open %v", f.Mode(), f.Open())
	}
}

func TestReset(t *testing.T) { // P12.3: as at first, of the same number, from the user's mode too, as often as it is asked
	for status := range uint32(16) {
		f, m := filled(t, status)
		for range 2 {
			reset(t, f, m)
			agree(t, f, m)
			if got := f.All(); got != [7]uint32{5: 4} {
				t.Errorf("Reset from status %x: %x", status, got)
			}
		}
		write(t, f, m, api.CsrScratch, 9)
		enter(t, f, m, 4, 5, 6)
		agree(t, f, m)
	}
	for n := range 7 { // what has one thing alone is rid of it too
		f, m := made(t, 1)
		write(t, f, m, n, 0x301)
		reset(t, f, m)
		agree(t, f, m)
	}
}

func TestAllIsAValue(t *testing.T) { // P12.3, P4: neither changes the other
	f, m := filled(t, 0xF)
	a, b := f.All(), f.All()
	want := b
	a[0], a[5] = 7, 0
	clear(a[1:4])
	if b != want {
		t.Errorf("an answer changed by another one: %x", b)
	}
	agree(t, f, m)
	write(t, f, m, api.CsrTval, 77)
	enter(t, f, m, 1, 2, 3)
	reset(t, f, m)
	if b != want {
		t.Errorf("an answer changed by calls: %x", b)
	}
}

// nothing asks all of a file that is none, and behind each call that it is none still.
func nothing(t *testing.T, f *csr.File) {
	t.Helper()
	none := func() {
		t.Helper()
		for _, n := range wild {
			for _, clock := range clocks {
				if v, e := f.Read(n, clock); v != 0 || e != api.ErrZero {
					t.Errorf("Read(%d, %d): %x %d", n, clock, v, e)
				}
			}
		}
		if f.Mode() != (api.Mode{}) || f.Open() || f.Handles() || f.All() != [7]uint32{} {
			t.Errorf("Mode %v, Open %v, Handles %v, All %x", f.Mode(), f.Open(), f.Handles(), f.All())
		}
	}
	none()
	for _, n := range wild { // no register, too: ErrZero goes ahead of ErrPerm and ErrArg
		for _, v := range values {
			if e := f.Write(n, v); e != api.ErrZero {
				t.Errorf("Write(%d, %x): %d", n, v, e)
			}
		}
	}
	none()
	for _, v := range values {
		if to, e := f.Enter(v, v, v); to != 0 || e != api.ErrZero {
			t.Errorf("Enter: %x %d", to, e)
		}
	}
	none()
	if to, e := f.Leave(); to != 0 || e != api.ErrZero {
		t.Errorf("Leave: %x %d", to, e)
	}
	none()
	if e := f.Reset(); e != api.ErrZero {
		t.Errorf("Reset: %d", e)
	}
	none()
}

func TestNilFile(t *testing.T) { // P12.4, P1
	nothing(t, nil)
}

func TestFileThatNoCallMade(t *testing.T) { // P12.4, P1
	nothing(t, new(csr.File))
	nothing(t, &csr.File{})
	var f csr.File
	nothing(t, &f)
	was, _ := filled(t, 0xF)
	*was = csr.File{}
	nothing(t, was)
}

func TestFilesAreApart(t *testing.T) { // P5: of two files, and of a file and its copy, none sees what is done to the other
	f, m := filled(t, 0xD)
	g, o := made(t, 2)
	copied, kept := *f, *m
	c := &kept
	agree(t, &copied, c)
	write(t, f, m, api.CsrScratch, 0x11111111)
	enter(t, &copied, c, 4, 5, 6)
	write(t, g, o, api.CsrSatp, 0x401)
	agree(t, f, m)
	agree(t, &copied, c)
	agree(t, g, o)
	write(t, f, m, api.CsrStatus, 0)
	leave(t, &copied, c)
	agree(t, f, m)
	agree(t, &copied, c)
	reset(t, g, o)
	reset(t, f, m)
	agree(t, f, m)
	agree(t, &copied, c)
	agree(t, g, o)
	nothing(t, nil)
	n, p := made(t, 0)
	agree(t, n, p)
}

// walk makes calls that look like chance, the same ones for the same seed, and holds the file against the model behind each.
func walk(t *testing.T, seed uint64, n int) [7]uint32 {
	t.Helper()
	next := func() uint32 {
		seed = seed*6364136223846793005 + 1442695040888963407
		return uint32(seed >> 33)
	}
	f, m := made(t, int(next()%4))
	for range n {
		i, v := int(next()%7), next()<<16^next()
		switch next() % 16 {
		case 0:
			reset(t, f, m)
		case 1, 2, 3:
			enter(t, f, m, v, next(), next())
		case 4, 5:
			leave(t, f, m)
		case 6:
			i = wild[next()%uint32(len(wild))]
			fallthrough
		default:
			write(t, f, m, i, v)
			read(t, f, m, i, int(v))
		}
		agree(t, f, m)
	}
	return f.All()
}

func TestManyCalls(t *testing.T) { // P12.1 to P12.3
	for seed := range uint64(8) {
		walk(t, seed, 2000)
	}
}

func TestAnswersHangOnTheCallsAlone(t *testing.T) { // P5: the same calls on many files at once
	want := walk(t, 5, 300)
	var wait sync.WaitGroup
	for range 8 {
		wait.Go(func() {
			if got := walk(t, 5, 300); got != want {
				t.Errorf("the same calls: %x, then %x", want, got)
			}
		})
	}
	wait.Wait()
}

// TestAnyArguments calls all with all wild arguments, on what was made and on what was not: that none panics is what it asks (P1).
func TestAnyArguments(t *testing.T) {
	f, _ := made(t, 0)
	for _, f := range []*csr.File{nil, new(csr.File), f} {
		for _, n := range wild {
			csr.New(n)
			for _, v := range values {
				f.Write(n, v)
				f.Read(n, int(v))
				f.Enter(v, v, v)
				f.Leave()
				f.Mode()
				f.Open()
				f.Handles()
				f.All()
			}
			f.Reset()
		}
	}
}
