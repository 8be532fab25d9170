package core_test

import (
	"math"
	"slices"
	"sync"
	"testing"

	"hermitage/api"
	"hermitage/core"
	"hermitage/csr"
	"hermitage/regs"
)

var (
	// wild are numbers of which most can be no part of an instruction.
	wild = []int{math.MinInt, math.MinInt + 1, math.MinInt + 16, math.MinInt32, -1 << 32, -8194, -8193, -8192, -8191, -65, -64, -33, -32, -17, -16, -2, -1, 0, 1, 2, 3, 7, 8, 9, 10, 14, 15, 16, 17, 31, 32, 33, 63, 64, 255, 256, 8190, 8191, 8192, 8193, 16383, 16384, 1 << 18, math.MaxInt32, 1 << 32, 1<<32 + 1, 1<<32 + 8, math.MaxInt - 1, math.MaxInt}

	values = []uint32{0, 1, 2, 3, 4, 5, 7, 8, 15, 16, 31, 32, 33, 0x7F, 0x80, 0xFF, 0x100, 0x8000, 0xFFFF, 0x10000, 0x12345678, 0x7FFFFFFE, 0x7FFFFFFF, 0x80000000, 0x80000001, 0x80000002, 0xDEADBEEF, 0xFFFFFFFB, 0xFFFFFFFC, 0xFFFFFFFD, 0xFFFFFFFE, 0xFFFFFFFF}

	// pcs are places to be at: of no four bytes, and at both ends, too.
	pcs = []uint32{0, 1, 2, 3, 4, 8, 0x40, 0x1002, 0x7FFFFFFC, 0x80000000, 0xFFFF8000, 0xFFFFFFF8, 0xFFFFFFFB, 0xFFFFFFFC, 0xFFFFFFFD, 0xFFFFFFFF}

	numbers = []int{-8192, -8191, -4097, -256, -33, -5, -4, -3, -2, -1, 0, 1, 2, 3, 4, 5, 8, 31, 32, 127, 128, 255, 4096, 8190, 8191}

	clocks = []int{0, 1, 5, 0x7FFFFFFF, 0x80000000, 0xFFFFFFFF, 1 << 32, 1<<32 + 7, -1, -1 << 31, -1<<32 + 5, math.MinInt, math.MaxInt}
)

// threes are which registers D, A and B are: all others, some the same, register 0 among them.
var threes = [][3]int{{1, 2, 3}, {15, 14, 13}, {3, 3, 4}, {3, 4, 3}, {3, 4, 4}, {5, 5, 5}, {0, 1, 2}, {1, 0, 2}, {1, 2, 0}, {0, 0, 0}, {0, 15, 15}, {8, 15, 1}}

// state is all that an instruction may see or change.
type state struct {
	regs    [16]uint32
	pc      uint32
	control [7]uint32
	id      int
	clock   int
}

// plain is a state in which each register but 0 has another number; it is in the kernel's mode, and handles traps.
func plain() state {
	s := state{pc: 0x1238, control: [7]uint32{0x1501, 0x40, 0xA1B2C3D4, 0xB1C2D3E4, 0xC1D2E3F4, 4, 0xE1F2A3B4}, id: 2, clock: 77}
	for i := 1; i < 16; i++ {
		s.regs[i] = 0xA0B0C0D0 + uint32(i)*0x01010104
	}
	return s
}

// files are registers in state s.
func (s state) files(t *testing.T) (*regs.File, *csr.File) {
	t.Helper()
	r := regs.New()
	for i, v := range s.regs {
		r.Set(i, v)
	}
	r.Jump(s.pc)
	c, e := csr.New(s.id)
	if e != api.OK {
		t.Fatalf("csr.New(%d): %d", s.id, e)
	}
	for n, v := range s.control {
		if n != 5 {
			c.Write(n, v)
		}
	}
	c.Write(5, s.control[5]) // last, since the mode may be the user's from here on
	s.agree(t, r, c)
	return r, c
}

// agree holds registers against state s.
func (s state) agree(t *testing.T, r *regs.File, c *csr.File) {
	t.Helper()
	if got := r.All(); got != s.regs {
		t.Errorf("registers: %x, not %x", got, s.regs)
	}
	if got := r.Pc(); got != s.pc {
		t.Errorf("it goes on at %x, not %x", got, s.pc)
	}
	if got := c.All(); got != s.control {
		t.Errorf("the kernel's registers: %x, not %x", got, s.control)
	}
	if got := c.Mode().User; got != s.user() {
		t.Errorf("the user's mode: %v, not %v", got, s.user())
	}
}

func (s state) user() bool {
	return s.control[5]/4%2 == 0
}

// write gives v to register n of the kernel's mode, or those of its bits that it may have.
func (s *state) write(n int, v uint32) {
	switch n {
	case 0:
		v = v%2 + v/256%32*256
	case 5:
		v %= 16
	}
	s.control[n] = v
}

func (s *state) read(n int) uint32 {
	switch n {
	case 7:
		return uint32(s.clock)
	case 8:
		return uint32(s.id)
	}
	return s.control[n]
}

func (s *state) set(d int, v uint32) {
	if d != 0 {
		s.regs[d] = v
	}
}

func (s *state) done(pc uint32) api.Effect {
	s.pc = pc
	return api.Effect{K: 0, Pc: pc}
}

// word is the word of a right instruction, reckoned by products.
func word(i api.Instr) uint32 {
	return uint32(int64(i.Op) + int64(i.D)*1<<6 + int64(i.A)*1<<10 + int64(i.B)*1<<14 + (int64(i.Imm)+16384)%16384*1<<18)
}

// one is 1, if it is so.
func one(is bool) int64 {
	if is {
		return 1
	}
	return 0
}

// reckon is what operation op, add being 1, makes of a and b, in numbers with room for all of it.
func reckon(op int, a, b uint32) uint32 {
	x, y, sx, sy := int64(a), int64(b), int64(int32(a)), int64(int32(b))
	places := int64(1) << (b % 32)
	switch op {
	case 1:
		return uint32(x + y)
	case 2:
		return uint32(x - y)
	case 3:
		return a & b
	case 4:
		return a | b
	case 5:
		return a ^ b
	case 6:
		return uint32(x * places)
	case 7:
		return uint32(x / places)
	case 8:
		return uint32(math.Floor(float64(sx) / float64(places)))
	case 9:
		return uint32(one(sx < sy))
	case 10:
		return uint32(one(x < y))
	case 11:
		return uint32(uint64(x) * uint64(y))
	case 12:
		if y == 0 {
			return 0xFFFFFFFF
		}
		return uint32(x / y)
	}
	if y == 0 {
		return a
	}
	return uint32(x % y)
}

// taken tells whether operation op, beq being 28, goes elsewhere.
func taken(op int, a, b uint32) bool {
	switch op {
	case 28:
		return a == b
	case 29:
		return a != b
	case 30:
		return int32(a) < int32(b)
	}
	return a < b
}

// do is what the chapter says of a right instruction: its effect, and the state behind it.
func (s *state) do(i api.Instr) api.Effect {
	next := s.pc + 4
	a, b, imm := s.regs[i.A], s.regs[i.B], uint32(int64(i.Imm))
	at := uint32(int64(a) + int64(i.Imm))
	away := uint32(int64(s.pc) + 4*int64(i.Imm))
	switch op := i.Op; {
	case op <= 13:
		s.set(i.D, reckon(op, a, b))
		return s.done(next)
	case op <= 21: // addi, andi, ori, xori, shli, shri, sari, slti
		s.set(i.D, reckon([]int{1, 3, 4, 5, 6, 7, 8, 9}[op-14], a, imm))
		return s.done(next)
	case op == 22:
		s.set(i.D, uint32((int64(i.Imm)+16384)%16384*(1<<18)))
		return s.done(next)
	case (op == 23 || op == 26) && at%4 != 0:
		return api.Effect{K: 3, Cause: 2, Tval: at}
	case op == 23:
		return api.Effect{K: 1, Addr: at, Width: 4, D: i.D, Pc: next}
	case op == 24:
		return api.Effect{K: 1, Addr: at, Width: 1, Signed: true, D: i.D, Pc: next}
	case op == 25:
		return api.Effect{K: 1, Addr: at, Width: 1, D: i.D, Pc: next}
	case op == 26:
		return api.Effect{K: 2, Addr: at, Width: 4, Val: b, Pc: next}
	case op == 27:
		return api.Effect{K: 2, Addr: at, Width: 1, Val: b, Pc: next}
	case op <= 31:
		if taken(op, a, b) {
			return s.done(away)
		}
		return s.done(next)
	case op == 32:
		s.set(i.D, next)
		return s.done(away)
	case op == 33:
		s.set(i.D, next)
		return s.done(at)
	case op == 34:
		return api.Effect{K: 3, Cause: 6}
	case op == 41:
		return api.Effect{K: 3, Cause: 8, Tval: s.pc}
	case s.user():
		return api.Effect{K: 3, Cause: 7, Tval: word(i)}
	}
	return s.doKernel(i, a, next)
}

func (s *state) doKernel(i api.Instr, a, next uint32) api.Effect {
	switch i.Op {
	case 35:
		return api.Effect{K: 4, Pc: next}
	case 40:
		return api.Effect{K: 5, Pc: next}
	case 39:
		return api.Effect{K: 6, Pc: next}
	case 36:
		was := s.control[5] / 2 % 2
		wasOfKernel := s.control[5] / 8 % 2
		s.control[5] = was + 2*was + 4*wasOfKernel + 8*wasOfKernel
		return s.done(s.control[2])
	case 37:
		s.set(i.D, s.read(i.Imm))
		return s.done(next)
	}
	if i.Imm > 6 {
		return api.Effect{K: 3, Cause: 1, Tval: word(i)}
	}
	s.write(i.Imm, a)
	return s.done(next)
}

// exec does i in state s, holds all of it against the chapter, and answers the effect and the state behind it.
func exec(t *testing.T, i api.Instr, s state) (api.Effect, state) {
	t.Helper()
	r, c := s.files(t)
	effect := on(t, i, r, c, &s)
	return effect, s
}

// on does i with those registers, which are in state s, and goes on in it.
func on(t *testing.T, i api.Instr, r *regs.File, c *csr.File, s *state) api.Effect {
	t.Helper()
	if t.Failed() {
		return api.Effect{} // else what is told is longer than anybody reads
	}
	was := *s
	want := s.do(i)
	got, e := core.Exec(i, r, c, s.clock)
	if got != want || e != api.OK {
		t.Errorf("Exec(%v) in %x: %v %d, not %v", i, was, got, e, want)
	}
	s.agree(t, r, c)
	return got
}

func TestTheNumbers(t *testing.T) { // those of package api that the model beside this one stands on
	ops := []int{api.OpAdd, api.OpSub, api.OpAnd, api.OpOr, api.OpXor, api.OpShl, api.OpShr, api.OpSar, api.OpSlt, api.OpSltu, api.OpMul, api.OpDivu, api.OpRemu, api.OpAddi, api.OpAndi, api.OpOri, api.OpXori, api.OpShli, api.OpShri, api.OpSari, api.OpSlti, api.OpLui, api.OpLw, api.OpLb, api.OpLbu, api.OpSw, api.OpSb, api.OpBeq, api.OpBne, api.OpBlt, api.OpBltu, api.OpJal, api.OpJalr, api.OpCall, api.OpHcall, api.OpRet, api.OpCsrr, api.OpCsrw, api.OpInv, api.OpHalt, api.OpBrk}
	for i, op := range ops {
		if op != i+1 {
			t.Errorf("operation %d: %d", i+1, op)
		}
	}
	if len(ops) != api.MaxOp || api.MaxRegs != 16 || api.MaxCsr != 9 || api.MaxGuests != 4 {
		t.Errorf("MaxOp %d, MaxRegs %d, MaxCsr %d, MaxGuests %d", api.MaxOp, api.MaxRegs, api.MaxCsr, api.MaxGuests)
	}
	if got := []int{api.EDone, api.ELoad, api.EStore, api.ETrap, api.EHcall, api.EHalt, api.EInv}; !slices.Equal(got, []int{0, 1, 2, 3, 4, 5, 6}) {
		t.Errorf("effects: %v", got)
	}
	if got := []int{api.CIll, api.CAlign, api.CCall, api.CPriv, api.CBrk}; !slices.Equal(got, []int{1, 2, 6, 7, 8}) {
		t.Errorf("causes: %v", got)
	}
	if got := []int{api.StOpen, api.StWas, api.StKernel, api.StKwas, api.CsrEpc, api.CsrStatus}; !slices.Equal(got, []int{1, 2, 4, 8, 2, 5}) {
		t.Errorf("the status: %v", got)
	}
}

func TestOfTheChapter(t *testing.T) { // P13.1
	r := regs.New()
	c, _ := csr.New(0)
	r.Jump(8)
	e, wrong := core.Exec(api.Instr{Op: api.OpJal, D: 1, Imm: 4}, r, c, 0)
	if wrong != api.OK || e != (api.Effect{K: api.EDone, Pc: 24}) || r.Pc() != 24 || r.All() != [16]uint32{1: 12} {
		t.Errorf("OpJal: %v %d, pc %d, registers %v", e, wrong, r.Pc(), r.All())
	}
	if c.All() != [7]uint32{5: 4} {
		t.Errorf("OpJal: %v", c.All())
	}
}

func TestReckoned(t *testing.T) { // P13.1: OpAdd to OpRemu, of all edges
	for op := api.OpAdd; op <= api.OpRemu; op++ {
		for _, a := range values {
			for _, b := range values {
				s := plain()
				s.regs[2], s.regs[3] = a, b
				exec(t, api.Instr{Op: op, D: 1, A: 2, B: 3}, s)
			}
		}
	}
}

func TestReckonedInEachRegister(t *testing.T) { // P13.1, P13.2: D may be A or B, or register 0, which keeps its 0
	for op := api.OpAdd; op <= api.OpRemu; op++ {
		for _, p := range threes {
			exec(t, api.Instr{Op: op, D: p[0], A: p[1], B: p[2]}, plain())
		}
		for x := range 16 {
			exec(t, api.Instr{Op: op, D: x, A: 2, B: 3}, plain())
			exec(t, api.Instr{Op: op, D: 1, A: x, B: 3}, plain())
			exec(t, api.Instr{Op: op, D: 1, A: 2, B: x}, plain())
		}
	}
}

func TestReckonedWithANumber(t *testing.T) { // P13.1: OpAddi to OpSlti: Imm in place of b, which has nothing to say
	for op := api.OpAddi; op <= api.OpSlti; op++ {
		least, most := -8192, 8191
		if op >= api.OpShli && op <= api.OpSari {
			least, most = 0, 31
		}
		for _, a := range values {
			for _, imm := range numbers {
				if imm < least || imm > most {
					continue
				}
				s := plain()
				s.regs[2] = a
				exec(t, api.Instr{Op: op, D: 1, A: 2, Imm: imm}, s)
			}
		}
		for x := range 16 {
			exec(t, api.Instr{Op: op, D: x, A: 2, Imm: 9}, plain())
			exec(t, api.Instr{Op: op, D: x, A: x, Imm: 9}, plain())
			exec(t, api.Instr{Op: op, D: 1, A: x, Imm: most}, plain())
		}
	}
	s := plain() // spelt out: the number has its sign
	s.regs[2] = 5
	if _, s := exec(t, api.Instr{Op: api.OpAndi, D: 1, A: 2, Imm: -2}, s); s.regs[1] != 4 {
		t.Errorf("5 andi -2: %x", s.regs[1])
	}
	if _, s := exec(t, api.Instr{Op: api.OpXori, D: 1, A: 2, Imm: -1}, s); s.regs[1] != 0xFFFFFFFA {
		t.Errorf("5 xori -1: %x", s.regs[1])
	}
	if _, s := exec(t, api.Instr{Op: api.OpSlti, D: 1, A: 2, Imm: -1}, s); s.regs[1] != 0 {
		t.Errorf("5 slti -1: %x", s.regs[1])
	}
}

func TestUpper(t *testing.T) { // P13.1: OpLui
	for d := range 16 {
		for _, imm := range numbers {
			exec(t, api.Instr{Op: api.OpLui, D: d, Imm: imm}, plain())
		}
	}
	if _, s := exec(t, api.Instr{Op: api.OpLui, D: 3, Imm: -1}, plain()); s.regs[3] != 0xFFFC0000 {
		t.Errorf("lui -1: %x", s.regs[3])
	}
}

func TestLoadsAndStores(t *testing.T) { // P13.1: at a + Imm, modulo 2^32; nothing is changed yet, and a trap changes nothing
	for op := api.OpLw; op <= api.OpSb; op++ {
		for _, a := range values {
			for _, imm := range numbers {
				s := plain()
				s.regs[2] = a
				i := api.Instr{Op: op, A: 2, Imm: imm}
				if op <= api.OpLbu {
					i.D = 1
				} else {
					i.B = 3
				}
				if _, behind := exec(t, i, s); behind != s {
					t.Errorf("%v: %x, then %x", i, s, behind)
				}
			}
		}
		for _, p := range threes {
			i := api.Instr{Op: op, A: p[1], Imm: 4}
			if op <= api.OpLbu {
				i.D = p[0]
			} else {
				i.B = p[2]
			}
			exec(t, i, plain())
		}
	}
}

func TestLoadsAndStoresSpeltOut(t *testing.T) { // P13.1
	s := plain()
	s.regs[2], s.regs[3], s.pc = 0xFFFFFFFE, 0x12345678, 0xFFFFFFFC
	for _, x := range []struct {
		i    api.Instr
		want api.Effect
	}{
		{api.Instr{Op: api.OpLw, D: 1, A: 2, Imm: 2}, api.Effect{K: api.ELoad, Width: 4, D: 1}},
		{api.Instr{Op: api.OpLw, D: 1, A: 2, Imm: 3}, api.Effect{K: api.ETrap, Cause: api.CAlign, Tval: 1}},
		{api.Instr{Op: api.OpLw, D: 1, A: 2}, api.Effect{K: api.ETrap, Cause: api.CAlign, Tval: 0xFFFFFFFE}},
		{api.Instr{Op: api.OpLb, D: 1, A: 2, Imm: 3}, api.Effect{K: api.ELoad, Addr: 1, Width: 1, Signed: true, D: 1}},
		{api.Instr{Op: api.OpLbu, D: 15, A: 2, Imm: -1}, api.Effect{K: api.ELoad, Addr: 0xFFFFFFFD, Width: 1, D: 15}},
		{api.Instr{Op: api.OpSw, A: 2, B: 3, Imm: 6}, api.Effect{K: api.EStore, Addr: 4, Width: 4, Val: 0x12345678}},
		{api.Instr{Op: api.OpSw, A: 2, B: 3, Imm: 7}, api.Effect{K: api.ETrap, Cause: api.CAlign, Tval: 5}},
		{api.Instr{Op: api.OpSb, A: 2, B: 3, Imm: 7}, api.Effect{K: api.EStore, Addr: 5, Width: 1, Val: 0x12345678}}, // all of b: its lowest byte is for the one who stores
		{api.Instr{Op: api.OpSb, A: 2, Imm: 2}, api.Effect{K: api.EStore, Width: 1}},
	} {
		if got, _ := exec(t, x.i, s); got != x.want { // Pc is 0: pc + 4
			t.Errorf("%v: %v, not %v", x.i, got, x.want)
		}
	}
}

func TestBranches(t *testing.T) { // P13.1: pc + 4 Imm, or next
	for op := api.OpBeq; op <= api.OpBltu; op++ {
		for _, a := range values {
			for _, b := range values {
				s := plain()
				s.regs[2], s.regs[3] = a, b
				exec(t, api.Instr{Op: op, A: 2, B: 3, Imm: -3}, s)
				exec(t, api.Instr{Op: op, A: 3, B: 2, Imm: 7}, s)
			}
		}
		for _, pc := range pcs {
			for _, imm := range numbers {
				for _, p := range threes {
					s := plain()
					s.pc = pc
					exec(t, api.Instr{Op: op, A: p[1], B: p[2], Imm: imm}, s)
				}
			}
		}
	}
}

func TestJumps(t *testing.T) { // P13.1: D has next, a is looked at ahead of that
	for _, pc := range pcs {
		for _, imm := range numbers {
			for _, a := range values {
				s := plain()
				s.pc, s.regs[2] = pc, a
				for _, d := range []int{0, 1, 2, 15} {
					exec(t, api.Instr{Op: api.OpJalr, D: d, A: 2, Imm: imm}, s)
				}
				exec(t, api.Instr{Op: api.OpJalr, D: 1, Imm: imm}, s)
			}
			s := plain()
			s.pc = pc
			for d := range 16 {
				exec(t, api.Instr{Op: api.OpJal, D: d, Imm: imm}, s)
			}
		}
	}
	s := plain()
	s.regs[5], s.pc = 0x101, 0xFFFFFFFC
	e, s := exec(t, api.Instr{Op: api.OpJalr, D: 5, A: 5, Imm: 2}, s)
	if e != (api.Effect{K: api.EDone, Pc: 0x103}) || s.regs[5] != 0 {
		t.Errorf("OpJalr: %v, then register 5: %x", e, s.regs[5])
	}
}

func TestNextIsModulo(t *testing.T) { // P13.1, P6: of all that go on at next
	for _, pc := range pcs {
		for op := 1; op <= api.MaxOp; op++ {
			for status := range uint32(16) {
				s := plain()
				s.pc, s.control[5] = pc, status
				exec(t, least(op), s)
			}
		}
	}
}

// least is an instruction of op with 0s where it may have others.
func least(op int) api.Instr {
	return api.Instr{Op: op}
}

func TestTraps(t *testing.T) { // P13.1, P13.2: OpCall, OpBrk, of each mode; nothing changes
	for _, pc := range pcs {
		for status := range uint32(16) {
			s := plain()
			s.pc, s.control[5] = pc, status
			e, behind := exec(t, least(api.OpCall), s)
			if e != (api.Effect{K: api.ETrap, Cause: api.CCall}) || behind != s {
				t.Errorf("OpCall: %v, then %x", e, behind)
			}
			e, behind = exec(t, least(api.OpBrk), s)
			if e != (api.Effect{K: api.ETrap, Cause: api.CBrk, Tval: pc}) || behind != s {
				t.Errorf("OpBrk: %v, then %x", e, behind)
			}
		}
	}
}

// ofKernel are instructions of the kernel's mode alone, with each register and number.
func ofKernel() []api.Instr {
	l := []api.Instr{{Op: api.OpHcall}, {Op: api.OpRet}, {Op: api.OpInv}, {Op: api.OpHalt}}
	for n := range 9 {
		for x := range 16 {
			l = append(l, api.Instr{Op: api.OpCsrr, D: x, Imm: n}, api.Instr{Op: api.OpCsrw, A: x, Imm: n})
		}
	}
	return l
}

func TestOfTheKernelsMode(t *testing.T) { // P13.1: from each status of it
	for status := range uint32(16) {
		if status&api.StKernel == 0 {
			continue
		}
		for _, i := range ofKernel() {
			s := plain()
			s.control[5] = status
			e, behind := exec(t, i, s)
			if e.K == api.ETrap && e.Cause == api.CPriv {
				t.Errorf("%v of status %x: %v", i, status, e)
			}
			if i.Op != api.OpRet && i.Op != api.OpCsrr && i.Op != api.OpCsrw && behind != s {
				t.Errorf("%v: %x, then %x", i, s, behind)
			}
		}
	}
}

func TestOfTheUsersMode(t *testing.T) { // P13.1, P13.2: a trap with its word, ahead of what is wrong otherwise; nothing changes
	for status := range uint32(16) {
		if status&api.StKernel != 0 {
			continue
		}
		for _, i := range ofKernel() {
			s := plain()
			s.control[5] = status
			e, behind := exec(t, i, s)
			if e != (api.Effect{K: api.ETrap, Cause: api.CPriv, Tval: word(i)}) || behind != s {
				t.Errorf("%v of status %x: %v, then %x", i, status, e, behind)
			}
		}
		for op := 1; op <= api.MaxOp; op++ { // all others are for the user too
			s := plain()
			s.control[5] = status
			e, _ := exec(t, least(op), s)
			if is := e.Cause == api.CPriv; is != (op >= api.OpHcall && op <= api.OpHalt) {
				t.Errorf("operation %d of status %x: %v", op, status, e)
			}
		}
	}
}

func TestRet(t *testing.T) { // P13.1: where csr says, in the mode that it says
	for status := range uint32(16) {
		if status&api.StKernel == 0 {
			continue
		}
		for _, epc := range values {
			s := plain()
			s.control[5], s.control[2] = status, epc
			e, behind := exec(t, least(api.OpRet), s)
			if e != (api.Effect{K: api.EDone, Pc: epc}) || behind.user() != (status&api.StKwas == 0) {
				t.Errorf("OpRet of status %x: %v, then %x", status, e, behind)
			}
		}
	}
}

func TestReadOfControl(t *testing.T) { // P13.1: OpCsrr, the clock and the number too
	for _, clock := range clocks {
		for id := range 4 {
			for n := range 9 {
				s := plain()
				s.clock, s.id = clock, id
				exec(t, api.Instr{Op: api.OpCsrr, D: 1, Imm: n}, s)
				exec(t, api.Instr{Op: api.OpCsrr, D: 0, Imm: n}, s)
			}
		}
	}
	s := plain()
	s.clock = 1<<32 + 7
	if _, s := exec(t, api.Instr{Op: api.OpCsrr, D: 9, Imm: api.CsrClock}, s); s.regs[9] != 7 {
		t.Errorf("the clock: %x", s.regs[9])
	}
}

func TestWriteOfControl(t *testing.T) { // P13.1: OpCsrw: those that can be written have a, the others are a trap that changes nothing
	for n := range 9 {
		for _, a := range values {
			s := plain()
			s.regs[2] = a
			e, behind := exec(t, api.Instr{Op: api.OpCsrw, A: 2, Imm: n}, s)
			if n <= api.CsrScratch {
				continue
			}
			if e != (api.Effect{K: api.ETrap, Cause: api.CIll, Tval: core.Word(api.Instr{Op: api.OpCsrw, A: 2, Imm: n})}) || behind != s {
				t.Errorf("OpCsrw %d: %v, then %x", n, e, behind)
			}
		}
	}
	s := plain() // by it the mode may become the user's, and it goes on behind it
	s.regs[2] = 0
	if e, s := exec(t, api.Instr{Op: api.OpCsrw, A: 2, Imm: api.CsrStatus}, s); e != (api.Effect{Pc: 0x123C}) || !s.user() {
		t.Errorf("OpCsrw of the status: %v, then %x", e, s)
	}
}

// right tells by the chapter of instructions as words whether i is right.
func right(i api.Instr) bool {
	is := func(x, least, most int) bool { return least <= x && x <= most }
	d, a, b := 15, 15, 15
	least, most := -8192, 8191
	switch op := i.Op; {
	case op < 1 || op > 41:
		return false
	case op <= 13:
		least, most = 0, 0
	case op >= 18 && op <= 20:
		b, least, most = 0, 0, 31
	case op <= 21 || op >= 23 && op <= 25 || op == 33:
		b = 0
	case op == 22 || op == 32:
		a, b = 0, 0
	case op >= 26 && op <= 31:
		d = 0
	case op == 37:
		a, b, least, most = 0, 0, 0, 8
	case op == 38:
		d, b, least, most = 0, 0, 0, 8
	default:
		d, a, b, least, most = 0, 0, 0, 0, 0
	}
	return is(i.D, 0, d) && is(i.A, 0, a) && is(i.B, 0, b) && is(i.Imm, least, most)
}

// around are instructions of op with each of their parts at all wild numbers.
func around(op int) []api.Instr {
	var l []api.Instr
	for _, n := range wild {
		l = append(l, api.Instr{Op: op, D: n}, api.Instr{Op: op, A: n}, api.Instr{Op: op, B: n}, api.Instr{Op: op, Imm: n}, api.Instr{Op: op, D: 1, A: 2, B: 3, Imm: n}, api.Instr{Op: op, D: n, A: n, B: n, Imm: n})
	}
	return l
}

func TestNotRight(t *testing.T) { // P13.1, P2, P6: ErrForm, of each part one below, one beyond, and the ends: the zero effect, nothing changes
	ops := slices.Concat(wild, []int{4, 5, 6, 11, 12, 13, 18, 19, 20, 21, 22, 23, 24, 25, 26, 27, 28, 29, 30, 34, 35, 36, 37, 38, 39, 40, 41, 42})
	for _, status := range []uint32{4, 0} { // of the user's mode too: ErrForm goes ahead of any trap
		s := plain()
		s.control[5] = status
		r, c := s.files(t)
		wrongs := 0
		for _, op := range ops {
			for _, i := range around(op) {
				if right(i) {
					exec(t, i, s)
					continue
				}
				wrongs++
				if got, e := core.Exec(i, r, c, s.clock); got != (api.Effect{}) || e != api.ErrForm {
					t.Errorf("Exec(%v): %v %d", i, got, e)
				}
				s.agree(t, r, c)
			}
		}
		if wrongs < 10000 {
			t.Errorf("%d wrong ones", wrongs)
		}
	}
}

func TestNoRegisters(t *testing.T) { // P13.1, P1, P2: ErrZero, ahead of ErrForm and of any trap; the other file is as it was
	for _, status := range []uint32{4, 0} {
		s := plain()
		s.control[5] = status
		r, c := s.files(t)
		var none regs.File
		var nothing csr.File
		for op := -1; op <= api.MaxOp+1; op++ {
			for _, i := range []api.Instr{least(op), {Op: op, D: 1, A: 2, B: 3, Imm: 1}, {Op: op, D: 16, Imm: -1}} {
				for _, x := range []struct {
					r *regs.File
					c *csr.File
				}{{nil, c}, {&none, c}, {new(regs.File), c}, {r, nil}, {r, &nothing}, {r, new(csr.File)}, {nil, nil}, {&none, nil}, {nil, &nothing}, {&none, &nothing}} {
					if got, e := core.Exec(i, x.r, x.c, 5); got != (api.Effect{}) || e != api.ErrZero {
						t.Errorf("Exec(%v) of %v, %v: %v %d", i, x.r, x.c, got, e)
					}
				}
			}
		}
		s.agree(t, r, c)
		if none != (regs.File{}) || nothing != (csr.File{}) {
			t.Errorf("files that no call made: %v, %v", none, nothing)
		}
	}
}

func TestWord(t *testing.T) { // P13.1: isa's word, or 0
	if got := core.Word(api.Instr{Op: api.OpAddi, D: 1, A: 2, Imm: -1}); got != 0xFFFC084E {
		t.Errorf("the word of addi r1 r2 -1: %x", got)
	}
	for op := -2; op <= api.MaxOp+2; op++ {
		for _, i := range around(op) {
			want := uint32(0)
			if right(i) {
				want = word(i)
			}
			if got := core.Word(i); got != want {
				t.Errorf("Word(%v): %x, not %x", i, got, want)
			}
		}
	}
	for _, op := range wild {
		if got := core.Word(least(op)); (op < 1 || op > api.MaxOp) && got != 0 {
			t.Errorf("Word of operation %d: %x", op, got)
		}
	}
}

func TestWhatChanges(t *testing.T) { // P13.2: nothing but D and where it goes on of the registers; traps, and what is for others to do, change nothing
	for op := 1; op <= api.MaxOp; op++ {
		for _, i := range around(op) {
			if !right(i) {
				continue
			}
			for status := range uint32(16) {
				s := plain()
				s.control[5] = status
				r, c := s.files(t)
				e, wrong := core.Exec(i, r, c, 5)
				behind := r.All()
				behind[i.D] = s.regs[i.D]
				if wrong != api.OK || behind != s.regs {
					t.Errorf("Exec(%v): %d, %x, then %x", i, wrong, s.regs, r.All())
				}
				if e.K != api.EDone {
					s.agree(t, r, c)
				} else if e.Pc != r.Pc() {
					t.Errorf("Exec(%v): %v, but it goes on at %x", i, e, r.Pc())
				}
				if e.K == api.ETrap && e.Pc != 0 {
					t.Errorf("Exec(%v): %v", i, e)
				}
				if is := op == api.OpRet || op == api.OpCsrw; !is && c.All() != s.control {
					t.Errorf("Exec(%v): %x, then %x", i, s.control, c.All())
				}
			}
		}
	}
}

// chance answers numbers that look like it, the same ones for the same seed.
func chance(seed uint64) func(below int) int {
	return func(below int) int {
		seed = seed*6364136223846793005 + 1442695040888963407
		return int(seed>>33) % below
	}
}

// pickRight is a right instruction, of any operation: what that may not have stays 0.
func pickRight(next func(below int) int) api.Instr {
	i := api.Instr{Op: 1 + next(api.MaxOp)}
	for _, part := range []api.Instr{{D: next(16)}, {A: next(16)}, {B: next(16)}, {Imm: next(9)}, {Imm: next(32)}, {Imm: numbers[next(len(numbers))]}} {
		with := api.Instr{Op: i.Op, D: i.D + part.D, A: i.A + part.A, B: i.B + part.B, Imm: part.Imm}
		if right(with) {
			i = with
		}
	}
	return i
}

// walk does many instructions with the same registers, and answers where that ends.
func walk(t *testing.T, seed uint64, n int) (state, []api.Effect) {
	t.Helper()
	next := chance(seed)
	s := plain()
	r, c := s.files(t)
	var l []api.Effect
	for range n {
		if s.user() { // what a trap comes to is for others to do: here it goes on in the kernel's mode
			to, e := c.Enter(s.pc, 9, 10)
			if e != api.OK || to != s.control[1] {
				t.Errorf("Enter: %x %d", to, e)
			}
			s.control[2], s.control[3], s.control[4] = s.pc, 9, 10
			s.control[5] = s.control[5]%2*2 + 4
		}
		s.clock = clocks[next(len(clocks))]
		l = append(l, on(t, pickRight(next), r, c, &s))
	}
	return s, l
}

func TestManyInstructions(t *testing.T) { // P13.1, P13.2: in a row
	kinds := make(map[int]int)
	for seed := range uint64(8) {
		_, l := walk(t, seed, 3000)
		for _, e := range l {
			kinds[e.K]++
		}
	}
	for k := range 7 {
		if kinds[k] == 0 {
			t.Errorf("none of kind %d", k)
		}
	}
}

func TestAnswersHangOnTheCallsAlone(t *testing.T) { // P5: the same calls on many registers at once
	want, all := walk(t, 5, 300)
	var wait sync.WaitGroup
	for range 8 {
		wait.Go(func() {
			if got, l := walk(t, 5, 300); got != want || !slices.Equal(l, all) {
				t.Errorf("the same calls: %x, then %x", want, got)
			}
		})
	}
	wait.Wait()
}

func TestAnyArguments(t *testing.T) { // P1: that none panics is what it asks
	s := plain()
	r, c := s.files(t)
	for _, r := range []*regs.File{nil, new(regs.File), r} {
		for _, c := range []*csr.File{nil, new(csr.File), c} {
			for _, op := range wild {
				for _, n := range wild {
					for _, clock := range clocks {
						i := api.Instr{Op: op, D: n, A: n, B: n, Imm: n}
						core.Exec(i, r, c, clock)
						core.Word(i)
					}
				}
			}
		}
	}
}
