package isa_test

import (
	"math"
	"slices"
	"strings"
	"sync"
	"testing"

	"hermitage/api"
	"hermitage/isa"
)

// had is what each operation has, by the chapter, in its parts' letters: I is any number, P one of places, C one of the kernel mode's registers.
var had = map[int]string{
	1: "DAB", 2: "DAB", 3: "DAB", 4: "DAB", 5: "DAB", 6: "DAB", 7: "DAB", 8: "DAB", 9: "DAB", 10: "DAB", 11: "DAB", 12: "DAB", 13: "DAB",
	14: "DAI", 15: "DAI", 16: "DAI", 17: "DAI", 18: "DAP", 19: "DAP", 20: "DAP", 21: "DAI",
	22: "DI", 23: "DAI", 24: "DAI", 25: "DAI", 26: "ABI", 27: "ABI",
	28: "ABI", 29: "ABI", 30: "ABI", 31: "ABI", 32: "DI", 33: "DAI",
	34: "", 35: "", 36: "", 37: "DC", 38: "AC", 39: "", 40: "", 41: "",
}

var (
	wildOps       = []int{-1, -2, 0, 42, 43, 62, 63, 64, 65, 127, 128, 255, 256, 257, 256 + api.OpHalt, 1 << 16, 1<<16 + 1, 1<<32 + api.OpAdd, 1<<32 + api.OpRet, math.MinInt32, math.MaxInt32, math.MinInt, math.MinInt + api.OpAdd, math.MaxInt, math.MaxInt - 1}
	wildRegisters = []int{math.MinInt, math.MinInt + 1, -1 << 32, math.MinInt32, -16, -1, 0, 1, 7, 14, 15, 16, 17, 31, 32, 255, 256, math.MaxInt32, 1 << 32, 1<<32 + 1, math.MaxInt}
	wildNumbers   = []int{math.MinInt, math.MinInt + 5, -1 << 32, math.MinInt32, -1 << 14, -8194, -8193, -8192, -8191, -4096, -33, -32, -9, -2, -1, 0, 1, 2, 7, 8, 9, 10, 15, 16, 30, 31, 32, 33, 63, 64, 4095, 8190, 8191, 8192, 8193, 1<<14 - 1, 1 << 14, 1<<14 + 1, math.MaxInt32, 1 << 32, 1<<32 + 8, math.MaxInt}
)

// allOps is each operation, and a good many numbers that are none.
func allOps() []int {
	ops := slices.Clone(wildOps)
	for op := -70; op < 300; op++ {
		ops = append(ops, op)
	}
	return ops
}

// right says whether i is right, by the chapter.
func right(i api.Instr) bool {
	parts, is := had[i.Op]
	return is && rightRegister(parts, "D", i.D) && rightRegister(parts, "A", i.A) && rightRegister(parts, "B", i.B) && rightNumber(parts, i.Imm)
}

func rightRegister(parts, letter string, r int) bool {
	if strings.Contains(parts, letter) {
		return r >= 0 && r <= 15
	}
	return r == 0
}

func rightNumber(parts string, n int) bool {
	switch {
	case strings.HasSuffix(parts, "I"):
		return n >= -8192 && n <= 8191
	case strings.HasSuffix(parts, "P"):
		return n >= 0 && n <= 31
	case strings.HasSuffix(parts, "C"):
		return n >= 0 && n <= 8
	}
	return n == 0
}

// wordOf is the word of a right instruction, summed out of what its parts are worth.
func wordOf(i api.Instr) uint32 {
	number := int64(i.Imm)
	if number < 0 {
		number += 1 << 14
	}
	return uint32(int64(i.Op) + 64*int64(i.D) + 1024*int64(i.A) + 16384*int64(i.B) + 262144*number)
}

// partsOf is the parts of a word, by dividing.
func partsOf(w uint32) api.Instr {
	i := api.Instr{Op: int(w % 64), D: int(w / 64 % 16), A: int(w / 1024 % 16), B: int(w / 16384 % 16), Imm: int(w / 262144)}
	if i.Imm >= 8192 {
		i.Imm -= 1 << 14
	}
	return i
}

// check holds all calls of i against the chapter.
func check(t *testing.T, i api.Instr) {
	t.Helper()
	is := right(i)
	var word uint32
	errno, d, writes := api.ErrForm, 0, false
	if is {
		word, errno = wordOf(i), api.OK
		writes = strings.Contains(had[i.Op], "D")
	}
	if writes {
		d = i.D
	}
	if got := isa.Valid(i); got != is {
		t.Fatalf("Valid(%v): %v", i, got)
	}
	if w, e := isa.Encode(i); w != word || e != errno {
		t.Fatalf("Encode(%v): %x %d, not %x %d", i, w, e, word, errno)
	}
	if r, ok := isa.Writes(i); r != d || ok != writes {
		t.Fatalf("Writes(%v): %d %v, not %d %v", i, r, ok, d, writes)
	}
}

// checkWord holds Decode of w against the chapter, and, if there is an instruction, its word.
func checkWord(t *testing.T, w uint32) {
	t.Helper()
	want := partsOf(w)
	is := right(want)
	if !is {
		want = api.Instr{}
	}
	i, ok := isa.Decode(w)
	if i != want || ok != is {
		t.Fatalf("Decode(%x): %v %v, not %v %v", w, i, ok, want, is)
	}
	if back, e := isa.Encode(i); ok && (back != w || e != api.OK) {
		t.Fatalf("Encode(Decode(%x)): %x %d", w, back, e)
	}
}

// row is n words that look like chance, the same ones for the same seed.
func row(seed uint64, n int) []uint32 {
	l := make([]uint32, n)
	for i := range l {
		seed = seed*6364136223846793005 + 1442695040888963407
		l[i] = uint32(seed >> 32)
	}
	return l
}

func TestTestsKnowAllOperations(t *testing.T) {
	if len(had) != api.MaxOp {
		t.Errorf("%d operations, not %d", len(had), api.MaxOp)
	}
	for op, parts := range map[int]string{
		api.OpAdd: "DAB", api.OpRemu: "DAB", api.OpAddi: "DAI", api.OpShli: "DAP", api.OpShri: "DAP", api.OpSari: "DAP", api.OpSlti: "DAI", api.OpLui: "DI",
		api.OpLw: "DAI", api.OpLbu: "DAI", api.OpSw: "ABI", api.OpSb: "ABI", api.OpBeq: "ABI", api.OpBltu: "ABI", api.OpJal: "DI", api.OpJalr: "DAI",
		api.OpCall: "", api.OpHcall: "", api.OpRet: "", api.OpCsrr: "DC", api.OpCsrw: "AC", api.OpInv: "", api.OpHalt: "", api.OpBrk: "",
	} {
		if had[op] != parts {
			t.Errorf("operation %d has %q, not %q", op, had[op], parts)
		}
	}
}

func TestEncodeByHand(t *testing.T) { // P9.1: the tests' own reckoning is held by it too
	rows := []struct {
		i    api.Instr
		word uint32
	}{
		{api.Instr{Op: api.OpAddi, D: 1, A: 2, Imm: -1}, 0xFFFC084E},
		{api.Instr{Op: api.OpAdd}, 1},
		{api.Instr{Op: api.OpAdd, D: 1}, 0x41},
		{api.Instr{Op: api.OpAdd, A: 1}, 0x401},
		{api.Instr{Op: api.OpAdd, B: 1}, 0x4001},
		{api.Instr{Op: api.OpAdd, D: 15, A: 15, B: 15}, 0x3FFC1},
		{api.Instr{Op: api.OpRemu, D: 15}, 0x3CD},
		{api.Instr{Op: api.OpRemu, A: 15}, 0x3C0D},
		{api.Instr{Op: api.OpRemu, B: 15}, 0x3C00D},
		{api.Instr{Op: api.OpAddi, Imm: 1}, 0x4000E},
		{api.Instr{Op: api.OpAddi, Imm: 8191}, 0x7FFC000E},
		{api.Instr{Op: api.OpAddi, Imm: -8192}, 0x8000000E},
		{api.Instr{Op: api.OpShli, Imm: 31}, 0x7C0012},
		{api.Instr{Op: api.OpLui, D: 3, Imm: -8192}, 0x800000D6},
		{api.Instr{Op: api.OpSb, A: 4, B: 5, Imm: -2}, 0xFFF9501B},
		{api.Instr{Op: api.OpJal, D: 1, Imm: 4}, 0x100060},
		{api.Instr{Op: api.OpCsrr, D: 2, Imm: 8}, 0x2000A5},
		{api.Instr{Op: api.OpCsrw, A: 2, Imm: 8}, 0x200826},
		{api.Instr{Op: api.OpCall}, 0x22},
		{api.Instr{Op: api.OpHalt}, 0x28},
		{api.Instr{Op: api.OpBrk}, 0x29},
	}
	for _, r := range rows {
		if w, e := isa.Encode(r.i); w != r.word || e != api.OK {
			t.Errorf("Encode(%v): %x %d, not %x", r.i, w, e, r.word)
		}
		if i, ok := isa.Decode(r.word); i != r.i || !ok {
			t.Errorf("Decode(%x): %v %v, not %v", r.word, i, ok, r.i)
		}
		if !isa.Valid(r.i) || !right(r.i) || wordOf(r.i) != r.word || partsOf(r.word) != r.i {
			t.Errorf("%v: Valid %v, and the tests: %v %x %v", r.i, isa.Valid(r.i), right(r.i), wordOf(r.i), partsOf(r.word))
		}
	}
}

func TestWrongInstructionsByHand(t *testing.T) { // P9.1, P2
	rows := []api.Instr{
		{}, {Op: -1}, {Op: 42}, {Op: 64 + api.OpAdd}, {Op: math.MinInt}, {Op: math.MaxInt}, {D: 1}, {Imm: 1},
		{Op: api.OpAdd, D: 16}, {Op: api.OpAdd, D: -1}, {Op: api.OpAdd, A: 16}, {Op: api.OpAdd, A: -1}, {Op: api.OpAdd, B: 16}, {Op: api.OpAdd, B: -1},
		{Op: api.OpAdd, Imm: 1}, {Op: api.OpAdd, Imm: -1}, {Op: api.OpRemu, Imm: 1},
		{Op: api.OpAddi, B: 1}, {Op: api.OpAddi, Imm: 8192}, {Op: api.OpAddi, Imm: -8193}, {Op: api.OpSlti, Imm: 8192},
		{Op: api.OpShli, Imm: 32}, {Op: api.OpShli, Imm: -1}, {Op: api.OpShri, Imm: 32}, {Op: api.OpShri, Imm: -1}, {Op: api.OpSari, Imm: 32}, {Op: api.OpSari, Imm: -1},
		{Op: api.OpLui, A: 1}, {Op: api.OpLui, B: 1}, {Op: api.OpLui, Imm: 8192}, {Op: api.OpLui, Imm: -8193},
		{Op: api.OpLw, B: 1}, {Op: api.OpLbu, Imm: 8192}, {Op: api.OpSw, D: 1}, {Op: api.OpSb, D: 1}, {Op: api.OpSb, Imm: -8193},
		{Op: api.OpBeq, D: 1}, {Op: api.OpBltu, D: 1}, {Op: api.OpBltu, Imm: 8192}, {Op: api.OpJal, A: 1}, {Op: api.OpJal, B: 1}, {Op: api.OpJal, Imm: -8193}, {Op: api.OpJalr, B: 1},
		{Op: api.OpCsrr, A: 1}, {Op: api.OpCsrr, B: 1}, {Op: api.OpCsrr, Imm: 9}, {Op: api.OpCsrr, Imm: -1},
		{Op: api.OpCsrw, D: 1}, {Op: api.OpCsrw, B: 1}, {Op: api.OpCsrw, Imm: 9}, {Op: api.OpCsrw, Imm: -1},
		{Op: api.OpCall, D: 1}, {Op: api.OpHcall, A: 1}, {Op: api.OpRet, B: 1}, {Op: api.OpInv, Imm: 1}, {Op: api.OpHalt, A: 1}, {Op: api.OpBrk, Imm: -1},
	}
	for _, i := range rows {
		if w, e := isa.Encode(i); isa.Valid(i) || w != 0 || e != api.ErrForm {
			t.Errorf("%v: Valid %v, Encode %x %d", i, isa.Valid(i), w, e)
		}
		if d, ok := isa.Writes(i); d != 0 || ok {
			t.Errorf("Writes(%v): %d %v", i, d, ok)
		}
	}
}

func TestWordsOfNoneByHand(t *testing.T) { // P9.1
	for _, w := range []uint32{
		0, 42, 43, 62, 63, 0xFFFFFFFF, 0x40, 0x400, 0x4000, 0x40000, // no such operation
		1 | 1<<18, 1 | 1<<31, 14 | 1<<14, 18 | 32<<18, 18 | 1<<31, 20 | 0xFFFC0000, 22 | 1<<10, 22 | 1<<17, 26 | 1<<6, 28 | 1<<9,
		32 | 1<<10, 32 | 1<<14, 33 | 1<<14, 37 | 9<<18, 37 | 1<<10, 37 | 0xFFFC0000, 38 | 9<<18, 38 | 1<<6, 38 | 1<<31, 34 | 1<<6, 35 | 1<<10, 36 | 1<<14, 39 | 1<<18, 40 | 1<<10, 41 | 1<<31,
	} {
		if i, ok := isa.Decode(w); i != (api.Instr{}) || ok {
			t.Errorf("Decode(%x): %v %v", w, i, ok)
		}
	}
}

func TestWildInstructions(t *testing.T) { // P9.1, P9.2, P2, P6: one wild part, beside parts that can be and that can't
	for _, op := range allOps() {
		for _, r := range []int{0, 1, 15} {
			for _, wild := range wildRegisters {
				for _, n := range []int{0, 8, 31, -1, 8191} {
					check(t, api.Instr{Op: op, D: wild, A: r, B: r, Imm: n})
					check(t, api.Instr{Op: op, D: r, A: wild, B: r, Imm: n})
					check(t, api.Instr{Op: op, D: r, A: r, B: wild, Imm: n})
					check(t, api.Instr{Op: op, D: wild, A: r, Imm: n})
					check(t, api.Instr{Op: op, D: wild, Imm: n})
					check(t, api.Instr{Op: op, D: r, A: wild, Imm: n})
					check(t, api.Instr{Op: op, A: wild, Imm: n})
					check(t, api.Instr{Op: op, A: wild, B: r, Imm: n})
					check(t, api.Instr{Op: op, A: r, B: wild, Imm: n})
				}
			}
		}
	}
}

func TestWildNumbers(t *testing.T) { // P9.1, P9.2, P2, P6
	for _, op := range allOps() {
		for _, n := range wildNumbers {
			for registers := range 8 { // each of the three there, or not
				d, a, b := registers&1, registers>>1&1, registers>>2
				check(t, api.Instr{Op: op, D: d, A: a, B: b, Imm: n})
				check(t, api.Instr{Op: op, D: 15 * d, A: 15 * a, B: 15 * b, Imm: n})
				check(t, api.Instr{Op: op, D: 16 * d, A: 15 * a, B: 15 * b, Imm: n})
			}
		}
	}
}

func TestEachNumber(t *testing.T) { // P9.1: of each operation, beyond all that its bits hold
	for op := 0; op < 64; op++ {
		for n := -8300; n < 8300; n++ {
			check(t, api.Instr{Op: op, Imm: n})
			check(t, api.Instr{Op: op, D: 3, A: 5, Imm: n})
		}
	}
}

func TestEachRegister(t *testing.T) { // P9.1, P9.2
	for op := 0; op < 64; op++ {
		for d := -1; d <= 16; d++ {
			for a := -1; a <= 16; a++ {
				for b := -1; b <= 16; b++ {
					for _, n := range []int{0, 1, -8192} {
						check(t, api.Instr{Op: op, D: d, A: a, B: b, Imm: n})
					}
				}
			}
		}
	}
}

func TestDecodeOfEachRegister(t *testing.T) { // P9.1, P9.3
	for op := range uint32(64) {
		for registers := range uint32(1 << 12) {
			for _, number := range []uint32{0, 1, 8, 9, 31, 32, 0x1FFF, 0x2000, 0x3FFF} {
				checkWord(t, op|registers<<6|number<<18)
			}
		}
	}
}

func TestDecodeOfEachNumber(t *testing.T) { // P9.1, P9.3
	for op := range uint32(64) {
		for number := range uint32(1 << 14) {
			for _, registers := range []uint32{0, 1, 1 << 4, 1 << 8, 0x0FF, 0xFF0, 0xFFF} {
				checkWord(t, op|registers<<6|number<<18)
			}
		}
	}
}

func TestDecodeOfManyWords(t *testing.T) { // P9.1
	for _, w := range row(1, 200000) {
		checkWord(t, w)
	}
	for place := range 32 {
		for op := range uint32(64) {
			checkWord(t, op^1<<place)
		}
	}
}

func TestRightInstructionsHaveOneWordEach(t *testing.T) { // P9.3: no two the same one, and each is read back
	words := make(map[uint32]api.Instr)
	for op := api.OpAdd; op <= api.MaxOp; op++ {
		for _, i := range someRight(op) {
			w, e := isa.Encode(i)
			if e != api.OK {
				t.Fatalf("Encode(%v): %d", i, e)
			}
			if other, is := words[w]; is && other != i {
				t.Fatalf("%x is the word of %v and of %v", w, other, i)
			}
			words[w] = i
			if back, ok := isa.Decode(w); back != i || !ok {
				t.Fatalf("Decode(Encode(%v)): %v %v", i, back, ok)
			}
		}
	}
}

// someRight is the right instructions of op of some registers and numbers.
func someRight(op int) []api.Instr {
	var l []api.Instr
	for _, d := range []int{0, 1, 8, 15} {
		for _, a := range []int{0, 2, 8, 15} {
			for _, b := range []int{0, 4, 8, 15} {
				for _, n := range wildNumbers {
					if i := (api.Instr{Op: op, D: d, A: a, B: b, Imm: n}); right(i) {
						l = append(l, i)
					}
				}
			}
		}
	}
	return l
}

func TestHowManyWordsOperationsHave(t *testing.T) { // P9.1, P9.3: counted, of those with few
	counts := map[int]int{api.OpShli: 32, api.OpCsrr: 9, api.OpLui: 1 << 14, api.OpSw: 1 << 14, api.OpAdd: 1, api.OpCall: 1, api.OpHalt: 1, 0: 0, 42: 0, 63: 0}
	for op, want := range counts {
		n := 0
		for number := range uint32(1 << 14) {
			if _, ok := isa.Decode(uint32(op) | number<<18); ok {
				n++
			}
		}
		if n != want {
			t.Errorf("operation %d has %d words of registers 0, not %d", op, n, want)
		}
	}
	for op, want := range map[int]int{api.OpSub: 1 << 12, api.OpSari: 1 << 8, api.OpBne: 1 << 8, api.OpLui: 1 << 4, api.OpCsrr: 1 << 4, api.OpCsrw: 1 << 4, api.OpRet: 1} {
		n := 0
		for registers := range uint32(1 << 12) {
			if _, ok := isa.Decode(uint32(op) | registers<<6); ok {
				n++
			}
		}
		if n != want {
			t.Errorf("operation %d has %d words of number 0, not %d", op, n, want)
		}
	}
}

func TestWrites(t *testing.T) { // P9.2: D of those that have it, register 0 too
	for op := api.OpAdd; op <= api.MaxOp; op++ {
		writes := op <= api.OpLbu || op == api.OpJal || op == api.OpJalr || op == api.OpCsrr
		if d, ok := isa.Writes(api.Instr{Op: op}); d != 0 || ok != writes {
			t.Errorf("Writes of %d, D 0: %d %v, not %v", op, d, ok, writes)
		}
		for r := 1; writes && r < api.MaxRegs; r++ {
			if d, ok := isa.Writes(api.Instr{Op: op, D: r}); d != r || !ok {
				t.Errorf("Writes of %d, D %d: %d %v", op, r, d, ok)
			}
		}
	}
	for _, i := range []api.Instr{{Op: api.OpSw, B: 3}, {Op: api.OpCsrw, A: 3}, {Op: api.OpLui, D: 16}, {Op: api.OpLui, D: 3, A: 1}, {Op: api.OpAdd, D: 3, Imm: 1}, {Op: 0, D: 3}, {Op: 42, D: 3}, {Op: math.MaxInt, D: 3}, {Op: math.MinInt, D: 3}} {
		if d, ok := isa.Writes(i); d != 0 || ok {
			t.Errorf("Writes(%v): %d %v", i, d, ok)
		}
	}
}

func TestKernel(t *testing.T) { // P9.2, P6
	kernel := []int{api.OpHcall, api.OpRet, api.OpCsrr, api.OpCsrw, api.OpInv, api.OpHalt}
	for _, op := range allOps() {
		if got := isa.Kernel(op); got != slices.Contains(kernel, op) {
			t.Errorf("Kernel(%d): %v", op, got)
		}
	}
}

func TestAnswersHangOnArgumentsAlone(t *testing.T) { // P5: in any order, and many at once
	words := append(row(2, 5000), 0xFFFC084E, 0, 1, 0x28, 0x41)
	answers := func(l []uint32) map[uint32]api.Instr {
		of := make(map[uint32]api.Instr)
		for _, w := range l {
			isa.Encode(partsOf(^w))
			isa.Writes(partsOf(w))
			of[w], _ = isa.Decode(w)
		}
		return of
	}
	want := answers(words)
	backward := slices.Clone(words)
	slices.Reverse(backward)
	var wait sync.WaitGroup
	for i := range 8 {
		wait.Go(func() {
			l := words
			if i%2 == 1 {
				l = backward
			}
			for w, got := range answers(l) {
				if got != want[w] {
					t.Errorf("Decode(%x): %v, then %v", w, want[w], got)
				}
			}
		})
	}
	wait.Wait()
}

// TestAnyArguments calls all with all wild arguments: that none panics is what it asks (P1).
func TestAnyArguments(t *testing.T) {
	for _, op := range allOps() {
		isa.Kernel(op)
		isa.Decode(uint32(op))
		for _, r := range wildRegisters {
			for _, n := range wildNumbers {
				i := api.Instr{Op: op, D: r, A: r, B: r, Imm: n}
				isa.Valid(i)
				isa.Encode(i)
				isa.Writes(i)
			}
		}
	}
}
