package asm_test

import (
	"fmt"
	"math"
	"regexp"
	"slices"
	"strconv"
	"strings"
	"sync"
	"testing"

	"hermitage/api"
	"hermitage/asm"
	"hermitage/isa"
)

// shape is what the chapters say of an operation: its name, and its parts' letters: I is any number, P one of places, C one of the kernel mode's registers.
type shape struct {
	name, parts string
}

var shapes = map[int]shape{
	1: {"add", "DAB"}, 2: {"sub", "DAB"}, 3: {"and", "DAB"}, 4: {"or", "DAB"}, 5: {"xor", "DAB"}, 6: {"shl", "DAB"}, 7: {"shr", "DAB"},
	8: {"sar", "DAB"}, 9: {"slt", "DAB"}, 10: {"sltu", "DAB"}, 11: {"mul", "DAB"}, 12: {"divu", "DAB"}, 13: {"remu", "DAB"},
	14: {"addi", "DAI"}, 15: {"andi", "DAI"}, 16: {"ori", "DAI"}, 17: {"xori", "DAI"},
	18: {"shli", "DAP"}, 19: {"shri", "DAP"}, 20: {"sari", "DAP"}, 21: {"slti", "DAI"},
	22: {"lui", "DI"}, 23: {"lw", "DAI"}, 24: {"lb", "DAI"}, 25: {"lbu", "DAI"}, 26: {"sw", "ABI"}, 27: {"sb", "ABI"},
	28: {"beq", "ABI"}, 29: {"bne", "ABI"}, 30: {"blt", "ABI"}, 31: {"bltu", "ABI"}, 32: {"jal", "DI"}, 33: {"jalr", "DAI"},
	34: {"call", ""}, 35: {"hcall", ""}, 36: {"ret", ""}, 37: {"csrr", "DC"}, 38: {"csrw", "AC"}, 39: {"inv", ""}, 40: {"halt", ""}, 41: {"brk", ""},
}

var (
	wildOps       = []int{math.MinInt, math.MinInt + 1, math.MinInt32, -256, -41, -1, 0, 42, 43, 63, 64, 65, 255, 256, 257, 1 << 16, 1<<16 + 1, math.MaxInt32, 1<<32 + api.OpAdd, math.MaxInt - 1, math.MaxInt}
	wildRegisters = []int{math.MinInt, -1 << 32, math.MinInt32, -16, -1, 0, 1, 9, 10, 15, 16, 17, 31, 256, math.MaxInt32, 1 << 32, 1<<32 + 1, math.MaxInt}
	wildNumbers   = []int{math.MinInt, math.MinInt + 5, -1 << 32, math.MinInt32, -8194, -8193, -8192, -8191, -1000, -999, -100, -33, -10, -9, -2, -1, 0, 1, 2, 7, 8, 9, 10, 15, 30, 31, 32, 33, 99, 100, 101, 1000, 8190, 8191, 8192, 8193, 1 << 14, math.MaxInt32, 1 << 32, 1<<32 + 8, math.MaxInt}
)

var wildTexts = []string{
	"", " ", "  ", "\n", "\n\n", "\x00", "\r", "\t", "\xff", "\xff\xfe\n", "é", "٣", "r", "r0", "-", "-1", "0", "1", ".", ".word", ".word ", ".word -", ".word -1", ".word\n",
	"halt", "halt ", " halt", "halt\n", "halt\n\n", "\nhalt\n", "halt\r\n", "halt\x00", "halt r0", "halt 0", "HALT", "Halt", "hal", "halts", "haltbrk", "halt brk", "add", "add ", "addi", "addi r1", "addi r1 r2", "addi r1 r2 ", "addi r1 r2 r3",
	strings.Repeat(" ", api.MaxText), strings.Repeat("a ", api.MaxText), strings.Repeat(" ", 1<<20), strings.Repeat("\n", 1<<20), strings.Repeat("halt\n", 1<<16), "lui r1 " + strings.Repeat("0", 1<<20), "lui r1 1" + strings.Repeat(" 1", 1<<20), ".word " + strings.Repeat("9", 1<<14),
}

func rightRegister(parts, letter string, r int) bool {
	if strings.Contains(parts, letter) {
		return r >= 0 && r <= 15
	}
	return r == 0
}

func rightNumber(parts string, n int) bool {
	switch {
	case strings.HasSuffix(parts, "I"):
		return n >= -8192 && n <= 8191
	case strings.HasSuffix(parts, "P"):
		return n >= 0 && n <= 31
	case strings.HasSuffix(parts, "C"):
		return n >= 0 && n <= 8
	}
	return n == 0
}

// told is the text of i, and whether i is right, by the chapters.
func told(i api.Instr) (string, bool) {
	s, is := shapes[i.Op]
	if !is || !rightRegister(s.parts, "D", i.D) || !rightRegister(s.parts, "A", i.A) || !rightRegister(s.parts, "B", i.B) || !rightNumber(s.parts, i.Imm) {
		return "", false
	}
	text := s.name
	for _, letter := range s.parts {
		switch letter {
		case 'D':
			text += fmt.Sprintf(" r%d", i.D)
		case 'A':
			text += fmt.Sprintf(" r%d", i.A)
		case 'B':
			text += fmt.Sprintf(" r%d", i.B)
		default:
			text += fmt.Sprintf(" %d", i.Imm)
		}
	}
	return text, true
}

// forms are what texts of each operation look like.
var forms = func() map[int]*regexp.Regexp {
	const register, number = ` r(0|[1-9]|1[0-5])`, ` (0|-?[1-9][0-9]{0,3})`
	all := make(map[int]*regexp.Regexp)
	for op, s := range shapes {
		form := `\A` + s.name
		for _, letter := range s.parts {
			if strings.ContainsRune("DAB", letter) {
				form += register
			} else {
				form += number
			}
		}
		all[op] = regexp.MustCompile(form + `\z`)
	}
	return all
}()

// understood is the instruction whose text s is, by the forms.
func understood(s string) (api.Instr, bool) {
	for op, form := range forms {
		found := form.FindStringSubmatch(s)
		if found == nil {
			continue
		}
		i := api.Instr{Op: op}
		for at, letter := range shapes[op].parts {
			n, _ := strconv.Atoi(found[at+1])
			switch letter {
			case 'D':
				i.D = n
			case 'A':
				i.A = n
			case 'B':
				i.B = n
			default:
				i.Imm = n
			}
		}
		if !rightNumber(shapes[op].parts, i.Imm) {
			return api.Instr{}, false
		}
		return i, true
	}
	return api.Instr{}, false
}

var plainForm = regexp.MustCompile(`\A\.word (0|[1-9][0-9]{0,9})\z`)

// lineWord is the word that a line of a program tells, by the forms; words of instructions are isa's.
func lineWord(s string) (uint32, bool) {
	if found := plainForm.FindStringSubmatch(s); found != nil {
		n, _ := strconv.Atoi(found[1])
		return uint32(n), n < 1<<32
	}
	i, ok := understood(s)
	if !ok {
		return 0, false
	}
	w, _ := isa.Encode(i)
	return w, true
}

// toldWord is the text of a word, by the chapter.
func toldWord(w uint32) string {
	i, ok := isa.Decode(w)
	if !ok {
		return fmt.Sprintf(".word %d", w)
	}
	s, _ := told(i)
	return s
}

// programOf is what Program says of s, by the chapter.
func programOf(s string) ([]uint32, api.Errno, int) {
	if len(s) > 16384 {
		return nil, api.ErrLong, 0
	}
	lines := strings.SplitAfter(s, "\n")
	if lines[len(lines)-1] == "" {
		lines = lines[:len(lines)-1]
	}
	if len(lines) > 512 {
		return nil, api.ErrLong, 0
	}
	var l []uint32
	for at, line := range lines {
		body, ended := strings.CutSuffix(line, "\n")
		w, ok := lineWord(body)
		if !ended || !ok {
			return nil, api.ErrForm, at + 1
		}
		l = append(l, w)
	}
	return l, api.OK, 0
}

func checkText(t *testing.T, i api.Instr) {
	t.Helper()
	want, is := told(i)
	errno := api.ErrForm
	if is {
		errno = api.OK
	}
	s, e := asm.Text(i)
	if s != want || e != errno {
		t.Fatalf("Text(%v): %q %d, not %q %d", i, s, e, want, errno)
	}
	if !is {
		return
	}
	if back, e := asm.Parse(s); back != i || e != api.OK {
		t.Fatalf("Parse(%q): %v %d, not %v", s, back, e, i)
	}
}

func checkParse(t *testing.T, s string) {
	t.Helper()
	want, is := understood(s)
	errno := api.ErrForm
	if is {
		errno = api.OK
	}
	i, e := asm.Parse(s)
	if i != want || e != errno {
		t.Fatalf("Parse(%.60q): %v %d, not %v %d", s, i, e, want, errno)
	}
	if back, e := asm.Text(i); is && (back != s || e != api.OK) {
		t.Fatalf("Text(Parse(%q)): %q %d", s, back, e)
	}
}

func checkProgram(t *testing.T, s string) {
	t.Helper()
	want, errno, place := programOf(s)
	if l, e, at := asm.Program(s); !slices.Equal(l, want) || e != errno || at != place || e != api.OK && l != nil {
		t.Fatalf("Program(%.60q): %x %d %d, not %x %d %d", s, l, e, at, want, errno, place)
	}
}

func checkList(t *testing.T, l []uint32) {
	t.Helper()
	want := ""
	for _, w := range l {
		want += toldWord(w) + "\n"
	}
	s, e := asm.List(l)
	if s != want || e != api.OK {
		t.Fatalf("List(%x): %.60q %d, not %.60q", l, s, e, want)
	}
	if back, e, at := asm.Program(s); !slices.Equal(back, l) || e != api.OK || at != 0 {
		t.Fatalf("Program(List(%x)): %x %d %d", l, back, e, at)
	}
}

// row is n words that look like chance, the same ones for the same seed.
func row(seed uint64, n int) []uint32 {
	l := make([]uint32, n)
	for i := range l {
		seed = seed*6364136223846793005 + 1442695040888963407
		l[i] = uint32(seed >> 32)
	}
	return l
}

// someRight is right instructions: of each operation, of some registers and numbers.
func someRight(registers, numbers []int) []api.Instr {
	var l []api.Instr
	for op := api.OpAdd; op <= api.MaxOp; op++ {
		for _, d := range registers {
			for _, a := range registers {
				for _, b := range registers {
					for _, n := range numbers {
						i := api.Instr{Op: op, D: d, A: a, B: b, Imm: n}
						if _, is := told(i); is {
							l = append(l, i)
						}
					}
				}
			}
		}
	}
	return l
}

func TestNames(t *testing.T) { // P10.1, P10.2: each operation's by its number in package api
	names := map[int]string{
		api.OpAdd: "add", api.OpSub: "sub", api.OpAnd: "and", api.OpOr: "or", api.OpXor: "xor", api.OpShl: "shl", api.OpShr: "shr", api.OpSar: "sar",
		api.OpSlt: "slt", api.OpSltu: "sltu", api.OpMul: "mul", api.OpDivu: "divu", api.OpRemu: "remu", api.OpAddi: "addi", api.OpAndi: "andi",
		api.OpOri: "ori", api.OpXori: "xori", api.OpShli: "shli", api.OpShri: "shri", api.OpSari: "sari", api.OpSlti: "slti", api.OpLui: "lui",
		api.OpLw: "lw", api.OpLb: "lb", api.OpLbu: "lbu", api.OpSw: "sw", api.OpSb: "sb", api.OpBeq: "beq", api.OpBne: "bne", api.OpBlt: "blt",
		api.OpBltu: "bltu", api.OpJal: "jal", api.OpJalr: "jalr", api.OpCall: "call", api.OpHcall: "hcall", api.OpRet: "ret", api.OpCsrr: "csrr",
		api.OpCsrw: "csrw", api.OpInv: "inv", api.OpHalt: "halt", api.OpBrk: "brk",
	}
	if len(names) != api.MaxOp || len(shapes) != api.MaxOp {
		t.Fatalf("%d names, %d shapes, not %d", len(names), len(shapes), api.MaxOp)
	}
	for op, name := range names {
		if shapes[op].name != name {
			t.Errorf("the tests' name of %d: %q, not %q", op, shapes[op].name, name)
		}
		s, e := asm.Text(api.Instr{Op: op})
		if first, _, _ := strings.Cut(s, " "); first != name || e != api.OK {
			t.Errorf("Text of %d: %q %d, not %s", op, s, e, name)
		}
	}
}

func TestTextsByHand(t *testing.T) { // P10.1: the tests' own telling is held by it too
	rows := []struct {
		i api.Instr
		s string
	}{
		{api.Instr{Op: api.OpAddi, D: 1, A: 2, Imm: -1}, "addi r1 r2 -1"},
		{api.Instr{Op: api.OpAdd}, "add r0 r0 r0"},
		{api.Instr{Op: api.OpAdd, D: 1, A: 2, B: 3}, "add r1 r2 r3"},
		{api.Instr{Op: api.OpRemu, D: 15, A: 10, B: 9}, "remu r15 r10 r9"},
		{api.Instr{Op: api.OpAddi, D: 15, A: 15, Imm: -8192}, "addi r15 r15 -8192"},
		{api.Instr{Op: api.OpSlti, Imm: 8191}, "slti r0 r0 8191"},
		{api.Instr{Op: api.OpShli, D: 1, A: 2, Imm: 31}, "shli r1 r2 31"},
		{api.Instr{Op: api.OpSari, D: 1, A: 2}, "sari r1 r2 0"},
		{api.Instr{Op: api.OpLui, D: 4, Imm: -5}, "lui r4 -5"},
		{api.Instr{Op: api.OpLw, D: 4, A: 5, Imm: 6}, "lw r4 r5 6"},
		{api.Instr{Op: api.OpSw, A: 1, B: 2, Imm: 8}, "sw r1 r2 8"},
		{api.Instr{Op: api.OpBltu, A: 14, B: 13, Imm: -4}, "bltu r14 r13 -4"},
		{api.Instr{Op: api.OpJal, D: 1, Imm: 100}, "jal r1 100"},
		{api.Instr{Op: api.OpJalr, A: 1}, "jalr r0 r1 0"},
		{api.Instr{Op: api.OpCsrr, D: 2, Imm: 8}, "csrr r2 8"},
		{api.Instr{Op: api.OpCsrw, A: 2, Imm: 1}, "csrw r2 1"},
		{api.Instr{Op: api.OpCall}, "call"},
		{api.Instr{Op: api.OpHcall}, "hcall"},
		{api.Instr{Op: api.OpRet}, "ret"},
		{api.Instr{Op: api.OpInv}, "inv"},
		{api.Instr{Op: api.OpHalt}, "halt"},
		{api.Instr{Op: api.OpBrk}, "brk"},
	}
	for _, r := range rows {
		if s, e := asm.Text(r.i); s != r.s || e != api.OK {
			t.Errorf("Text(%v): %q %d, not %q", r.i, s, e, r.s)
		}
		if i, e := asm.Parse(r.s); i != r.i || e != api.OK {
			t.Errorf("Parse(%q): %v %d, not %v", r.s, i, e, r.i)
		}
		s, is := told(r.i)
		i, ok := understood(r.s)
		if s != r.s || !is || i != r.i || !ok {
			t.Errorf("the tests of %v: %q %v, %v %v", r.i, s, is, i, ok)
		}
	}
}

func TestWrongInstructionsByHand(t *testing.T) { // P10.1, P2
	rows := []api.Instr{
		{}, {Op: -1}, {Op: 42}, {Op: 65}, {Op: math.MinInt}, {Op: math.MaxInt}, {D: 1},
		{Op: api.OpAdd, D: 16}, {Op: api.OpAdd, A: -1}, {Op: api.OpAdd, B: 16}, {Op: api.OpAdd, Imm: 1},
		{Op: api.OpAddi, B: 1}, {Op: api.OpAddi, Imm: 8192}, {Op: api.OpAddi, Imm: -8193}, {Op: api.OpShli, Imm: 32}, {Op: api.OpShli, Imm: -1},
		{Op: api.OpLui, A: 1}, {Op: api.OpSw, D: 1}, {Op: api.OpBeq, D: 1}, {Op: api.OpJal, B: 1},
		{Op: api.OpCsrr, A: 1}, {Op: api.OpCsrr, Imm: 9}, {Op: api.OpCsrw, D: 1}, {Op: api.OpCsrw, Imm: -1},
		{Op: api.OpCall, D: 1}, {Op: api.OpHalt, A: 1}, {Op: api.OpRet, B: 1}, {Op: api.OpBrk, Imm: -1},
	}
	for _, i := range rows {
		if s, e := asm.Text(i); s != "" || e != api.ErrForm {
			t.Errorf("Text(%v): %q %d", i, s, e)
		}
	}
}

func TestWrongTextsByHand(t *testing.T) { // P10.1, P2
	texts := []string{
		"", " ", "  ", "\n", "r1", "1", "-", "adds r1 r1 r1", "ad r1 r1 r1", "ADD r1 r1 r1", "Add r1 r1 r1", "subadd r1 r1 r1", "add sub r1 r1 r1", "add sub",
		"add", "add r1", "add r1 r2", "add r1 r2 r3 r4", "add r1 r2 r3 4", "add r1 r2 3", "add 1 r2 r3", "add r1 r2 R3", "add R1 r2 r3",
		"add r16 r0 r0", "add r0 r16 r0", "add r0 r0 r16", "add r-1 r0 r0", "add r-0 r0 r0", "add -r1 r0 r0", "add r01 r1 r1", "add r00 r1 r1", "add r+1 r1 r1", "add r r1 r1", "add rr1 r1 r1", "add r1r r1 r1",
		"add  r1 r1 r1", "add r1  r1 r1", " add r1 r1 r1", "add r1 r1 r1 ", "add\tr1 r1 r1", "add r1,r1,r1", "add r1 r1 r1\n", "add r1 r1 r1\r", "add\nr1 r1 r1", "add r1 r1 r1\x00", "add r1 r1 r1 0", "add r1 r1 r1 #",
		"addi r1 r2", "addi r1 r2 r3", "addi r1 r2 -0", "addi r1 r2 00", "addi r1 r2 01", "addi r1 r2 -01", "addi r1 r2 +1", "addi r1 r2 --1", "addi r1 r2 -", "addi r1 r2 - 1", "addi r1 r2 1-", "addi r1 r2 0x1", "addi r1 r2 1_0", "addi r1 r2 1e3", "addi r1 r2 1.0",
		"addi r1 r2 8192", "addi r1 r2 -8193", "addi r1 r2 10000", "addi r1 r2 999999999", "addi r1 r2 4294967295", "addi r1 r2 -4294967296", "addi r1 r2 18446744073709551615", "addi r1 r2 18446744073709551617", "addi r1 r2 -18446744073709551617", "addi r1 r2 ١",
		"shli r1 r2 32", "shli r1 r2 -1", "shri r1 r2 32", "sari r1 r2 32", "csrr r1 9", "csrr r1 -1", "csrr r1 r1", "csrw 1 r1", "csrw r1 9",
		"lui r1 r2 5", "lui 5", "sw r1 8", "sw r1 r2 r3 8", "beq r1 r2", "jal 4", "jal r1 r2 4", "jalr r1 4",
		"halt r1", "halt 0", "call 0", "hcall 1", "ret r0", "inv 0", "brk 1", "halt halt", "haltbrk", ".word 40", ".word", "word 40", "call\x00", "c\xffall", "\xff",
	}
	for _, s := range texts {
		if i, e := asm.Parse(s); i != (api.Instr{}) || e != api.ErrForm {
			t.Errorf("Parse(%q): %v %d", s, i, e)
		}
		if _, is := understood(s); is {
			t.Errorf("the tests understand %q", s)
		}
	}
}

func TestEachRegister(t *testing.T) { // P10.1, P10.3, P6
	for op := -1; op <= api.MaxOp+1; op++ {
		for d := -1; d <= 16; d++ {
			for a := -1; a <= 16; a++ {
				for b := -1; b <= 16; b++ {
					checkText(t, api.Instr{Op: op, D: d, A: a, B: b})
				}
			}
		}
	}
}

func TestEachNumber(t *testing.T) { // P10.1, P10.3, P6
	for op := -1; op <= api.MaxOp+1; op++ {
		for n := -8200; n <= 8200; n++ {
			checkText(t, api.Instr{Op: op, Imm: n})
		}
	}
}

func TestWildInstructions(t *testing.T) { // P10.1, P1, P2, P6: one wild part, beside parts that can be and that can't
	ops := slices.Clone(wildOps)
	for op := range api.MaxOp + 1 {
		ops = append(ops, op)
	}
	for _, op := range ops {
		for _, r := range []int{0, 1, 15} {
			for _, wild := range wildRegisters {
				for _, n := range []int{0, 8, -1} {
					checkText(t, api.Instr{Op: op, D: wild, A: r, B: r, Imm: n})
					checkText(t, api.Instr{Op: op, D: r, A: wild, Imm: n})
					checkText(t, api.Instr{Op: op, A: r, B: wild, Imm: n})
					checkText(t, api.Instr{Op: op, D: wild, Imm: n})
					checkText(t, api.Instr{Op: op, A: wild, Imm: n})
				}
			}
			for _, wild := range wildNumbers {
				checkText(t, api.Instr{Op: op, D: r, A: r, Imm: wild})
				checkText(t, api.Instr{Op: op, A: r, B: r, Imm: wild})
				checkText(t, api.Instr{Op: op, D: r, Imm: wild})
				checkText(t, api.Instr{Op: op, A: r, Imm: wild})
				checkText(t, api.Instr{Op: op, Imm: wild})
			}
		}
	}
}

func TestParseOfEachFormOfWords(t *testing.T) { // P10.1: each name, with each word in each place
	words := []string{"r0", "r1", "r9", "r10", "r15", "r16", "r01", "r", "r-1", "R1", "0", "1", "-1", "-0", "8", "9", "31", "32", "00", "8191", "8192", "-8192", "-8193", "+1", "halt", "-r1", ""}
	names := []string{".word", "", "addr", "ADD", "r1", "0", "x"}
	for _, s := range shapes {
		names = append(names, s.name)
	}
	for _, name := range names {
		checkParse(t, name)
		for _, a := range words {
			checkParse(t, name+" "+a)
			for _, b := range words {
				checkParse(t, name+" "+a+" "+b)
				for _, c := range words {
					checkParse(t, name+" "+a+" "+b+" "+c)
				}
			}
		}
		for _, four := range []string{" r1 r2 r3 r4", " r1 r2 r3 4", " r1 r2 3 4", " r1 r2 3 r4", " 0 0 0 0", "    "} {
			checkParse(t, name+four)
		}
	}
}

func TestParseOfAllNumbers(t *testing.T) { // P10.1: texts of four digits and less, with what may stand ahead of them
	digits := []string{""}
	for range 4 {
		for _, s := range digits {
			for _, d := range "0189" {
				digits = append(digits, s+string(d))
			}
		}
	}
	slices.Sort(digits)
	for _, s := range slices.Compact(digits) {
		for _, ahead := range []string{"addi r1 r2 ", "addi r1 r2 -", "addi r1 r2 --", "addi r1 r2 r", "shli r1 r2 ", "csrr r1 ", "csrr r", "jal r", "jal r0 "} {
			checkParse(t, ahead+s)
			checkParse(t, ahead+s+" 1")
		}
	}
}

func TestChangedTexts(t *testing.T) { // P10.1: each byte of some texts as each other one, gone, or with one ahead of it
	for _, s := range []string{"addi r1 r2 -1", "add r15 r0 r3", "sw r1 r12 80", "halt", "csrr r2 8", "lui r4 -8192", "shli r9 r9 31", "bltu r10 r9 100", "brk"} {
		checkParse(t, s)
		for at := range s {
			checkParse(t, s[:at]+s[at+1:])
			for b := range 256 {
				checkParse(t, s[:at]+string([]byte{byte(b)})+s[at+1:])
				checkParse(t, s[:at]+string([]byte{byte(b)})+s[at:])
			}
		}
		for b := range 256 {
			checkParse(t, s+string([]byte{byte(b)}))
		}
	}
}

func TestEachRightInstructionHasOneText(t *testing.T) { // P10.3
	texts := make(map[string]api.Instr)
	all := someRight([]int{0, 1, 9, 10, 11, 15}, []int{-8192, -819, -10, -1, 0, 1, 8, 10, 31, 81, 819, 8191})
	for _, i := range all {
		s, e := asm.Text(i)
		if other, is := texts[s]; e != api.OK || is && other != i {
			t.Fatalf("%q is the text of %v and of %v (%d)", s, other, i, e)
		}
		texts[s] = i
	}
	for s, i := range texts {
		if back, e := asm.Parse(s); back != i || e != api.OK {
			t.Fatalf("Parse(%q): %v %d, not %v", s, back, e, i)
		}
	}
}

func TestListByHand(t *testing.T) { // P10.2
	rows := []struct {
		l []uint32
		s string
	}{
		{nil, ""},
		{[]uint32{}, ""},
		{[]uint32{40}, "halt\n"},
		{[]uint32{40, 0}, "halt\n.word 0\n"},
		{[]uint32{0xFFFFFFFF, 0xFFFC084E, 42}, ".word 4294967295\naddi r1 r2 -1\n.word 42\n"},
		{[]uint32{1, 0x40001, 0x68}, "add r0 r0 r0\n.word 262145\n.word 104\n"},
	}
	for _, r := range rows {
		if s, e := asm.List(r.l); s != r.s || e != api.OK {
			t.Errorf("List(%x): %q %d, not %q", r.l, s, e, r.s)
		}
		if l, e, at := asm.Program(r.s); !slices.Equal(l, r.l) || e != api.OK || at != 0 {
			t.Errorf("Program(%q): %x %d %d, not %x", r.s, l, e, at, r.l)
		}
	}
}

func TestListOfManyWords(t *testing.T) { // P10.2, P10.3
	all := append(row(1, 20000), 0, 1, 41, 42, 63, 64, 1<<31-1, 1<<31, 0xFFFFFFFF)
	for op := range uint32(64) {
		for _, w := range row(uint64(op), 100) {
			all = append(all, op|w&^63, op|w&0x3FC0, op|w&0xFFFC0000, op|w&0xFFFC3FC0, op|w&0x3FFC0, op)
		}
	}
	for l := range slices.Chunk(all, 500) {
		checkList(t, l)
	}
}

func TestListOfRightInstructions(t *testing.T) { // P10.2, P10.3
	var words []uint32
	for _, i := range someRight([]int{0, 7, 15}, []int{-8192, -1, 0, 5, 8191}) {
		w, _ := isa.Encode(i)
		words = append(words, w)
	}
	for l := range slices.Chunk(words, 100) {
		checkList(t, l)
	}
}

func TestHowLongLists(t *testing.T) { // P10.2, P2: MaxLines2 of the longest texts are read as well
	longest, _ := isa.Encode(api.Instr{Op: api.OpAddi, D: 15, A: 15, Imm: -8192})
	for _, n := range []int{0, 1, 2, api.MaxLines2 - 1, api.MaxLines2} {
		checkList(t, slices.Repeat([]uint32{longest}, n))
		checkList(t, slices.Repeat([]uint32{0xFFFFFFFF}, n))
		checkList(t, row(uint64(n), n))
	}
	for _, n := range []int{api.MaxLines2 + 1, api.MaxLines2 + 2, 2 * api.MaxLines2, 1 << 16} {
		if s, e := asm.List(make([]uint32, n)); s != "" || e != api.ErrLong {
			t.Errorf("List of %d words: %q %d", n, s, e)
		}
	}
}

func TestProgramsByHand(t *testing.T) { // P10.2, P2
	rows := []struct {
		s     string
		l     []uint32
		errno api.Errno
		at    int
	}{
		{"", nil, api.OK, 0},
		{"halt\n", []uint32{0x28}, api.OK, 0},
		{"halt\n.word 4294967295\n", []uint32{0x28, 0xFFFFFFFF}, api.OK, 0},
		{".word 40\n", []uint32{0x28}, api.OK, 0}, // of an instruction too
		{".word 0\n.word 1\n.word 4294901838\n", []uint32{0, 1, 0xFFFF004E}, api.OK, 0},
		{"addi r1 r2 -1\nbrk\nadd r0 r0 r0\n", []uint32{0xFFFC084E, 0x29, 1}, api.OK, 0},
		{"halt", nil, api.ErrForm, 1},
		{"halt\nhalt", nil, api.ErrForm, 2},
		{"halt\n ", nil, api.ErrForm, 2},
		{"\n", nil, api.ErrForm, 1},
		{"\nhalt\n", nil, api.ErrForm, 1},
		{"halt\n\n", nil, api.ErrForm, 2},
		{"halt\n\nhalt\n", nil, api.ErrForm, 2},
		{"halt \nhalt\n", nil, api.ErrForm, 1},
		{"halt\nhalt r1\nx\n", nil, api.ErrForm, 2}, // the first one counts
		{"halt\nx\nhalt", nil, api.ErrForm, 2},
		{"x", nil, api.ErrForm, 1},
		{"halt\r\n", nil, api.ErrForm, 1},
		{"halt\x00\n", nil, api.ErrForm, 1},
		{"halt;halt\n", nil, api.ErrForm, 1},
		{".word\n", nil, api.ErrForm, 1},
		{".word \n", nil, api.ErrForm, 1},
		{".word 1", nil, api.ErrForm, 1},
		{".word 4294967296\n", nil, api.ErrForm, 1},
		{"addi r1 r2 8192\n", nil, api.ErrForm, 1},
	}
	for _, r := range rows {
		if l, e, at := asm.Program(r.s); !slices.Equal(l, r.l) || e != r.errno || at != r.at {
			t.Errorf("Program(%q): %x %d %d, not %x %d %d", r.s, l, e, at, r.l, r.errno, r.at)
		}
		if l, e, at := programOf(r.s); !slices.Equal(l, r.l) || e != r.errno || at != r.at {
			t.Errorf("the tests' %q: %x %d %d, not %x %d %d", r.s, l, e, at, r.l, r.errno, r.at)
		}
	}
}

func TestPlainWords(t *testing.T) { // P10.2, P6
	for _, n := range []uint32{0, 1, 9, 10, 99, 100, 999999999, 1000000000, 1<<31 - 1, 1 << 31, 4294967294, 4294967295} {
		s := fmt.Sprintf(".word %d\n", n)
		if l, e, at := asm.Program(s); !slices.Equal(l, []uint32{n}) || e != api.OK || at != 0 {
			t.Errorf("Program(%q): %x %d %d", s, l, e, at)
		}
	}
	wrong := []string{
		"", "00", "01", "-0", "-1", "+1", "+0", "1 ", " 1", "1 1", "1.", "1_0", "0x1", "0b1", "0o1", "1e3", "x", "r1", "１", "٣", "1\x00", "1\r", "\xff", "a",
		"4294967296", "4294967297", "5000000000", "04294967295", "9999999999", "10000000000", "42949672950", "18446744073709551615", "18446744073709551616", "18446744073709551617", "340282366920938463463374607431768211456", strings.Repeat("1", 100),
	}
	for _, n := range wrong {
		if l, e, at := asm.Program(".word " + n + "\n"); l != nil || e != api.ErrForm || at != 1 {
			t.Errorf("Program of .word %q: %x %d %d", n, l, e, at)
		}
	}
	for _, s := range []string{".word", ".word\t1", ".word1", "word 1", ".Word 1", ".WORD 1", " .word 1", ".word  1", "..word 1", ".words 1", ".word\n1"} {
		if l, e, at := asm.Program(s + "\n"); l != nil || e != api.ErrForm || at != 1 {
			t.Errorf("Program(%q): %x %d %d", s, l, e, at)
		}
	}
}

func TestEachByteOfPrograms(t *testing.T) { // P10.2: as each other one, gone, or with one ahead of it
	const s = "halt\n.word 4294967295\naddi r1 r2 -1\n.word 0\nsw r1 r2 8\n"
	checkProgram(t, s)
	for at := range s {
		checkProgram(t, s[:at])
		checkProgram(t, s[at:])
		checkProgram(t, s[:at]+s[at+1:])
		for b := range 256 {
			checkProgram(t, s[:at]+string([]byte{byte(b)})+s[at+1:])
			checkProgram(t, s[:at]+string([]byte{byte(b)})+s[at:])
		}
	}
}

func TestProgramsOfEachRowOfLines(t *testing.T) { // P10.2: up to four, right and wrong, the last one with and without an end
	lines := []string{"halt", ".word 7", "add r1 r2 r3", "", "halt r1", ".word 01"}
	var texts []string
	var each func(s string, most int)
	each = func(s string, most int) {
		texts = append(texts, s)
		if most == 0 {
			return
		}
		for _, l := range lines {
			texts = append(texts, s+l)
			each(s+l+"\n", most-1)
		}
	}
	each("", 4)
	for _, s := range texts {
		checkProgram(t, s)
	}
}

func TestWrongLineAtEachPlace(t *testing.T) { // P10.2
	for _, n := range []int{1, 2, 3, 100, api.MaxLines2 - 1, api.MaxLines2} {
		for at := 1; at <= n; at++ {
			s := strings.Repeat("brk\n", at-1) + "bra\n" + strings.Repeat("brk\n", n-at)
			if l, e, place := asm.Program(s); l != nil || e != api.ErrForm || place != at {
				t.Fatalf("Program of %d lines, of which %d is wrong: %x %d %d", n, at, l, e, place)
			}
		}
	}
}

func TestHowManyLines(t *testing.T) { // P10.2, P2: ErrLong goes ahead of ErrForm; a last line without an end counts
	for _, line := range []string{"halt\n", ".word 1\n", "\n", "x\n", "addi r15 r15 -8192\n"} {
		for _, n := range []int{0, 1, api.MaxLines2 - 2, api.MaxLines2 - 1, api.MaxLines2, api.MaxLines2 + 1, 2 * api.MaxLines2} {
			for _, rest := range []string{"", "h", "halt", " ", "x"} {
				checkProgram(t, strings.Repeat(line, n)+rest)
			}
		}
	}
	full := strings.Repeat("halt\n", api.MaxLines2)
	rows := []struct {
		s     string
		n     int
		errno api.Errno
		at    int
	}{
		{full, api.MaxLines2, api.OK, 0},
		{full[:len(full)-1], 0, api.ErrForm, api.MaxLines2},
		{full + "halt\n", 0, api.ErrLong, 0},
		{full + "halt", 0, api.ErrLong, 0},
		{full + "\n", 0, api.ErrLong, 0},
		{"x" + full + "\n", 0, api.ErrLong, 0},
		{"x" + full, 0, api.ErrForm, 1},
	}
	for _, r := range rows {
		if l, e, at := asm.Program(r.s); len(l) != r.n || e != r.errno || at != r.at {
			t.Errorf("Program of %d bytes, %d ends: %d words, %d %d, not %d, %d %d", len(r.s), strings.Count(r.s, "\n"), len(l), e, at, r.n, r.errno, r.at)
		}
	}
}

func TestHowManyBytes(t *testing.T) { // P10.2, P2: a text of MaxText bytes has a line that can't be, but is not too long
	rows := []struct {
		s     string
		errno api.Errno
		at    int
	}{
		{strings.Repeat("x", api.MaxText-1), api.ErrForm, 1},
		{strings.Repeat("x", api.MaxText), api.ErrForm, 1},
		{strings.Repeat("x", api.MaxText+1), api.ErrLong, 0},
		{"halt\n" + strings.Repeat(" ", api.MaxText-6) + "\n", api.ErrForm, 2},
		{"halt\n" + strings.Repeat(" ", api.MaxText-5) + "\n", api.ErrLong, 0},
		{"halt\n.word " + strings.Repeat("0", api.MaxText-12) + "\n", api.ErrForm, 2},
		{"halt\n.word " + strings.Repeat("0", api.MaxText-11) + "\n", api.ErrLong, 0},
		{strings.Repeat("\n", api.MaxText), api.ErrLong, 0}, // by its lines
		{strings.Repeat("\n", api.MaxText+1), api.ErrLong, 0},
	}
	for _, r := range rows {
		if l, e, at := asm.Program(r.s); l != nil || e != r.errno || at != r.at {
			t.Errorf("Program of %d bytes: %x %d %d, not %d %d", len(r.s), l, e, at, r.errno, r.at)
		}
	}
}

func TestParseOfLongTexts(t *testing.T) { // P10.1: what is no text is none at any length
	for _, n := range []int{api.MaxText - 5, api.MaxText - 4, api.MaxText, 1 << 20} {
		for _, s := range []string{"halt" + strings.Repeat(" ", n), strings.Repeat("halt ", n/5), "lui r1 " + strings.Repeat("0", n), "lui r" + strings.Repeat("0", n) + "1 1", "lui r1 -" + strings.Repeat("0", n) + "1", strings.Repeat("add ", n/4) + "r1 r1 r1"} {
			if i, e := asm.Parse(s); i != (api.Instr{}) || e != api.ErrForm {
				t.Errorf("Parse of %d bytes %.20q: %v %d", len(s), s, i, e)
			}
		}
	}
}

func TestNilAndEmptyLists(t *testing.T) { // P3
	a, e := asm.List(nil)
	b, f := asm.List([]uint32{})
	if a != b || e != f || a != "" || e != api.OK {
		t.Errorf("List: %q %d of nil, %q %d of an empty one", a, e, b, f)
	}
	if l, e, at := asm.Program(""); len(l) != 0 || e != api.OK || at != 0 {
		t.Errorf("Program of nothing: %x %d %d", l, e, at)
	}
}

func TestListsAreNotKept(t *testing.T) { // P4
	l := []uint32{40, 0, 0xFFFC084E, 41}
	want := slices.Clone(l)
	s, _ := asm.List(l[:2])
	if !slices.Equal(l, want) {
		t.Errorf("List changed what it was handed: %x", l)
	}
	l[0], l[1] = 7, 8
	if again, _ := asm.List(want[:2]); again != s {
		t.Errorf("List: %q, then %q", s, again)
	}
	first, _, _ := asm.Program(s)
	first[0] = 9
	first = append(first, 10)
	if second, _, _ := asm.Program(s); !slices.Equal(second, want[:2]) || len(first) != 3 {
		t.Errorf("Program, behind a change of its first answer: %x", second)
	}
}

func TestAnswersHangOnArgumentsAlone(t *testing.T) { // P5: in any order, and many at once
	words := append(row(2, 400), 40, 0, 0xFFFC084E, 41)
	type answer struct {
		text, list string
		instr      api.Instr
	}
	answers := func(l []uint32) map[uint32]answer {
		of := make(map[uint32]answer)
		for _, w := range l {
			asm.Program(fmt.Sprintf("halt\n.word %d", w))
			var a answer
			i, _ := isa.Decode(w)
			a.text, _ = asm.Text(i)
			a.instr, _ = asm.Parse(a.text)
			a.list, _ = asm.List([]uint32{w, ^w})
			of[w] = a
		}
		return of
	}
	want := answers(words)
	backward := slices.Clone(words)
	slices.Reverse(backward)
	var wait sync.WaitGroup
	for n := range 8 {
		wait.Go(func() {
			l := words
			if n%2 == 1 {
				l = backward
			}
			for w, got := range answers(l) {
				if got != want[w] {
					t.Errorf("%x: %v, then %v", w, want[w], got)
				}
			}
		})
	}
	wait.Wait()
}

// TestAnyArguments calls all with all wild arguments: that none panics is what it asks (P1), and that an error has nothing beside it (P2).
func TestAnyArguments(t *testing.T) {
	for _, s := range wildTexts {
		if i, e := asm.Parse(s); e != api.OK && i != (api.Instr{}) {
			t.Errorf("Parse(%.60q): %v %d", s, i, e)
		}
		for _, text := range []string{s, s + "\n", "halt\n" + s, s + "\nhalt\n", s + s} {
			l, e, at := asm.Program(text)
			if e != api.OK && l != nil || (e == api.ErrForm) != (at > 0) || at > api.MaxLines2 {
				t.Errorf("Program(%.60q): %x %d %d", text, l, e, at)
			}
		}
	}
	for _, op := range append([]int{1, 14, 22, 26, 37, 40, 41}, wildOps...) {
		for _, r := range wildRegisters {
			for _, n := range wildNumbers {
				if s, e := asm.Text(api.Instr{Op: op, D: r, A: r, B: r, Imm: n}); (e == api.OK) == (s == "") {
					t.Errorf("Text of %d %d %d: %q %d", op, r, n, s, e)
				}
			}
		}
	}
}
