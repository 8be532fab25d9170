package alu_test

import (
	"math"
	"slices"
	"sync"
	"testing"

	"hermitage/alu"
	"hermitage/api"
)

const words = 1 << 32 // how many words there are

var (
	wild = []uint32{
		0, 1, 2, 3, 4, 7, 10, 15, 16, 30, 31, 32, 33, 63, 64, 65, 95, 96, 100, 127, 128, 255, 256, 257, 1000, 0x7FFF, 0x8000, 0xFFFF, 0x10000, 0x10001,
		0x12345678, 0x33333333, 0x55555555, 0x3FFFFFFF, 0x40000000, 0x7FFFFFFE, 0x7FFFFFFF, 0x80000000, 0x80000001, 0xA5A5A5A5, 0xAAAAAAAA, 0xC0000000,
		0xDEADBEEF, 0xFFFF0000, 0xFFFF7FFF, 0xFFFFFF80, 0xFFFFFFE0, 0xFFFFFFE1, 0xFFFFFFFD, 0xFFFFFFFE, 0xFFFFFFFF,
	}
	wildOps = []int{-1, -2, -13, api.MaxOp + 1, 42, 63, 64, 100, 127, 128, 255, 256, 256 + api.OpAdd, 1 << 16, 1<<16 + 1, 1<<32 + api.OpAdd, 1<<32 + api.OpBeq, 1<<32 + api.OpAddi, math.MinInt32, math.MaxInt32, math.MinInt, math.MinInt + api.OpAdd, math.MaxInt, math.MaxInt - 1}

	// reckoned is each operation by its definition, in numbers that have room for all of it.
	reckoned = map[int]func(a, b uint32) uint32{
		api.OpAdd:  func(a, b uint32) uint32 { return uint32((uint64(a) + uint64(b)) % words) },
		api.OpSub:  func(a, b uint32) uint32 { return uint32((words + uint64(a) - uint64(b)) % words) },
		api.OpAnd:  bitByBit(func(x, y bool) bool { return x && y }),
		api.OpOr:   bitByBit(func(x, y bool) bool { return x || y }),
		api.OpXor:  bitByBit(func(x, y bool) bool { return x != y }),
		api.OpShl:  func(a, b uint32) uint32 { return uint32(uint64(a) * power(b) % words) },
		api.OpShr:  func(a, b uint32) uint32 { return uint32(uint64(a) / power(b)) },
		api.OpSar:  func(a, b uint32) uint32 { return uint32((words + floor(signed(a), int64(power(b)))) % words) },
		api.OpSlt:  func(a, b uint32) uint32 { return count(signed(a) < signed(b)) },
		api.OpSltu: func(a, b uint32) uint32 { return count(uint64(a) < uint64(b)) },
		api.OpMul:  func(a, b uint32) uint32 { return uint32(uint64(a) * uint64(b) % words) },
		api.OpDivu: func(a, b uint32) uint32 {
			if b == 0 {
				return words - 1
			}
			return a / b
		},
		api.OpRemu: func(a, b uint32) uint32 {
			if b == 0 {
				return a
			}
			return a % b
		},
	}
	asked = map[int]func(a, b uint32) bool{
		api.OpBeq:  func(a, b uint32) bool { return a == b },
		api.OpBne:  func(a, b uint32) bool { return a != b },
		api.OpBlt:  func(a, b uint32) bool { return signed(a) < signed(b) },
		api.OpBltu: func(a, b uint32) bool { return uint64(a) < uint64(b) },
	}
	withNumber = map[int]int{
		api.OpAddi: api.OpAdd, api.OpAndi: api.OpAnd, api.OpOri: api.OpOr, api.OpXori: api.OpXor,
		api.OpShli: api.OpShl, api.OpShri: api.OpShr, api.OpSari: api.OpSar, api.OpSlti: api.OpSlt,
	}
)

// bitByBit puts a word together out of what each two bits come to.
func bitByBit(of func(x, y bool) bool) func(a, b uint32) uint32 {
	return func(a, b uint32) uint32 {
		var sum uint32
		for worth := uint64(1); worth < words; worth *= 2 {
			if of(uint64(a)/worth%2 == 1, uint64(b)/worth%2 == 1) {
				sum += uint32(worth)
			}
		}
		return sum
	}
}

// power is 2 to b modulo 32.
func power(b uint32) uint64 {
	p := uint64(1)
	for range b % 32 {
		p *= 2
	}
	return p
}

// signed is a's number in two's complement.
func signed(a uint32) int64 {
	if a >= words/2 {
		return int64(a) - words
	}
	return int64(a)
}

// floor is the greatest number that is at most n by d.
func floor(n, d int64) int64 {
	if n < 0 {
		return -((-n + d - 1) / d)
	}
	return n / d
}

func count(is bool) uint32 {
	if is {
		return 1
	}
	return 0
}

// row is n words that look like chance, the same ones for the same seed.
func row(seed uint64, n int) []uint32 {
	l := make([]uint32, n)
	for i := range l {
		seed = seed*6364136223846793005 + 1442695040888963407
		l[i] = uint32(seed>>33) >> (seed >> 59) // some of them small
	}
	return l
}

// allOps is each operation, and a good many numbers that are none.
func allOps() []int {
	ops := slices.Clone(wildOps)
	for op := -70; op < 300; op++ {
		ops = append(ops, op)
	}
	return ops
}

func checkDo(t *testing.T, op int, a, b uint32) {
	t.Helper()
	if v, e := alu.Do(op, a, b); v != reckoned[op](a, b) || e != api.OK {
		t.Errorf("Do(%d, %x, %x): %x %d, not %x", op, a, b, v, e, reckoned[op](a, b))
	}
}

func checkTaken(t *testing.T, op int, a, b uint32) {
	t.Helper()
	if is, e := alu.Taken(op, a, b); is != asked[op](a, b) || e != api.OK {
		t.Errorf("Taken(%d, %x, %x): %v %d, not %v", op, a, b, is, e, asked[op](a, b))
	}
}

func TestDo(t *testing.T) { // P8.1: each operation of each two wild words
	for op := range reckoned {
		for _, a := range wild {
			for _, b := range wild {
				checkDo(t, op, a, b)
			}
		}
	}
}

func TestDoOfManyWords(t *testing.T) { // P8.1
	as, bs := row(1, 5000), row(2, 5000)
	for i := range as {
		for op := range reckoned {
			checkDo(t, op, as[i], bs[i])
			checkDo(t, op, as[i]<<16, bs[i])
			checkDo(t, op, ^as[i], bs[i])
			checkDo(t, op, as[i], ^bs[i])
		}
	}
}

func TestDoOfSmallWords(t *testing.T) { // P8.1: all about 0, and about the least number with a sign
	for a := range uint32(64) {
		for b := range uint32(64) {
			for op := range reckoned {
				checkDo(t, op, a, b)
				checkDo(t, op, a-32, b-32)
				checkDo(t, op, a+0x7FFFFFE0, b+0x7FFFFFE0)
				checkDo(t, op, a+0x7FFFFFE0, b-32)
			}
		}
	}
}

// TestDoByHand holds what was reckoned by hand: the tests' own reckoning is held by it too.
func TestDoByHand(t *testing.T) { // P8.1
	rows := []struct {
		op         int
		a, b, want uint32
	}{
		{api.OpAdd, 2, 3, 5}, {api.OpAdd, 0xFFFFFFFF, 1, 0}, {api.OpAdd, 0x80000000, 0x80000000, 0}, {api.OpAdd, 0xFFFFFFFF, 0xFFFFFFFF, 0xFFFFFFFE},
		{api.OpSub, 3, 2, 1}, {api.OpSub, 2, 3, 0xFFFFFFFF}, {api.OpSub, 0, 0x80000000, 0x80000000}, {api.OpSub, 0, 0, 0}, {api.OpSub, 0, 0xFFFFFFFF, 1},
		{api.OpAnd, 12, 10, 8}, {api.OpOr, 12, 10, 14}, {api.OpXor, 12, 10, 6}, {api.OpXor, 0xFFFFFFFF, 0x0F0F0F0F, 0xF0F0F0F0},
		{api.OpShl, 1, 31, 0x80000000}, {api.OpShl, 1, 32, 1}, {api.OpShl, 1, 33, 2}, {api.OpShl, 3, 31, 0x80000000}, {api.OpShl, 5, 0xFFFFFFFF, 0x80000000},
		{api.OpShr, 0x80000000, 31, 1}, {api.OpShr, 0x80000000, 32, 0x80000000}, {api.OpShr, 0xFFFFFFFF, 33, 0x7FFFFFFF}, {api.OpShr, 0xFFFFFFFF, 0xFFFFFFE4, 0x0FFFFFFF},
		{api.OpSar, 0x80000000, 33, 0xC0000000}, {api.OpSar, 0x80000000, 31, 0xFFFFFFFF}, {api.OpSar, 0x7FFFFFFF, 31, 0}, {api.OpSar, 0xFFFFFFFF, 4, 0xFFFFFFFF}, {api.OpSar, 0x40000000, 30, 1}, {api.OpSar, 0x80000001, 64, 0x80000001},
		{api.OpSlt, 0xFFFFFFFF, 0, 1}, {api.OpSlt, 0, 0xFFFFFFFF, 0}, {api.OpSlt, 0x80000000, 0x7FFFFFFF, 1}, {api.OpSlt, 0x7FFFFFFF, 0x80000000, 0}, {api.OpSlt, 5, 5, 0}, {api.OpSlt, 0x80000000, 0xFFFFFFFF, 1},
		{api.OpSltu, 0xFFFFFFFF, 0, 0}, {api.OpSltu, 0, 0xFFFFFFFF, 1}, {api.OpSltu, 0x80000000, 0x7FFFFFFF, 0}, {api.OpSltu, 5, 5, 0}, {api.OpSltu, 5, 6, 1},
		{api.OpMul, 6, 7, 42}, {api.OpMul, 0xFFFFFFFF, 0xFFFFFFFF, 1}, {api.OpMul, 0x10000, 0x10000, 0}, {api.OpMul, 1 << 31, 3, 1 << 31}, {api.OpMul, 3, 1 << 31, 1 << 31}, {api.OpMul, 0xFFFF, 0x10001, 0xFFFFFFFF},
		{api.OpDivu, 7, 0, 0xFFFFFFFF}, {api.OpDivu, 0, 0, 0xFFFFFFFF}, {api.OpDivu, 0xFFFFFFFF, 0, 0xFFFFFFFF}, {api.OpDivu, 7, 2, 3}, {api.OpDivu, 0xFFFFFFFF, 2, 0x7FFFFFFF}, {api.OpDivu, 0x80000000, 0xFFFFFFFF, 0}, {api.OpDivu, 0xFFFFFFFF, 0xFFFFFFFE, 1}, {api.OpDivu, 0, 5, 0},
		{api.OpRemu, 7, 0, 7}, {api.OpRemu, 0, 0, 0}, {api.OpRemu, 0xFFFFFFFF, 0, 0xFFFFFFFF}, {api.OpRemu, 7, 4, 3}, {api.OpRemu, 0x80000000, 0xFFFFFFFF, 0x80000000}, {api.OpRemu, 0xFFFFFFFF, 0xFFFFFFFE, 1}, {api.OpRemu, 0xFFFFFFFF, 0x80000001, 0x7FFFFFFE},
	}
	for _, r := range rows {
		if v, e := alu.Do(r.op, r.a, r.b); v != r.want || e != api.OK {
			t.Errorf("Do(%d, %x, %x): %x %d, not %x", r.op, r.a, r.b, v, e, r.want)
		}
		if v := reckoned[r.op](r.a, r.b); v != r.want {
			t.Errorf("the tests reckon %d of %x, %x as %x, not %x", r.op, r.a, r.b, v, r.want)
		}
	}
}

func TestDoOfNoOperation(t *testing.T) { // P8.1, P2, P6
	for _, op := range allOps() {
		if op >= api.OpAdd && op <= api.OpRemu {
			continue
		}
		for _, a := range []uint32{0, 1, 7, 0x80000000, 0xFFFFFFFF} {
			for _, b := range []uint32{0, 1, 7, 0x80000000, 0xFFFFFFFF} {
				if v, e := alu.Do(op, a, b); v != 0 || e != api.ErrArg {
					t.Errorf("Do(%d, %x, %x): %x %d", op, a, b, v, e)
				}
			}
		}
	}
}

func TestDoGoesOverAllOperations(t *testing.T) { // P8.1: none between the first and the last is left out
	for op := api.OpAdd; op <= api.OpRemu; op++ {
		if reckoned[op] == nil {
			t.Fatalf("no test reckons %d", op)
		}
		checkDo(t, op, 0xDEADBEEF, 0x12345)
	}
	if len(reckoned) != 13 || len(asked) != 4 {
		t.Errorf("the tests reckon %d operations, ask %d", len(reckoned), len(asked))
	}
}

func TestShiftsGoRound(t *testing.T) { // P8.1: by b modulo 32 places
	for _, a := range wild {
		for b := range uint32(32) {
			for _, round := range []uint32{32, 64, 1024, 0x80000000, 0xFFFFFFE0} {
				for _, op := range []int{api.OpShl, api.OpShr, api.OpSar} {
					checkDo(t, op, a, b)
					checkDo(t, op, a, b+round)
				}
			}
		}
	}
}

func TestTaken(t *testing.T) { // P8.2
	for op := range asked {
		for _, a := range wild {
			for _, b := range wild {
				checkTaken(t, op, a, b)
			}
			checkTaken(t, op, a, a+1)
			checkTaken(t, op, a, a-1)
			for place := range 32 {
				checkTaken(t, op, a, a^1<<place)
			}
		}
	}
	as, bs := row(3, 2000), row(4, 2000)
	for i := range as {
		for op := range asked {
			checkTaken(t, op, as[i], bs[i])
			checkTaken(t, op, ^as[i], bs[i])
			checkTaken(t, op, as[i], ^bs[i])
		}
	}
}

func TestTakenByHand(t *testing.T) { // P8.2
	rows := []struct {
		a, b                 uint32
		same, not, less, lsu bool
	}{
		{0, 0, true, false, false, false}, {0, 1, false, true, true, true}, {1, 0, false, true, false, false}, {7, 7, true, false, false, false},
		{0xFFFFFFFF, 0, false, true, true, false}, {0, 0xFFFFFFFF, false, true, false, true}, {0xFFFFFFFF, 0xFFFFFFFF, true, false, false, false},
		{0x80000000, 0x7FFFFFFF, false, true, true, false}, {0x7FFFFFFF, 0x80000000, false, true, false, true}, {0x80000000, 0x80000000, true, false, false, false},
		{0x80000000, 0xFFFFFFFF, false, true, true, true}, {0xFFFFFFFF, 0x80000000, false, true, false, false}, {0x80000000, 0, false, true, true, false},
	}
	for _, r := range rows {
		for op, want := range map[int]bool{api.OpBeq: r.same, api.OpBne: r.not, api.OpBlt: r.less, api.OpBltu: r.lsu} {
			if is, e := alu.Taken(op, r.a, r.b); is != want || e != api.OK {
				t.Errorf("Taken(%d, %x, %x): %v %d, not %v", op, r.a, r.b, is, e, want)
			}
		}
	}
}

func TestTakenOfNoOperation(t *testing.T) { // P8.2, P2, P6
	for _, op := range allOps() {
		if op >= api.OpBeq && op <= api.OpBltu {
			continue
		}
		for _, a := range []uint32{0, 1, 0x80000000, 0xFFFFFFFF} {
			for _, b := range []uint32{0, 1, 0x80000000, 0xFFFFFFFF} {
				if is, e := alu.Taken(op, a, b); is || e != api.ErrArg {
					t.Errorf("Taken(%d, %x, %x): %v %d", op, a, b, is, e)
				}
			}
		}
	}
}

func TestPlain(t *testing.T) { // P8.3, P6: of each with a number, and of none else
	for _, op := range allOps() {
		want, is := withNumber[op]
		if got, ok := alu.Plain(op); got != want || ok != is {
			t.Errorf("Plain(%d): %d %v, not %d %v", op, got, ok, want, is)
		}
	}
	for op := api.OpAddi; op <= api.OpSlti; op++ {
		plain, ok := alu.Plain(op)
		if _, e := alu.Do(plain, 1, 2); !ok || e != api.OK {
			t.Errorf("Plain(%d): %d %v, and Do of it %d", op, plain, ok, e)
		}
	}
}

func TestUpper(t *testing.T) { // P8.3
	rows := []struct {
		imm  int
		want uint32
	}{
		{0, 0}, {1, 0x40000}, {2, 0x80000}, {3, 0xC0000}, {1 << 12, 0x40000000}, {1<<13 - 1, 0x7FFC0000}, {1 << 13, 0x80000000}, {1<<14 - 1, 0xFFFC0000}, {1 << 14, 0}, {1<<14 + 1, 0x40000},
		{-1, 0xFFFC0000}, {-2, 0xFFF80000}, {-1 << 13, 0x80000000}, {-1<<13 - 1, 0x7FFC0000}, {-1 << 14, 0}, {-1<<14 - 1, 0xFFFC0000},
		{math.MaxInt, 0xFFFC0000}, {math.MaxInt - 1, 0xFFF80000}, {math.MinInt, 0}, {math.MinInt + 1, 0x40000}, {math.MaxInt32, 0xFFFC0000}, {math.MinInt32, 0}, {1 << 32, 0}, {1<<32 + 5, 0x140000},
	}
	for _, r := range rows {
		if got := alu.Upper(r.imm); got != r.want {
			t.Errorf("Upper(%d): %x, not %x", r.imm, got, r.want)
		}
	}
}

func TestUpperOfEachNumber(t *testing.T) { // P8.3: the lowest 14 bits alone
	for low := range 1 << 14 {
		want := uint32(low * (1 << 18))
		for _, above := range []int{0, 1 << 14, -1 << 14, 1 << 20, -1 << 31, 1 << 40, math.MinInt} {
			if got := alu.Upper(low + above); got != want {
				t.Fatalf("Upper(%d): %x, not %x", low+above, got, want)
			}
		}
	}
}

func do(t *testing.T, op int, a, b uint32) uint32 {
	t.Helper()
	v, e := alu.Do(op, a, b)
	if e != api.OK {
		t.Fatalf("Do(%d, %x, %x): %d", op, a, b, e)
	}
	return v
}

func TestWhatWasAddedIsTakenAway(t *testing.T) { // P8.4
	words := slices.Concat(wild, row(5, 300))
	for _, a := range words {
		for _, b := range words {
			if got := do(t, api.OpSub, do(t, api.OpAdd, a, b), b); got != a {
				t.Errorf("%x and %x, less it: %x", a, b, got)
			}
			if got := do(t, api.OpAdd, do(t, api.OpSub, a, b), b); got != a {
				t.Errorf("%x less %x, and it: %x", a, b, got)
			}
			if got := do(t, api.OpXor, do(t, api.OpXor, a, b), b); got != a {
				t.Errorf("%x and %x bit by bit, twice: %x", a, b, got)
			}
		}
	}
}

func TestQuotientAndRestMakeTheNumber(t *testing.T) { // P8.4: with 0 too, whose rest is all of it
	words := slices.Concat(wild, row(6, 300))
	for _, a := range words {
		for _, b := range words {
			quotient, rest := do(t, api.OpDivu, a, b), do(t, api.OpRemu, a, b)
			if got := do(t, api.OpAdd, do(t, api.OpMul, quotient, b), rest); got != a {
				t.Errorf("%x by %x: %x and %x, which make %x", a, b, quotient, rest, got)
			}
			if b != 0 && (rest >= b || uint64(quotient)*uint64(b)+uint64(rest) != uint64(a)) {
				t.Errorf("%x by %x: %x and %x", a, b, quotient, rest)
			}
		}
	}
}

func TestOperationsAndQuestionsAgree(t *testing.T) { // P8.1, P8.2
	for _, a := range wild {
		for _, b := range wild {
			less, _ := alu.Taken(api.OpBlt, a, b)
			below, _ := alu.Taken(api.OpBltu, a, b)
			same, _ := alu.Taken(api.OpBeq, a, b)
			differs, _ := alu.Taken(api.OpBne, a, b)
			if do(t, api.OpSlt, a, b) != count(less) || do(t, api.OpSltu, a, b) != count(below) || same == differs || same != (do(t, api.OpSub, a, b) == 0) {
				t.Errorf("of %x, %x: less %v, below %v, same %v, differs %v", a, b, less, below, same, differs)
			}
		}
	}
}

func TestAnswersHangOnArgumentsAlone(t *testing.T) { // P5: in any order, and many at once
	answers := func(backward bool) map[[3]uint32]uint32 {
		l := make(map[[3]uint32]uint32)
		ops := []int{1, 2, 3, 4, 5, 6, 7, 8, 9, 10, 11, 12, 13}
		if backward {
			slices.Reverse(ops)
		}
		for _, op := range ops {
			for _, a := range wild {
				alu.Do(op+13, a, a)
				alu.Taken(op, a, a)
				l[[3]uint32{uint32(op), a, ^a}], _ = alu.Do(op, a, ^a)
			}
		}
		return l
	}
	want := answers(false)
	var wait sync.WaitGroup
	for i := range 8 {
		wait.Go(func() {
			for k, v := range answers(i%2 == 1) {
				if want[k] != v {
					t.Errorf("Do(%v): %x, then %x", k, want[k], v)
				}
			}
		})
	}
	wait.Wait()
}

// TestAnyArguments calls all with all wild arguments: that none panics is what it asks (P1).
func TestAnyArguments(t *testing.T) {
	for _, op := range allOps() {
		for _, a := range wild {
			for _, b := range wild {
				alu.Do(op, a, b)
				alu.Taken(op, a, b)
			}
		}
		alu.Plain(op)
		alu.Upper(op)
	}
}
