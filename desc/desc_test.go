package desc_test

import (
	"math"
	"slices"
	"sync"
	"testing"

	"hermitage/api"
	"hermitage/desc"
)

// wild is numbers that parts and counts are tried with: the least and the greatest, those about each edge, and such as come to a right one if bits are cut off.
var wild = []int{
	math.MinInt, math.MinInt + 1, math.MinInt + 2, math.MinInt + 4, math.MinInt + 8, -1 << 32, -1<<32 + 1, -1<<32 + 2, -1<<32 + 4, math.MinInt32, math.MinInt32 + 2, -256, -254, -65, -64, -16, -9, -8, -7, -5, -4, -3, -2, -1,
	0, 1, 2, 3, 4, 5, 6, 7, 8, 9, 10, 12, 15, 16, 17, 32, 63, 64, 65, 128, 255, 256, 257, 258, 260, 264, 1 << 16, 1<<16 + 2, 1<<16 + 4, 1<<16 + 8, math.MaxInt32 - 1, math.MaxInt32, 1 << 31, 1<<31 + 2, math.MaxUint32 - 1, math.MaxUint32, 1 << 32, 1<<32 + 1, 1<<32 + 2, 1<<32 + 4, 1<<32 + 8, 1<<34 + 2, math.MaxInt - 1, math.MaxInt,
}

// words is numbers that words of descriptors, and places of queues, are tried with.
var words = []uint32{
	0, 1, 2, 3, 4, 5, 6, 7, 8, 9, 12, 15, 16, 31, 32, 63, 64, 65, 66, 67, 68, 127, 128, 255, 256, 257, 260, 0x7FFF, 0x8000, 0xFFFF, 0x10000, 0x10001, 0x10002, 0x12345678, 0x78563412, 0x1000000, 0x7FFFFFFE, 0x7FFFFFFF, 0x80000000, 0x80000001, 0x80000002, 0x80000004, 0xFFFFFFBF, 0xFFFFFFC0, 0xFFFFFFF8, 0xFFFFFFFC, 0xFFFFFFFD, 0xFFFFFFFE, 0xFFFFFFFF,
}

// sizes is how many descriptors a queue may have.
var sizes = []int{2, 4, 8}

// bytesOf is the bytes of d, by dividing, so that the tests reckon otherwise than the package does.
func bytesOf(d api.Desc) []byte {
	var b []byte
	for _, w := range []uint32{d.Addr, d.Len, d.Flags, d.Next} {
		for range 4 {
			b = append(b, byte(w%256))
			w /= 256
		}
	}
	return b
}

// numberOf is the number of four bytes, the lowest one first, by sums and products.
func numberOf(b []byte) uint32 {
	var w uint32
	for _, c := range slices.Backward(b) {
		w = w*256 + uint32(c)
	}
	return w
}

// wrongOf is what Check answers of d, by the chapter.
func wrongOf(d api.Desc, n int) int {
	switch {
	case d.Flags > 3:
		return api.XFlags
	case d.Len > 64:
		return api.XLen
	case d.Flags%2 == 1 && (n <= 0 || uint64(d.Next) >= uint64(n)):
		return api.XIndex
	}
	return api.XOk
}

// partsOf is the bytes of each part of a queue of n, by the chapter's sums.
func partsOf(n int) []int {
	if !slices.Contains(sizes, n) {
		return []int{0, 0, 0}
	}
	parts := []int{0, 4, 4}
	for range n {
		parts[0] += 16
		parts[1] += 4
		parts[2] += 8
	}
	return parts
}

// some is n bytes of which no two that are near are the same, and none is 0.
func some(n int) []byte {
	b := make([]byte, n)
	for i := range b {
		b[i] = byte(1 + i*37%255)
	}
	return b
}

// row is n words that look like chance, the same ones for the same seed.
func row(seed uint64, n int) []uint32 {
	l := make([]uint32, n)
	for i := range l {
		seed = seed*6364136223846793005 + 1442695040888963407
		l[i] = uint32(seed >> 32)
	}
	return l
}

// checkBytes holds Put of d, and Get of its bytes, against the chapter.
func checkBytes(t *testing.T, d api.Desc) {
	t.Helper()
	want := bytesOf(d)
	b := desc.Put(d)
	if !slices.Equal(b, want) {
		t.Fatalf("Put(%v): %v, not %v", d, b, want)
	}
	if got, e := desc.Get(want); got != d || e != api.OK {
		t.Fatalf("Get(%v): %v %d, not %v", want, got, e, d)
	}
	if !slices.Equal(want, bytesOf(d)) {
		t.Fatalf("Get of %v changed its argument: %v", d, want)
	}
}

func checkWrong(t *testing.T, d api.Desc, n int) {
	t.Helper()
	if got, want := desc.Check(d, n), wrongOf(d, n); got != want {
		t.Fatalf("Check(%v, %d): %d, not %d", d, n, got, want)
	}
}

func TestBytesByHand(t *testing.T) { // P21.1: the tests' own reckoning is held by it too
	rows := []struct {
		d api.Desc
		b []byte
	}{
		{api.Desc{}, []byte{0, 0, 0, 0, 0, 0, 0, 0, 0, 0, 0, 0, 0, 0, 0, 0}},
		{api.Desc{Addr: 64, Len: 16, Flags: 3, Next: 2}, []byte{64, 0, 0, 0, 16, 0, 0, 0, 3, 0, 0, 0, 2, 0, 0, 0}},
		{api.Desc{Addr: 1}, []byte{1, 0, 0, 0, 0, 0, 0, 0, 0, 0, 0, 0, 0, 0, 0, 0}},
		{api.Desc{Len: 1}, []byte{0, 0, 0, 0, 1, 0, 0, 0, 0, 0, 0, 0, 0, 0, 0, 0}},
		{api.Desc{Flags: 1}, []byte{0, 0, 0, 0, 0, 0, 0, 0, 1, 0, 0, 0, 0, 0, 0, 0}},
		{api.Desc{Next: 1}, []byte{0, 0, 0, 0, 0, 0, 0, 0, 0, 0, 0, 0, 1, 0, 0, 0}},
		{api.Desc{Addr: 0x04030201, Len: 0x08070605, Flags: 0x0C0B0A09, Next: 0x100F0E0D}, []byte{1, 2, 3, 4, 5, 6, 7, 8, 9, 10, 11, 12, 13, 14, 15, 16}},
		{api.Desc{Addr: 0x80000000, Len: 0xFFFFFF00, Flags: 258, Next: 0xFFFFFFFF}, []byte{0, 0, 0, 0x80, 0, 255, 255, 255, 2, 1, 0, 0, 255, 255, 255, 255}},
		{api.Desc{Addr: 0xFFFFFFFF, Len: 0xFFFFFFFF, Flags: 0xFFFFFFFF, Next: 0xFFFFFFFF}, slices.Repeat([]byte{255}, 16)},
	}
	for _, r := range rows {
		if b := desc.Put(r.d); !slices.Equal(b, r.b) {
			t.Errorf("Put(%v): %v, not %v", r.d, b, r.b)
		}
		if d, e := desc.Get(r.b); d != r.d || e != api.OK {
			t.Errorf("Get(%v): %v %d, not %v", r.b, d, e, r.d)
		}
		if b := bytesOf(r.d); !slices.Equal(b, r.b) {
			t.Errorf("the tests of %v: %v, not %v", r.d, b, r.b)
		}
	}
}

func TestBytesOfAnyWords(t *testing.T) { // P21.1, P21.4: each word by itself beside others, whatever Check says of them
	for _, w := range words {
		for _, x := range words {
			checkBytes(t, api.Desc{Addr: w, Len: x, Flags: ^w, Next: ^x})
			checkBytes(t, api.Desc{Addr: ^x, Len: ^w, Flags: x, Next: w})
			checkBytes(t, api.Desc{Addr: w, Next: x})
			checkBytes(t, api.Desc{Len: w, Flags: x})
		}
	}
	l := row(1, 40000)
	for four := range slices.Chunk(l, 4) {
		checkBytes(t, api.Desc{Addr: four[0], Len: four[1], Flags: four[2], Next: four[3]})
	}
}

func TestEachBitHasItsPlace(t *testing.T) { // P21.1
	for i := range 4 {
		for n := range 32 {
			b := make([]byte, 16)
			b[4*i+n/8] = 1 << (n % 8)
			var of [4]uint32
			of[i] = 1 << n
			want := api.Desc{Addr: of[0], Len: of[1], Flags: of[2], Next: of[3]}
			if d, e := desc.Get(b); d != want || e != api.OK {
				t.Errorf("Get(%v): %v %d, not %v", b, d, e, want)
			}
			if got := desc.Put(want); !slices.Equal(got, b) {
				t.Errorf("Put(%v): %v, not %v", want, got, b)
			}
		}
	}
}

func TestGetOfAnyLength(t *testing.T) { // P21.1, P2, P3, P4: of 16 bytes alone there is one
	lengths := []int{63, 64, 65, 255, 256, 272, 1 << 16, 1<<16 + 16, 1 << 20}
	for n := range 50 {
		lengths = append(lengths, n)
	}
	for _, n := range lengths {
		b := some(n)
		d, e := desc.Get(b)
		if n == 16 {
			want := api.Desc{Addr: numberOf(b[:4]), Len: numberOf(b[4:8]), Flags: numberOf(b[8:12]), Next: numberOf(b[12:])}
			if d != want || e != api.OK {
				t.Errorf("Get(%v): %v %d, not %v", b, d, e, want)
			}
		} else if d != (api.Desc{}) || e != api.ErrForm {
			t.Errorf("Get of %d bytes: %v %d", n, d, e)
		}
		if !slices.Equal(b, some(n)) {
			t.Errorf("Get of %d bytes changed them", n)
		}
	}
	if d, e := desc.Get(nil); d != (api.Desc{}) || e != api.ErrForm {
		t.Errorf("Get of nil: %v %d", d, e)
	}
	if d, e := desc.Get([]byte{}); d != (api.Desc{}) || e != api.ErrForm {
		t.Errorf("Get of none: %v %d", d, e)
	}
}

func TestRoomBehindIsNotThere(t *testing.T) { // P21.1, P4: what a slice could grow into is none of its bytes
	all := some(40)
	for n := range 40 {
		d, e := desc.Get(all[:n])
		if (e == api.OK) != (n == 16) || (e == api.ErrForm) != (n != 16) {
			t.Errorf("Get of %d bytes with room behind: %v %d", n, d, e)
		}
	}
	inner, e := desc.Get(all[7:23])
	if want, _ := desc.Get(slices.Clone(all[7:23])); inner != want || e != api.OK {
		t.Errorf("Get within others: %v %d, not %v", inner, e, want)
	}
	if !slices.Equal(all, some(40)) {
		t.Errorf("Get changed what is about its bytes: %v", all)
	}
}

func TestPutInMemoryOfItsOwn(t *testing.T) { // P21.1, P4
	d := api.Desc{Addr: 0x04030201, Len: 64, Flags: 1, Next: 7}
	one, other := desc.Put(d), desc.Put(d)
	clear(one)
	_ = append(one, 99)
	if !slices.Equal(other, bytesOf(d)) || !slices.Equal(desc.Put(d), bytesOf(d)) {
		t.Errorf("Put behind a change of its answer: %v, %v", other, desc.Put(d))
	}
	desc.Put(api.Desc{Addr: 9, Len: 9, Flags: 9, Next: 9})
	if !slices.Equal(other, bytesOf(d)) {
		t.Errorf("an answer changed behind it: %v", other)
	}
	b := bytesOf(d)
	got, _ := desc.Get(b)
	clear(b)
	if got != d {
		t.Errorf("Get behind a change of its argument: %v", got)
	}
}

func TestCheckByHand(t *testing.T) { // P21.2: the tests' own reckoning is held by it too
	const next, write = api.FlagNext, api.FlagWrite
	rows := []struct {
		d    api.Desc
		n    int
		want int
	}{
		{api.Desc{}, 8, api.XOk},
		{api.Desc{}, 0, api.XOk},
		{api.Desc{}, -1, api.XOk},
		{api.Desc{Len: 64}, 8, api.XOk},
		{api.Desc{Len: 65}, 8, api.XLen},
		{api.Desc{Len: 65, Flags: write}, 8, api.XLen},
		{api.Desc{Len: 64, Flags: write}, 8, api.XOk},
		{api.Desc{Len: 0x80000000}, 8, api.XLen},
		{api.Desc{Len: 0xFFFFFFFF}, 8, api.XLen},
		{api.Desc{Addr: 0xFFFFFFFF, Len: 64}, 8, api.XOk},
		{api.Desc{Flags: next | write}, 2, api.XOk},
		{api.Desc{Flags: 4}, 8, api.XFlags},
		{api.Desc{Flags: 5}, 8, api.XFlags},
		{api.Desc{Flags: 7}, 8, api.XFlags},
		{api.Desc{Flags: 256}, 8, api.XFlags},
		{api.Desc{Flags: 0x80000000}, 8, api.XFlags},
		{api.Desc{Flags: 0xFFFFFFFF}, 8, api.XFlags},
		{api.Desc{Flags: next, Next: 7}, 8, api.XOk},
		{api.Desc{Flags: next, Next: 8}, 8, api.XIndex},
		{api.Desc{Flags: next, Next: 9}, 8, api.XIndex},
		{api.Desc{Flags: next, Next: 3}, 4, api.XOk},
		{api.Desc{Flags: next | write, Next: 4}, 4, api.XIndex},
		{api.Desc{Flags: next, Next: 1}, 2, api.XOk},
		{api.Desc{Flags: next, Next: 2}, 2, api.XIndex},
		{api.Desc{Flags: next, Next: 0xFFFFFFFF}, 8, api.XIndex},
		{api.Desc{Flags: next, Next: 0x80000000}, 8, api.XIndex},
		{api.Desc{Next: 8}, 8, api.XOk},
		{api.Desc{Flags: write, Next: 0xFFFFFFFF}, 8, api.XOk},
		{api.Desc{Flags: next}, 0, api.XIndex},
		{api.Desc{Flags: next}, 1, api.XOk},
		{api.Desc{Flags: next}, -1, api.XIndex},
		{api.Desc{Flags: next}, math.MinInt, api.XIndex},
		{api.Desc{Flags: next, Next: 0xFFFFFFFF}, math.MinInt, api.XIndex},
		{api.Desc{Flags: next, Next: 0xFFFFFFFF}, -1, api.XIndex},
		{api.Desc{Flags: next, Next: 0xFFFFFFFE}, -1, api.XIndex},
		{api.Desc{Flags: next, Next: 0xFFFFFFFF}, math.MaxUint32, api.XIndex},
		{api.Desc{Flags: next, Next: 0xFFFFFFFE}, math.MaxUint32, api.XOk},
		{api.Desc{Flags: next, Next: 0xFFFFFFFF}, 1 << 32, api.XOk},
		{api.Desc{Flags: next, Next: 2}, 1<<32 + 2, api.XOk},
		{api.Desc{Flags: next, Next: 0xFFFFFFFF}, math.MaxInt, api.XOk},
	}
	for _, r := range rows {
		if got := desc.Check(r.d, r.n); got != r.want {
			t.Errorf("Check(%v, %d): %d, not %d", r.d, r.n, got, r.want)
		}
		if got := wrongOf(r.d, r.n); got != r.want {
			t.Errorf("the tests of %v, %d: %d, not %d", r.d, r.n, got, r.want)
		}
	}
}

func TestWhatIsWrongFirst(t *testing.T) { // P21.2, P2: each one with those behind it
	rows := []struct {
		d    api.Desc
		want int
	}{
		{api.Desc{Flags: 4 | api.FlagNext, Len: 65, Next: 8}, api.XFlags},
		{api.Desc{Flags: 4, Len: 65, Next: 8}, api.XFlags},
		{api.Desc{Flags: 4 | api.FlagNext, Len: 64, Next: 8}, api.XFlags},
		{api.Desc{Flags: 4 | api.FlagNext, Len: 65, Next: 1}, api.XFlags},
		{api.Desc{Flags: api.FlagNext, Len: 65, Next: 8}, api.XLen},
		{api.Desc{Flags: api.FlagNext | api.FlagWrite, Len: 65, Next: 8}, api.XLen},
		{api.Desc{Flags: api.FlagNext, Len: 64, Next: 8}, api.XIndex},
		{api.Desc{Flags: api.FlagNext, Len: 64, Next: 1}, api.XOk},
	}
	for _, r := range rows {
		for _, n := range sizes {
			if got := desc.Check(r.d, n); got != r.want {
				t.Errorf("Check(%v, %d): %d, not %d", r.d, n, got, r.want)
			}
		}
	}
}

func TestCheckOfAnyWords(t *testing.T) { // P21.2, P6: all words beside all others, in queues of any size
	for _, flags := range words {
		for _, length := range words {
			for _, next := range words {
				for _, n := range wild {
					checkWrong(t, api.Desc{Addr: next, Len: length, Flags: flags, Next: next}, n)
				}
			}
		}
	}
}

func TestCheckOfEachBitOfFlags(t *testing.T) { // P21.2
	for a := range 32 {
		for b := range 32 {
			f := uint32(1)<<a | 1<<b
			for _, n := range sizes {
				checkWrong(t, api.Desc{Flags: f}, n)
				checkWrong(t, api.Desc{Flags: ^f}, n)
			}
			want := api.XOk
			if a > 1 || b > 1 {
				want = api.XFlags
			}
			if got := desc.Check(api.Desc{Flags: f}, 2); got != want {
				t.Errorf("Check of the flags %x: %d, not %d", f, got, want)
			}
		}
	}
}

func TestCheckAboutEachEdge(t *testing.T) { // P21.2: each length about MaxLen, each Next about each n, with all flags
	for flags := range uint32(9) {
		for length := range uint32(130) {
			for next := range uint32(20) {
				for n := -3; n < 20; n++ {
					checkWrong(t, api.Desc{Len: length, Flags: flags, Next: next}, n)
				}
			}
		}
	}
}

func TestWhereBytesLieIsNotChecked(t *testing.T) { // P21.2: Addr counts for nothing, nor does Next without FlagNext
	for _, w := range words {
		for _, n := range sizes {
			if got := desc.Check(api.Desc{Addr: w, Len: 64}, n); got != api.XOk {
				t.Errorf("Check of Addr %x: %d", w, got)
			}
			if got := desc.Check(api.Desc{Flags: api.FlagWrite, Next: w}, n); got != api.XOk {
				t.Errorf("Check of Next %x without FlagNext: %d", w, got)
			}
		}
	}
}

func TestSized(t *testing.T) { // P21.3, P6
	numbers := slices.Clone(wild)
	for n := -300; n < 300; n++ {
		numbers = append(numbers, n)
	}
	for _, n := range numbers {
		if got := desc.Sized(n); got != slices.Contains(sizes, n) {
			t.Errorf("Sized(%d): %v", n, got)
		}
	}
}

func TestSizeByHand(t *testing.T) { // P21.3: the tests' own reckoning is held by it too
	rows := []struct{ part, n, want int }{
		{0, 2, 32}, {0, 4, 64}, {0, 8, 128},
		{1, 2, 12}, {1, 4, 20}, {1, 8, 36},
		{2, 2, 20}, {2, 4, 36}, {2, 8, 68},
		{3, 4, 0}, {-1, 4, 0}, {3, 8, 0}, {-1, 2, 0},
		{0, 0, 0}, {0, 1, 0}, {0, 3, 0}, {1, 3, 0}, {2, 3, 0}, {0, 5, 0}, {0, 6, 0}, {0, 7, 0}, {0, 9, 0}, {0, 16, 0}, {1, 16, 0}, {2, 16, 0}, {1, 0, 0}, {2, 0, 0}, {1, 1, 0}, {2, 1, 0},
		{0, -2, 0}, {1, -4, 0}, {2, -8, 0}, {3, 3, 0},
		{0, math.MinInt, 0}, {2, math.MaxInt, 0}, {math.MinInt, 8, 0}, {math.MaxInt, 8, 0}, {1 << 32, 8, 0}, {1<<32 + 1, 8, 0}, {1, 1<<32 + 8, 0},
	}
	for _, r := range rows {
		if got := desc.Size(r.part, r.n); got != r.want {
			t.Errorf("Size(%d, %d): %d, not %d", r.part, r.n, got, r.want)
		}
		if 0 <= r.part && r.part < 3 {
			if got := partsOf(r.n)[r.part]; got != r.want {
				t.Errorf("the tests of %d, %d: %d, not %d", r.part, r.n, got, r.want)
			}
		}
	}
}

func TestSizeOfAnyPart(t *testing.T) { // P21.3, P6
	for _, n := range wild {
		parts := partsOf(n)
		for _, part := range wild {
			want := 0
			if 0 <= part && part < len(parts) {
				want = parts[part]
			}
			if got := desc.Size(part, n); got != want {
				t.Errorf("Size(%d, %d): %d, not %d", part, n, got, want)
			}
		}
	}
}

func TestRightByHand(t *testing.T) { // P21.3
	rows := []struct {
		r    api.Ring3
		want bool
	}{
		{api.Ring3{Desc: 64, Avail: 128, Used: 192, N: 4}, true},
		{api.Ring3{N: 2}, true},
		{api.Ring3{N: 4}, true},
		{api.Ring3{N: 8}, true},
		{api.Ring3{}, false},
		{api.Ring3{N: 1}, false},
		{api.Ring3{N: 3}, false},
		{api.Ring3{N: 16}, false},
		{api.Ring3{N: -4}, false},
		{api.Ring3{N: 1<<32 + 4}, false},
		{api.Ring3{Desc: 64, Avail: 126, Used: 192, N: 4}, false},
		{api.Ring3{Desc: 1, N: 4}, false},
		{api.Ring3{Desc: 2, N: 4}, false},
		{api.Ring3{Desc: 3, N: 4}, false},
		{api.Ring3{Avail: 1, N: 4}, false},
		{api.Ring3{Avail: 2, N: 4}, false},
		{api.Ring3{Avail: 3, N: 4}, false},
		{api.Ring3{Used: 1, N: 4}, false},
		{api.Ring3{Used: 2, N: 4}, false},
		{api.Ring3{Used: 3, N: 4}, false},
		{api.Ring3{Desc: 2, Avail: 2, N: 4}, false},
		{api.Ring3{Desc: 1, Avail: 1, Used: 2, N: 4}, false},
		{api.Ring3{Desc: 4, Avail: 4, Used: 4, N: 8}, true},
		{api.Ring3{Desc: 0xFFFFFFFC, Avail: 0x80000000, Used: 0x7FFFFFFC, N: 8}, true},
		{api.Ring3{Desc: 0xFFFFFFFF, Avail: 0x80000000, Used: 0x7FFFFFFC, N: 8}, false},
	}
	for _, r := range rows {
		if got := desc.Right(r.r); got != r.want {
			t.Errorf("Right(%v): %v", r.r, got)
		}
	}
}

func TestRightOfAnyPlaces(t *testing.T) { // P21.3, P6: wherever its parts lie, about each other or beyond all memory
	for _, d := range words {
		for _, a := range words {
			for _, u := range words {
				for _, n := range []int{math.MinInt, -4, 0, 1, 2, 3, 4, 5, 8, 9, 1<<32 + 2, math.MaxInt} {
					want := slices.Contains(sizes, n) && d/4*4 == d && a/4*4 == a && u/4*4 == u
					if got := desc.Right(api.Ring3{Desc: d, Avail: a, Used: u, N: n}); got != want {
						t.Fatalf("Right(%d %d %d %d): %v", d, a, u, n, got)
					}
				}
			}
		}
	}
	for _, n := range wild {
		if got := desc.Right(api.Ring3{Desc: 64, Avail: 128, Used: 192, N: n}); got != desc.Sized(n) {
			t.Errorf("Right of %d: %v", n, got)
		}
	}
}

func TestWhatWasPutIsGot(t *testing.T) { // P21.4: and what was got is put, of any bytes
	l := row(2, 20000)
	for four := range slices.Chunk(l, 4) {
		d := api.Desc{Addr: four[0], Len: four[1], Flags: four[2], Next: four[3]}
		if got, e := desc.Get(desc.Put(d)); got != d || e != api.OK {
			t.Fatalf("Get(Put(%v)): %v %d", d, got, e)
		}
	}
	for i := range 4000 {
		b := make([]byte, 16)
		for j := range b {
			b[j] = byte(l[(i+j*977)%len(l)])
		}
		d, _ := desc.Get(b)
		if got := desc.Put(d); !slices.Equal(got, b) {
			t.Fatalf("Put(Get(%v)): %v", b, got)
		}
	}
}

func TestPartsOfGreaterQueuesAreGreater(t *testing.T) { // P21.4: and there is room in them for what the chapter says lies there
	for part := range 3 {
		less := 0
		for _, n := range sizes {
			size := desc.Size(part, n)
			if size <= less {
				t.Errorf("part %d of a queue of %d has %d bytes, of a smaller one %d", part, n, size, less)
			}
			less = size
		}
	}
	for _, n := range sizes {
		if got, want := desc.Size(0, n), n*len(desc.Put(api.Desc{})); got != want {
			t.Errorf("%d descriptors have %d bytes, not %d", n, got, want)
		}
	}
}

func TestAnswersHangOnArgumentsAlone(t *testing.T) { // P5: in any order, and many at once
	l := row(3, 4000)
	answers := func(l []uint32) map[uint32]api.Desc {
		of := make(map[uint32]api.Desc)
		for _, w := range l {
			d := api.Desc{Addr: w, Len: w % 70, Flags: w % 5, Next: w % 9}
			desc.Check(d, int(w%10))
			desc.Size(int(w%4), int(w%10))
			desc.Get(some(int(w % 20)))
			of[w], _ = desc.Get(desc.Put(d))
		}
		return of
	}
	want := answers(l)
	backward := slices.Clone(l)
	slices.Reverse(backward)
	var wait sync.WaitGroup
	for i := range 8 {
		wait.Go(func() {
			mine := l
			if i%2 == 1 {
				mine = backward
			}
			for w, got := range answers(mine) {
				if got != want[w] {
					t.Errorf("of %x: %v, then %v", w, want[w], got)
				}
			}
		})
	}
	wait.Wait()
}

// TestAnyArguments calls all with all wild arguments: that none panics is what it asks (P1).
func TestAnyArguments(t *testing.T) {
	for _, b := range [][]byte{nil, {}, {0}, some(15), some(16), some(17), some(16)[:0], some(32)[8:24], make([]byte, 1<<20)} {
		desc.Get(b)
	}
	for _, n := range wild {
		desc.Sized(n)
		for _, part := range wild {
			desc.Size(part, n)
		}
		for _, w := range words {
			d := api.Desc{Addr: w, Len: w, Flags: w, Next: w}
			desc.Put(d)
			desc.Check(d, n)
			desc.Check(api.Desc{Flags: w % 4, Next: w}, n)
			desc.Right(api.Ring3{Desc: w, Avail: w, Used: w, N: n})
		}
	}
}
