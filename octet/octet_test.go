package octet_test

import (
	"math"
	"slices"
	"strings"
	"testing"

	"hermitage/api"
	"hermitage/octet"
)

var (
	widths   = []int{1, 2, 4}
	noWidths = []int{0, 3, 5, 6, 7, 8, 16, 32, 64, 256, -1, -2, -3, -4, math.MinInt32, math.MinInt, math.MinInt + 1, math.MaxInt32, math.MaxInt, 1<<32 + 1, 1<<32 + 4}
	wild     = []uint32{0, 1, 0x7F, 0x80, 0xFF, 0x100, 0x7FFF, 0x8000, 0xFFFF, 0x10000, 0x12345678, 0x80FF7F01, 0xDEADBEEF, 0x7FFFFFFF, 0x80000000, 0xFFFFFF80, 0xFFFF7FFF, 0xFFFFFFFF}
)

// worth is how many numbers width bytes have.
func worth(width int) uint64 {
	return []uint64{1, 1 << 8, 1 << 16, 1 << 24, 1 << 32}[width]
}

// valueOf reckons a number by sums and products, so that the tests reckon otherwise than the package does.
func valueOf(b []byte) uint32 {
	var v uint32
	for _, c := range slices.Backward(b) {
		v = v*256 + uint32(c)
	}
	return v
}

func bytesOf(v uint32, width int) []byte {
	var b []byte
	for range width {
		b = append(b, byte(v%256))
		v /= 256
	}
	return b
}

// some is n bytes of which no two that are near are the same, and none is 0.
func some(n int) []byte {
	b := make([]byte, n)
	for i := range b {
		b[i] = byte(1 + i*37%255)
	}
	return b
}

// wrongPlaces are places at which width bytes are not all in n.
func wrongPlaces(n, width int) []int {
	wrong := []int{-1, -2, -width, -n, math.MinInt32, math.MinInt, math.MinInt + 4, n - width + 1, n, n + 1, math.MaxInt32, math.MaxInt, math.MaxInt - width, math.MaxInt - width + 1}
	return slices.DeleteFunc(wrong, func(at int) bool { return at >= 0 && at <= n-width })
}

func TestGet(t *testing.T) { // P2.1: each place of each width, from 0 to the last one that it fits at
	for n := range 12 {
		b := some(n)
		for _, width := range widths {
			for at := 0; at+width <= n; at++ {
				want := valueOf(b[at : at+width])
				if v, e := octet.Get(b, at, width); v != want || e != api.OK {
					t.Errorf("Get(%v, %d, %d): %x %d, not %x", b, at, width, v, e, want)
				}
			}
		}
	}
}

func TestGetTheLowestFirst(t *testing.T) { // P2.1
	b := []byte{1, 2, 3, 4, 0xFF, 0x80, 0, 0x7F, 0xFF, 0xFF, 0xFF, 0xFF}
	rows := []struct {
		at, width int
		want      uint32
	}{
		{0, 1, 1}, {0, 2, 0x0201}, {0, 4, 0x04030201}, {1, 4, 0xFF040302}, {4, 1, 0xFF}, {5, 1, 0x80},
		{4, 2, 0x80FF}, {4, 4, 0x7F0080FF}, {5, 2, 0x80}, {8, 4, 0xFFFFFFFF}, {10, 2, 0xFFFF}, {11, 1, 0xFF},
	}
	for _, r := range rows {
		if v, e := octet.Get(b, r.at, r.width); v != r.want || e != api.OK {
			t.Errorf("Get at %d of %d: %x %d, not %x", r.at, r.width, v, e, r.want)
		}
	}
}

func refused(t *testing.T, b []byte, at, width int) {
	t.Helper()
	was := slices.Clone(b)
	if v, e := octet.Get(b, at, width); v != 0 || e != api.ErrArg {
		t.Errorf("Get(of %d bytes, %d, %d): %x %d", len(b), at, width, v, e)
	}
	if x, e := octet.Put(b, at, width, 0xA1B2C3D4); len(x) != 0 || e != api.ErrArg {
		t.Errorf("Put(to %d bytes, %d, %d): %v %d", len(b), at, width, x, e)
	}
	if !slices.Equal(b, was) {
		t.Errorf("a refusal of %d, %d left %v of %v", at, width, b, was)
	}
}

func TestNoWidth(t *testing.T) { // P2.1, P2, P6
	for _, width := range noWidths {
		for _, n := range []int{0, 1, 3, 4, 5, 8, 64} {
			for _, at := range []int{0, 1, n, n - 1, -1, -width, math.MinInt, math.MaxInt} {
				refused(t, some(n), at, width)
			}
		}
		refused(t, nil, 0, width)
	}
}

func TestNoPlace(t *testing.T) { // P2.1, P2, P3, P6
	for n := range 10 {
		for _, width := range widths {
			for _, at := range wrongPlaces(n, width) {
				refused(t, some(n), at, width)
			}
		}
	}
	for _, width := range widths {
		for _, at := range []int{0, -width, 1, math.MinInt, math.MaxInt} {
			refused(t, nil, at, width)
			refused(t, []byte{}, at, width)
		}
	}
}

func TestRoomBehindIsNotThere(t *testing.T) { // P2.1, P2.2, P4: what a slice could grow into is none of its bytes
	all := some(16)
	b := all[2:9]
	for _, width := range widths {
		refused(t, b, len(b), width)
		refused(t, b, len(b)-width+1, width)
	}
	refused(t, all[:0], 0, 1)
	if w := octet.Words(b); !slices.Equal(w, []uint32{valueOf(b[:4])}) {
		t.Errorf("Words of seven: %x", w)
	}
	x, _ := octet.Put(b, 3, 4, 0)
	_ = append(x, 99)
	octet.Put(b, len(b)-1, 1, 77)
	if !slices.Equal(all, some(16)) {
		t.Errorf("behind Put: %v", all)
	}
}

func TestPut(t *testing.T) { // P2.1, P2.3: the lowest bytes of v stand there, and nothing else changes
	for n := range 10 {
		for _, width := range widths {
			for at := 0; at+width <= n; at++ {
				for _, v := range wild {
					b := some(n)
					want := slices.Concat(b[:at], bytesOf(v, width), b[at+width:])
					x, e := octet.Put(b, at, width, v)
					if e != api.OK || !slices.Equal(x, want) {
						t.Errorf("Put(of %d, %d, %d, %x): %v %d, not %v", n, at, width, v, x, e, want)
					}
					if !slices.Equal(b, some(n)) {
						t.Errorf("Put(of %d, %d, %d, %x) changed its argument: %v", n, at, width, v, b)
					}
				}
			}
		}
	}
}

func TestPutOfTheChapter(t *testing.T) { // P2.1
	if x, e := octet.Put([]byte{0, 0}, 0, 2, 258); !slices.Equal(x, []byte{2, 1}) || e != api.OK {
		t.Errorf("Put: %v %d", x, e)
	}
	if x, e := octet.Put([]byte{9, 9, 9}, 1, 1, 0x1FF); !slices.Equal(x, []byte{9, 0xFF, 9}) || e != api.OK {
		t.Errorf("Put of more than a byte: %v %d", x, e)
	}
	if x, e := octet.Put([]byte{9, 9, 9}, 1, 2, 0x12340000); !slices.Equal(x, []byte{9, 0, 0}) || e != api.OK {
		t.Errorf("Put of what is above: %v %d", x, e)
	}
}

func TestPutInMemoryOfItsOwn(t *testing.T) { // P2.1, P4
	b := some(8)
	x, _ := octet.Put(b, 2, 4, 0xA1B2C3D4)
	want := slices.Clone(x)
	clear(b)
	octet.Put(b, 2, 4, 0)
	if !slices.Equal(x, want) {
		t.Errorf("an answer changed behind it: %v", x)
	}
	b = some(8)
	y, _ := octet.Put(b, 0, 1, uint32(b[0]))
	clear(y)
	if !slices.Equal(b, some(8)) {
		t.Errorf("an argument changed by an answer that is the same: %v", b)
	}
}

// extended is Sign by the definition: what is above is as many ones as there are, if the highest bit is one.
func extended(v uint32, width int) uint32 {
	low := uint64(v) % worth(width)
	if low*2 >= worth(width) {
		low += worth(4) - worth(width)
	}
	return uint32(low)
}

func TestSign(t *testing.T) { // P2.1
	for low := range uint32(1 << 16) {
		for _, above := range []uint32{0, 0x10000, 0xFFFF0000, 0x80000000, 0xA5A50000} {
			v := low + above
			for _, width := range widths {
				if got, want := octet.Sign(v, width), extended(v, width); got != want {
					t.Fatalf("Sign(%x, %d): %x, not %x", v, width, got, want)
				}
			}
		}
	}
	for _, v := range wild {
		if octet.Sign(v, 4) != v {
			t.Errorf("Sign(%x, 4): %x", v, octet.Sign(v, 4))
		}
	}
}

func TestSignAtTheEdges(t *testing.T) { // P2.1
	rows := []struct {
		v     uint32
		width int
		want  uint32
	}{
		{128, 1, 0xFFFFFF80}, {127, 1, 127}, {0, 1, 0}, {255, 1, 0xFFFFFFFF}, {256, 1, 0}, {0xFFFFFF7F, 1, 0x7F}, {0x12345680, 1, 0xFFFFFF80},
		{128, 2, 128}, {0x7FFF, 2, 0x7FFF}, {0x8000, 2, 0xFFFF8000}, {0xFFFF, 2, 0xFFFFFFFF}, {0x10000, 2, 0}, {0xABCD1234, 2, 0x1234}, {0x00FF8001, 2, 0xFFFF8001},
	}
	for _, r := range rows {
		if got := octet.Sign(r.v, r.width); got != r.want {
			t.Errorf("Sign(%x, %d): %x, not %x", r.v, r.width, got, r.want)
		}
	}
}

func TestSignOfNoWidth(t *testing.T) { // P2.1, P6: v itself
	for _, width := range noWidths {
		for _, v := range wild {
			if got := octet.Sign(v, width); got != v {
				t.Errorf("Sign(%x, %d): %x", v, width, got)
			}
		}
	}
}

func TestWords(t *testing.T) { // P2.2: of each four, with none to three over
	for n := range 36 {
		b := some(n)
		var want []uint32
		for four := range slices.Chunk(b, 4) {
			if len(four) == 4 {
				want = append(want, valueOf(four))
			}
		}
		if got := octet.Words(b); !slices.Equal(got, want) {
			t.Errorf("Words(%v): %x, not %x", b, got, want)
		}
		if !slices.Equal(b, some(n)) {
			t.Errorf("Words changed its argument: %v", b)
		}
	}
	if got := octet.Words([]byte{1, 2, 3, 4, 0xFF, 0, 0, 0x80, 9}); !slices.Equal(got, []uint32{0x04030201, 0x800000FF}) {
		t.Errorf("Words: %x", got)
	}
	if len(octet.Words(nil)) != 0 || len(octet.Words([]byte{})) != 0 {
		t.Error("Words of none")
	}
}

func TestBytes(t *testing.T) { // P2.2
	var want []byte
	for _, v := range wild {
		want = append(want, bytesOf(v, 4)...)
	}
	l := slices.Clone(wild)
	if got := octet.Bytes(l); !slices.Equal(got, want) || !slices.Equal(l, wild) {
		t.Errorf("Bytes(%x): %x, not %x", l, got, want)
	}
	if got := octet.Bytes([]uint32{258, 0x80000000}); !slices.Equal(got, []byte{2, 1, 0, 0, 0, 0, 0, 0x80}) {
		t.Errorf("Bytes: %v", got)
	}
	if len(octet.Bytes(nil)) != 0 || len(octet.Bytes([]uint32{})) != 0 {
		t.Error("Bytes of none")
	}
}

func TestFit(t *testing.T) { // P2.2
	rows := []struct {
		s    string
		n    int
		want string
	}{
		{"abc", 2, "ab"}, {"abc", 3, "abc"}, {"abc", 4, "abc\x00"}, {"abc", 6, "abc\x00\x00\x00"}, {"abc", 1, "a"}, {"abc", 0, ""},
		{"", 0, ""}, {"", 1, "\x00"}, {"", 3, "\x00\x00\x00"}, {"a\x00b", 2, "a\x00"}, {"\x00", 2, "\x00\x00"},
		{"á", 1, "\xc3"}, {"á", 3, "\xc3\xa1\x00"}, {"\xff\xfe", 2, "\xff\xfe"}, {"\xff\xfe", 1, "\xff"},
	}
	for _, r := range rows {
		if got := octet.Fit(r.s, r.n); string(got) != r.want {
			t.Errorf("Fit(%q, %d): %q, not %q", r.s, r.n, got, r.want)
		}
	}
}

func TestFitAtTheEndsOfN(t *testing.T) { // P2.2, P6
	long := strings.Repeat("abcdefg", api.MaxText)
	for _, n := range []int{-1, -2, -api.MaxText, math.MinInt32, math.MinInt} {
		for _, s := range []string{"", "a", long} {
			if got := octet.Fit(s, n); len(got) != 0 {
				t.Errorf("Fit of %d to %d: %d bytes", len(s), n, len(got))
			}
		}
	}
	for _, n := range []int{api.MaxText - 1, api.MaxText, api.MaxText + 1, 2 * api.MaxText, math.MaxInt32, 1 << 32, 1<<32 + 2, math.MaxInt} {
		room := api.MaxText
		if n < room {
			room = n
		}
		for _, s := range []string{"", "xyz", long[:api.MaxText-1], long[:api.MaxText], long[:api.MaxText+1], long} {
			want := (s + strings.Repeat("\x00", room))[:room]
			if got := octet.Fit(s, n); string(got) != want {
				t.Errorf("Fit of %d to %d: %d bytes, or others than they should be", len(s), n, len(got))
			}
		}
	}
}

func TestSame(t *testing.T) { // P2.2, P3
	rows := []struct {
		a, b []byte
		want bool
	}{
		{nil, nil, true}, {nil, []byte{}, true}, {[]byte{}, nil, true}, {[]byte{}, []byte{}, true},
		{nil, []byte{0}, false}, {[]byte{0}, nil, false}, {[]byte{0}, []byte{0}, true}, {[]byte{0}, []byte{0, 0}, false},
		{[]byte{1, 2}, []byte{1, 2}, true}, {[]byte{1, 2}, []byte{1, 2, 3}, false}, {[]byte{1, 2, 3}, []byte{1, 2}, false},
		{[]byte{1, 2}, []byte{2, 1}, false}, {[]byte{'a'}, []byte{'A'}, false}, {[]byte{255}, []byte{254}, false}, {[]byte{0x80}, []byte{0}, false},
	}
	for _, r := range rows {
		if got := octet.Same(r.a, r.b); got != r.want {
			t.Errorf("Same(%v, %v): %v", r.a, r.b, got)
		}
	}
	all := some(32)
	if !octet.Same(all[:4:4], all[:4]) || !octet.Same(all[3:3], nil) || octet.Same(all[:4], all[1:5]) || octet.Same(all[:4], all[:5]) {
		t.Error("Same of parts of the same memory")
	}
}

func TestSameTellsEachBit(t *testing.T) { // P2.2
	for n := range 20 {
		for place := range n {
			for bit := range 8 {
				a, b := some(n), some(n)
				b[place] ^= 1 << bit
				if !octet.Same(a, some(n)) || octet.Same(a, b) || octet.Same(b, a) {
					t.Errorf("Same of %d bytes that differ in bit %d of %d", n, bit, place)
				}
			}
		}
	}
}

func TestWhatWasPutIsGot(t *testing.T) { // P2.3
	for _, width := range widths {
		for at := range 9 - width {
			for _, v := range wild {
				x, _ := octet.Put(some(8), at, width, v)
				want := uint32(uint64(v) % worth(width))
				if got, e := octet.Get(x, at, width); got != want || e != api.OK {
					t.Errorf("Get behind Put of %x at %d of %d: %x %d", v, at, width, got, e)
				}
				same, e := octet.Put(some(8), at, width, valueOf(some(8)[at:at+width]))
				if !slices.Equal(same, some(8)) || e != api.OK {
					t.Errorf("Put of what is there, at %d of %d: %v %d", at, width, same, e)
				}
			}
		}
	}
}

func TestWordsBecomeBytesAndBack(t *testing.T) { // P2.3
	for n := range len(wild) + 1 {
		l := wild[:n]
		b := octet.Bytes(l)
		if len(b) != 4*n || !slices.Equal(octet.Words(b), l) {
			t.Errorf("%x became %x, and %x", l, b, octet.Words(b))
		}
		for i, v := range l {
			if got, e := octet.Get(b, 4*i, 4); got != v || e != api.OK {
				t.Errorf("Get of the word %d: %x %d", i, got, e)
			}
		}
	}
	for n := range 20 {
		if back := octet.Bytes(octet.Words(some(n))); !octet.Same(back, some(n-n%4)) {
			t.Errorf("%d bytes became %v", n, back)
		}
	}
}

func TestListsAreNotChangedBehind(t *testing.T) { // P4
	b, l := some(12), slices.Clone(wild)
	words, bytes := octet.Words(b), octet.Bytes(l)
	wantWords, wantBytes := slices.Clone(words), slices.Clone(bytes)
	clear(b)
	clear(l)
	octet.Words(b)
	octet.Bytes(l)
	if !slices.Equal(words, wantWords) || !slices.Equal(bytes, wantBytes) {
		t.Errorf("answers changed behind them: %x, %x", words, bytes)
	}
	one, other := octet.Fit("abc", 4), octet.Fit("abc", 4)
	one[0] = 'z'
	if string(other) != "abc\x00" || string(octet.Fit("abc", 4)) != "abc\x00" {
		t.Errorf("Fit behind a change of its answer: %q", other)
	}
}

func TestAnswersHangOnArgumentsAlone(t *testing.T) { // P5
	for _, v := range wild {
		first, _ := octet.Put(some(6), 1, 4, v)
		octet.Put(some(6), 1, 4, ^v)
		octet.Put(nil, -1, 3, v)
		octet.Get(some(6), 7, 1)
		if again, _ := octet.Put(some(6), 1, 4, v); !slices.Equal(first, again) {
			t.Errorf("Put of %x: %v, then %v", v, first, again)
		}
	}
}

// TestAnyArguments calls all with all wild arguments: that none panics is what it asks (P1).
func TestAnyArguments(t *testing.T) {
	numbers := slices.Concat(noWidths, widths, []int{63, 64, 65, api.MaxText, api.MaxText + 1})
	lists := [][]byte{nil, {}, {0}, some(3), some(4), some(5), some(64), make([]byte, 1<<20)}
	for _, b := range lists {
		for _, at := range numbers {
			for _, width := range numbers {
				octet.Get(b, at, width)
				octet.Put(b[:min(len(b), 64)], at, width, 0xFFFFFFFF)
			}
		}
		octet.Words(b)
		octet.Same(b, nil)
	}
	for _, n := range numbers {
		octet.Fit("abc", n)
		for _, v := range wild {
			octet.Sign(v, n)
		}
	}
	octet.Bytes(make([]uint32, 1<<20))
}
