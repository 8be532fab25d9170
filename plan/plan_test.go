package plan_test

import (
	"fmt"
	"math"
	"reflect"
	"regexp"
	"slices"
	"strconv"
	"strings"
	"testing"

	"hermitage/api"
	"hermitage/config"
	"hermitage/plan"
)

const (
	none    = -1
	outside = -1
)

// smallText is the chapter's example, baseText that of a configuration that has some of each kind.
const (
	smallText = "cats 1\nguest a 4 0\nslot 0 5\n"
	baseText  = "cats 3\n" +
		"guest a 2 1\nguest ab 3 0\nguest ab 4 2\n" +
		"range a 2 3\nrange abc 8 1\nrange - 20 12\n" +
		"port c out\nport ab 2\nport - out\nport a 0\n" +
		"ring 0 2\nring 2 1\nring 1 2\n" +
		"slot 1 5\nslot 0 1\nslot 1 32\n" +
		"gate 2 6\n"
)

func small() api.Config {
	return api.Config{
		Cats:   1,
		Guests: []api.Guest{{Label: 1, Pages: 4}},
		Slots:  []api.Slot{{Guest: 0, Budget: 5}},
		Gate:   none,
	}
}

func base() api.Config {
	return api.Config{
		Cats:   3,
		Guests: []api.Guest{{Label: 1, Pages: 2, Spare: 1}, {Label: 3, Pages: 3}, {Label: 3, Pages: 4, Spare: 2}},
		Ranges: []api.Range{{Label: 1, From: 2, N: 3}, {Label: 7, From: 8, N: 1}, {Label: 0, From: 20, N: 12}},
		Ports:  []api.Port{{Label: 4, Guest: outside}, {Label: 3, Guest: 2}, {Label: 0, Guest: outside}, {Label: 1, Guest: 0}},
		Rings:  []api.Ring{{From: 0, To: 2}, {From: 2, To: 1}, {From: 1, To: 2}},
		Slots:  []api.Slot{{Guest: 1, Budget: 5}, {Guest: 0, Budget: 1}, {Guest: 1, Budget: 32}},
		Gate:   2,
		Quota:  6,
	}
}

// full is at all limits: every list as long as may be, every number as great.
func full() api.Config {
	c := api.Config{Cats: api.MaxCats, Gate: api.MaxGuests - 1, Quota: api.MaxQuota}
	for range api.MaxGuests {
		c.Guests = append(c.Guests, api.Guest{Label: 255, Pages: 7})
	}
	for i := range api.MaxRanges {
		c.Ranges = append(c.Ranges, api.Range{Label: 255, From: 4 * i, N: 4})
	}
	for i := range api.MaxPorts {
		c.Ports = append(c.Ports, api.Port{Label: 255, Guest: max(api.MaxGuests-1-i, outside)})
	}
	for i := range api.MaxRings {
		c.Rings = append(c.Rings, api.Ring{From: i, To: (i + 1) % api.MaxGuests})
	}
	for range api.MaxSlots {
		c.Slots = append(c.Slots, api.Slot{Guest: api.MaxGuests - 1, Budget: api.MaxBudget})
	}
	return c
}

// one is the least that is right: a guest of that label, and its slot.
func one(l int) api.Config {
	return api.Config{Cats: 8, Guests: []api.Guest{{Label: l, Pages: 1}}, Slots: []api.Slot{{Budget: 1}}, Gate: none}
}

// letters is a label's text, told otherwise than the packages do.
func letters(l int) string {
	s := ""
	for i := range 8 {
		if l%2 == 1 {
			s += "abcdefgh"[i : i+1]
		}
		l /= 2
	}
	if s == "" {
		return "-"
	}
	return s
}

// told is the text of a right configuration, kind by kind.
func told(c api.Config) string {
	s := fmt.Sprintf("cats %d\n", c.Cats)
	for _, g := range c.Guests {
		s += fmt.Sprintf("guest %s %d %d\n", letters(g.Label), g.Pages, g.Spare)
	}
	for _, r := range c.Ranges {
		s += fmt.Sprintf("range %s %d %d\n", letters(r.Label), r.From, r.N)
	}
	for _, p := range c.Ports {
		if p.Guest == -1 {
			s += fmt.Sprintf("port %s out\n", letters(p.Label))
		} else {
			s += fmt.Sprintf("port %s %d\n", letters(p.Label), p.Guest)
		}
	}
	for _, r := range c.Rings {
		s += fmt.Sprintf("ring %d %d\n", r.From, r.To)
	}
	for _, l := range c.Slots {
		s += fmt.Sprintf("slot %d %d\n", l.Guest, l.Budget)
	}
	if c.Gate >= 0 {
		s += fmt.Sprintf("gate %d %d\n", c.Gate, c.Quota)
	}
	return s
}

// same says whether two configurations are the same, nil and empty lists being so (P3).
func same(a, b api.Config) bool {
	return a.Cats == b.Cats && a.Gate == b.Gate && a.Quota == b.Quota &&
		slices.Equal(a.Guests, b.Guests) && slices.Equal(a.Ranges, b.Ranges) && slices.Equal(a.Ports, b.Ports) &&
		slices.Equal(a.Rings, b.Rings) && slices.Equal(a.Slots, b.Slots)
}

// eachText gives all texts of up to most pieces of parts.
func eachText(parts []string, most int, s string, do func(string)) {
	do(s)
	if most == 0 {
		return
	}
	for _, p := range parts {
		eachText(parts, most-1, s+p, do)
	}
}

func split(t *testing.T, s string, want []string, wantOk bool) {
	t.Helper()
	if l, ok := plan.Split(s); !slices.Equal(l, want) || ok != wantOk {
		t.Errorf("Split(%.60q): %.60q %v, not %.60q %v", s, l, ok, want, wantOk)
	}
}

func TestSplit(t *testing.T) { // P5.1
	split(t, "a", []string{"a"}, true)
	split(t, "a b", []string{"a", "b"}, true)
	split(t, "guest ab 2 1", []string{"guest", "ab", "2", "1"}, true)
	split(t, "a b a b", []string{"a", "b", "a", "b"}, true)
	for _, s := range []string{"", " ", "  ", "   ", " a", "a ", " a ", "a  b", "a b ", " a b", "a   b", "a b  c", "a  b c"} {
		split(t, s, nil, false)
	}
}

func TestSplitAtBlanksAlone(t *testing.T) { // P5.1: no other byte parts words, whatever it is
	for c := range 256 {
		s := "x" + string([]byte{byte(c)}) + "y"
		if c == 32 {
			split(t, s, []string{"x", "y"}, true)
		} else {
			split(t, s, []string{s}, true)
			split(t, s[1:2]+" "+s[1:2], []string{s[1:2], s[1:2]}, true)
		}
	}
	for _, s := range []string{"\u00a0", "\u2003", "a\u00a0b", "\t", "a\tb", "\n", "a\nb", "\x00", "\xe2\x80", "\xc2", "\u0120", "é"} {
		split(t, s, []string{s}, true)
		split(t, s+" ", nil, false)
		split(t, " "+s, nil, false)
		split(t, s+" "+s, []string{s, s}, true)
	}
}

func TestSplitOfAllShortTexts(t *testing.T) { // P5.1
	eachText([]string{" ", "a", "\n", "\xc2", "é"}, 6, "", func(s string) {
		want := strings.Split(s, " ")
		ok := !slices.Contains(want, "")
		if !ok {
			want = nil
		}
		split(t, s, want, ok)
	})
}

func TestSplitOfManyWords(t *testing.T) { // P5.1: as many as there are
	many := slices.Repeat([]string{"ab", "c"}, 1<<15)
	split(t, strings.Join(many, " "), many, true)
	split(t, strings.Join(many, " ")+" ", nil, false)
	split(t, strings.Repeat(" ", 1<<16), nil, false)
	long := strings.Repeat("x", 1<<17)
	split(t, long, []string{long}, true)
}

func number(t *testing.T, s string) {
	t.Helper()
	want, err := strconv.Atoi(s)
	ok := err == nil && want >= 0 && want <= 999999999 && strconv.Itoa(want) == s
	if !ok {
		want = 0
	}
	if n, is := plan.Number(s); n != want || is != ok {
		t.Errorf("Number(%.60q): %d %v, not %d %v", s, n, is, want, ok)
	}
}

func TestNumber(t *testing.T) { // P5.1
	for _, n := range []int{0, 1, 9, 10, 258, 512, 16384, 65536, 99999999, 100000000, 123456789, 987654321, 999999998, 999999999} {
		if got, ok := plan.Number(strconv.Itoa(n)); got != n || !ok {
			t.Errorf("Number(%d): %d %v", n, got, ok)
		}
	}
	wrong := []string{
		"", " ", "1000000000", "1000000001", "2147483647", "4294967296", "9999999999", "9223372036854775808", "18446744073709551617",
		"00", "01", "007", "000000000", "012345678", "0000000000", "0123456789", "-1", "-0", "+1", "+0", "--1", "1-", "-", "+",
		" 1", "1 ", "1 2", "1\n", "\n1", "\x001", "1\x00", "0x1", "1e3", "1_0", "1.0", ".", "1,0", "a", "1a", "a1", "out",
		"٣", "1٣", "१", "\uff11", "²", "1²", "½", "\xff", "1\xff", "/", ":", "1/", "1:", "0:", "9\xb9",
	}
	for _, s := range wrong {
		if n, ok := plan.Number(s); n != 0 || ok {
			t.Errorf("Number(%q): %d %v", s, n, ok)
		}
	}
}

func TestNumberOfManyTexts(t *testing.T) { // P5.1
	for n := range 20000 {
		number(t, strconv.Itoa(n))
	}
	for ten := 1; ten <= 1000000000000; ten *= 10 {
		for _, n := range []int{ten - 1, ten, ten + 1, 9 * ten, 10*ten - 1} {
			number(t, strconv.Itoa(n))
			number(t, "0"+strconv.Itoa(n))
		}
	}
	for _, n := range []int{-1, -9, math.MinInt, math.MaxInt32, math.MaxUint32, math.MaxUint32 + 1, math.MaxInt} {
		number(t, strconv.Itoa(n))
	}
	eachText([]string{"0", "1", "9", "-", "+", " ", "a", "\x00", "\xff", "٣"}, 4, "", func(s string) { number(t, s) })
	for c := range 256 {
		number(t, string([]byte{byte(c)}))
		number(t, string([]byte{'1', byte(c)}))
		number(t, string([]byte{byte(c), '1'}))
	}
	for n := 1; n <= 40; n++ {
		number(t, strings.Repeat("9", n))
		number(t, strings.Repeat("0", n))
		number(t, "1"+strings.Repeat("0", n))
	}
	number(t, strings.Repeat("1", 1<<20))
}

func lines(t *testing.T, s string, want []string, wantOk bool) {
	t.Helper()
	if l, ok := plan.Lines(s); !slices.Equal(l, want) || ok != wantOk {
		t.Errorf("Lines(%.60q): %.60q %v, not %.60q %v", s, l, ok, want, wantOk)
	}
}

func TestLines(t *testing.T) { // P5.1
	lines(t, "", nil, true)
	lines(t, "\n", []string{""}, true)
	lines(t, "\n\n", []string{"", ""}, true)
	lines(t, "a\n", []string{"a"}, true)
	lines(t, "a\n\nb c\n", []string{"a", "", "b c"}, true)
	lines(t, "\na\n", []string{"", "a"}, true)
	lines(t, " \n\r\n\x00\n", []string{" ", "\r", "\x00"}, true)
	for _, s := range []string{"a", " ", "\r", "\x00", "a\nb", "\na", "a\n\nb", "a\n ", "\xff", "\u2028", "a\n\u0085", "a\n\xc2"} {
		lines(t, s, nil, false)
	}
	lines(t, smallText, []string{"cats 1", "guest a 4 0", "slot 0 5"}, true)
	lines(t, smallText+"gate", nil, false)
}

func TestLinesOfAllShortTexts(t *testing.T) { // P5.1
	eachText([]string{"\n", "a", " ", "\xe2", "é", "\r"}, 6, "", func(s string) {
		want := strings.Split(s, "\n")
		ok := want[len(want)-1] == ""
		want = want[:len(want)-1]
		if !ok {
			want = nil
		}
		lines(t, s, want, ok)
	})
}

func TestLinesOfLongTexts(t *testing.T) { // P5.1: of no end of lines
	for _, n := range []int{511, 512, 513, 1 << 16} {
		lines(t, strings.Repeat("ab\n", n), slices.Repeat([]string{"ab"}, n), true)
		lines(t, strings.Repeat("ab\n", n)+"ab", nil, false)
	}
	long := strings.Repeat("x y", 1<<16)
	lines(t, long+"\n", []string{long}, true)
	lines(t, long, nil, false)
}

func printed(t *testing.T, c api.Config, want string) {
	t.Helper()
	if s, e := plan.Print(c); s != want || e != api.OK {
		t.Errorf("Print: %q %d, not %q", s, e, want)
	}
}

func parsed(t *testing.T, s string, want api.Config) {
	t.Helper()
	if c, e, i := plan.Parse(s); !same(c, want) || e != api.OK || i != 0 {
		t.Errorf("Parse(%.200q): %v %d %d, not %v", s, c, e, i, want)
	}
}

// refused asks too that nothing comes beside the error (P2).
func refused(t *testing.T, s string, wantE api.Errno, want int) {
	t.Helper()
	c, e, i := plan.Parse(s)
	if e != wantE || i != want {
		t.Errorf("Parse(%.200q): %d %d, not %d %d", s, e, i, wantE, want)
	}
	if e != api.OK && !same(c, api.Config{}) {
		t.Errorf("Parse(%.200q): beside %d: %v", s, e, c)
	}
}

// both asks of a right configuration that it is printed so, and read of that.
func both(t *testing.T, c api.Config, s string) {
	t.Helper()
	printed(t, c, s)
	parsed(t, s, c)
}

func TestOfTheChapter(t *testing.T) { // P5.2: its example, and one of each kind of line
	both(t, small(), smallText)
	both(t, base(), baseText)
	both(t, full(), told(full()))
	both(t, one(0), "cats 8\nguest - 1 0\nslot 0 1\n")
}

func TestEachKindByItself(t *testing.T) { // P5.2, P5.3: what is none has no line
	ahead, behind := "cats 8\nguest abc 1 0\nguest h 1 0\nguest abch 2 0\n", "slot 0 1\n"
	rows := []struct {
		mid, end string
		do       func(*api.Config)
	}{
		{"", "", func(c *api.Config) {}},
		{"range b 31 1\n", "", func(c *api.Config) { c.Ranges = []api.Range{{Label: 2, From: 31, N: 1}} }},
		{"range abcdefgh 0 32\n", "", func(c *api.Config) { c.Ranges = []api.Range{{Label: 255, From: 0, N: 32}} }},
		{"port abc 0\n", "", func(c *api.Config) { c.Ports = []api.Port{{Label: 7, Guest: 0}} }},
		{"port h 1\nport - out\n", "", func(c *api.Config) { c.Ports = []api.Port{{Label: 128, Guest: 1}, {Label: 0, Guest: outside}} }},
		{"ring 1 2\n", "", func(c *api.Config) { c.Rings = []api.Ring{{From: 1, To: 2}} }},
		{"ring 0 2\nring 0 2\n", "", func(c *api.Config) { c.Rings = []api.Ring{{From: 0, To: 2}, {From: 0, To: 2}} }},
		{"", "slot 2 32\nslot 0 1\n", func(c *api.Config) { c.Slots = append(c.Slots, api.Slot{Guest: 2, Budget: 32}, api.Slot{Budget: 1}) }},
		{"", "gate 0 0\n", func(c *api.Config) { c.Gate = 0 }},
		{"", "gate 2 64\n", func(c *api.Config) { c.Gate, c.Quota = 2, 64 }},
	}
	for _, r := range rows {
		c := one(7)
		c.Guests = append(c.Guests, api.Guest{Label: 128, Pages: 1}, api.Guest{Label: 135, Pages: 2})
		r.do(&c)
		both(t, c, ahead+r.mid+behind+r.end)
	}
}

// wrongOnes are configurations that are not right, one of each error.
func wrongOnes() map[api.Errno]func(*api.Config) {
	return map[api.Errno]func(*api.Config){
		api.ErrLabel: func(c *api.Config) { c.Cats = 9 },
		api.ErrGuest: func(c *api.Config) { c.Guests[2].Spare = 5 },
		api.ErrRange: func(c *api.Config) { c.Ranges[2].From = 8 },
		api.ErrPort:  func(c *api.Config) { c.Ports[3].Label = 0 },
		api.ErrRing:  func(c *api.Config) { c.Rings[1].To = 0 },
		api.ErrSlot:  func(c *api.Config) { c.Slots[2].Budget = 33 },
		api.ErrGate:  func(c *api.Config) { c.Quota = 65 },
		api.ErrRoom:  func(c *api.Config) { c.Guests = slices.Repeat([]api.Guest{{Label: 3, Pages: 8}}, 4); c.Ports = nil },
	}
}

func TestPrintOfWrongOnes(t *testing.T) { // P5.2, P2: Check's error, and no text
	for errno, do := range wrongOnes() {
		c := base()
		do(&c)
		if s, e := plan.Print(c); s != "" || e != errno {
			t.Errorf("Print: %q %d, not %d", s, e, errno)
		}
	}
	rows := []struct {
		errno api.Errno
		do    func(*api.Config)
	}{
		{api.ErrGuest, func(c *api.Config) { *c = api.Config{} }},
		{api.ErrLabel, func(c *api.Config) { *c = api.Config{Cats: math.MinInt, Gate: math.MaxInt} }},
		{api.ErrLabel, func(c *api.Config) { c.Cats, c.Slots = -1, nil }},
		{api.ErrGuest, func(c *api.Config) { c.Guests = slices.Repeat(c.Guests, 1<<12) }},
		{api.ErrGuest, func(c *api.Config) { c.Guests[0].Label = math.MinInt }},
		{api.ErrPort, func(c *api.Config) { c.Ports[0].Guest = math.MinInt }},
		{api.ErrSlot, func(c *api.Config) { c.Slots = nil }},
		{api.ErrGate, func(c *api.Config) { c.Gate = -1 }},
		{api.ErrGate, func(c *api.Config) { c.Gate, c.Quota = -2, 0 }},
	}
	for _, r := range rows {
		c := base()
		r.do(&c)
		if s, e := plan.Print(c); s != "" || e != r.errno {
			t.Errorf("Print: %q %d, not %d", s, e, r.errno)
		}
	}
}

func TestParseOfWrongOnes(t *testing.T) { // P5.2: Check's error of the whole, and 0, whatever Check's own place is
	for errno, do := range wrongOnes() {
		c := base()
		do(&c)
		if e, _ := config.Check(c); e != errno {
			t.Fatalf("Check: %d, not %d", e, errno)
		}
		refused(t, told(c), errno, 0)
	}
	rows := []struct {
		errno api.Errno
		s     string
	}{
		{api.ErrLabel, "cats 9\n"},
		{api.ErrLabel, "cats 999999999\n"},
		{api.ErrGuest, "cats 1\n"},
		{api.ErrGuest, "cats 0\nslot 0 5\n"},
		{api.ErrGuest, "cats 1\nguest b 4 0\nslot 0 5\n"},
		{api.ErrGuest, "cats 1\nguest a 999999999 0\nslot 0 5\n"},
		{api.ErrGuest, "cats 1\n" + strings.Repeat("guest a 1 0\n", 5) + "slot 0 5\n"},
		{api.ErrRange, "cats 1\nguest a 4 0\nrange a 999999999 1\nslot 0 5\n"},
		{api.ErrRange, "cats 1\nguest a 4 0\nrange a 1 0\nslot 0 5\n"},
		{api.ErrPort, "cats 1\nguest a 4 0\nport a 1\nslot 0 5\n"},
		{api.ErrPort, "cats 1\nguest a 4 0\nport a 0\nport a 0\nslot 0 5\n"},
		{api.ErrRing, "cats 1\nguest a 4 0\nring 0 0\nslot 0 5\n"},
		{api.ErrSlot, "cats 1\nguest a 4 0\n"},
		{api.ErrSlot, "cats 1\nguest a 4 0\ngate 0 1\n"},
		{api.ErrSlot, "cats 1\nguest a 4 0\n" + strings.Repeat("slot 0 5\n", 9)},
		{api.ErrGate, smallText + "gate 1 0\n"},
		{api.ErrGate, smallText + "gate 0 65\n"},
	}
	for _, r := range rows {
		refused(t, r.s, r.errno, 0)
	}
}

func TestParseOfLongTexts(t *testing.T) { // P5.2: MaxText bytes at most, ahead of all else
	for _, s := range []string{"", "cats 1\n", smallText, baseText, "\n", "cats 9\n", "x"} {
		for _, more := range []string{"x", "\n", "guest a 1 0\n", "slot 0 1\n", "é", "\xff", " "} {
			long := s + strings.Repeat(more, 1<<15/len(more))
			refused(t, long[:1<<14+1], api.ErrLong, 0)
			refused(t, long, api.ErrLong, 0)
			if _, e, _ := plan.Parse(long[:1<<14]); e == api.ErrLong || e == api.OK {
				t.Errorf("Parse of MaxText bytes: %d", e)
			}
		}
	}
	refused(t, strings.Repeat("é", 1<<13), api.ErrForm, 1)
	refused(t, strings.Repeat("é", 1<<13)+"x", api.ErrLong, 0)
	refused(t, strings.Repeat("x", 1<<20), api.ErrLong, 0)
}

func TestParseOfMaxText(t *testing.T) { // P5.2: the lines of MaxText bytes are all looked at
	s := "cats 1\n" + strings.Repeat("guest a 1 0\n", 1360) + "slot 0 999999999\n"
	refused(t, s, api.ErrGuest, 0)
	refused(t, s+strings.Repeat("x", 1<<14-len(s)), api.ErrForm, 1363)
	refused(t, s+strings.Repeat("x", 1<<14-len(s)-1)+"\n", api.ErrForm, 1363)
	refused(t, s+strings.Repeat("x", 1<<14-len(s))+"\n", api.ErrLong, 0)
	refused(t, strings.Repeat("\n", 1<<14), api.ErrForm, 1)
	refused(t, "cats 1\n"+strings.Repeat("slot 1 1\n", 1819), api.ErrGuest, 0)
	refused(t, "cats 1\n"+strings.Repeat("slot 1 1\n", 1818)+"\n", api.ErrForm, 1820)
	refused(t, "cats 1\nguest a 1 0\n"+strings.Repeat("slot 0 1\n", 513), api.ErrSlot, 0)
}

func TestNoLines(t *testing.T) { // P5.2: none, or none that has an end, or that has words
	for _, s := range []string{"", "\n", "\n\n", " \n", "x", "cats", "cats 1", "cats 1 ", "\ncats 1\n", " ", "\x00"} {
		refused(t, s, api.ErrForm, 1)
	}
}

// wrongWords are, of each kind of line, lines that can't be.
func wrongWords() map[string][]string {
	number := []string{"", "-1", "00", "01", "1000000000", "out", "a", "-", "0x1", "1a", "٣", "+1", "1.", "0\r", "\t0"}
	labels := []string{"", "0", "1", "i", "A", "ba", "aa", "a-", "--", "ab-", "out", "é", "abcdefghi", "a\r", "\ta", "a,b", "-a"}
	port := append([]string{"OUT", "Out", "outs", "ou", "out\r", "o", "-out"}, slices.DeleteFunc(slices.Clone(number), func(s string) bool { return s == "out" })...)
	kinds := []struct {
		word   string
		fields [][]string
		right  []string
	}{
		{"cats", [][]string{number}, []string{"1"}},
		{"guest", [][]string{labels, number, number}, []string{"a", "1", "0"}},
		{"range", [][]string{labels, number, number}, []string{"-", "0", "1"}},
		{"port", [][]string{labels, port}, []string{"-", "out"}},
		{"ring", [][]string{number, number}, []string{"0", "1"}},
		{"slot", [][]string{number, number}, []string{"0", "1"}},
		{"gate", [][]string{number, number}, []string{"0", "1"}},
	}
	wrong := map[string][]string{}
	for _, k := range kinds {
		line := func(words []string) string { return strings.Join(append([]string{k.word}, words...), " ") }
		right := line(k.right)
		l := []string{
			k.word, line(k.right[1:]), line(k.right[:len(k.right)-1]), line(append(slices.Clone(k.right), "1")), line(append(slices.Clone(k.right), "out")),
			" " + right, right + " ", strings.Replace(right, " ", "  ", 1), strings.ToUpper(k.word) + right[4:], "x" + right, right[1:],
			k.word + "x" + strings.TrimPrefix(right, k.word), right + "\r", right + "\t", right + "\x00", right + " #", strings.Replace(right, " ", "\t", 1),
		}
		for i, bad := range k.fields {
			for _, word := range bad {
				words := slices.Clone(k.right)
				words[i] = word
				l = append(l, line(words))
			}
		}
		wrong[k.word] = l
	}
	return wrong
}

// place is behind which of baseText's lines a line of that kind may stand.
var place = map[string]int{"cats": 0, "guest": 4, "range": 7, "port": 11, "ring": 14, "slot": 17, "gate": 17}

func TestLinesThatCantBe(t *testing.T) { // P5.2: words, and how many of them
	good := strings.SplitAfter(baseText, "\n")
	good = good[:len(good)-1]
	rest := map[string]int{"cats": 1, "gate": 18} // it stands in their stead, as there may be one
	for word, l := range wrongWords() {
		at := place[word]
		behind := max(at, rest[word])
		for _, line := range l {
			s := strings.Join(good[:at], "") + line + "\n"
			refused(t, s, api.ErrForm, at+1)
			refused(t, s+strings.Join(good[behind:], ""), api.ErrForm, at+1)
			refused(t, s+"\n\n", api.ErrForm, at+1)
			refused(t, s+"x", api.ErrForm, at+1)
		}
	}
}

func TestRightWordsAnywhere(t *testing.T) { // P5.2: numbers and labels that can be are left to Check
	for _, s := range []string{"0", "9", "10", "999999999"} {
		for _, l := range []string{"-", "a", "h", "ah", "abcdefgh"} {
			text := "cats " + s + "\nguest " + l + " " + s + " " + s + "\nrange " + l + " " + s + " " + s + "\nport " + l + " " + s +
				"\nport " + l + " out\nring " + s + " " + s + "\nslot " + s + " " + s + "\ngate " + s + " " + s + "\n"
			if _, e, i := plan.Parse(text); e == api.ErrForm || e == api.OK || i != 0 {
				t.Errorf("Parse(%q): %d %d", text, e, i)
			}
		}
	}
}

func TestOtherFirstWords(t *testing.T) { // P5.2
	for _, word := range []string{"x", "cat", "catss", "guests", "Guest", "label", "image", "sector", "input", "line", ".word", "#", "0", "-", "out", "\x00", "\xff", "é", "a", "//"} {
		for _, s := range []string{word, word + " 0", word + " 0 1", word + " a 1 0", word + " - out"} {
			refused(t, s+"\n"+smallText, api.ErrForm, 1)
			refused(t, "cats 1\n"+s+"\n", api.ErrForm, 2)
			refused(t, smallText+s+"\n", api.ErrForm, 4)
		}
	}
}

func TestOrder(t *testing.T) { // P5.2: of all rows of up to five lines, the first that comes too late
	kinds := []string{"cats 1\n", "guest a 1 0\n", "range a 0 1\n", "port a out\n", "ring 0 1\n", "slot 0 1\n", "gate 0 1\n"}
	eachText(kinds, 5, "", func(s string) {
		wrong, last := 0, none
		for i, line := range strings.SplitAfter(s, "\n") {
			k := slices.Index(kinds, line)
			switch {
			case line == "" && i > 0:
			case i == 0 && k != 0, i > 0 && k == 0, k < last, k == 6 && last == 6:
				wrong = i + 1
			}
			if wrong > 0 {
				refused(t, s, api.ErrForm, wrong)
				return
			}
			last = k
		}
		if c, e, i := plan.Parse(s); e == api.ErrForm || i != 0 {
			t.Errorf("Parse(%q): %v %d %d", s, c, e, i)
		}
	})
}

func TestTheFirstWrongLineCounts(t *testing.T) { // P5.2: ahead of those behind it, and of what Check says of the whole
	bad := []string{"x 1\n", "\n", "cats 9\n", "gate 0\n", "slot  0 1\n"}
	for n, good := range map[int]string{3: smallText, 18: baseText} {
		l := strings.SplitAfter(strings.Replace(good, "cats ", "cats 9", 1), "\n")
		for i := range n {
			for j := i; j < n; j++ {
				m := slices.Clone(l)
				m[i], m[j] = bad[(i+1)%5], bad[(j+1)%5]
				refused(t, strings.Join(m, ""), api.ErrForm, i+1)
				refused(t, strings.Join(m, "")+"slot 0 5", api.ErrForm, i+1)
			}
		}
	}
	refused(t, "cats 9\nguest a 1 0\nslot 0 1\nslot\n", api.ErrForm, 4)
	refused(t, "cats 9\nguest a 1 0\nslot 0 1", api.ErrForm, 3)
	refused(t, "cats 9\nslot 0 1\nguest a 1 0\nslot 0 1", api.ErrForm, 3)
}

func TestTheLastLineHasAnEnd(t *testing.T) { // P5.2: of all texts that are cut short
	form := grammar()
	for n := range len(baseText) {
		s := baseText[:n]
		if strings.HasSuffix(s, "\n") {
			agree(t, form, s)
		} else {
			refused(t, s, api.ErrForm, strings.Count(s, "\n")+1)
		}
	}
}

// grammar is what each text of lines that can be matches, and each piece of it from the beginning on to a line's end.
func grammar() *regexp.Regexp {
	number := "(?:0|[1-9][0-9]{0,8})"
	label := "(?:-"
	for i := range 8 {
		label += "|" + "abcdefgh"[i:i+1]
		for _, r := range "abcdefgh"[i+1:] {
			label += string(r) + "?"
		}
	}
	label += ")"
	s := `\A(?:cats N\n(?:guest L N N\n)*(?:range L N N\n)*(?:port L (?:N|out)\n)*(?:ring N N\n)*(?:slot N N\n)*(?:gate N N\n)?)?\z`
	return regexp.MustCompile(strings.ReplaceAll(strings.ReplaceAll(s, "N", number), "L", label))
}

// wrongLine is the number of the first line of s that can't be, 0 if there is none.
func wrongLine(form *regexp.Regexp, s string) int {
	n, from := 0, 0
	for from < len(s) || n == 0 {
		n++
		to := strings.IndexByte(s[from:], '\n')
		if to < 0 || !form.MatchString(s[:from+to+1]) {
			return n
		}
		from += to + 1
	}
	return 0
}

// agree holds Parse of s against the grammar, and what it reads against what is printed of it.
func agree(t *testing.T, form *regexp.Regexp, s string) {
	t.Helper()
	c, e, i := plan.Parse(s)
	if want := wrongLine(form, s); want > 0 {
		refused(t, s, api.ErrForm, want)
		return
	}
	if i != 0 || e == api.ErrForm || e == api.ErrLong {
		t.Errorf("Parse(%q): %d %d", s, e, i)
	}
	if e != api.OK {
		refused(t, s, e, 0)
		return
	}
	if told(c) != s {
		t.Errorf("Parse(%q): %v", s, c)
	}
	printed(t, c, s) // P5.3: as it stands
}

func TestEachByteChanged(t *testing.T) { // P5.2, P5.3: texts that are nearly right
	form := grammar()
	for _, good := range []string{smallText, "cats 2\nguest - 1 0\nguest b 1 1\nrange b 3 2\nport - 0\nport ab out\nring 0 1\nslot 1 9\nslot 0 10\ngate 1 2\n"} {
		agree(t, form, good)
		for at := range len(good) + 1 {
			for _, more := range []string{"0", "1", "2", "9", " ", "\n", "-", "a", "b", "h", "i", "o", "out", "\x00", "\xff", "\r", "\t", "é"} {
				agree(t, form, good[:at]+more+good[at:])
				if at < len(good) {
					agree(t, form, good[:at]+more+good[at+1:])
				}
			}
			if at < len(good) {
				agree(t, form, good[:at]+good[at+1:])
			}
		}
	}
}

func TestEachLineMoved(t *testing.T) { // P5.2, P5.3: left out, twice, or elsewhere
	form := grammar()
	l := strings.SplitAfter(baseText, "\n")
	l = l[:len(l)-1]
	for i, line := range l {
		without := slices.Delete(slices.Clone(l), i, i+1)
		agree(t, form, strings.Join(without, ""))
		for at := range l {
			agree(t, form, strings.Join(slices.Insert(slices.Clone(without), at, line), ""))
			agree(t, form, strings.Join(slices.Insert(slices.Clone(l), at, line), ""))
		}
	}
}

// eachRight gives right configurations in which each number goes over all that it may be.
func eachRight(do func(api.Config)) {
	for l := range 256 {
		c := one(l)
		c.Ranges = []api.Range{{Label: 255 - l, From: l % 32, N: 1}}
		c.Ports = []api.Port{{Label: l, Guest: 0}, {Label: l / 2, Guest: outside}}
		do(c)
	}
	for cats := range 9 {
		do(api.Config{Cats: cats, Guests: []api.Guest{{Pages: 8}}, Slots: []api.Slot{{Budget: 1}}, Gate: none})
	}
	for pages := 1; pages <= 8; pages++ {
		for spare := 0; pages+spare <= 8; spare++ {
			c := one(3)
			c.Guests[0].Pages, c.Guests[0].Spare = pages, spare
			do(c)
		}
	}
	for from := range 32 {
		for n := 1; from+n <= 32; n++ {
			c := one(3)
			c.Ranges = []api.Range{{From: from, N: n}}
			do(c)
		}
	}
	for budget := 1; budget <= 32; budget++ {
		c := base()
		c.Slots[1].Budget = budget
		do(c)
	}
	for gate := none; gate < 3; gate++ {
		for quota := range 65 {
			c := base()
			c.Gate, c.Quota = gate, quota
			if gate >= 0 || quota == 0 {
				do(c)
			}
		}
	}
	for n := range 9 {
		c := full()
		c.Ranges, c.Ports, c.Rings, c.Slots = c.Ranges[:n], c.Ports[n:], c.Rings[:min(n, 4)], c.Slots[:max(n, 1)]
		do(c)
	}
}

func TestReadAsItWas(t *testing.T) { // P5.3: and each has a text of its own
	seen := map[string]api.Config{}
	eachRight(func(c api.Config) {
		both(t, c, told(c))
		s, _ := plan.Print(c)
		if other, ok := seen[s]; ok && !same(other, c) {
			t.Errorf("%v and %v have the text %q", other, c, s)
		}
		seen[s] = c
		if len(s) > api.MaxText {
			t.Errorf("a text of %d bytes", len(s))
		}
	})
}

func TestNilAndEmptyAreTheSame(t *testing.T) { // P3
	c := small()
	was, _ := plan.Print(c)
	c.Ranges, c.Ports, c.Rings = []api.Range{}, []api.Port{}, []api.Ring{}
	if s, e := plan.Print(c); s != was || e != api.OK {
		t.Errorf("Print: %q %d, not %q", s, e, was)
	}
	for _, l := range [][]api.Slot{nil, {}} {
		c.Slots = l
		if s, e := plan.Print(c); s != "" || e != api.ErrSlot {
			t.Errorf("Print without slots: %q %d", s, e)
		}
	}
	for _, l := range [][]api.Guest{nil, {}} {
		c.Guests = l
		if s, e := plan.Print(c); s != "" || e != api.ErrGuest {
			t.Errorf("Print without guests: %q %d", s, e)
		}
	}
}

func TestWhatIsHandedInStays(t *testing.T) { // P4
	c, was := base(), base()
	s, _ := plan.Print(c)
	if !reflect.DeepEqual(c, was) {
		t.Errorf("behind Print: %v", c)
	}
	c.Guests[0].Label, c.Ports[1].Guest, c.Slots[0].Budget = 0, 1, 9
	if s != baseText {
		t.Errorf("a text that was answered is %q", s)
	}
}

func TestAnswersAreOnesOwn(t *testing.T) { // P4: no answer changes another one
	first, _, _ := plan.Parse(baseText)
	second, _, _ := plan.Parse(baseText)
	clear(first.Guests)
	clear(first.Ranges)
	clear(first.Ports)
	clear(first.Rings)
	clear(first.Slots)
	if !same(second, base()) {
		t.Errorf("behind a change of another answer: %v", second)
	}
	parsed(t, baseText, base())
	words, _ := plan.Split("a b")
	l, _ := plan.Lines("a\nb\n")
	clear(words)
	clear(l)
	split(t, "a b", []string{"a", "b"}, true)
	lines(t, "a\nb\n", []string{"a", "b"}, true)
}

func TestAnswersHangOnArgumentsAlone(t *testing.T) { // P5
	for range 3 {
		both(t, base(), baseText)
		refused(t, "cats 1\ngate\n", api.ErrForm, 2)
		refused(t, "cats 9\n", api.ErrLabel, 0)
		both(t, small(), smallText)
		refused(t, strings.Repeat("\n", 1<<14+1), api.ErrLong, 0)
		plan.Print(api.Config{Cats: -1})
		number(t, "12")
		number(t, "x")
	}
}

// TestAnyArguments calls all with wild texts and numbers: that none panics is what it asks (P1).
func TestAnyArguments(t *testing.T) {
	texts := []string{"", "\x00", "\xff\xfe", "\xed\xa0\x80", "\n \n", strings.Repeat("\xf0\x9f", 1<<10), strings.Repeat(" ", 1<<14), strings.Repeat("cats 1\n", 1<<11), strings.Repeat("9", 1<<14)}
	for _, s := range texts {
		plan.Split(s)
		plan.Number(s)
		plan.Lines(s)
		plan.Parse(s)
		plan.Parse("cats 1\n" + s)
		plan.Parse("cats 1\nguest " + s + " 1 0\n")
		plan.Parse("cats " + s + "\n")
	}
	for _, n := range []int{math.MinInt, math.MinInt32, -2, -1, 0, 1, 2, 8, 9, 32, 33, 64, 65, 256, math.MaxInt32, math.MaxInt} {
		plan.Print(api.Config{Cats: n, Gate: n, Quota: n})
		plan.Print(api.Config{Guests: make([]api.Guest, 3), Ports: []api.Port{{Guest: n}}, Gate: n})
		c := base()
		c.Guests[0], c.Ranges[0], c.Ports[0] = api.Guest{Label: n, Pages: n, Spare: n}, api.Range{Label: n, From: n, N: n}, api.Port{Label: n, Guest: n}
		plan.Print(c)
		c = base()
		c.Rings[0], c.Slots[0], c.Gate = api.Ring{From: n, To: n}, api.Slot{Guest: n, Budget: n}, n
		plan.Print(c)
	}
}
