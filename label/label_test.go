package label_test

import (
	"math"
	"slices"
	"strings"
	"testing"

	"hermitage/api"
	"hermitage/label"
)

const labels = 1 << api.MaxCats

// noLabels are numbers beside the labels, on both sides, near and far.
var noLabels = []int{-1, -2, -128, -255, -256, -257, math.MinInt32, math.MinInt, 256, 257, 511, 512, 1 << 16, math.MaxInt32, math.MaxInt - 255, math.MaxInt}

// set is a label told category by category, so that the tests reckon otherwise than the package does.
type set [api.MaxCats]bool

func setOf(l int) set {
	var s set
	for i := range s {
		s[i] = l%2 == 1
		l /= 2
	}
	return s
}

func (s set) number() int {
	l, worth := 0, 1
	for _, in := range s {
		if in {
			l += worth
		}
		worth *= 2
	}
	return l
}

func (s set) text() string {
	t := ""
	for i, in := range s {
		if in {
			t += string("abcdefgh"[i])
		}
	}
	if t == "" {
		return "-"
	}
	return t
}

func (s set) within(top set) bool {
	for i := range s {
		if s[i] && !top[i] {
			return false
		}
	}
	return true
}

func eachBy(a, b set, in func(x, y bool) bool) int {
	var s set
	for i := range s {
		s[i] = in(a[i], b[i])
	}
	return s.number()
}

func eachPair(do func(a, b int)) {
	for a := range labels {
		for b := range labels {
			do(a, b)
		}
	}
}

func TestValid(t *testing.T) { // P1.1
	for cats := 0; cats <= api.MaxCats; cats++ {
		last := 1
		for range cats {
			last *= 2
		}
		for l := -3; l <= labels+3; l++ {
			if got, want := label.Valid(l, cats), l >= 0 && l < last; got != want {
				t.Errorf("Valid(%d, %d): %v", l, cats, got)
			}
		}
		for _, l := range noLabels {
			if label.Valid(l, cats) {
				t.Errorf("Valid(%d, %d): true", l, cats)
			}
		}
	}
}

func TestValidOfWrongCats(t *testing.T) { // P1.1, P6
	for _, cats := range []int{-1, -8, math.MinInt, api.MaxCats + 1, 31, 32, 63, 64, 65, 256, math.MaxInt} {
		for _, l := range append([]int{0, 1, 3, 255}, noLabels...) {
			if label.Valid(l, cats) {
				t.Errorf("Valid(%d, %d): true", l, cats)
			}
		}
	}
}

func TestTwoLabels(t *testing.T) { // P1.1
	eachPair(func(a, b int) {
		x, y := setOf(a), setOf(b)
		if got, want := label.Flows(a, b), x.within(y); got != want {
			t.Errorf("Flows(%d, %d): %v", a, b, got)
		}
		if got, want := label.Join(a, b), eachBy(x, y, func(x, y bool) bool { return x || y }); got != want {
			t.Errorf("Join(%d, %d): %d, not %d", a, b, got, want)
		}
		if got, want := label.Meet(a, b), eachBy(x, y, func(x, y bool) bool { return x && y }); got != want {
			t.Errorf("Meet(%d, %d): %d, not %d", a, b, got, want)
		}
		if got, want := label.Minus(a, b), eachBy(x, y, func(x, y bool) bool { return x && !y }); got != want {
			t.Errorf("Minus(%d, %d): %d, not %d", a, b, got, want)
		}
	})
}

func TestNoLabelAmongTwo(t *testing.T) { // P1.1, P6
	for _, wrong := range noLabels {
		for _, other := range append([]int{0, 1, 5, 255}, noLabels...) {
			if label.Flows(wrong, other) || label.Flows(other, wrong) {
				t.Errorf("Flows of %d and %d", wrong, other)
			}
			for _, l := range []int{
				label.Join(wrong, other), label.Join(other, wrong),
				label.Meet(wrong, other), label.Meet(other, wrong),
				label.Minus(wrong, other), label.Minus(other, wrong),
			} {
				if l != -1 {
					t.Errorf("Join, Meet, Minus of %d and %d: %d", wrong, other, l)
				}
			}
		}
	}
}

func TestJoinAndMeetOfManyAndFew(t *testing.T) { // P1.1, P3
	for _, l := range [][]int{nil, {}} {
		if got := label.Join(l...); got != 0 {
			t.Errorf("Join of none: %d", got)
		}
		if got := label.Meet(l...); got != 255 {
			t.Errorf("Meet of none: %d", got)
		}
	}
	for l := range labels {
		if label.Join(l) != l || label.Meet(l) != l {
			t.Errorf("of %d alone: %d, %d", l, label.Join(l), label.Meet(l))
		}
	}
	if got := label.Join(1, 4, 16, 4, 0); got != 21 {
		t.Errorf("Join of five: %d", got)
	}
	if got := label.Meet(255, 31, 93, 28); got != 28 {
		t.Errorf("Meet of four: %d", got)
	}
	if label.Join(1, 2, 4, 8, 16, 32, 64, 128) != 255 || label.Meet(254, 253, 251, 247, 239, 223, 191, 127) != 0 {
		t.Error("Join, Meet of as many as there are categories")
	}
	many := slices.Repeat([]int{6, 3}, 1<<15)
	if label.Join(many...) != 7 || label.Meet(many...) != 2 {
		t.Errorf("of many: %d, %d", label.Join(many...), label.Meet(many...))
	}
}

func TestNoLabelAmongMany(t *testing.T) { // P1.1
	for _, wrong := range noLabels {
		for place := range 4 {
			l := slices.Insert([]int{255, 0, 7}, place, wrong)
			if label.Join(l...) != -1 || label.Meet(l...) != -1 {
				t.Errorf("of %v: %d, %d", l, label.Join(l...), label.Meet(l...))
			}
		}
		if label.Join(wrong) != -1 || label.Meet(wrong) != -1 {
			t.Errorf("of %d alone: %d, %d", wrong, label.Join(wrong), label.Meet(wrong))
		}
	}
}

func TestCount(t *testing.T) { // P1.1
	for l := range labels {
		want := 0
		for _, in := range setOf(l) {
			if in {
				want++
			}
		}
		if got := label.Count(l); got != want {
			t.Errorf("Count(%d): %d", l, got)
		}
	}
	for _, l := range noLabels {
		if got := label.Count(l); got != -1 {
			t.Errorf("Count(%d): %d", l, got)
		}
	}
}

func TestUnder(t *testing.T) { // P1.2
	rows := []struct {
		top  int
		l    []int
		want []int
	}{
		{3, []int{1, 4, 0, 3, -1}, []int{0, 2, 3}},
		{5, []int{5, 5, 2, 5}, []int{0, 1, 3}},
		{0, []int{0, 1, 128, 0}, []int{0, 3}},
		{255, []int{255, 256, 0, -1, 128}, []int{0, 2, 4}},
		{1, []int{2, 4, 254}, nil},
		{7, nil, nil},
		{7, []int{}, nil},
		{-1, []int{0, -1, 255}, nil},
		{256, []int{0, 256, 255}, nil},
		{math.MinInt, []int{0, math.MinInt}, nil},
		{math.MaxInt, []int{0, 1, math.MaxInt}, nil},
	}
	for _, r := range rows {
		if got := label.Under(r.top, r.l); !slices.Equal(got, r.want) {
			t.Errorf("Under(%d, %v): %v, not %v", r.top, r.l, got, r.want)
		}
	}
}

func TestUnderOfAllLabels(t *testing.T) { // P1.2
	var l []int
	for a := -2; a < labels+2; a++ {
		l = append(l, a)
	}
	for top := range labels {
		var want []int
		for i, a := range l {
			if a >= 0 && a < labels && setOf(a).within(setOf(top)) {
				want = append(want, i)
			}
		}
		if got := label.Under(top, l); !slices.Equal(got, want) {
			t.Errorf("Under(%d, all): %v", top, got)
		}
	}
}

func TestText(t *testing.T) { // P1.3
	for l := range labels {
		if s, e := label.Text(l); s != setOf(l).text() || e != api.OK {
			t.Errorf("Text(%d): %q %d", l, s, e)
		}
	}
	for l, want := range map[int]string{0: "-", 1: "a", 5: "ac", 128: "h", 255: "abcdefgh"} {
		if s, e := label.Text(l); s != want || e != api.OK {
			t.Errorf("Text(%d): %q %d", l, s, e)
		}
	}
	for _, l := range noLabels {
		if s, e := label.Text(l); s != "" || e != api.ErrArg {
			t.Errorf("Text(%d): %q %d", l, s, e)
		}
	}
}

func TestParse(t *testing.T) { // P1.3
	for l := range labels {
		if got, e := label.Parse(setOf(l).text()); got != l || e != api.OK {
			t.Errorf("Parse(%q): %d %d", setOf(l).text(), got, e)
		}
	}
}

func TestParseOfWrongTexts(t *testing.T) { // P1.3, P2
	wrong := []string{
		"", " ", "--", "-a", "a-", "a-c", " a", "a ", "a b", "a\n", "\n", "\x00", "a\x00", "-\x00", "-\n", " -", "- ",
		"i", "z", "`", "ai", "hi", "A", "AC", "aC", "0", "5", "a,c",
		"aa", "hh", "ba", "ca", "acb", "aba", "abb", "hgfedcba", "abcdefghi", "abcdefgha", "abcdefghh", "bcdefgha",
		"\xff", "a\xff", "\xe1", "á", "aá", "а", "a\u0301", "\ufffd", "\xc3",
		strings.Repeat("a", 9), strings.Repeat("a", 256), strings.Repeat("-", 1<<16), strings.Repeat("abcdefgh", 1<<13),
	}
	for _, s := range wrong {
		if l, e := label.Parse(s); l != 0 || e != api.ErrForm {
			t.Errorf("Parse(%.20q): %d %d", s, l, e)
		}
	}
}

func TestParseOfAllBytes(t *testing.T) { // P1.3: one byte is a text, if it is - or a to h
	for c := range 256 {
		wanted, wantE := 0, api.ErrForm
		switch {
		case c == '-':
			wantE = api.OK
		case c >= 'a' && c <= 'h':
			wanted, wantE = setOf(1<<(c-'a')).number(), api.OK
		}
		if l, e := label.Parse(string([]byte{byte(c)})); l != wanted || e != wantE {
			t.Errorf("Parse of the byte %d: %d %d", c, l, e)
		}
	}
}

func TestFlowIsAnOrder(t *testing.T) { // P1.4
	for a := range labels {
		if !label.Flows(a, a) {
			t.Errorf("%d does not flow to itself", a)
		}
	}
	eachPair(func(a, b int) {
		if a != b && label.Flows(a, b) && label.Flows(b, a) {
			t.Errorf("%d and %d flow to each other", a, b)
		}
		if !label.Flows(a, b) {
			return
		}
		for c := range labels {
			if label.Flows(b, c) && !label.Flows(a, c) {
				t.Errorf("%d flows to %d, that to %d, but not the first one to the last", a, b, c)
			}
		}
	})
}

func TestWhatFlowsTogether(t *testing.T) { // P1.4
	eachPair(func(a, b int) {
		for _, top := range []int{0, 1, 3, 5, 90, 127, 128, 170, 254, 255, a | b, a, b} {
			if both := label.Flows(a, top) && label.Flows(b, top); both != label.Flows(label.Join(a, b), top) {
				t.Errorf("%d and %d to %d: %v", a, b, top, both)
			}
			if both := label.Flows(top, a) && label.Flows(top, b); both != label.Flows(top, label.Meet(a, b)) {
				t.Errorf("%d to %d and %d: %v", top, a, b, both)
			}
		}
	})
}

// eachText gives all texts of up to most bytes, of a few bytes that may stand in a label's text, or nearly so.
func eachText(most int, s string, do func(string)) {
	do(s)
	if len(s) == most {
		return
	}
	for _, c := range []byte("-abcghi `A\x00\xff") {
		eachText(most, s+string([]byte{c}), do)
	}
}

func TestOneTextEach(t *testing.T) { // P1.4
	seen := map[string]int{}
	for l := range labels {
		s, _ := label.Text(l)
		if other, ok := seen[s]; ok {
			t.Errorf("%d and %d have the text %q", other, l, s)
		}
		seen[s] = l
		if back, e := label.Parse(s); back != l || e != api.OK {
			t.Errorf("Parse(%q): %d %d, not %d", s, back, e, l)
		}
	}
	eachText(5, "", func(s string) {
		l, e := label.Parse(s)
		want, ok := seen[s]
		if ok != (e == api.OK) || l != want {
			t.Errorf("Parse(%q): %d %d", s, l, e)
		}
	})
}

func TestListsStayAsTheyAre(t *testing.T) { // P4
	l := []int{1, 4, 0, 3, -1}
	was := slices.Clone(l)
	label.Join(l...)
	label.Meet(l...)
	first := label.Under(3, l)
	if !slices.Equal(l, was) {
		t.Errorf("a list that was handed in is %v", l)
	}
	for i := range l {
		l[i] = 4
	}
	label.Under(4, l)
	if !slices.Equal(first, []int{0, 2, 3}) {
		t.Errorf("a list that was answered is %v", first)
	}
	for i := range first {
		first[i] = 99
	}
	if again := label.Under(3, was); !slices.Equal(again, []int{0, 2, 3}) || !slices.Equal(was, []int{1, 4, 0, 3, -1}) {
		t.Errorf("behind a change of an answer: %v of %v", again, was)
	}
}

func TestAnswersHangOnArgumentsAlone(t *testing.T) { // P5
	eachPair(func(a, b int) {
		join, meet, minus := label.Join(a, b), label.Meet(a, b), label.Minus(a, b)
		label.Parse("x")
		label.Text(-1)
		label.Join(a, -1)
		if label.Join(a, b) != join || label.Meet(a, b) != meet || label.Minus(a, b) != minus {
			t.Errorf("of %d and %d otherwise, when asked again", a, b)
		}
	})
}

// TestAnyArguments calls all with all wild numbers: that none panics is what it asks (P1).
func TestAnyArguments(t *testing.T) {
	wild := append([]int{0, 1, 8, 9, 63, 64, 255}, noLabels...)
	for _, a := range wild {
		label.Count(a)
		label.Text(a)
		label.Under(a, wild)
		label.Under(a, nil)
		for _, b := range wild {
			label.Valid(a, b)
			label.Flows(a, b)
			label.Join(a, b)
			label.Meet(a, b)
			label.Minus(a, b)
		}
	}
	for _, s := range []string{"", "\x00", "\xff\xfe", "\xed\xa0\x80", strings.Repeat("h", 1<<20)} {
		label.Parse(s)
	}
}
