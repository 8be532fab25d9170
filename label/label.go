// Package label is layer 1, labels: see shared/doc/01-label.md.
package label

import (
	"math/bits"

	"hermitage/api"
)

const (
	noLabel     = -1
	everything  = 1<<api.MaxCats - 1
	nothingText = "-"
	firstLetter = 'a'
)

// Valid says whether l is a label of the first cats categories alone.
func Valid(l, cats int) bool {
	return 0 <= cats && cats <= api.MaxCats && 0 <= l && l < 1<<cats
}

// Flows says whether a and b are labels, and a flows to b.
func Flows(a, b int) bool {
	// What is left of no label is -1, so that the one question asks for both.
	return Minus(a, b) == 0
}

// Join is the label of what is in one of l at least, -1 if one is no label.
func Join(l ...int) int {
	return orNoLabel(together(isLabel, func(a, b int) int { return a | b }, 0, l...))
}

// Meet is the label of what is in all of l, -1 if one is no label.
func Meet(l ...int) int {
	return orNoLabel(together(isLabel, func(a, b int) int { return a & b }, everything, l...))
}

// Minus is the label of what is in a alone, -1 if one is no label.
func Minus(a, b int) int {
	return orNoLabel(together(isLabel, func(a, b int) int { return a &^ b }, a, b))
}

// Count is how many categories are in l, -1 of no label.
func Count(l int) int {
	if !isLabel(l) {
		return noLabel
	}
	return bits.OnesCount(uint(l))
}

// Under is the places of those of l that flow to top, rising.
func Under(top int, l []int) []int {
	var places []int
	for i, a := range l {
		if Flows(a, top) {
			places = append(places, i)
		}
	}
	return places
}

// Text is the text of l, ErrArg of no label.
func Text(l int) (string, api.Errno) {
	if !isLabel(l) {
		return "", api.ErrArg
	}
	if l == 0 {
		return nothingText, api.OK
	}
	var letters []byte
	for i := range api.MaxCats {
		if l>>i&1 == 1 {
			letters = append(letters, byte(firstLetter+i))
		}
	}
	return string(letters), api.OK
}

// Parse is the label whose text s is, ErrForm of another text.
func Parse(s string) (int, api.Errno) {
	if s == nothingText {
		return 0, api.OK
	}
	l := 0
	for i := range len(s) {
		category := int(s[i]) - firstLetter
		if category < 0 || category >= api.MaxCats {
			return 0, api.ErrForm
		}
		// A letter that does not rise would give a label a second text.
		if 1<<category <= l {
			return 0, api.ErrForm
		}
		l |= 1 << category
	}
	if l == 0 {
		return 0, api.ErrForm
	}
	return l, api.OK
}

func isLabel(l int) bool {
	return Valid(l, api.MaxCats)
}

func orNoLabel(l int, ok bool) int {
	if !ok {
		return noLabel
	}
	return l
}

// together puts the sets of more onto first, one by one; there is nothing of it, if one is no set.
func together[S any](isSet func(S) bool, put func(S, S) S, first S, more ...S) (S, bool) {
	var none S
	if !isSet(first) {
		return none, false
	}
	for _, s := range more {
		if !isSet(s) {
			return none, false
		}
		first = put(first, s)
	}
	return first, true
}
