package alu

// pair is the two words that an operation is done with.
type pair struct {
	a, b uint32
}

func (p pair) sum() uint32 { return p.a + p.b }

// difference adds what makes up b to 2^32.
func (p pair) difference() uint32 { return p.a + ^p.b + 1 }

func (p pair) and() uint32 { return p.a & p.b }

func (p pair) or() uint32 { return p.a | p.b }

func (p pair) xor() uint32 { return p.a ^ p.b }

func (p pair) up() uint32 { return p.a << p.places() }

func (p pair) down() uint32 { return p.a >> p.places() }

// downSigned shifts a signed number, so that what comes in from above is its sign.
func (p pair) downSigned() uint32 { return uint32(int32(p.a) >> p.places()) }

func (p pair) oneIfLess() uint32 { return one(p.less()) }

func (p pair) oneIfBelow() uint32 { return one(p.below()) }

// product adds a once for each bit of b, as far up as that stands.
func (p pair) product() uint32 {
	var sum uint32
	for place := range wordBits {
		if p.b>>place&1 == 1 {
			sum += p.a << place
		}
	}
	return sum
}

func (p pair) quotient() uint32 {
	quotient, _ := p.divide()
	return quotient
}

func (p pair) rest() uint32 {
	_, rest := p.divide()
	return rest
}

// divide brings a's bits down one by one, from the highest on, and takes b away wherever it goes in.
func (p pair) divide() (uint32, uint32) {
	// What is left over is never more than the bits of a that came down, so that it fits in a word.
	var quotient, rest uint32
	for place := range wordBits {
		rest = rest<<1 + p.a>>(wordBits-1-place)&1
		quotient <<= 1
		// 0 goes in everywhere and takes nothing away: the quotient is all ones then, and the rest a.
		if rest >= p.b {
			rest -= p.b
			quotient++
		}
	}
	return quotient, rest
}

func (p pair) same() bool { return p.a == p.b }

func (p pair) differs() bool { return p.a != p.b }

func (p pair) less() bool { return int32(p.a) < int32(p.b) }

func (p pair) below() bool { return p.a < p.b }

// places is how far a shift goes: one of a whole word or more goes round.
func (p pair) places() uint32 { return p.b % wordBits }

func one(is bool) uint32 {
	if is {
		return 1
	}
	return 0
}
