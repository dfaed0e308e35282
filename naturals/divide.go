package naturals

// divided returns the quotient of a and b, rounded down, and what remains, where b is not 0. It is the division with pen and paper, word by word. Both are shifted first, so that the first bit of the divisor is 1, which makes the guesses good.
func divided(a, b number) (q, r number) {
	if compare(a, b) < 0 {
		return nil, a
	}
	gap := b.gap()
	rest, d := a.up(gap), b.up(gap).trimmed()
	q = make(number, len(a)-len(b)+1)
	for i := len(q) - 1; i >= 0; i-- {
		q[i] = takeOut(rest[i:i+len(d)+1], d)
	}
	return q.trimmed(), rest.down(gap)
}

// takeOut subtracts d from rest as often as possible, and returns how often that was. The first bit of d is 1; rest has one word more, which may be 0, and is less than 2^32 times d. Hence the quotient of the first words is not too small, and at most 2 too great.
func takeOut(rest, d number) (often uint32) {
	head := rest[len(rest)-2:].value()
	guess := min(head/uint64(d[len(d)-1]), mostWord)
	for tooOften := subtract(rest, d, guess); tooOften; guess-- {
		tooOften = !addBack(rest, d)
	}
	return uint32(guess)
}

// subtract subtracts d so often from rest, which has one word more, and reports whether that was too often: then a 1 is missing before the first word of rest.
func subtract(rest, d number, often uint64) (tooOften bool) {
	carry := uint64(0)
	for i := range rest {
		carry += often * uint64(d.word(i))
		low := uint32(carry)
		carry >>= wordBits
		if rest[i] < low {
			carry++
		}
		rest[i] -= low
	}
	return carry > 0
}

// addBack adds d to rest, which has one word more, and reports whether that supplied the 1 that was missing before its first word.
func addBack(rest, d number) (supplied bool) {
	carry := uint64(0)
	for i := range rest {
		carry += uint64(rest[i]) + uint64(d.word(i))
		rest[i] = uint32(carry)
		carry >>= wordBits
	}
	return carry > 0
}

// up returns x * 2^n, where n is less than a word has bits. It has one word more than x, which may be 0.
func (x number) up(n int) number {
	y := make(number, len(x)+1)
	for i, w := range x {
		wide := uint64(w) << n
		y[i] |= uint32(wide)
		y[i+1] = uint32(wide >> wordBits)
	}
	return y
}

// down returns x / 2^n, rounded down, where n is less than a word has bits. The last word of x may be 0.
func (x number) down(n int) number {
	y := make(number, len(x))
	for i := range x {
		wide := uint64(x.word(i+1))<<wordBits | uint64(x[i])
		y[i] = uint32(wide >> n)
	}
	return y.trimmed()
}
