package naturals

const (
	// headBits is how many bits of two numbers are looked at to see how Euclid's algorithm goes on.
	headBits = 60

	// leastHead is how great the lesser one of two heads must be for another step. It keeps the factors of a turn below 2^30, because the greater head times each factor of the lesser one is less than 2^headBits.
	leastHead = 1 << (headBits / 2)
)

// A turn is several steps of Euclid's algorithm at once: a and b become a * aOfA + b * aOfB and a * bOfA + b * bOfB.
type turn struct{ aOfA, aOfB, bOfA, bOfB int }

// commonDivisor returns the greatest common divisor of a and b. It is Lehmer's form of Euclid's algorithm: as long as the numbers are long, most steps are calculated with their first bits only.
func commonDivisor(a, b number) number {
	if compare(a, b) < 0 {
		a, b = b, a
	}
	for len(b) > 2 {
		a, b = lesser(a, b)
	}
	if len(b) == 0 {
		return a
	}
	_, r := divided(a, b)
	return numberOf(euclid(b.value(), r.value()))
}

// euclid returns the greatest common divisor of a and b.
func euclid(a, b uint64) uint64 {
	for b > 0 {
		a, b = b, a%b
	}
	return a
}

// lesser returns what a and b become by one step or more of Euclid's algorithm; a is not less than b, which has more than two words.
func lesser(a, b number) (number, number) {
	gap := a.gap()
	t := turnOf(a.head(len(a), gap), b.head(len(a), gap))
	if t.aOfB == 0 { // not even one step is sure
		_, r := divided(a, b)
		return b, r
	}
	return mixed(a, b, t.aOfA, t.aOfB), mixed(a, b, t.bOfA, t.bOfB)
}

// head returns the headBits bits of x behind the first gap ones, which are 0, as if x had so many words: at least three, and no fewer than it has.
func (x number) head(words, gap int) int {
	two := x[min(words-2, len(x)):].value()
	next := uint64(x.word(words - 3))
	return int((two<<gap | next>>(wordBits-gap)) >> (64 - headBits))
}

// turnOf returns the steps that are the same for all numbers with these heads. The quotient of such numbers lies between the two that are compared, of which one rounds the dividend up and the divisor down, and the other one the reverse. No divisor is 0, because the factors are less than leastHead.
func turnOf(a, b int) turn {
	t := turn{aOfA: 1, bOfB: 1}
	for b >= leastHead {
		q := (a + t.aOfA) / (b + t.bOfA)
		if q != (a+t.aOfB)/(b+t.bOfB) {
			break
		}
		a, b = b, a-q*b
		t = turn{t.bOfA, t.bOfB, t.aOfA - q*t.bOfA, t.aOfB - q*t.bOfB}
	}
	return t
}

// mixed returns a * ofA + b * ofB, which is neither negative nor greater than a. The factors are less than 2^30, so that the sums fit an int.
func mixed(a, b number, ofA, ofB int) number {
	x := make(number, len(a))
	carry := 0
	for i := range x {
		carry += int(a[i])*ofA + int(b.word(i))*ofB
		x[i] = uint32(carry)
		carry >>= wordBits
	}
	return x.trimmed()
}
