// Package impl: whole numbers without bound, fractions, decimal literals.
package impl

import (
	"cmp"
	"iter"
	"math/bits"
	"slices"
)

// Limits of whole numbers.
const (
	NatBase      = 65536
	NatMaxDigits = 256
	NatMaxText   = 1300
	NatMaxPower  = 64
)

const (
	digitBits = 16
	// chunkBase is the greatest power of ten that is still one digit, so that
	// texts are written and read by short division and product.
	chunkBase = 10000
	chunkSize = 4
)

// The tables serve timesTenTo and NatShift. Whatever else needs a power works
// it out, so that most answers hang on no variable.
var (
	powersOfTen [chunkSize + 1]int
	powersOfTwo [digitBits]int
)

func init() {
	power := 1
	for i := range powersOfTen {
		powersOfTen[i] = power
		power *= 10
	}
	power = 1
	for i := range powersOfTwo {
		powersOfTwo[i] = power
		power *= 2
	}
}

// digits is a number, the lowest digit first, the last one not 0. Its methods
// know no limit, as what comes up on the way to an answer has none; the
// exported functions ask for the limit at the end.
type digits []int

// pair is two neighbouring digits, the higher one first.
type pair [2]int

// fromTop goes over the digits and their places, the highest first.
func (d digits) fromTop() iter.Seq2[int, int] {
	return func(yield func(int, int) bool) {
		for i := len(d) - 1; i >= 0; i-- {
			if !yield(i, d[i]) {
				return
			}
		}
	}
}

// at is the digit at a place; past the end a number goes on with noughts.
func (d digits) at(i int) int {
	if i < len(d) {
		return d[i]
	}
	return 0
}

// pairBelow is the two digits right below a place.
func (d digits) pairBelow(i int) pair {
	return pair{d[i-1], d[i-2]}
}

func (d digits) trimmed() digits {
	size := len(d)
	for size > 0 && d[size-1] == 0 {
		size--
	}
	return d[:size]
}

// copied starts from nil so that not even an empty answer points into d.
func (d digits) copied() digits {
	return append(digits(nil), d...)
}

func (d digits) compare(e digits) int {
	if len(d) != len(e) {
		return cmp.Compare(len(d), len(e))
	}
	for i, x := range d.fromTop() {
		if x != e[i] {
			return cmp.Compare(x, e[i])
		}
	}
	return 0
}

func (d digits) isOne() bool {
	return len(d) == 1 && d[0] == 1
}

func (d digits) bitCount() int {
	if len(d) == 0 {
		return 0
	}
	top := len(d) - 1
	return top*digitBits + bits.Len(uint(d[top]))
}

func (d digits) plus(e digits) digits {
	sum := make(digits, max(len(d), len(e))+1)
	copy(sum, d)
	sum.putOn(e)
	return sum.trimmed()
}

// minus asks that e is not above d.
func (d digits) minus(e digits) digits {
	rest := d.copied()
	rest.takeOff(e, 1)
	return rest.trimmed()
}

// putOn adds e in place and drops what is carried out of the top.
func (d digits) putOn(e digits) {
	carry := 0
	for i := range d {
		sum := d[i] + e.at(i) + carry
		d[i] = sum % NatBase
		carry = sum / NatBase
	}
}

// takeOff takes factor times e off in place and says whether that went below
// 0; d then stands as if one had been borrowed above its top.
func (d digits) takeOff(e digits, factor int) bool {
	borrow := 0
	for i := range d {
		left := d[i] - factor*e.at(i) - borrow
		// Mask and shift round down below 0 too, where % and / do not.
		d[i] = left & (NatBase - 1)
		borrow = -(left >> digitBits)
	}
	return borrow > 0
}

func (d digits) times(e digits) digits {
	product := make(digits, len(d)+len(e))
	for i, x := range d {
		carry := 0
		for j, y := range e {
			sum := product[i+j] + x*y + carry
			product[i+j] = sum % NatBase
			carry = sum / NatBase
		}
		product[i+len(e)] = carry
	}
	return product.trimmed()
}

// scaled is d times a factor, and a little more; both are at most one digit.
func (d digits) scaled(factor int, more int) digits {
	product := make(digits, len(d)+1)
	carry := more
	for i, x := range d {
		sum := x*factor + carry
		product[i] = sum % NatBase
		carry = sum / NatBase
	}
	product[len(d)] = carry
	return product.trimmed()
}

// cut is the quotient by one digit that is not 0, down, and the rest.
func (d digits) cut(by int) (digits, int) {
	quotient := make(digits, len(d))
	rest := 0
	for i, x := range d.fromTop() {
		rest = rest*NatBase + x
		quotient[i] = rest / by
		rest %= by
	}
	return quotient.trimmed(), rest
}

// raised is d times a factor of one digit, with so many noughts put below it.
func (d digits) raised(noughts int, factor int) digits {
	return append(make(digits, noughts), d.scaled(factor, 0)...).trimmed()
}

// lowered is d without so many of its lowest digits, by one digit, down.
func (d digits) lowered(gone int, by int) digits {
	quotient, _ := d[min(gone, len(d)):].cut(by)
	return quotient
}

func (d digits) timesTenTo(n int) digits {
	for n > chunkSize {
		d = d.scaled(chunkBase, 0)
		n -= chunkSize
	}
	return d.scaled(powersOfTen[n], 0)
}

// dividedBy is the quotient, down, and the rest; by is not 0.
func (d digits) dividedBy(by digits) (digits, digits) {
	if d.compare(by) < 0 {
		return nil, d.copied()
	}
	if len(by) == 1 {
		quotient, rest := d.cut(by[0])
		return quotient, digits{rest}.trimmed()
	}
	return d.longDividedBy(by)
}

// longDividedBy asks for a divisor of two digits or more that is not above d.
func (d digits) longDividedBy(by digits) (digits, digits) {
	size := len(by)
	// With one digit less than the divisor the rest is surely below it.
	begun := len(d) - size + 1
	rest := make(digits, size+1)
	copy(rest, d[begun:])
	quotient := make(digits, begun)
	for i, x := range d[:begun].fromTop() {
		copy(rest[1:], rest)
		rest[0] = x
		guess := guessDigit(rest.pairBelow(size+1), rest[size-2], by.pairBelow(size))
		if rest.takeOff(by, guess) {
			guess--
			rest.putOn(by)
		}
		quotient[i] = guess
	}
	return quotient.trimmed(), rest.trimmed()
}

// guessDigit is the quotient of the rest's top three digits by the divisor's
// top two. It is never too small, and at most one too great, however small the
// divisor's highest digit is: what the lower digits change in the quotient is
// less than NatBase by the divisor's pair, and that pair is at least NatBase.
// The rest's pair is never above the divisor's; where they are the same, the
// quotient of the three is NatBase, so that the greatest digit is right.
func guessDigit(top pair, next int, by pair) int {
	if top == by {
		return NatBase - 1
	}
	return ((top[0]*NatBase+top[1])*NatBase + next) / (by[0]*NatBase + by[1])
}

// root is Newton's way from above: the first guess is above the root, each one
// is below the one before it until the root is met.
func (d digits) root() digits {
	if len(d) == 0 {
		return nil
	}
	half := (d.bitCount() + 1) / 2
	guess := digits{1}.raised(half/digitBits, 1<<(half%digitBits))
	for {
		quotient, _ := d.dividedBy(guess)
		next, _ := guess.plus(quotient).cut(2)
		if next.compare(guess) >= 0 {
			return guess
		}
		guess = next
	}
}

func (d digits) gcd(e digits) digits {
	for len(e) > 0 {
		_, rest := d.dividedBy(e)
		d, e = e, rest
	}
	return d.copied()
}

func (d digits) text() string {
	var decimals []byte // the lowest first, as the divisions yield them
	for len(d) > 0 {
		quotient, chunk := d.cut(chunkBase)
		for range chunkSize {
			decimals = append(decimals, byte('0'+chunk%10))
			chunk /= 10
		}
		d = quotient
	}
	size := len(decimals)
	for size > 0 && decimals[size-1] == '0' {
		size--
	}
	if size == 0 {
		return "0"
	}
	slices.Reverse(decimals[:size])
	return string(decimals[:size])
}

// isNatText says whether a text has the form of a number's, of any size.
func isNatText(s string) bool {
	if s == "" || s[0] == '0' && s != "0" {
		return false
	}
	for i := range len(s) {
		if s[i] < '0' || s[i] > '9' {
			return false
		}
	}
	return true
}

// digitsOfText asks for decimals alone.
func digitsOfText(s string) digits {
	var d digits
	for len(s) > 0 {
		size := min(chunkSize, len(s))
		chunk, power := 0, 1
		for i := range size {
			chunk = chunk*10 + int(s[i]-'0')
			power *= 10
		}
		d = d.scaled(power, chunk)
		s = s[size:]
	}
	return d
}

// limited is an answer, if it has not too many digits.
func (d digits) limited() ([]int, bool) {
	if len(d) > NatMaxDigits {
		return nil, false
	}
	return d, true
}

// NatOk says whether digits are a number.
func NatOk(a []int) bool {
	if len(a) > NatMaxDigits {
		return false
	}
	for _, x := range a {
		if x < 0 || x >= NatBase {
			return false
		}
	}
	return len(a) == 0 || a[len(a)-1] != 0
}

// NatOf is a number of 64 bits as digits.
func NatOf(n uint64) []int {
	var d []int
	for n > 0 {
		d = append(d, int(n%NatBase))
		n /= NatBase
	}
	return d
}

// NatSmall is a number below 2^64.
func NatSmall(a []int) (uint64, bool) {
	if !NatOk(a) || digits(a).bitCount() > 64 {
		return 0, false
	}
	var n uint64
	for _, x := range digits(a).fromTop() {
		n = n*NatBase + uint64(x)
	}
	return n, true
}

// NatCmp compares two numbers.
func NatCmp(a []int, b []int) int {
	if !NatOk(a) || !NatOk(b) {
		return 2
	}
	return digits(a).compare(b)
}

// NatBits tells how many bits a number has.
func NatBits(a []int) int {
	if !NatOk(a) {
		return -1
	}
	return digits(a).bitCount()
}

// NatAdd is the sum.
func NatAdd(a []int, b []int) ([]int, bool) {
	if !NatOk(a) || !NatOk(b) {
		return nil, false
	}
	return digits(a).plus(b).limited()
}

// NatSub is the difference, if it is a number.
func NatSub(a []int, b []int) ([]int, bool) {
	if !NatOk(a) || !NatOk(b) || digits(a).compare(b) < 0 {
		return nil, false
	}
	return digits(a).minus(b), true
}

// NatMul is the product.
func NatMul(a []int, b []int) ([]int, bool) {
	if !NatOk(a) || !NatOk(b) {
		return nil, false
	}
	return digits(a).times(b).limited()
}

// NatDiv is the quotient and the rest.
func NatDiv(a []int, b []int) ([]int, []int, bool) {
	if !NatOk(a) || !NatOk(b) || len(b) == 0 {
		return nil, nil, false
	}
	quotient, rest := digits(a).dividedBy(b)
	return quotient, rest, true
}

// NatShift is a number times a power of two, down.
func NatShift(a []int, k int) ([]int, bool) {
	const most = digitBits * NatMaxDigits
	if !NatOk(a) || k < -most || k > most {
		return nil, false
	}
	if k < 0 {
		return digits(a).lowered(-k/digitBits, powersOfTwo[-k%digitBits]), true
	}
	return digits(a).raised(k/digitBits, powersOfTwo[k%digitBits]).limited()
}

// NatPow is a power.
func NatPow(a []int, n int) ([]int, bool) {
	if !NatOk(a) || n < 0 || n > NatMaxPower {
		return nil, false
	}
	power := digits{1}
	for range n {
		power = power.times(a)
		// Powers never shrink once they are this great: no need to go on.
		if len(power) > NatMaxDigits {
			return nil, false
		}
	}
	return power, true
}

// NatRoot is the square root, down, and whether it is exact.
func NatRoot(a []int) ([]int, bool, bool) {
	if !NatOk(a) {
		return nil, false, false
	}
	root := digits(a).root()
	return root, root.times(root).compare(a) == 0, true
}

// NatGcd is the greatest common divisor.
func NatGcd(a []int, b []int) ([]int, bool) {
	if !NatOk(a) || !NatOk(b) {
		return nil, false
	}
	return digits(a).gcd(b), true
}

// NatText writes a number in decimals.
func NatText(a []int) string {
	if !NatOk(a) {
		return ""
	}
	return digits(a).text()
}

// NatRead reads one.
func NatRead(s string) ([]int, bool) {
	if len(s) > NatMaxText || !isNatText(s) {
		return nil, false
	}
	return digitsOfText(s).limited()
}
