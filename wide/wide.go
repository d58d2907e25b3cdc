// Package wide is layer 1: see shared/doc/01-wide.md.
package wide

import (
	"cmp"
	"math/bits"
	"strings"

	"rickyard/api"
	"rickyard/word"
)

// size is how many bytes a number takes.
const size = 16

// mostText is how long the longest text is: a minus, and the 39 digits of 2^127.
const mostText = 40

// Of is a number of 64 digits.
func Of(v int64) api.Wide { return api.Wide{Hi: v >> 63, Lo: uint64(v)} }

// Add is the sum of two numbers.
func Add(a, b api.Wide) api.Wide {
	lo, carry := carried(a.Lo, b.Lo)
	hi, _ := carried(uint64(a.Hi), uint64(b.Hi), carry)
	return api.Wide{Hi: int64(hi), Lo: lo}
}

// Minus is the opposite of a number.
func Minus(a api.Wide) api.Wide {
	return Add(api.Wide{Hi: ^a.Hi, Lo: ^a.Lo}, Of(1))
}

// Times is a product.
func Times(v int64, n uint64) api.Wide {
	hi, lo := bits.Mul64(uint64(v), n)
	if v < 0 {
		// Without its sign v counts as 2^64 more than it is, so the product has n times 2^64 too many.
		hi -= n
	}
	return api.Wide{Hi: int64(hi), Lo: lo}
}

// Cmp holds two numbers against each other.
func Cmp(a, b api.Wide) int {
	if a.Hi != b.Hi {
		return cmp.Compare(a.Hi, b.Hi)
	}
	return cmp.Compare(a.Lo, b.Lo)
}

// Print is a number's digits.
func Print(a api.Wide) string {
	var text [mostText]byte
	at := len(text)
	hi, lo := magnitude(a)
	for more := true; more; more = hi != 0 || lo != 0 {
		var digit byte
		hi, lo, digit = tenth(hi, lo)
		at--
		text[at] = '0' + digit
	}
	if a.Hi < 0 {
		at--
		text[at] = '-'
	}
	return string(text[at:])
}

// Parse reads a number's digits.
func Parse(s string) (api.Wide, api.Errno) {
	digits, below := strings.CutPrefix(s, "-")
	if !formed(digits, below) {
		return api.Wide{}, api.ErrForm
	}
	hi, lo, fits := gathered(digits)
	a := api.Wide{Hi: int64(hi), Lo: lo}
	if below {
		a = Minus(a)
	}
	// What is too great for the numbers that can be told comes out with the other sign.
	if !fits || (a.Hi < 0) != below {
		return api.Wide{}, api.ErrWide
	}
	return a, api.OK
}

// Write is a number's bytes.
func Write(a api.Wide) []byte { return word.Write(uint64(a.Hi), a.Lo) }

// Read reads a number's bytes.
func Read(b []byte) (api.Wide, api.Errno) {
	if len(b) < size {
		return api.Wide{}, api.ErrShort
	}
	if len(b) > size {
		return api.Wide{}, api.ErrLong
	}
	return api.Wide{Hi: int64(word.Read(b[:size/2])), Lo: word.Read(b[size/2:])}, api.OK
}

// carried is the sum of all parts, modulo 2^64, and what it carries: how many times 2^64 was left out.
func carried(parts ...uint64) (sum, carry uint64) {
	for _, p := range parts {
		var out uint64
		sum, out = bits.Add64(sum, p, 0)
		carry += out
	}
	return sum, carry
}

// magnitude is a number without its sign, as halves without one: so 2^127 can be told, too.
func magnitude(a api.Wide) (hi, lo uint64) {
	if a.Hi < 0 {
		a = Minus(a)
	}
	return uint64(a.Hi), a.Lo
}

// tenth is a tenth of a number in halves, and the digit that is left.
func tenth(hi, lo uint64) (uint64, uint64, byte) {
	// The upper half's rest is below 10, so the division can't overflow.
	lower, digit := bits.Div64(hi%10, lo, 10)
	return hi / 10, lower, byte(digit)
}

// tenfold is ten times a number in halves and a digit more, and whether 128 digits are enough for it.
func tenfold(hi, lo, digit uint64) (uint64, uint64, bool) {
	up, lower := bits.Mul64(lo, 10)
	lower, carry := carried(lower, digit)
	over, upper := bits.Mul64(hi, 10)
	upper, out := carried(upper, up, carry)
	return upper, lower, over == 0 && out == 0
}

// formed tells whether a text has nothing but digits, in the one way in which Print writes them.
func formed(digits string, below bool) bool {
	if digits == "" || digits[0] == '0' && (below || len(digits) > 1) {
		return false
	}
	for i := range len(digits) {
		if digits[i] < '0' || digits[i] > '9' {
			return false
		}
	}
	return true
}

// gathered is the number that digits tell, in halves, and whether 128 digits are enough for it.
func gathered(digits string) (hi, lo uint64, fits bool) {
	for i := range len(digits) {
		hi, lo, fits = tenfold(hi, lo, uint64(digits[i]-'0'))
		if !fits {
			return 0, 0, false
		}
	}
	return hi, lo, true
}
