package fix

import (
	"math/bits"
	"strconv"
	"strings"

	"odometer/api"
)

// decimals is how many digits behind the point a number in millionths may need.
const decimals = 6

// farPower is where an exponent is no longer read on: no text has so many digits that they could make up for it.
const farPower = 1 << 40

// Parse is the number of a text, in millionths.
func Parse(s string) (int64, api.Errno) {
	if isWord(s) {
		return 0, api.ErrRange
	}
	at := atStart
	var n number
	for _, r := range s {
		at = next(at, r)
		n.take(at, r)
		if at == nowhere {
			break
		}
	}
	switch at {
	case atWhole, atPart, atPower:
		return n.millionths()
	}
	return 0, api.ErrNumber
}

// Text is the shortest text of a number of millionths.
func Text(n int64) string {
	sign := ""
	if n < 0 {
		sign = "-"
	}
	m := size(n)
	text := sign + strconv.FormatUint(m/api.Micro, 10)
	if m%api.Micro == 0 {
		return text
	}
	part := strconv.FormatUint(m%api.Micro, 10)
	part = strings.Repeat("0", decimals-len(part)) + part
	return text + "." + strings.TrimRight(part, "0")
}

// isWord: is it a word that is no number in millionths?
func isWord(s string) bool {
	if s != "" && isSign(rune(s[0])) {
		s = s[1:]
	}
	return strings.EqualFold(s, "nan") || strings.EqualFold(s, "inf") || strings.EqualFold(s, "infinity")
}

// place is how far the text of a number is read.
type place int

const (
	atStart     place = iota
	atSign            // behind the sign
	atWhole           // behind a digit ahead of the point
	atPoint           // behind the point, and no digit yet
	atPart            // behind the point, and some digit
	atMark            // behind the exponent's letter
	atPowerSign       // behind the exponent's sign
	atPower           // behind a digit of the exponent
	nowhere           // it is no number's text
)

// next is the place behind one more rune.
func next(at place, r rune) place {
	switch at {
	case atStart:
		if isSign(r) {
			return atSign
		}
		fallthrough
	case atSign:
		if r == '.' {
			return atPoint
		}
		if isDigit(r) {
			return atWhole
		}
	case atWhole:
		if r == '.' {
			return atPart
		}
		if isDigit(r) {
			return atWhole
		}
		fallthrough
	case atPart:
		if r == 'e' || r == 'E' {
			return atMark
		}
		fallthrough
	case atPoint:
		if isDigit(r) {
			return atPart
		}
	case atMark:
		if isSign(r) {
			return atPowerSign
		}
		fallthrough
	case atPowerSign, atPower:
		if isDigit(r) {
			return atPower
		}
	}
	return nowhere
}

func isSign(r rune) bool { return r == '+' || r == '-' }

func isDigit(r rune) bool { return '0' <= r && r <= '9' }

// number is what a number's text told so far. Zeros wait till a digit comes behind them: so digits' last one is not 0, and many zeros do no harm.
type number struct {
	below  bool
	digits uint64 // those up to the last one that is not 0
	wide   bool   // digits has no room for them
	zeros  int64  // how many stand behind them
	behind int64  // how many digits stand behind the point
	less   bool   // the exponent is below 0
	power  int64  // the exponent without its sign
}

// take takes a rune that led to a place.
func (n *number) take(at place, r rune) {
	switch at {
	case atSign:
		n.below = r == '-'
	case atPart:
		if !isDigit(r) { // the point itself
			return
		}
		n.behind++
		fallthrough
	case atWhole:
		n.digit(uint64(r - '0'))
	case atPowerSign:
		n.less = r == '-'
	case atPower:
		if n.power < farPower {
			n.power = n.power*10 + int64(r-'0')
		}
	}
}

// digit takes a digit ahead of the exponent.
func (n *number) digit(d uint64) {
	switch {
	case d > 0:
		moved, ok := shift(n.digits, n.zeros+1)
		sum, carry := bits.Add64(moved, d, 0)
		n.wide = n.wide || !ok || carry > 0
		n.digits, n.zeros = sum, 0
	case n.digits > 0:
		n.zeros++
	}
}

// millionths is the number, in millionths, once all is taken.
func (n *number) millionths() (int64, api.Errno) {
	up := n.power
	if n.less {
		up = -up
	}
	up += n.zeros - n.behind + decimals
	switch {
	case n.wide: // too great or, as its last digit is not 0, too fine
		return 0, api.ErrRange
	case n.digits == 0:
		return 0, api.OK
	case up < 0:
		return 0, api.ErrRange
	}
	moved, ok := shift(n.digits, up)
	if !ok {
		return 0, api.ErrRange
	}
	m, over := signed(moved, n.below)
	if over {
		return 0, api.ErrRange
	}
	return m, api.OK
}

// shift is n times ten, so often, if that is within 64 bits.
func shift(n uint64, often int64) (uint64, bool) {
	for ; often > 0 && n > 0; often-- {
		high, low := bits.Mul64(n, 10)
		if high > 0 {
			return 0, false
		}
		n = low
	}
	return n, true
}
