package fix_test

import (
	"math/big"
	"regexp"
	"strconv"
	"strings"
	"testing"

	"odometer/api"
	"odometer/fix"
)

var (
	numberText = regexp.MustCompile(`^([+-]?)([0-9]+(?:\.[0-9]*)?|\.[0-9]+)(?:[eE]([+-]?[0-9]+))?$`)
	wordText   = regexp.MustCompile(`^[+-]?([nN][aA][nN]|[iI][nN][fF]|[iI][nN][fF][iI][nN][iI][tT][yY])$`)
	plainText  = regexp.MustCompile(`^(0|-?(0|[1-9][0-9]*)(\.[0-9]{0,5}[1-9])?)$`)
)

// reckon is what Parse has to answer, for exponents of a few digits, reckoned without bounds.
func reckon(s string) (int64, api.Errno) {
	if wordText.MatchString(s) {
		return 0, api.ErrRange
	}
	l := numberText.FindStringSubmatch(s)
	if l == nil {
		return 0, api.ErrNumber
	}
	whole, part, _ := strings.Cut(l[2], ".")
	power := 0
	if l[3] != "" {
		power, _ = strconv.Atoi(l[3])
	}
	n, _ := new(big.Int).SetString("0"+whole+part, 10)
	if l[1] == "-" {
		n.Neg(n)
	}
	power += 6 - len(part)
	times := new(big.Int).Exp(big.NewInt(10), big.NewInt(int64(max(power, -power))), nil)
	rest := new(big.Int)
	if power >= 0 {
		n.Mul(n, times)
	} else {
		n.QuoRem(n, times, rest)
	}
	if rest.Sign() != 0 || !n.IsInt64() {
		return 0, api.ErrRange
	}
	return n.Int64(), api.OK
}

func checkParse(t *testing.T, s string) {
	t.Helper()
	want, wrong := reckon(s)
	if n, e := fix.Parse(s); n != want || e != wrong {
		t.Errorf("Parse(%q) = %d, %v, want %d, %v", s, n, e, want, wrong)
	}
}

func zeros(n int) string { return strings.Repeat("0", n) }

// P1.1

func TestParseNumbers(t *testing.T) {
	for _, x := range []struct {
		s    string
		want int64
	}{
		{"0", 0},
		{"-0", 0},
		{"+0.0", 0},
		{"1", 1000000},
		{"+1", 1000000},
		{"-1", -1000000},
		{"42.5", 42500000},
		{"1.", 1000000},
		{"-1.e2", -100000000},
		{".5", 500000},
		{"-.5", -500000},
		{"+.5e1", 5000000},
		{"-0.000001", -1},
		{"1.234567", 1234567},
		{"1e3", 1000000000},
		{"1E3", 1000000000},
		{"1e+3", 1000000000},
		{"25e-6", 25},
		{"1e-6", 1},
		{"10e-7", 1},
		{"-120e-7", -12},
		{"0.001e-3", 1},
		{"0.0000001e1", 1},
		{"123456.789e3", 123456789000000},
		{"9e12", 9000000000000000000},
		{"1e00", 1000000},
		{"1e-0", 1000000},
		{"1e0000000000000000000000000000001", 10000000},
		{"1e-0000000000000000000000000000001", 100000},
		// the least and the greatest
		{"9223372036854.775807", most},
		{"+9223372036854775807e-6", most},
		{".9223372036854775807e13", most},
		{"-9223372036854.775808", least},
		{"-9223372036854775808e-6", least},
		{"-922337203685477580800e-8", least},
		// zeros ahead, and behind
		{"000000000000000000000000000001", 1000000},
		{"-00000000000000000000000.5", -500000},
		{"1.000000000000000000000000000000", 1000000},
		{"0.500000000000000000000000000000", 500000},
		{"9223372036854.775807" + zeros(50), most},
		{zeros(50) + "9223372036854.775807", most},
		{"1" + zeros(30) + "e-30", 1000000},
		{"1" + zeros(1000) + "e-1006", 1},
		{"0." + zeros(1000) + "1e1001", 1000000},
		{"." + zeros(70000) + "1e70000", 100000},
		{"1" + zeros(70000) + ".0e-70006", 1},
		{"." + zeros(3000000) + "1e3000001", 1000000},
		{"-1" + zeros(3000000) + "e-3000006", -1},
		// 0, whatever the exponent
		{"0e99", 0},
		{"-0e-99", 0},
		{"0.000e99999999999999999999999999", 0},
		{"-0.0000000e-99999999999999999999999999", 0},
		{"00000000000000000000000000000000", 0},
		{"." + zeros(100) + "e18446744073709551616", 0},
	} {
		if n, e := fix.Parse(x.s); n != x.want || e != api.OK {
			t.Errorf("Parse(%.60q) = %d, %v, want %d", x.s, n, e, x.want)
		}
	}
}

func TestParseRange(t *testing.T) {
	for _, s := range []string{
		// words
		"nan", "NaN", "NAN", "nAn", "+nan", "-nan",
		"inf", "Inf", "INF", "iNf", "+Inf", "-inf",
		"infinity", "Infinity", "INFINITY", "iNfInItY", "+Infinity", "-infinity",
		// too fine
		"1e-7", "-1e-7", "0.0000001", ".0000005", "1.2345678", "0.00000010", "10e-8",
		"1" + zeros(30) + "e-37", "0." + zeros(30) + "1e24", "9223372036854.7758070000001",
		"1000000000000000000000.0000001", "18446744073709551617e-7",
		"1e-999999999999", "1e-4294967296", "1e-9223372036854775808", "1e-18446744073709551616",
		"1e-18446744073709551610", "1e-18446744073709551622", "1e-340282366920938463463374607431768211456",
		"1e-" + strings.Repeat("9", 1000),
		// too great, or too small
		"9223372036854.775808", "-9223372036854.775809", "9223372036854.775810", "-9223372036855",
		"9223372036854775808e-6", "-9223372036854775809e-6", "922337203685477580800e-8",
		"18446744073709.551615", "18446744073709.551616", "18446744073709551617e-6", "-18446744073709.551616",
		"1e13", "-1e13", "1e14", "92233720368548e-1", "10000000000000", "99999999999999999999",
		"340282366920938463463374607431768.211456", "340282366920938463463374607431768.211457",
		"1" + zeros(1000), "1" + zeros(1000) + "e-980", "0.1e100", "1e1000",
		"1e999999999999", "1e4294967296", "1e9223372036854775807", "1e18446744073709551616",
		"1e18446744073709551610", "1e340282366920938463463374607431768211456", "-1e" + strings.Repeat("9", 1000),
	} {
		if n, e := fix.Parse(s); n != 0 || e != api.ErrRange {
			t.Errorf("Parse(%.60q) = %d, %v, want %v", s, n, e, api.ErrRange)
		}
	}
}

func TestParseNoNumber(t *testing.T) {
	for _, s := range []string{
		"", "+", "-", ".", "+.", "-.", "e", "E", "e5", "+e5", ".e1", "-.e1", "1e", "1E", "1e+", "1.5e-", "1e+-1", "1e--1",
		"--1", "++1", "+-1", "-+1", "1-", "1+", "1-1", "1.2.3", "1..2", "..1", "1e5.0", "1e.5", "1e5e5", "1ee5", "1e5-",
		" 1", "1 ", "\t1", "1\n", "1 000", "- 1", "1_0", "1,5", "0x1", "0x1p3", "0b1", "1p3", "1f", "1d0", "1/2", "#1", "1\x00", "\x00",
		"١", "１", "1é", "é", "1\xff", "\xff", "\x80", "−1", "1e−1", "1·5", "\ufeff1",
		"na", "nann", "nan1", "1nan", " nan", "nan ", "nan(1)", "in", "infi", "infin", "infinit", "infinityy", "inf1", "1inf", "infe5",
		"+-inf", "--inf", "++nan", "i", "n", "+n", "nil", "null", "ınf", "İnf", "ｎａｎ", "naｎ", "in\u017f", "infin\x00ty", "infınity",
		"99999999999999999999999999x", "1e999999999999x", "1e-999999999999.", "0.0000001x", "nan.", "1e99e", "0x", "1e13 ",
		zeros(5000) + "x", "1" + zeros(5000) + ".." + zeros(10),
	} {
		if n, e := fix.Parse(s); n != 0 || e != api.ErrNumber {
			t.Errorf("Parse(%.60q) = %d, %v, want %v", s, n, e, api.ErrNumber)
		}
	}
}

// All texts of a few bytes: each byte at each place, and what it does there.
func TestParseShortTexts(t *testing.T) {
	const bytes = "+-.eE01 9"
	var all func(s string, more int)
	all = func(s string, more int) {
		checkParse(t, s)
		for i := 0; more > 0 && i < len(bytes) && !t.Failed(); i++ {
			all(s+bytes[i:i+1], more-1)
		}
	}
	all("", 6)
}

func TestParseOneByteMore(t *testing.T) {
	for _, s := range []string{"", "7", "-12.50e+3", "+.25E-2", "3.", "nan", "-infinity", "+Inf"} {
		for i := range len(s) + 1 {
			for c := range 256 {
				checkParse(t, s[:i]+string([]byte{byte(c)})+s[i:])
			}
		}
		for i := range len(s) {
			checkParse(t, s[:i]+s[i+1:])
			for c := range 256 {
				checkParse(t, s[:i]+string([]byte{byte(c)})+s[i+1:])
			}
		}
	}
}

func TestParseLetters(t *testing.T) {
	for _, word := range []string{"nan", "inf", "infinity"} {
		for large := range 1 << len(word) {
			s := []byte(word)
			for i := range s {
				if large>>i&1 == 1 {
					s[i] -= 'a' - 'A'
				}
			}
			for _, sign := range []string{"", "+", "-"} {
				checkParse(t, sign+string(s))
			}
		}
	}
}

// Digits whose number is near an end of 64 bits, with the point and the exponent at all places.
func TestParseNearTheEnds(t *testing.T) {
	for _, end := range []string{"9223372036854775807", "18446744073709551615", "1844674407370955161", "922337203685477580", "1", "10"} {
		middle, _ := new(big.Int).SetString(end, 10)
		for by := int64(-3); by <= 3; by++ {
			digits := new(big.Int).Abs(new(big.Int).Add(middle, big.NewInt(by))).String()
			for point := range len(digits) + 1 {
				for power := -30; power <= 30; power++ {
					s := digits[:point] + "." + digits[point:] + "e" + strconv.Itoa(power)
					checkParse(t, s)
					checkParse(t, "-"+s)
					checkParse(t, "+000"+digits[:point]+"."+digits[point:]+"000E"+strconv.Itoa(power))
				}
			}
		}
		if t.Failed() {
			return
		}
	}
}

// P1.2

func TestText(t *testing.T) {
	for _, x := range []struct {
		n    int64
		want string
	}{
		{0, "0"},
		{1, "0.000001"},
		{-1, "-0.000001"},
		{10, "0.00001"},
		{100000, "0.1"},
		{-100000, "-0.1"},
		{120, "0.00012"},
		{999999, "0.999999"},
		{1000000, "1"},
		{-1000000, "-1"},
		{1000001, "1.000001"},
		{1500000, "1.5"},
		{-1500000, "-1.5"},
		{1010000, "1.01"},
		{10000000, "10"},
		{1000000000000, "1000000"},
		{100000100000, "100000.1"},
		{-7000000000000000000, "-7000000000000"},
		{most, "9223372036854.775807"},
		{-most, "-9223372036854.775807"},
		{least, "-9223372036854.775808"},
	} {
		if s := fix.Text(x.n); s != x.want {
			t.Errorf("Text(%d) = %q, want %q", x.n, s, x.want)
		}
	}
}

// spell is what Text has to answer.
func spell(n int64) string {
	s := new(big.Rat).SetFrac64(n, api.Micro).FloatString(6)
	return strings.TrimSuffix(strings.TrimRight(s, "0"), ".")
}

// P1.2 and P1.4

func checkText(t *testing.T, n int64) {
	t.Helper()
	s := fix.Text(n)
	if want := spell(n); s != want || !plainText.MatchString(s) || s == "-0" {
		t.Errorf("Text(%d) = %q, want %q", n, s, want)
	}
	if back, e := fix.Parse(s); back != n || e != api.OK {
		t.Errorf("Parse(Text(%d)) = %d, %v, of %q", n, back, e, s)
	}
}

func TestTextIsReadAsItsNumber(t *testing.T) {
	for _, n := range edges() {
		checkText(t, n)
	}
	for n := int64(-20000); n <= 20000; n++ {
		checkText(t, n)
		checkText(t, n*1000)
		checkText(t, most-max(n, 0))
		checkText(t, least+max(n, 0))
	}
	next := sequence()
	for range 100000 {
		checkText(t, next())
		if t.Failed() {
			return
		}
	}
}

func TestOneTextWhateverZeros(t *testing.T) {
	next := sequence()
	l := edges()
	for range 2000 {
		l = append(l, next())
	}
	for _, n := range l {
		text := fix.Text(n)
		sign, digits := "", text
		if n < 0 {
			sign, digits = "-", text[1:]
		}
		point := "."
		if strings.Contains(digits, ".") {
			point = ""
		}
		for _, ahead := range []int{0, 1, 2, 40} {
			for _, behind := range []int{0, 1, 6, 40} {
				s := sign + zeros(ahead) + digits + point + zeros(behind)
				back, e := fix.Parse(s)
				if e != api.OK || fix.Text(back) != text {
					t.Errorf("Text(Parse(%q)) = %q, %v, want %q", s, fix.Text(back), e, text)
				}
			}
		}
		if digits[0] == '0' && len(digits) > 1 {
			if back, e := fix.Parse(sign + digits[1:]); e != api.OK || fix.Text(back) != text {
				t.Errorf("Text(Parse(%q)) = %q, %v, want %q", sign+digits[1:], fix.Text(back), e, text)
			}
		}
	}
}

func TestOneTextOfZero(t *testing.T) {
	for _, s := range []string{"0", "-0", "+0", "00", "-0.0", ".0", "-.000", "0.", "-0e5", "0e-5"} {
		if n, e := fix.Parse(s); n != 0 || e != api.OK || fix.Text(n) != "0" {
			t.Errorf("Parse(%q) = %d, %v", s, n, e)
		}
	}
}
