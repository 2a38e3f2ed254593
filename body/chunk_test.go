package body_test

import (
	"math"
	"strconv"
	"strings"
	"testing"

	"odometer/api"
)

// checkChunks holds a decoder to bytes in chunks ('/' for 13 10, '|' behind what is taken) that make a body.
func checkChunks(t *testing.T, most int, text, want string) {
	t.Helper()
	whole, taken := marked(text)
	check(t, inChunks, most, whole, told{taken: taken, done: true, body: want})
	checkEnded(t, inChunks, most, whole, told{taken: taken, done: true, body: want})
	checkUnended(t, most, whole[:taken-1])
}

// checkUnended holds a decoder to bytes in chunks that are no body yet, and show no error; if the connection ends behind them, that is one.
func checkUnended(t *testing.T, most int, text string) {
	t.Helper()
	b := decodedOf(text)
	check(t, inChunks, most, text, told{taken: len(text), body: b})
	checkEnded(t, inChunks, most, text, told{taken: len(text), wrong: api.ErrEnd, body: b})
}

// checkWrong holds a decoder to bytes in chunks that show an error, by the byte ahead of the '|', and not sooner.
func checkWrong(t *testing.T, most int, text, b string, want api.Errno) {
	t.Helper()
	whole, taken := marked(text)
	checkWrongAt(t, most, whole, taken, b, want)
}

// checkWrongAt is checkWrong of bytes that stand there as they are.
func checkWrongAt(t *testing.T, most int, whole string, taken int, b string, want api.Errno) {
	t.Helper()
	check(t, inChunks, most, whole, told{taken: taken, wrong: want, body: b})
	check(t, inChunks, most, whole[:taken], told{taken: taken, wrong: want, body: b})
	checkEnded(t, inChunks, most, whole, told{taken: taken, wrong: want, body: b})
	checkUnended(t, most, whole[:taken-1])
}

// P7.1, P7.2: in chunks

func TestChunks(t *testing.T) {
	checkChunks(t, 10, "2;x=1/ab/0//|", "ab")
	checkChunks(t, 10, "0//|", "")
	checkChunks(t, 10, "0//|0//", "")
	checkChunks(t, 10, "0//|more", "")
	checkChunks(t, 10, "1/a/1/b/1/c/0//|1/d/0//", "abc")
	checkChunks(t, 10, "3/abc/2/de/1/f/0//|/", "abcdef")
	checkChunks(t, 10, "4////0//|x", "\r\n\r\n")
	checkChunks(t, 10, "5/0///0//|", "0\r\n\r\n")
	checkChunks(t, 10, "1/\n/1/\r/1/\n/0//|", "\n\r\n")
	checkChunks(t, 30, "A/0123456789/a/abcdefghij/0//|", "0123456789abcdefghij")
	checkChunks(t, 10, "0000000a/0123456789/00000000//|", "0123456789")
}

// What a head in chunks tells of a length is nothing.
func TestChunksBesideALength(t *testing.T) {
	for _, length := range []int64{-1, -2, 0, 1, 2, 3, 100, math.MaxInt64, math.MinInt64} {
		h := api.Head{Length: length, Chunked: true}
		text := lines("2/ab/0//")
		check(t, h, 10, text, told{taken: len(text), done: true, body: "ab"})
		check(t, h, 10, "", told{})
		checkEnded(t, h, 10, text[:5], told{taken: 5, wrong: api.ErrEnd, body: "ab"})
		check(t, h, 1, text, told{taken: 3, wrong: api.ErrLarge})
	}
}

// P7.1: the sizes of chunks

func TestDigits(t *testing.T) {
	text := strings.Repeat("0123456789abcdef", 16*16+1)
	for _, size := range []int{1, 2, 9, 10, 11, 15, 16, 17, 255, 256, 0xabc, 4095, 4096} {
		digits := strconv.FormatInt(int64(size), 16)
		for count := len(digits); count <= 8; count++ {
			long := strings.Repeat("0", count-len(digits)) + digits
			checkChunks(t, size, long+"/"+text[:size]+"/0//|more", text[:size])
			checkChunks(t, size, strings.ToUpper(long)+"/"+text[:size]+"/0//|more", text[:size])
			checkWrong(t, size-1, long+"/|"+text[:size]+"/0//", "", api.ErrLarge)
		}
		for count := 9; count <= 20; count++ {
			long := strings.Repeat("0", count-len(digits)) + digits
			checkWrong(t, size, long+"/|"+text[:size]+"/0//", "", api.ErrChunk)
			checkWrong(t, 0, long+"/|", "", api.ErrChunk)
		}
	}
	for count := 1; count < 30; count++ {
		zeros := strings.Repeat("0", count)
		if count <= 8 {
			checkChunks(t, 0, zeros+"//|", "")
			checkChunks(t, 1, "1/a/"+zeros+"//|", "a")
			continue
		}
		checkWrong(t, 0, zeros+"/|/", "", api.ErrChunk)
		checkWrong(t, 1, "1/a/"+zeros+"/|/", "a", api.ErrChunk)
	}
	for i := range 256 {
		c := string([]byte{byte(i)})
		if n, err := strconv.ParseInt(c, 16, 64); err == nil && n > 0 {
			checkChunks(t, 15, c+"/"+text[:n]+"/0//|", text[:n])
		}
	}
}

// Sizes beyond 32 bits are none; those within are not taken for others.
func TestGreatSizes(t *testing.T) {
	for _, most := range []int{math.MaxInt, 1<<32 - 1, 1 << 40} {
		for _, digits := range []string{"FFFFFFFF", "ffffffff", "80000000", "7fffffff"} {
			checkUnended(t, most, digits+"\r\n")
			whole := digits + "\r\nabc\r\n0\r\n\r\n"
			check(t, inChunks, most, whole, told{taken: len(whole), body: whole[10:]})
		}
	}
	for _, most := range []int{0, 1, 13, api.MaxBody, 1<<31 - 2} {
		for _, digits := range []string{"FFFFFFFF", "80000000", "7fffffff", "fffffffe"} {
			checkWrong(t, most, digits+"/|abc", "", api.ErrLarge)
		}
	}
	checkWrong(t, 1<<32-2, "ffffffff/|abc", "", api.ErrLarge)
	checkWrong(t, 1<<32-2, "1/a/fffffffe/|abc", "a", api.ErrLarge)
	checkUnended(t, 1<<32-1, lines("1/a/fffffffe/abc"))
	for _, digits := range []string{"100000000", "100000001", "fffffffff", "7fffffffffffffff", "8000000000000000", "ffffffffffffffff", "10000000000000000", "10000000000000001"} {
		checkWrong(t, math.MaxInt, digits+"/|a/0//", "", api.ErrChunk)
		checkWrong(t, 0, digits+"/|a/0//", "", api.ErrChunk)
	}
}

// P7.1: chunks' sizes together, and most

func TestSizesTogether(t *testing.T) {
	all := strings.Repeat("abc", 20)
	for _, most := range []int{0, 1, 2, 5, 9, 10, 40} {
		text := ""
		for at, size := 0, 1; at < most; size++ { // chunks of 1, 2, 3 and so on, as far as there is room
			size = min(size, most-at)
			text += strconv.FormatInt(int64(size), 16) + "/" + all[at:at+size] + "/"
			at += size
		}
		checkChunks(t, most, text+"0//|", all[:most])
		checkChunks(t, most+1, text+"0//|", all[:most])
		checkWrong(t, most, text+"1/|a/0//", all[:most], api.ErrLarge)
		checkWrong(t, most, text+"00000009;x/|a/0//", all[:most], api.ErrLarge)
		checkWrong(t, most, text+"ffffffff/|a/0//", all[:most], api.ErrLarge)
		checkChunks(t, most+1, text+"1/z/0//|", all[:most]+"z")
	}
	for _, most := range []int{0, -1, -7, math.MinInt} {
		checkChunks(t, most, "0//|", "")
		checkChunks(t, most, "00;x/a:b//|", "")
		checkWrong(t, most, "1/|a/0//", "", api.ErrLarge)
		checkWrong(t, most, "f;x/|a/0//", "", api.ErrLarge)
	}
}

// A size that is too great is told at the end of its line, if that is one.
func TestSizesThatAreTooGreatAndNone(t *testing.T) {
	for _, line := range []string{"14 x", "14;\x00", "14\r", "14\x7f", "g14", "000000014", "-14", "14,"} {
		checkWrong(t, 13, line+"/|", "", api.ErrChunk)
	}
	checkWrong(t, 13, "14\n|", "", api.ErrChunk)
	checkWrong(t, 13, "14;"+strings.Repeat("x", 253)+"|/", "", api.ErrChunk)
	checkWrong(t, 13, "14;"+strings.Repeat("x", 251)+"/|", "", api.ErrLarge)
	checkWrong(t, 13, "14 \t;a b\xff/|", "", api.ErrLarge)
}

// P7.1: size lines

func TestBlanksAndTextsOfSizeLines(t *testing.T) {
	for _, between := range []string{"", " ", "\t", "  ", " \t", "\t ", " \t \t ", strings.Repeat(" ", 200), strings.Repeat("\t", 200)} {
		checkChunks(t, 10, "3"+between+"/abc/0"+between+"//|", "abc")
		for _, text := range []string{"", "x", "x=y", " x", ";", ";;a", "\t", " \t", "a;b", "\"a\"", "é", "\xff\x80", "~ !", "3", ":"} {
			checkChunks(t, 10, "3"+between+";"+text+"/abc/0"+between+";"+text+"//|", "abc")
			if strings.Trim(text, " \t") != "" && text[0] != ';' {
				whole := "3" + between + "." + text
				checkWrong(t, 10, whole+"/|abc/0//", "", api.ErrChunk)
				checkWrong(t, 10, "3/abc/"+whole+"/|abc/0//", "abc", api.ErrChunk)
			}
		}
		for _, text := range []string{"\x00", "a\x7f", "\r", "a\rb", "\x0b", "\x1fa"} {
			checkWrong(t, 10, "3"+between+";"+text+"/|abc/0//", "", api.ErrChunk)
			checkWrong(t, 10, "0"+between+";"+text+"/|/", "", api.ErrChunk)
		}
	}
}

func TestSizeLinesThatAreNone(t *testing.T) {
	for _, line := range []string{
		"", " ", "\t", ";", ";x", " ;x", "g", "G", "x", " 3", "\t3", "3 x", "3 3", "3 3;", "3x", "3g", "3h;x", "3,", "3:", "3=x", "3 \t x", "3 ; \x00", "+3", "-3", "-0", "0x3", "0X3", "3_0", "3.", "3.0", "1e+1", "３", "\u0663", "\xff", "3\xff", "3é", "3\u00a0", "3\x0b", "3\x0c", "3\x00", "\x003", "3\r", "\r3", "\r", "3\r ", "'3'", "3'", "3@", "3`", "3G",
	} {
		checkWrong(t, 10, line+"/|abc/0//", "", api.ErrChunk)
		checkWrong(t, 10, line+"/|/", "", api.ErrChunk)
		checkWrong(t, 10, "3/abc/"+line+"/|/", "abc", api.ErrChunk)
	}
	for _, line := range []string{"", "3", "0", "3 ", "3;x", "3;", "g", "\r3"} { // without a byte 13 ahead of the 10
		checkWrong(t, 10, line+"\n|abc/0//", "", api.ErrChunk)
		checkWrong(t, 10, "3/abc/"+line+"\n|abc/0//", "abc", api.ErrChunk)
	}
	checkWrong(t, 10, "3\n|\r", "", api.ErrChunk)
	checkWrong(t, 10, "3\r\r\n|", "", api.ErrChunk)
	checkWrong(t, 10, "3 \r \n|", "", api.ErrChunk)
	checkUnended(t, 10, "3\r\r\r")
	checkUnended(t, 10, "3;\r")
	checkUnended(t, 10, "xyz\x00\r")
}

func TestSizesOfSizeLines(t *testing.T) {
	for _, begin := range []string{"3;", "3 ;", "3\t", "3 ", "00000003;x"} {
		for size := 240; size < 270; size++ { // with its end
			fill := "y"
			if !strings.Contains(begin, ";") {
				fill = " "
			}
			line := begin + strings.Repeat(fill, size-2-len(begin))
			if size <= 256 {
				checkChunks(t, 10, line+"/abc/0//|more", "abc")
				checkChunks(t, 10, "2/ab/"+line+"/cde/0//|more", "abcde")
				continue
			}
			mark := line + "/abc/0//"
			mark = lines(mark)[:256] + "|" + lines(mark)[256:]
			checkWrong(t, 10, mark, "", api.ErrChunk)
			checkWrong(t, 10, "2/ab/"+mark, "ab", api.ErrChunk)
			checkWrong(t, 10, "2/ab/"+mark[:257], "ab", api.ErrChunk)
		}
		last := "0" + begin[1:]
		if len(begin) > 8 {
			last = "00000000;x"
		}
		checkChunks(t, 10, "3/abc/"+last+strings.Repeat(" ", 254-len(last))+"//|", "abc")
		checkWrong(t, 10, "3/abc/"+last+strings.Repeat(" ", 255-len(last))+"\r|\n", "abc", api.ErrChunk)
	}
	for _, c := range []string{"0", "x", "\r", "\x00", " ", "\xff", ";"} {
		checkUnended(t, 10, strings.Repeat(c, 255))
		checkWrong(t, 10, strings.Repeat(c, 256)+"|"+c+c, "", api.ErrChunk)
		checkWrong(t, 10, "3/abc/"+strings.Repeat(c, 256)+"|/", "abc", api.ErrChunk)
		checkWrong(t, 10, strings.Repeat(c, 255)+"\n|", "", api.ErrChunk)
	}
}

// P7.1: what stands behind a chunk's bytes

func TestBehindChunks(t *testing.T) {
	for i := range 256 {
		c := string([]byte{byte(i)})
		for _, ahead := range []string{lines("2/ab"), lines("1/x/2/ab")} {
			for _, behind := range []string{"", lines("/0//"), lines("\n0//")} {
				if i != '\r' {
					checkWrongAt(t, 10, ahead+c+behind, len(ahead)+1, decodedOf(ahead), api.ErrChunk)
				}
				if i != '\n' {
					checkWrongAt(t, 10, ahead+"\r"+c+behind, len(ahead)+2, decodedOf(ahead), api.ErrChunk)
				}
			}
		}
	}
	checkWrong(t, 10, "2/ab\n|0//", "ab", api.ErrChunk)
	checkWrong(t, 10, "2/ab0|//", "ab", api.ErrChunk)
	checkWrong(t, 10, "2/abc|/0//", "ab", api.ErrChunk)
	checkWrong(t, 10, "2/ab//|0//", "ab", api.ErrChunk)
	checkUnended(t, 10, lines("2/a"))
	checkUnended(t, 10, lines("2/ab"))
	checkUnended(t, 10, lines("2/ab\r"))
	checkUnended(t, 10, lines("2/ab/"))
	checkUnended(t, 10, lines("2/ab/0"))
	checkUnended(t, 10, lines("2/ab/0/"))
	checkUnended(t, 10, lines("2/ab/0/\r"))
}

// P7.1: trailers

func TestTrailers(t *testing.T) {
	for _, trailer := range []string{"a:", "a: b", "A-b:c", "a::", "a: \xff", "T:\t u \t", "!#$%&'*+-.^_`~: x", "Content-Length: x", "Transfer-Encoding: gzip", "0:", "3: abc", "x: é"} {
		checkChunks(t, 10, "3/abc/0/"+trailer+"//|more", "abc")
		checkChunks(t, 10, "0/"+trailer+"/b: c/"+trailer+"//|/", "")
	}
	checkChunks(t, 10, "0/"+strings.Repeat("a:/", 500)+"/|", "")
	for _, line := range []string{
		"bad", " ", "\t", ":", ": b", " a: b", "\ta: b", "a : b", "a\t: b", "a b: c", "a", "0", "a=b", "a;b", "é: b", "\xff: b", "a\x00: b", "(a): b", "a@b: c", "a: \x00", "a: b\x7f", "a:\x01", "a: b\r", "a: b\rc", "\ra: b", " continued", "\r", "\r\r",
	} {
		checkWrong(t, 10, "0/"+line+"/|/", "", api.ErrChunk)
		checkWrong(t, 10, "3/abc/0/"+line+"/|/", "abc", api.ErrChunk)
		checkWrong(t, 10, "3/abc/0/a: b/"+line+"/|", "abc", api.ErrChunk)
		if !strings.HasSuffix(line, "\r") {
			checkWrong(t, 10, "3/abc/0/a: b/"+line+"\n|/", "abc", api.ErrChunk)
		}
	}
	for _, line := range []string{"", "a:", "a: b", "a: b "} { // without a byte 13 ahead of the 10
		checkWrong(t, 10, "0/"+line+"\n|/", "", api.ErrChunk)
		checkWrong(t, 10, "0/c:d/"+line+"\n|", "", api.ErrChunk)
	}
	checkUnended(t, 10, lines("0/bad"))
	checkUnended(t, 10, lines("0/bad\r"))
	checkUnended(t, 10, lines("0/\x00\x00\r\r"))
	checkUnended(t, 10, lines("0/a: b/"))
}

// trailersOf are trailers of so many bytes with all ends, that of the empty line too; the first one is short.
func trailersOf(size int) string {
	return "a:\r\nb: " + strings.Repeat("c", size-11) + "\r\n\r\n"
}

func TestSizesOfTrailers(t *testing.T) {
	for _, ahead := range []string{"0/", "000000;x/", "3/abc/0/"} {
		b := decodedOf(lines(ahead))
		for size := 8180; size <= 8192; size++ {
			checkChunks(t, 10, ahead+trailersOf(size)+"|more", b)
		}
		for size := 8193; size < 8200; size++ {
			text := trailersOf(size)
			checkWrong(t, 10, ahead+text[:8193]+"|"+text[8193:], b, api.ErrChunk)
		}
		for _, one := range []string{"x", "\r", ":", "\x00"} {
			checkWrong(t, 10, ahead+strings.Repeat(one, 8193)+"|"+one, b, api.ErrChunk)
			checkWrong(t, 10, ahead+strings.Repeat(one, 8192)+"\n|", b, api.ErrChunk)
			checkWrong(t, 10, ahead+strings.Repeat(one, 8191)+"\n|a", b, api.ErrChunk)
		}
		many := strings.Repeat("a:/", 2047)
		checkChunks(t, 10, ahead+many+"/|", b)
		checkChunks(t, 10, ahead+many+"/|/", b)
		checkWrong(t, 10, ahead+many+"a:/\r|\n", b, api.ErrChunk)
		checkWrong(t, 10, ahead+many+"a:/a|:/", b, api.ErrChunk)
	}
}
