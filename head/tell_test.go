package head_test

import (
	"strings"
	"testing"

	"odometer/api"
)

// fields are lines of fields, and the empty one.
func fields(list ...string) string {
	return strings.Join(append(list, "", ""), "\r\n")
}

// otherLetters are a word's ways to be written.
func otherLetters(word string) []string {
	l := []string{word, strings.ToUpper(word), strings.ToUpper(word[:1]) + word[1:]}
	for i := range word {
		l = append(l, word[:i]+strings.ToUpper(word[i:i+1])+word[i+1:])
	}
	return l
}

// P6.1: lengths

func TestLengths(t *testing.T) {
	for text, want := range map[string]int64{
		"0": 0, "00": 0, "000000000000000": 0, "1": 1, "9": 9, "007": 7, "10": 10, "1048577": 1048577,
		"99999999999999": 99999999999999, "100000000000000": 100000000000000, "999999999999999": 999999999999999, "123456789012345": 123456789012345, "000000000000001": 1,
	} {
		for _, name := range otherLetters("content-length") {
			for _, value := range []string{text, " " + text, text + " ", "\t " + text + " \t"} {
				line := name + ":" + value
				checkWhole(t, okLine+fields(line), api.Head{Status: 200, Length: want})
				checkWhole(t, oldLine+fields(line), api.Head{Status: 200, Length: want, Close: true})
				checkWhole(t, okLine+fields("a: b", line, "Content-Length: "+text, "c: d", line), api.Head{Status: 200, Length: want})
			}
		}
	}
}

func TestLengthsThatAreNone(t *testing.T) {
	for _, text := range []string{
		"", " ", "\t", "x", "-1", "+1", "-0", "1 2", "1,1", "1, 1", "1,", "1.0", "1e3", "0x1", "1_0", "١", "１", "1x", "x1", "1;", "\xff", "/", ":", "9:", "1\x85", "1\u00a0",
		"0000000000000000", "0000000000000001", "1000000000000000", "9999999999999999", "12345678901234567890", "18446744073709551617", strings.Repeat("1", 1000), strings.Repeat("0", 1000),
	} {
		line := "Content-Length: " + text
		for _, first := range []string{okLine, oldLine} {
			checkWrong(t, first+fields(line), api.ErrLength)
			checkWrong(t, first+fields(line, line), api.ErrLength)
			checkWrong(t, first+fields("content-length: 1", line), api.ErrLength)
			checkWrong(t, first+fields(line, "content-length: 1"), api.ErrLength)
			checkWrong(t, first+fields("Transfer-Encoding: chunked", line), api.ErrLength)
			checkNothing(t, first+line+"\r\n")
		}
	}
}

func TestLengthsThatDiffer(t *testing.T) {
	for _, x := range [][]string{{"1", "2"}, {"1", "01"}, {"01", "1"}, {"0", "00"}, {"5", "5", "6"}, {"5", "6", "5"}, {"6", "5", "5"}, {"123456789012345", "123456789012346"}, {"1", "1", "1", "1", "1", "01"}} {
		var list []string
		for _, value := range x {
			list = append(list, "Content-Length: "+value)
		}
		checkWrong(t, okLine+fields(list...), api.ErrLength)
		checkWrong(t, oldLine+fields(append(list, "Connection: close")...), api.ErrLength)
	}
}

// Other fields do not tell a length.
func TestNoLengths(t *testing.T) {
	for _, name := range []string{"Content-Lengths", "Content_Length", "X-Content-Length", "Length", "ContentLength", "Content-Lengt"} {
		checkWhole(t, okLine+fields(name+": 5"), told)
		checkWhole(t, okLine+fields(name+": x", "Content-Length: 4"), api.Head{Status: 200, Length: 4})
	}
}

// P6.1: transfer-encodings

func TestChunks(t *testing.T) {
	for _, name := range otherLetters("transfer-encoding") {
		for _, word := range otherLetters("chunked") {
			for _, value := range []string{word, " " + word, word + "\t", " \t" + word + "\t "} {
				line := name + ":" + value
				checkWhole(t, okLine+fields(line), api.Head{Status: 200, Length: -1, Chunked: true})
				checkWhole(t, okLine+fields("a: b", line, "Connection: close"), api.Head{Status: 200, Length: -1, Chunked: true, Close: true})
				checkWrong(t, oldLine+fields(line), api.ErrChunk)
				checkWrong(t, oldLine+fields("Connection: keep-alive", line), api.ErrChunk)
			}
		}
	}
}

func TestTransferEncodingsThatAreNone(t *testing.T) {
	for _, value := range []string{"", " ", "gzip", "identity", "gzip, chunked", "chunked, chunked", "chunked,", ",chunked", "chunked;", "chunked;q=1", "\"chunked\"", "chun ked", "chunke", "chunkeds", "chun\u212aed", "\xff", "chunked\u00a0", "close"} {
		line := "Transfer-Encoding: " + value
		for _, first := range []string{okLine, oldLine} {
			checkWrong(t, first+fields(line), api.ErrChunk)
			checkWrong(t, first+fields("Transfer-Encoding: chunked", line), api.ErrChunk)
			checkWrong(t, first+fields(line, "Transfer-Encoding: chunked"), api.ErrChunk)
			checkWrong(t, first+fields(line, "Content-Length: 1"), api.ErrLength)
			checkNothing(t, first+line+"\r\n")
		}
	}
	two := []string{"Transfer-Encoding: chunked", "transfer-encoding: chunked"}
	checkWrong(t, okLine+fields(two...), api.ErrChunk)
	checkWrong(t, oldLine+fields(two...), api.ErrChunk)
	checkWrong(t, okLine+fields(append(two, "Content-Length: 1")...), api.ErrLength)
}

func TestBothALengthAndATransferEncoding(t *testing.T) {
	for _, first := range []string{okLine, oldLine} {
		for _, coding := range []string{"chunked", "CHUNKED", "gzip", ""} {
			for _, length := range []string{"0", "5", "x", ""} {
				a, b := "Transfer-Encoding: "+coding, "Content-Length: "+length
				checkWrong(t, first+fields(a, b), api.ErrLength)
				checkWrong(t, first+fields(b, a), api.ErrLength)
				checkWrong(t, first+fields(b, b, a), api.ErrLength)
			}
		}
	}
}

func TestNoTransferEncodings(t *testing.T) {
	for _, name := range []string{"Transfer-Encodings", "Transfer_Encoding", "TE", "Content-Encoding", "X-Transfer-Encoding"} {
		checkWhole(t, okLine+fields(name+": chunked"), told)
		checkWhole(t, oldLine+fields(name+": gzip"), told)
		checkWhole(t, okLine+fields(name+": chunked", "Content-Length: 4"), api.Head{Status: 200, Length: 4})
	}
}

// P6.1: connections

// checkClose holds Parse to whether the connection is closed, for both versions, with a length and with chunks; without both, it is closed always.
func checkClose(t *testing.T, now, old bool, list ...string) {
	t.Helper()
	length, chunks := append(list, "Content-Length: 5"), append(list, "Transfer-Encoding: chunked")
	checkWhole(t, okLine+fields(length...), api.Head{Status: 200, Length: 5, Close: now})
	checkWhole(t, oldLine+fields(length...), api.Head{Status: 200, Length: 5, Close: old})
	checkWhole(t, okLine+fields(chunks...), api.Head{Status: 200, Length: -1, Chunked: true, Close: now})
	checkWhole(t, okLine+fields(list...), told)
	checkWhole(t, oldLine+fields(list...), told)
}

// around are ways to put a word among others.
func around(word string) []string {
	return []string{
		word, word + " ", "\t" + word, " \t " + word + " \t ", word + ",", "," + word, ",," + word + ",,", " , " + word + " , ", "x," + word, word + ",x", "x, y ,\t" + word + "\t, z", "x y," + word, word + "," + word, "upgrade, " + word + ";x, " + word,
	}
}

// nearly are values without a word, that are like ones with it.
func nearly(word string) []string {
	return []string{
		word + "x", "x" + word, word + ";", word + ";q=1", "\"" + word + "\"", word + " x", "x " + word, word + " " + word, word[1:], word[:len(word)-1], word[:2] + " " + word[2:], word[:2] + "," + word[2:], word + "=1", word + "\u00a0", "\u2003" + word, word + "\x85", "\xa0" + word, ";" + word, word + "\xff",
	}
}

func TestConnectionsThatSayNothing(t *testing.T) {
	checkClose(t, false, true)
	for _, value := range []string{"", " ", "\t", ",", " , ,\t", "x", "upgrade", "x, y", "\xff", "close keep-alive", "keep-alive close", "keep-alive;close"} {
		checkClose(t, false, true, "Connection: "+value)
		checkClose(t, false, true, "Connection: "+value, "connection: x")
	}
	for _, value := range append(nearly("close"), nearly("keep-alive")...) {
		checkClose(t, false, true, "Connection: "+value)
		checkClose(t, false, true, "Connection: x, "+value+" , y")
	}
}

func TestConnectionsThatSayClose(t *testing.T) {
	for _, name := range otherLetters("connection") {
		for _, word := range otherLetters("close") {
			checkClose(t, true, true, name+": "+word)
		}
	}
	for _, value := range around("close") {
		checkClose(t, true, true, "Connection:"+value)
		checkClose(t, true, true, "Connection: x", "Connection:"+value)
		checkClose(t, true, true, "Connection:"+value, "Connection: x")
		checkClose(t, true, true, "Connection: close", "Connection:"+value)
	}
	checkClose(t, false, true, "Connection: clo\u017fe")
}

func TestConnectionsThatSayKeepAlive(t *testing.T) {
	for _, name := range otherLetters("connection") {
		for _, word := range otherLetters("keep-alive") {
			checkClose(t, false, false, name+": "+word)
		}
	}
	for _, value := range around("keep-alive") {
		checkClose(t, false, false, "Connection:"+value)
		checkClose(t, false, false, "Connection: x", "Connection:"+value)
		checkClose(t, false, false, "Connection:"+value, "Connection: x")
	}
	checkClose(t, false, true, "Connection: \u212aeep-alive")
	checkClose(t, false, true, "Keep-Alive: keep-alive")
	checkClose(t, false, true, "Proxy-Connection: keep-alive", "Connections: close")
}

func TestConnectionsThatSayBoth(t *testing.T) {
	for _, keep := range around("keep-alive") {
		for _, value := range around("close") {
			checkClose(t, true, true, "Connection: "+keep+","+value)
			checkClose(t, true, true, "Connection: "+value+","+keep)
			checkClose(t, true, true, "Connection: "+keep, "Connection: "+value)
			checkClose(t, true, true, "Connection: "+value, "Connection: "+keep)
			checkClose(t, true, true, "Connection: "+keep, "Connection: "+value, "Connection: "+keep)
		}
	}
}
