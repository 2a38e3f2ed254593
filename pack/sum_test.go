package pack_test

import (
	"bytes"
	"hash/crc32"
	"strings"
	"testing"

	"odometer/pack"
)

// P2.3

func TestSum(t *testing.T) {
	for s, want := range map[string]uint32{
		"":          0,
		"\x00":      0xD202EF8D,
		"\xff":      0xFF000000,
		"a":         0xE8B7BE43,
		"abc":       0x352441C2,
		"123456789": 0xCBF43926,
		"The quick brown fox jumps over the lazy dog": 0x414FA339,
		strings.Repeat("\x00", 32):                    0x190A55AD,
		strings.Repeat("\xff", 32):                    0xFF6CAB0B,
	} {
		if sum := pack.Sum([]byte(s)); sum != want {
			t.Errorf("Sum(%q) = %08X, want %08X", s, sum, want)
		}
	}
	if sum := pack.Sum(nil); sum != 0 {
		t.Errorf("Sum(nil) = %08X", sum)
	}
}

// bitwise is the sum as the chapter's words tell it.
func bitwise(b []byte) uint32 {
	sum := uint32(0xFFFFFFFF)
	for _, c := range b {
		sum ^= uint32(c)
		for range 8 {
			out := sum & 1
			sum >>= 1
			if out == 1 {
				sum ^= 0xEDB88320
			}
		}
	}
	return ^sum
}

func checkSum(t *testing.T, b []byte) {
	t.Helper()
	want := bitwise(b)
	if library := crc32.ChecksumIEEE(b); library != want {
		t.Fatalf("%x: %08X and %08X", b, library, want)
	}
	if sum := pack.Sum(b); sum != want {
		t.Errorf("Sum(%.40x), of %d bytes, = %08X, want %08X", b, len(b), sum, want)
	}
}

func TestSumsOfAllLengths(t *testing.T) {
	for size := range 600 {
		checkSum(t, some(size))
		checkSum(t, make([]byte, size))
		checkSum(t, bytes.Repeat([]byte{0xff}, size))
	}
	checkSum(t, some(1<<20+1))
}

func TestSumsOfShortTexts(t *testing.T) {
	for c := range 1 << 16 {
		checkSum(t, []byte{byte(c)})
		checkSum(t, []byte{byte(c), byte(c >> 8)})
		checkSum(t, []byte{byte(c >> 8), 0, byte(c)})
	}
}

// P2.4

func TestOneByteMakesAnotherSum(t *testing.T) {
	for _, size := range []int{1, 2, 3, 4, 5, 8, 31, 64, 257} {
		b := some(size)
		for i := range b {
			was := b[i]
			seen := make(map[uint32]int, 256)
			for c := range 256 {
				b[i] = byte(c)
				sum := pack.Sum(b)
				if other, ok := seen[sum]; ok {
					t.Errorf("byte %d of %d: %d and %d have one sum, %08X", i, size, other, c, sum)
				}
				seen[sum] = c
			}
			b[i] = was
		}
	}
}

// What a sum is hangs on the text alone, not on what was summed before.
func TestSumKeepsNothing(t *testing.T) {
	first := pack.Sum([]byte("abc"))
	pack.Sum(some(1000))
	if again := pack.Sum([]byte("abc")); again != first {
		t.Errorf("Sum = %08X, and %08X", first, again)
	}
}
