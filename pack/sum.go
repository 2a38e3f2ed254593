package pack

const (
	polynomial = 0xEDB88320
	half       = 4         // how many bits the table tells at once: it is made for each text anew, so that it must be short
	halves     = 1 << half // how many numbers have so many bits
)

// Sum is the CRC-32 of a text.
func Sum(b []byte) uint32 {
	t := table()
	sum := ^uint32(0)
	for _, c := range b {
		sum ^= uint32(c)
		sum = sum>>half ^ t[sum%halves]
		sum = sum>>half ^ t[sum%halves]
	}
	return ^sum
}

// table is, for each half of a byte, what is left of it alone, once its bits have fallen out.
func table() [halves]uint32 {
	var t [halves]uint32
	for i := range t {
		sum := uint32(i)
		for range half {
			sum = shift(sum)
		}
		t[i] = sum
	}
	return t
}

// shift is a sum by one bit further.
func shift(sum uint32) uint32 {
	if sum&1 == 1 {
		return sum>>1 ^ polynomial
	}
	return sum >> 1
}
