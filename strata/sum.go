package strata

const (
	sumMask = 4294967295 // what a sum begins with, and is joined with at the end
	sumStep = 2197175160 // the polynomial of CRC-32C, its bits turned round
)

// Sum is the CRC-32C of the bytes (P2).
func Sum(data string) int {
	n := uint32(sumMask)
	for i := range len(data) {
		n ^= uint32(data[i])
		for range 8 {
			n = n>>1 ^ sumStep*(n&1)
		}
	}
	return int(n ^ sumMask)
}
