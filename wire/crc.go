package wire

const polynomial = 0xEDB88320

// Crc is the CRC-32 of IEEE.
func Crc(b []byte) uint32 {
	steps := halfByteSteps()
	sum := ^uint32(0)
	for _, c := range b {
		sum ^= uint32(c)
		sum = steps[sum%16] ^ sum>>4
		sum = steps[sum%16] ^ sum>>4
	}
	return ^sum
}

// halfByteSteps has, for each four low bits of a sum, what shifting them out
// one by one leaves behind.
func halfByteSteps() [16]uint32 {
	var steps [16]uint32
	for low := range steps {
		step := uint32(low)
		for range 4 {
			out := step & 1
			step >>= 1
			if out == 1 {
				step ^= polynomial
			}
		}
		steps[low] = step
	}
	return steps
}
