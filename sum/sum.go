// Package sum computes CRC-32C checksums of byte strings and a seeded hash. It is layer 1: see shared/doc/01-sum.md.
package sum

const (
	// polynomial is that of CRC-32C, its lowest bit first.
	polynomial = 0x82F63B78

	hashBasis = 2166136261
	hashPrime = 16777619
	mixFactor = 0x2C1B3C6D
)

// Of returns the checksum of b.
func Of(b string) uint32 {
	// The checksum of the empty string is 0, so every string continues it.
	return More(0, b)
}

// More returns the checksum of any string whose checksum is sum, followed by b.
func More(sum uint32, b string) uint32 {
	// The register of that string is all that counts of it, and a checksum is the register inverted.
	register := ^sum
	each(b, func(c byte) {
		register ^= uint32(c)
		done := 0
	bits:
		for {
			switch done {
			case 8:
				break bits
			default:
				// -(register & 1) is all ones or none: a branch on bits that look random costs several times as much.
				register = register>>1 ^ polynomial&-(register&1)
				done++
			}
		}
	})
	return ^register
}

// Hash returns the hash of b for seed.
func Hash(seed uint32, b string) uint32 {
	h := seed ^ hashBasis
	each(b, func(c byte) {
		h = (h ^ uint32(c)) * hashPrime
	})
	for range 3 {
		h = (h ^ h>>15) * mixFactor
	}
	return h
}

// each does step for every byte of b, in order.
func each(b string, step func(c byte)) {
	for i := range len(b) {
		step(b[i])
	}
}
