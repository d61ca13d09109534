package book

const (
	hashStart  = 14695981039346656037
	hashPrime  = 1099511628211
	hashSpread = 11400714819323198485
)

// Hash returns the hash of a string.
func Hash(s string) uint64 {
	h := uint64(hashStart)
	for i := range len(s) {
		h = (h ^ uint64(s[i])) * hashPrime
	}
	h = (h ^ h>>32) * hashSpread
	return h ^ h>>29
}

// numberSize is how many bytes a hash, a seed or a secret takes.
const numberSize = 8

// appendNumber appends the lowest bytes of v, so many of them, to b.
func appendNumber(b []byte, v uint64, bytes int) []byte {
	for range bytes {
		b = append(b, byte(v))
		v >>= 8
	}
	return b
}

// numberOf returns the number whose bytes are s.
func numberOf(s string) uint64 {
	v := uint64(0)
	for i := range len(s) {
		v |= uint64(s[i]) << (8 * i)
	}
	return v
}
