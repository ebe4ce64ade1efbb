// Package fixed writes a number into just so many bytes, the highest first, as
// the layers have it whose numbers stand at places of their own.
package fixed

// Lay fills p with n; what is above its bytes is lost.
func Lay(p []byte, n uint64) {
	for i := range p {
		p[len(p)-1-i] = byte(n)
		n >>= 8
	}
}

// Of is the number whose bytes p is; of more than eight bytes the last eight
// count.
func Of(p []byte) uint64 {
	var n uint64
	for _, c := range p {
		n = n<<8 | uint64(c)
	}
	return n
}
