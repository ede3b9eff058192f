// Package sum is layer 2: CRC-32, and texts that end with it. See shared/doc/02-sum.md.
package sum

// size is how many bytes a sum has behind a text.
const size = 4

// half is what the lowest four bits come to, halved four times: two steps a byte then, and not eight.
var half = [16]uint32{
	0x00000000, 0x1db71064, 0x3b6e20c8, 0x26d930ac,
	0x76dc4190, 0x6b6b51f4, 0x4db26158, 0x5005713c,
	0xedb88320, 0xf00f9344, 0xd6d6a3e8, 0xcb61b38c,
	0x9b64c2b0, 0x86d3d2d4, 0xa00ae278, 0xbdbdf21c,
}

// Of is the sum of texts, one behind the other.
func Of(l ...string) uint32 {
	c := ^uint32(0)
	for _, s := range l {
		for i := range len(s) {
			c ^= uint32(s[i])
			c = c>>4 ^ half[c&15]
			c = c>>4 ^ half[c&15]
		}
	}
	return ^c
}

// tail is a sum's bytes, the lowest first.
func tail(c uint32) string {
	return string([]byte{byte(c), byte(c >> 8), byte(c >> 16), byte(c >> 24)})
}

// Seal is a text with its sum behind it.
func Seal(s string) string {
	return s + tail(Of(s))
}

// Open is what Seal was given.
func Open(s string) (string, bool) {
	if len(s) < size {
		return "", false
	}
	at := len(s) - size
	if tail(Of(s[:at])) != s[at:] {
		return "", false
	}
	return s[:at], true
}

// Turn is a text whose bits from at on are turned where mask has ones.
func Turn(s string, at int, mask uint32) string {
	bits := 8 * len(s)
	at = min(max(at, 0), bits)
	b := []byte(s)
	for i := range min(32, bits-at) {
		bit := byte(mask>>i) & 1
		b[(at+i)/8] ^= bit << ((at + i) % 8)
	}
	return string(b)
}
