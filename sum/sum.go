// Package sum: sums of texts, by which they are known.
package sum

import (
	"math/bits"
	"strings"

	"coffer/api"
)

const (
	chunkSize = 64 // bytes that are stirred into the state at once
	rounds    = 64
	numSize   = 8
	digits    = "0123456789abcdef"
)

// roundNumbers are FIPS 180-4's (4.2.2): one a round.
var roundNumbers = [rounds]uint32{
	0x428a2f98, 0x71374491, 0xb5c0fbcf, 0xe9b5dba5, 0x3956c25b, 0x59f111f1, 0x923f82a4, 0xab1c5ed5,
	0xd807aa98, 0x12835b01, 0x243185be, 0x550c7dc3, 0x72be5d74, 0x80deb1fe, 0x9bdc06a7, 0xc19bf174,
	0xe49b69c1, 0xefbe4786, 0x0fc19dc6, 0x240ca1cc, 0x2de92c6f, 0x4a7484aa, 0x5cb0a9dc, 0x76f988da,
	0x983e5152, 0xa831c66d, 0xb00327c8, 0xbf597fc7, 0xc6e00bf3, 0xd5a79147, 0x06ca6351, 0x14292967,
	0x27b70a85, 0x2e1b2138, 0x4d2c6dfc, 0x53380d13, 0x650a7354, 0x766a0abb, 0x81c2c92e, 0x92722c85,
	0xa2bfe8a1, 0xa81a664b, 0xc24b8b70, 0xc76c51a3, 0xd192e819, 0xd6990624, 0xf40e3585, 0x106aa070,
	0x19a4c116, 0x1e376c08, 0x2748774c, 0x34b0bcb5, 0x391c0cb3, 0x4ed8aa4a, 0x5b9cca4f, 0x682e6ff3,
	0x748f82ee, 0x78a5636f, 0x84c87814, 0x8cc70208, 0x90befffa, 0xa4506ceb, 0xbef9a3f7, 0xc67178f2,
}

// Sum is a text's SHA-256: 32 bytes.
func Sum(s string) (_ string) {
	state := [8]uint32{
		0x6a09e667, 0xbb67ae85, 0x3c6ef372, 0xa54ff53a, 0x510e527f, 0x9b05688c, 0x1f83d9ab, 0x5be0cd19,
	}
	// Only the end is padded, so that a long text isn't copied.
	whole := len(s) - len(s)%chunkSize
	state = stirAll(state, s[:whole])
	state = stirAll(state, s[whole:]+padding(len(s)))
	return stateText(state)
}

// Hex writes bytes as hexadecimal digits.
func Hex(s string) (_ string) {
	var out strings.Builder
	out.Grow(2 * len(s))
	for i := range len(s) {
		out.WriteByte(digits[s[i]>>4])
		out.WriteByte(digits[s[i]&15])
	}
	return out.String()
}

// Num is a number as eight bytes, the greatest first.
func Num(n int) (_ string) {
	return wideText(uint64(n))
}

// Mark is what texts are known by, of a kind: the first 16 bytes of the sum of the kind, and of each how many bytes it has, and they.
func Mark(kind byte, parts ...string) (_ string) {
	size := 1
	for _, p := range parts {
		size += numSize + len(p)
	}
	var all strings.Builder
	all.Grow(size)
	all.WriteByte(kind)
	for _, p := range parts {
		all.WriteString(Num(len(p)))
		all.WriteString(p)
	}
	return Sum(all.String())[:api.MarkSize]
}

// padding is what FIPS 180-4 (5.1.1) lays behind a text of that many bytes, so that whole chunks come of it.
func padding(size int) string {
	zeros := (2*chunkSize - 1 - numSize - size%chunkSize) % chunkSize
	return "\x80" + strings.Repeat("\x00", zeros) + wideText(8*uint64(size))
}

// stirAll stirs whole chunks into the state, one behind the other.
func stirAll(state [8]uint32, s string) [8]uint32 {
	for i := range len(s) / chunkSize {
		state = stir(state, s[i*chunkSize:(i+1)*chunkSize])
	}
	return state
}

// stir is FIPS 180-4's step of one chunk (6.2.2).
func stir(state [8]uint32, chunk string) [8]uint32 {
	words := schedule(chunk)
	a, b, c, d := state[0], state[1], state[2], state[3]
	e, f, g, h := state[4], state[5], state[6], state[7]
	for i := range rounds {
		turned := bits.RotateLeft32(e, -6) ^ bits.RotateLeft32(e, -11) ^ bits.RotateLeft32(e, -25)
		chosen := e&f ^ ^e&g
		first := h + turned + chosen + roundNumbers[i] + words[i]
		turned = bits.RotateLeft32(a, -2) ^ bits.RotateLeft32(a, -13) ^ bits.RotateLeft32(a, -22)
		most := a&b ^ a&c ^ b&c
		h, g, f, e = g, f, e, d+first
		d, c, b, a = c, b, a, first+turned+most
	}
	return [8]uint32{
		state[0] + a, state[1] + b, state[2] + c, state[3] + d,
		state[4] + e, state[5] + f, state[6] + g, state[7] + h,
	}
}

// schedule makes of a chunk's 16 words one a round.
func schedule(chunk string) [rounds]uint32 {
	var words [rounds]uint32
	for i := range rounds {
		if i < 16 {
			words[i] = word(chunk[4*i : 4*i+4])
			continue
		}
		x, y := words[i-15], words[i-2]
		near := bits.RotateLeft32(x, -7) ^ bits.RotateLeft32(x, -18) ^ x>>3
		far := bits.RotateLeft32(y, -17) ^ bits.RotateLeft32(y, -19) ^ y>>10
		words[i] = words[i-16] + near + words[i-7] + far
	}
	return words
}

// word is the number that four bytes tell, the greatest first.
func word(s string) uint32 {
	return uint32(s[0])<<24 | uint32(s[1])<<16 | uint32(s[2])<<8 | uint32(s[3])
}

// stateText is the state as bytes, the greatest of each word first.
func stateText(state [8]uint32) string {
	var out [32]byte
	for i := range len(out) {
		out[i] = byte(state[i/4] >> (24 - 8*(i%4)))
	}
	return string(out[:])
}

// wideText is a number of 64 bits as bytes, the greatest first.
func wideText(n uint64) string {
	var out [numSize]byte
	for i := range numSize {
		out[i] = byte(n >> (56 - 8*i))
	}
	return string(out[:])
}
