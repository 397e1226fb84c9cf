package field

import (
	"math/bits"
	"strings"
)

// blockSize is the number of bytes of a block of SHA-256.
const blockSize = 64

// firstState and roundConstants are given by FIPS 180-4: the first 32 bits of the fractional parts of the square roots of the first 8 primes, and of the cube roots of the first 64 primes.
var firstState = [8]uint32{
	0x6a09e667, 0xbb67ae85, 0x3c6ef372, 0xa54ff53a, 0x510e527f, 0x9b05688c, 0x1f83d9ab, 0x5be0cd19,
}

var roundConstants = [64]uint32{
	0x428a2f98, 0x71374491, 0xb5c0fbcf, 0xe9b5dba5, 0x3956c25b, 0x59f111f1, 0x923f82a4, 0xab1c5ed5,
	0xd807aa98, 0x12835b01, 0x243185be, 0x550c7dc3, 0x72be5d74, 0x80deb1fe, 0x9bdc06a7, 0xc19bf174,
	0xe49b69c1, 0xefbe4786, 0x0fc19dc6, 0x240ca1cc, 0x2de92c6f, 0x4a7484aa, 0x5cb0a9dc, 0x76f988da,
	0x983e5152, 0xa831c66d, 0xb00327c8, 0xbf597fc7, 0xc6e00bf3, 0xd5a79147, 0x06ca6351, 0x14292967,
	0x27b70a85, 0x2e1b2138, 0x4d2c6dfc, 0x53380d13, 0x650a7354, 0x766a0abb, 0x81c2c92e, 0x92722c85,
	0xa2bfe8a1, 0xa81a664b, 0xc24b8b70, 0xc76c51a3, 0xd192e819, 0xd6990624, 0xf40e3585, 0x106aa070,
	0x19a4c116, 0x1e376c08, 0x2748774c, 0x34b0bcb5, 0x391c0cb3, 0x4ed8aa4a, 0x5b9cca4f, 0x682e6ff3,
	0x748f82ee, 0x78a5636f, 0x84c87814, 0x8cc70208, 0x90befffa, 0xa4506ceb, 0xbef9a3f7, 0xc67178f2,
}

// Sha returns the SHA-256 digest of a string.
func Sha(s string) string {
	state := firstState
	whole := len(s) - len(s)%blockSize
	state = absorb(state, s[:whole])
	state = absorb(state, s[whole:]+padding(len(s)))
	var b strings.Builder
	for _, word := range state {
		writeBigEndian(&b, uint64(word), 4)
	}
	return b.String()
}

// padding returns what follows a message of size bytes: a byte 128, bytes 0 up to 8 bytes before the end of a block, and the number of bits.
func padding(size int) string {
	var b strings.Builder
	b.WriteByte(0x80)
	for (size+b.Len())%blockSize != blockSize-8 {
		b.WriteByte(0)
	}
	writeBigEndian(&b, uint64(size)*8, 8)
	return b.String()
}

// writeBigEndian writes the last size bytes of v, the most significant one first.
func writeBigEndian(b *strings.Builder, v uint64, size int) {
	for i := size - 1; i >= 0; i-- {
		b.WriteByte(byte(v >> (8 * i)))
	}
}

// absorb returns the state after the blocks of s.
func absorb(state [8]uint32, s string) [8]uint32 {
	for at := 0; at < len(s); at += blockSize {
		state = compress(state, expand(s[at:at+blockSize]))
	}
	return state
}

// expand returns the message schedule of a block.
func expand(block string) [64]uint32 {
	var w [64]uint32
	for i := range 16 {
		w[i] = uint32(block[4*i])<<24 | uint32(block[4*i+1])<<16 | uint32(block[4*i+2])<<8 | uint32(block[4*i+3])
	}
	for i := 16; i < 64; i++ {
		x, y := w[i-15], w[i-2]
		s0 := turn(x, 7) ^ turn(x, 18) ^ x>>3
		s1 := turn(y, 17) ^ turn(y, 19) ^ y>>10
		w[i] = w[i-16] + s0 + w[i-7] + s1
	}
	return w
}

// turn rotates a word to the right.
func turn(x uint32, n int) uint32 { return bits.RotateLeft32(x, -n) }

// compress returns the state after a block with the message schedule w.
func compress(state [8]uint32, w [64]uint32) [8]uint32 {
	a, b, c, d := state[0], state[1], state[2], state[3]
	e, f, g, h := state[4], state[5], state[6], state[7]
	for i, k := range roundConstants {
		choice := e&f ^ ^e&g
		majority := a&b ^ a&c ^ b&c
		t1 := h + (turn(e, 6) ^ turn(e, 11) ^ turn(e, 25)) + choice + k + w[i]
		t2 := (turn(a, 2) ^ turn(a, 13) ^ turn(a, 22)) + majority
		h, g, f, e = g, f, e, d+t1
		d, c, b, a = c, b, a, t1+t2
	}
	for i, v := range [8]uint32{a, b, c, d, e, f, g, h} {
		state[i] += v
	}
	return state
}

// Number returns the digest of a string as a number modulo n.
func Number(s string, n int) int {
	if !isModulus(n) {
		return 0
	}
	r := 0
	digest := Sha(s)
	for i := range len(digest) {
		r = Add(n, Mul(n, r, 256), int(digest[i]))
	}
	return r
}
