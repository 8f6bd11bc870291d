package sha

import (
	"math/bits"
	"strings"
)

const blockSize = 64

// squareRoots are the first 32 bits behind the point of the square roots of the primes 2 to 19.
var squareRoots = [8]uint32{
	0x6a09e667, 0xbb67ae85, 0x3c6ef372, 0xa54ff53a, 0x510e527f, 0x9b05688c, 0x1f83d9ab, 0x5be0cd19,
}

// cubeRoots are the first 32 bits behind the point of the cube roots of the primes 2 to 311.
var cubeRoots = [64]uint32{
	0x428a2f98, 0x71374491, 0xb5c0fbcf, 0xe9b5dba5, 0x3956c25b, 0x59f111f1, 0x923f82a4, 0xab1c5ed5,
	0xd807aa98, 0x12835b01, 0x243185be, 0x550c7dc3, 0x72be5d74, 0x80deb1fe, 0x9bdc06a7, 0xc19bf174,
	0xe49b69c1, 0xefbe4786, 0x0fc19dc6, 0x240ca1cc, 0x2de92c6f, 0x4a7484aa, 0x5cb0a9dc, 0x76f988da,
	0x983e5152, 0xa831c66d, 0xb00327c8, 0xbf597fc7, 0xc6e00bf3, 0xd5a79147, 0x06ca6351, 0x14292967,
	0x27b70a85, 0x2e1b2138, 0x4d2c6dfc, 0x53380d13, 0x650a7354, 0x766a0abb, 0x81c2c92e, 0x92722c85,
	0xa2bfe8a1, 0xa81a664b, 0xc24b8b70, 0xc76c51a3, 0xd192e819, 0xd6990624, 0xf40e3585, 0x106aa070,
	0x19a4c116, 0x1e376c08, 0x2748774c, 0x34b0bcb5, 0x391c0cb3, 0x4ed8aa4a, 0x5b9cca4f, 0x682e6ff3,
	0x748f82ee, 0x78a5636f, 0x84c87814, 0x8cc70208, 0x90befffa, 0xa4506ceb, 0xbef9a3f7, 0xc67178f2,
}

// feed is what the numbers become by each whole block of rest and s, and the bytes that are left, in memory of their own.
func feed(numbers [8]uint32, rest []byte, s string) ([8]uint32, []byte) {
	var block [blockSize]byte
	held := copy(block[:], rest)
	for held+len(s) >= blockSize {
		s = s[copy(block[held:], s):]
		numbers = mix(numbers, block)
		held = 0
	}
	held += copy(block[held:], s)
	// Behind what is held the block still has bytes of an earlier one.
	return numbers, block[:held:held]
}

// mix is what the numbers become by one block.
func mix(numbers [8]uint32, block [blockSize]byte) [8]uint32 {
	w := words(block)
	a, b, c, d := numbers[0], numbers[1], numbers[2], numbers[3]
	e, f, g, h := numbers[4], numbers[5], numbers[6], numbers[7]
	for i := range w {
		x := h + (turn(e, 6) ^ turn(e, 11) ^ turn(e, 25)) + ((e & f) ^ (^e & g)) + cubeRoots[i] + w[i]
		y := (turn(a, 2) ^ turn(a, 13) ^ turn(a, 22)) + ((a & b) ^ (a & c) ^ (b & c))
		a, b, c, d, e, f, g, h = x+y, a, b, c, d+x, e, f, g
	}
	for i, x := range [8]uint32{a, b, c, d, e, f, g, h} {
		numbers[i] += x
	}
	return numbers
}

// words are a block's 64 numbers: its own 16, and those that follow from them.
func words(block [blockSize]byte) [64]uint32 {
	var w [64]uint32
	for i := range 16 {
		w[i] = uint32(block[4*i])<<24 | uint32(block[4*i+1])<<16 | uint32(block[4*i+2])<<8 | uint32(block[4*i+3])
	}
	for i := 16; i < len(w); i++ {
		p, q := w[i-15], w[i-2]
		s := turn(p, 7) ^ turn(p, 18) ^ p>>3
		t := turn(q, 17) ^ turn(q, 19) ^ q>>10
		w[i] = w[i-16] + w[i-7] + s + t
	}
	return w
}

func turn(x uint32, n int) uint32 { return bits.RotateLeft32(x, -n) }

// ending fills up that many bytes to whole blocks.
func ending(size int) string {
	var b strings.Builder
	b.WriteByte(128)
	for n := size + 1; n%blockSize != blockSize-8; n++ {
		b.WriteByte(0)
	}
	count := uint64(size) * 8
	for shift := 56; shift >= 0; shift -= 8 {
		b.WriteByte(byte(count >> shift))
	}
	return b.String()
}

// tell writes the numbers, four bytes each.
func tell(numbers [8]uint32) string {
	var b strings.Builder
	for _, x := range numbers {
		for shift := 24; shift >= 0; shift -= 8 {
			b.WriteByte(byte(x >> shift))
		}
	}
	return b.String()
}
