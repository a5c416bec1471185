package hash

import "math/bits"

// start returns the state before the first block.
func start() [8]uint32 {
	return [8]uint32{0x6a09e667, 0xbb67ae85, 0x3c6ef372, 0xa54ff53a, 0x510e527f, 0x9b05688c, 0x1f83d9ab, 0x5be0cd19}
}

// absorb returns the state behind the blocks of s, whose length is a multiple of the size of a block.
func absorb(state [8]uint32, s string) [8]uint32 {
	for i := 0; i < len(s); i += blockSize {
		before := state
		state = rounds(state, schedule(s[i:i+blockSize]))
		for j := range state {
			state[j] += before[j]
		}
	}
	return state
}

// schedule returns the words of a block, and those that are derived from them.
func schedule(block string) [64]uint32 {
	var w [64]uint32
	for i := range len(block) {
		w[i/4] = w[i/4]<<8 | uint32(block[i])
	}
	for i := 16; i < len(w); i++ {
		x, y := w[i-15], w[i-2]
		s0 := right(x, 7) ^ right(x, 18) ^ x>>3
		s1 := right(y, 17) ^ right(y, 19) ^ y>>10
		w[i] = w[i-16] + s0 + w[i-7] + s1
	}
	return w
}

// rounds returns the words of the state after the rounds with the words of a schedule.
func rounds(state [8]uint32, w [64]uint32) [8]uint32 {
	k := constants()
	a, b, c, d := state[0], state[1], state[2], state[3]
	e, f, g, h := state[4], state[5], state[6], state[7]
	for i := range w {
		t := h + (right(e, 6) ^ right(e, 11) ^ right(e, 25)) + (e&f ^ ^e&g) + k[i] + w[i]
		u := (right(a, 2) ^ right(a, 13) ^ right(a, 22)) + (a&b ^ a&c ^ b&c)
		h, g, f, e, d, c, b, a = g, f, e, d+t, c, b, a, t+u
	}
	return [8]uint32{a, b, c, d, e, f, g, h}
}

// right returns x rotated to the right by n bits.
func right(x uint32, n int) uint32 {
	return bits.RotateLeft32(x, -n)
}

// text returns the bytes of the words of a state.
func text(state [8]uint32) string {
	b := make([]byte, 0, 4*len(state))
	for _, word := range state {
		b = append(b, byte(word>>24), byte(word>>16), byte(word>>8), byte(word))
	}
	return string(b)
}

// constants returns the constants of the rounds.
func constants() [64]uint32 {
	return [64]uint32{
		0x428a2f98, 0x71374491, 0xb5c0fbcf, 0xe9b5dba5, 0x3956c25b, 0x59f111f1, 0x923f82a4, 0xab1c5ed5,
		0xd807aa98, 0x12835b01, 0x243185be, 0x550c7dc3, 0x72be5d74, 0x80deb1fe, 0x9bdc06a7, 0xc19bf174,
		0xe49b69c1, 0xefbe4786, 0x0fc19dc6, 0x240ca1cc, 0x2de92c6f, 0x4a7484aa, 0x5cb0a9dc, 0x76f988da,
		0x983e5152, 0xa831c66d, 0xb00327c8, 0xbf597fc7, 0xc6e00bf3, 0xd5a79147, 0x06ca6351, 0x14292967,
		0x27b70a85, 0x2e1b2138, 0x4d2c6dfc, 0x53380d13, 0x650a7354, 0x766a0abb, 0x81c2c92e, 0x92722c85,
		0xa2bfe8a1, 0xa81a664b, 0xc24b8b70, 0xc76c51a3, 0xd192e819, 0xd6990624, 0xf40e3585, 0x106aa070,
		0x19a4c116, 0x1e376c08, 0x2748774c, 0x34b0bcb5, 0x391c0cb3, 0x4ed8aa4a, 0x5b9cca4f, 0x682e6ff3,
		0x748f82ee, 0x78a5636f, 0x84c87814, 0x8cc70208, 0x90befffa, 0xa4506ceb, 0xbef9a3f7, 0xc67178f2,
	}
}
