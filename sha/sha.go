// Package sha is layer 1: see shared/doc/01-sha.md.
package sha

import (
	"math/bits"
	"sync"

	"peatbank/api"
)

const (
	blockBytes  = 64
	lengthBytes = 8 // of the number that ends the last block
)

// roundNumbers are the first 32 bits behind the point of the cube roots of the first 64 primes.
var roundNumbers = [64]uint32{
	0x428a2f98, 0x71374491, 0xb5c0fbcf, 0xe9b5dba5, 0x3956c25b, 0x59f111f1, 0x923f82a4, 0xab1c5ed5,
	0xd807aa98, 0x12835b01, 0x243185be, 0x550c7dc3, 0x72be5d74, 0x80deb1fe, 0x9bdc06a7, 0xc19bf174,
	0xe49b69c1, 0xefbe4786, 0x0fc19dc6, 0x240ca1cc, 0x2de92c6f, 0x4a7484aa, 0x5cb0a9dc, 0x76f988da,
	0x983e5152, 0xa831c66d, 0xb00327c8, 0xbf597fc7, 0xc6e00bf3, 0xd5a79147, 0x06ca6351, 0x14292967,
	0x27b70a85, 0x2e1b2138, 0x4d2c6dfc, 0x53380d13, 0x650a7354, 0x766a0abb, 0x81c2c92e, 0x92722c85,
	0xa2bfe8a1, 0xa81a664b, 0xc24b8b70, 0xc76c51a3, 0xd192e819, 0xd6990624, 0xf40e3585, 0x106aa070,
	0x19a4c116, 0x1e376c08, 0x2748774c, 0x34b0bcb5, 0x391c0cb3, 0x4ed8aa4a, 0x5b9cca4f, 0x682e6ff3,
	0x748f82ee, 0x78a5636f, 0x84c87814, 0x8cc70208, 0x90befffa, 0xa4506ceb, 0xbef9a3f7, 0xc67178f2,
}

// Hash is a digest that grows.
type Hash struct {
	self   *Hash // only what New answered points at itself: a zero hash doesn't, nor does a copy
	once   sync.Once
	summed bool
	words  [8]uint32
	block  [blockBytes]byte // the text's end, as long as it makes no whole block
	held   int              // how many bytes of block are the text's
	length uint64           // of the text, in bytes
	digest api.Key
}

// New answers a hash of nothing.
func New() *Hash {
	h := &Hash{words: [8]uint32{
		0x6a09e667, 0xbb67ae85, 0x3c6ef372, 0xa54ff53a, 0x510e527f, 0x9b05688c, 0x1f83d9ab, 0x5be0cd19,
	}}
	h.self = h
	return h
}

// Write puts b behind what the hash is of.
func (h *Hash) Write(b []byte) api.Errno {
	if !h.made() {
		return api.ErrNil
	}
	if h.summed {
		return api.ErrState
	}
	h.length += uint64(len(b))
	h.take(b)
	return api.OK
}

// Sum answers the digest of what the hash is of; from then on nothing more is taken.
func (h *Hash) Sum() api.Key {
	if !h.made() {
		return api.Key{}
	}
	h.once.Do(h.finish)
	return h.digest
}

// Sum answers the digest of b.
func Sum(b []byte) api.Key {
	h := New()
	h.Write(b)
	return h.Sum()
}

func (h *Hash) made() bool {
	return h != nil && h.self == h
}

// take does the blocks that b makes whole, and keeps the rest.
func (h *Hash) take(b []byte) {
	for len(b) > 0 {
		n := copy(h.block[h.held:], b)
		h.held += n
		b = b[n:]
		if h.held == blockBytes {
			h.mix()
			h.held = 0
		}
	}
}

// finish takes the end that makes whole blocks of the text, and keeps the digest.
func (h *Hash) finish() {
	h.summed = true
	noughts := (2*blockBytes - lengthBytes - 1 - h.held) % blockBytes
	end := make([]byte, 1+noughts, 1+noughts+lengthBytes)
	end[0] = 128
	textBits := 8 * h.length
	for shift := 56; shift >= 0; shift -= 8 {
		end = append(end, byte(textBits>>shift))
	}
	h.take(end)
	for i, w := range h.words {
		h.digest[4*i] = byte(w >> 24)
		h.digest[4*i+1] = byte(w >> 16)
		h.digest[4*i+2] = byte(w >> 8)
		h.digest[4*i+3] = byte(w)
	}
}

// mix does the block.
func (h *Hash) mix() {
	w := h.schedule()
	a, b, c, d := h.words[0], h.words[1], h.words[2], h.words[3]
	e, f, g, last := h.words[4], h.words[5], h.words[6], h.words[7]
	for i := range w {
		t := last + (turned(e, 6) ^ turned(e, 11) ^ turned(e, 25)) + (e&f ^ ^e&g) + roundNumbers[i] + w[i]
		u := (turned(a, 2) ^ turned(a, 13) ^ turned(a, 22)) + (a&b ^ a&c ^ b&c)
		last, g, f, e = g, f, e, d+t
		d, c, b, a = c, b, a, t+u
	}
	h.words[0] += a
	h.words[1] += b
	h.words[2] += c
	h.words[3] += d
	h.words[4] += e
	h.words[5] += f
	h.words[6] += g
	h.words[7] += last
}

// schedule answers the words w0 .. w63 of the block.
func (h *Hash) schedule() [64]uint32 {
	var w [64]uint32
	for i := range 16 {
		p := 4 * i
		w[i] = uint32(h.block[p])<<24 | uint32(h.block[p+1])<<16 | uint32(h.block[p+2])<<8 | uint32(h.block[p+3])
	}
	for i := 16; i < len(w); i++ {
		x, y := w[i-15], w[i-2]
		s0 := turned(x, 7) ^ turned(x, 18) ^ x>>3
		s1 := turned(y, 17) ^ turned(y, 19) ^ y>>10
		w[i] = w[i-16] + s0 + w[i-7] + s1
	}
	return w
}

// turned brings the lowest n bits of x to its top.
func turned(x uint32, n int) uint32 {
	return bits.RotateLeft32(x, -n)
}
