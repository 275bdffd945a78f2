// Package digest takes SHA-256 hashes, as FIPS 180-4 publishes them.
package digest

import (
	"math/bits"

	"grove/api"
)

const (
	blockSize = 64
	lengthAt  = 56 // in the last block the bytes from here on tell how long the message is
)

// rounds holds one constant for each round (FIPS 180-4, 4.2.2).
var rounds = [64]uint32{
	0x428a2f98, 0x71374491, 0xb5c0fbcf, 0xe9b5dba5, 0x3956c25b, 0x59f111f1, 0x923f82a4, 0xab1c5ed5,
	0xd807aa98, 0x12835b01, 0x243185be, 0x550c7dc3, 0x72be5d74, 0x80deb1fe, 0x9bdc06a7, 0xc19bf174,
	0xe49b69c1, 0xefbe4786, 0x0fc19dc6, 0x240ca1cc, 0x2de92c6f, 0x4a7484aa, 0x5cb0a9dc, 0x76f988da,
	0x983e5152, 0xa831c66d, 0xb00327c8, 0xbf597fc7, 0xc6e00bf3, 0xd5a79147, 0x06ca6351, 0x14292967,
	0x27b70a85, 0x2e1b2138, 0x4d2c6dfc, 0x53380d13, 0x650a7354, 0x766a0abb, 0x81c2c92e, 0x92722c85,
	0xa2bfe8a1, 0xa81a664b, 0xc24b8b70, 0xc76c51a3, 0xd192e819, 0xd6990624, 0xf40e3585, 0x106aa070,
	0x19a4c116, 0x1e376c08, 0x2748774c, 0x34b0bcb5, 0x391c0cb3, 0x4ed8aa4a, 0x5b9cca4f, 0x682e6ff3,
	0x748f82ee, 0x78a5636f, 0x84c87814, 0x8cc70208, 0x90befffa, 0xa4506ceb, 0xbef9a3f7, 0xc67178f2,
}

// message is a hash in the making: the words so far, and the block that is not full yet.
type message struct {
	words  [8]uint32
	block  [blockSize]byte
	filled int
	length uint64
}

// Of is the hash of the parts' bytes, one part behind the other.
func Of(parts ...string) string {
	m := message{words: [8]uint32{
		0x6a09e667, 0xbb67ae85, 0x3c6ef372, 0xa54ff53a,
		0x510e527f, 0x9b05688c, 0x1f83d9ab, 0x5be0cd19,
	}}
	for _, part := range parts {
		m.add(part)
	}
	m.pad()
	return m.hash()
}

func (m *message) add(part string) {
	m.length += uint64(len(part))
	for len(part) > 0 {
		taken := copy(m.block[m.filled:], part)
		part = part[taken:]
		m.filled += taken
		if m.filled == blockSize {
			m.mix()
			m.filled = 0
		}
	}
}

// pad ends the message: a bit of 1, bits of 0, and its length in bits.
func (m *message) pad() {
	m.block[m.filled] = 0x80
	clear(m.block[m.filled+1:])
	if m.filled >= lengthAt {
		// The length finds no room behind the message: it stands in a block of its own.
		m.mix()
		clear(m.block[:])
	}
	length := m.length * 8
	for i := blockSize - 1; i >= lengthAt; i-- {
		m.block[i] = byte(length)
		length >>= 8
	}
	m.mix()
}

// mix works the block into the words (FIPS 180-4, 6.2.2).
func (m *message) mix() {
	schedule := m.schedule()
	a, b, c, d := m.words[0], m.words[1], m.words[2], m.words[3]
	e, f, g, h := m.words[4], m.words[5], m.words[6], m.words[7]
	for i, word := range schedule {
		first := h + (turned(e, 6) ^ turned(e, 11) ^ turned(e, 25)) + (e&f ^ ^e&g) + rounds[i] + word
		second := (turned(a, 2) ^ turned(a, 13) ^ turned(a, 22)) + (a&b ^ a&c ^ b&c)
		h, g, f, e = g, f, e, d+first
		d, c, b, a = c, b, a, first+second
	}
	for i, word := range [8]uint32{a, b, c, d, e, f, g, h} {
		m.words[i] += word
	}
}

// schedule is the block's 16 words and the 48 that are made of them.
func (m *message) schedule() [64]uint32 {
	var words [64]uint32
	for i := range 16 {
		for _, b := range m.block[4*i : 4*i+4] {
			words[i] = words[i]<<8 | uint32(b)
		}
	}
	for i := 16; i < len(words); i++ {
		near, far := words[i-2], words[i-15]
		words[i] = words[i-7] + words[i-16] +
			(turned(near, 17) ^ turned(near, 19) ^ near>>10) +
			(turned(far, 7) ^ turned(far, 18) ^ far>>3)
	}
	return words
}

func turned(word uint32, right int) uint32 {
	return bits.RotateLeft32(word, -right)
}

func (m *message) hash() string {
	out := make([]byte, 0, api.HashSize)
	for _, word := range m.words {
		out = append(out, byte(word>>24), byte(word>>16), byte(word>>8), byte(word))
	}
	return string(out)
}
