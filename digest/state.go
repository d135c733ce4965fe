package digest

import "math/bits"

// blockBytes is how many bytes a block has.
const blockBytes = 64

// kind is what all digests of 32 bytes begin with, but for their keys' lengths.
const kind = 0x01010020

// iv are the numbers that a state begins with.
var iv = [8]uint32{
	0x6a09e667, 0xbb67ae85, 0x3c6ef372, 0xa54ff53a,
	0x510e527f, 0x9b05688c, 0x1f83d9ab, 0x5be0cd19,
}

// rows has for each round the numbers of a block's words, a digit to the base 16 each.
var rows = [10]uint64{
	0x0123456789abcdef,
	0xea489fd61c02b753,
	0xb8c052fdae367194,
	0x7931dcbe265a40f8,
	0x905724afe1bc683d,
	0x2c6a0b834d75fe19,
	0xc51fed4a0763928b,
	0xdb7ec13950f4862a,
	0x6fe9b308c2d714a5,
	0xa2847615fb9e3cd0,
}

// fours are the words that are mixed with one another: the columns, then the diagonals.
var fours = [8][4]int{
	{0, 4, 8, 12}, {1, 5, 9, 13}, {2, 6, 10, 14}, {3, 7, 11, 15},
	{0, 5, 10, 15}, {1, 6, 11, 12}, {2, 7, 8, 13}, {3, 4, 9, 14},
}

// words are sixteen words: a block's, or those that it is mixed into.
type words [16]uint32

// state is what comes of the blocks that were taken, and how many bytes of the message these had.
type state struct {
	h     [8]uint32
	taken uint64
}

// begin is the state ahead of the first block.
func begin(keyBytes int) state {
	s := state{h: iv}
	s.h[0] ^= kind ^ uint32(keyBytes)<<8
	return s
}

// wordsOf are a block's words. What is short of a block is noughts.
func wordsOf(block []byte) words {
	var m words
	for i, x := range block {
		m[i/4] |= uint32(x) << (i % 4 * 8)
	}
	return m
}

// take takes one more block, which may be short if it is the last one.
func (s *state) take(block []byte, last bool) {
	s.taken += uint64(len(block))
	v := s.spread(last)
	v.mixAll(wordsOf(block))
	for i := range s.h {
		s.h[i] ^= v[i] ^ v[i+8]
	}
}

// spread is the sixteen words that a block is mixed into.
func (s *state) spread(last bool) words {
	var v words
	for i := range s.h {
		v[i], v[i+8] = s.h[i], iv[i]
	}
	v[12] ^= uint32(s.taken)
	v[13] ^= uint32(s.taken >> 32)
	if last {
		v[14] = ^v[14]
	}
	return v
}

// mixAll mixes a block's words in, ten times over.
func (v *words) mixAll(m words) {
	for _, row := range rows {
		for _, four := range fours {
			v.mix(four, m[row>>60], m[row>>56&15])
			row <<= 8
		}
	}
}

// mix mixes four words with one another, and with x and y.
func (v *words) mix(four [4]int, x, y uint32) {
	a, b, c, d := v[four[0]], v[four[1]], v[four[2]], v[four[3]]
	a += b + x
	d = right(d^a, 16)
	c += d
	b = right(b^c, 12)
	a += b + y
	d = right(d^a, 8)
	c += d
	b = right(b^c, 7)
	v[four[0]], v[four[1]], v[four[2]], v[four[3]] = a, b, c, d
}

// right is a word turned right by n bits.
func right(w uint32, n int) uint32 { return bits.RotateLeft32(w, -n) }

// told is the digest, if the last block is taken.
func (s *state) told() [size]byte {
	var d [size]byte
	for i := range d {
		d[i] = byte(s.h[i/4] >> (i % 4 * 8))
	}
	return d
}
