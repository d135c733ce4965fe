package digest

import (
	"bytes"
	"encoding/binary"
	"fmt"
	"strconv"
	"strings"
	"testing"

	"sutler/api"
)

// What the chapter's words say is told here on numbers of 64 bits that are cut to words by division, with
// the whole message put together first, and a mixing's steps told by texts.

const (
	toldNumbers = "6a09e667 bb67ae85 3c6ef372 a54ff53a 510e527f 9b05688c 1f83d9ab 5be0cd19"
	toldRows    = "0123456789abcdef ea489fd61c02b753 b8c052fdae367194 7931dcbe265a40f8 905724afe1bc683d " +
		"2c6a0b834d75fe19 c51fed4a0763928b db7ec13950f4862a 6fe9b308c2d714a5 a2847615fb9e3cd0"
	toldSteps = "a=a+b a=a+x d=d^a d>16 c=c+d b=b^c b>12 a=a+b a=a+y d=d^a d>8 c=c+d b=b^c b>7"
)

const two32 = 1 << 32

// toldWords is a text's words.
func toldWords(s string) []uint64 {
	var all []uint64
	for _, f := range strings.Fields(s) {
		n, err := strconv.ParseUint(f, 16, 32)
		if err != nil {
			panic(err)
		}
		all = append(all, n)
	}
	return all
}

// toldMixing does a mixing's steps, on words that go by names.
func toldMixing(w map[byte]uint64) {
	for _, step := range strings.Fields(toldSteps) {
		to, op, what := step[0], step[len(step)-2], step[len(step)-1]
		switch {
		case step[1] == '>':
			by, _ := strconv.Atoi(step[2:])
			low := uint64(1) << by
			w[to] = w[to]/low + w[to]%low*(two32/low)
		case op == '+':
			w[to] = (w[to] + w[what]) % two32
		case op == '^':
			w[to] = (w[to] | w[what]) - w[to]&w[what]
		}
	}
}

// toldPlaces are the words of the i-th mixing of a round.
func toldPlaces(i int) [4]int {
	if i < 4 {
		return [4]int{i, i + 4, i + 8, i + 12}
	}
	i -= 4
	return [4]int{i, 4 + (i+1)%4, 8 + (i+2)%4, 12 + (i+3)%4}
}

// toldBlock is what becomes of the words h by one more block, behind which so many bytes were taken.
func toldBlock(h []uint64, block []byte, taken uint64, last bool) []uint64 {
	v := append(append([]uint64{}, h...), toldWords(toldNumbers)...)
	v[12] ^= taken % two32
	v[13] ^= taken / two32
	if last {
		v[14] = two32 - 1 - v[14]
	}
	for _, row := range strings.Fields(toldRows) {
		for i := range 8 {
			w, at := map[byte]uint64{}, toldPlaces(i)
			for n := range at {
				w["abcd"[n]] = v[at[n]]
			}
			for n := range 2 {
				number, _ := strconv.ParseUint(row[2*i+n:2*i+n+1], 16, 8)
				w["xy"[n]] = uint64(binary.LittleEndian.Uint32(block[4*number:]))
			}
			toldMixing(w)
			for n := range at {
				v[at[n]] = w["abcd"[n]]
			}
		}
	}
	next := make([]uint64, 8)
	for i := range next {
		next[i] = h[i] ^ v[i] ^ v[i+8]
	}
	return next
}

// toldBytes is the text of words, lowest byte first.
func toldBytes(h []uint64) string {
	text := ""
	for _, w := range h {
		text += fmt.Sprintf("%02x%02x%02x%02x", w%256, w/256%256, w/65536%256, w/65536/256)
	}
	return text
}

// toldBegin is the words ahead of the first block.
func toldBegin(keyBytes int) []uint64 {
	h := toldWords(toldNumbers)
	h[0] ^= 0x01010020
	h[0] ^= uint64(keyBytes) * 256
	return h
}

// toldDigest is the text of the digest by the chapter's words.
func toldDigest(key, b []byte) string {
	var message []byte
	if len(key) > 0 {
		message = append(message, key...)
		message = append(message, make([]byte, 64-len(key))...)
	}
	message = append(message, b...)
	size := len(message)
	for len(message) == 0 || len(message)%64 > 0 {
		message = append(message, 0)
	}
	h := toldBegin(len(key))
	for at := 0; at < len(message); at += 64 {
		last := at+64 == len(message)
		h = toldBlock(h, message[at:at+64], uint64(min(at+64, size)), last)
	}
	return toldBytes(h)
}

// wantAsTold holds Sum and Keyed against the words.
func wantAsTold(t *testing.T, key, b []byte) {
	t.Helper()
	want := toldDigest(key, b)
	wantKeyed(t, key, b, want)
	if len(key) == 0 {
		wantSum(t, b, want)
	}
}

// edges are the lengths about the edges of the first blocks, and of some later ones.
func edges() []int {
	all := []int{0, 1, 2, 3, 4, 5, 31, 32, 33}
	for _, edge := range []int{64, 128, 192, 256, 512, 1024} {
		all = append(all, edge-2, edge-1, edge, edge+1, edge+2)
	}
	return all
}

// 16.1: the words told otherwise lead to the chapter's examples, too.
func TestWordsToldOtherwise(t *testing.T) {
	wantText(t, "nothing", toldDigest(nil, nil), "69217a3079908094e11121d042354a7c1f55b6482ca1a51e1b250dfd1ed0eef9")
	wantText(t, "abc", toldDigest(nil, []byte("abc")), "508c5e8c327c14e2e1a72ba34eeb452f37458b209ed63a294d999b4c86675982")
}

// 16.1: keys of every length, and bytes of all lengths about the edges.
func TestKeysOfEveryLengthAsTold(t *testing.T) {
	c := chance(1)
	for k := range 33 {
		for _, n := range edges() {
			wantAsTold(t, c.bytes(k), c.bytes(n))
		}
	}
}

// 16.1: bytes of all lengths up to more than five blocks, with few keys.
func TestEveryLengthAsTold(t *testing.T) {
	c := chance(2)
	for n := range 330 {
		for _, k := range []int{0, 1, 32} {
			wantAsTold(t, c.bytes(k), c.bytes(n))
		}
	}
}

// 16.1: long bytes, of which the count needs more than two bytes.
func TestLongBytesAsTold(t *testing.T) {
	c := chance(3)
	b := c.bytes(api.MaxBytes + 1)
	for _, n := range []int{1<<16 - 64, 1<<16 - 1, 1 << 16, 1<<16 + 1, api.MaxBytes + 1} {
		wantAsTold(t, nil, b[:n])
	}
	wantAsTold(t, c.bytes(7), b[:1<<16-64])
	wantAsTold(t, c.bytes(32), b[:1<<16-63])
}

// 16.1: bytes and keys that are all alike, noughts among them.
func TestLikeBytesAsTold(t *testing.T) {
	for _, x := range []byte{0, 1, 127, 128, 255} {
		for _, y := range []byte{0, 128, 255} {
			for _, k := range []int{0, 1, 31, 32} {
				for _, n := range []int{0, 1, 63, 64, 65, 128, 129} {
					wantAsTold(t, bytes.Repeat([]byte{y}, k), bytes.Repeat([]byte{x}, n))
				}
			}
		}
	}
}

// 16.1: each bit of a key and of bytes of one, two and three blocks.
func TestEachBitAsTold(t *testing.T) {
	c := chance(4)
	for _, size := range []int{3, 64, 65, 130} {
		key, b := c.bytes(32), c.bytes(size)
		was := toldDigest(key, b)
		for bit := range 8 * size {
			other := with(b, bit/8, 1<<(bit%8))
			wantAsTold(t, key, other)
			if got, _ := Keyed(key, other); Hex(got) == was {
				t.Errorf("bit %d of %d bytes tells nothing", bit, size)
			}
		}
		for bit := range 8 * len(key) {
			wantAsTold(t, with(key, bit/8, 1<<(bit%8)), b)
		}
	}
}

// 16.1: the count's higher word. A message of so many bytes is more than can be handed in, so that the
// count is set ahead of the blocks.
func TestCountOfManyBytes(t *testing.T) {
	c := chance(5)
	for _, taken := range []uint64{1<<31 - 64, two32 - 65, two32 - 64, two32 - 63, two32, 5*two32 - 64, 1<<63 + 7} {
		for _, size := range []int{0, 1, 63, 64} {
			s, block := begin(3), c.bytes(size)
			s.taken = taken
			s.take(block, size < 64)
			got := s.told()
			full := append(bytes.Clone(block), make([]byte, 64-size)...)
			want := toldBlock(toldBegin(3), full, taken+uint64(size), size < 64)
			wantText(t, "the words behind a block", Hex(got), toldBytes(want))
		}
	}
}

// 16.2, 16.5: Of and Same, of bytes of all lengths about the edges.
func TestOfAndSameAsTold(t *testing.T) {
	c := chance(6)
	for _, n := range edges() {
		b := c.bytes(n)
		want := toldDigest(nil, b)
		wantText(t, "Of", Of(string(b)), want)
		wantText(t, "Hex of Sum", Hex(Sum(b)), want)
		wantSame(t, want, b, true)
		wantSame(t, toldDigest(nil, append(b, 0)), b, false)
	}
}
