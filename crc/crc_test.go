package crc

import (
	"bytes"
	"encoding/binary"
	"hash/crc32"
	"math"
	"testing"

	"sutler/api"
)

// plain is the checksum as the chapter's words tell it, bit by bit.
func plain(b []byte) uint32 {
	c := uint32(math.MaxUint32)
	for _, x := range b {
		c ^= uint32(x)
		for range 8 {
			if c%2 == 1 {
				c = c/2 ^ 0xedb88320
			} else {
				c /= 2
			}
		}
	}
	return c ^ math.MaxUint32
}

// some is n bytes without a pattern, the same in each run.
func some(n int, seed uint64) []byte {
	b := make([]byte, n)
	for i := range b {
		seed = seed*6364136223846793005 + 1442695040888963407
		b[i] = byte(seed >> 56)
	}
	return b
}

// lists are bytes of many lengths and kinds, short enough to be gone through place by place.
func lists() [][]byte {
	all := [][]byte{nil, {}, {0}, {255}, []byte("123456789"), make([]byte, 40), bytes.Repeat([]byte{255}, 40)}
	for n := range 20 {
		all = append(all, some(n, uint64(n)))
	}
	return append(all, some(api.Sector, 1), some(3*api.Sector+1, 2))
}

func wantSum(t *testing.T, what string, got, want uint32) {
	t.Helper()
	if got != want {
		t.Errorf("%s: %08x, want %08x", what, got, want)
	}
}

// flip is a Flip that must not be refused.
func flip(t *testing.T, sum uint32, size, at int, x byte) uint32 {
	t.Helper()
	got, e := Flip(sum, size, at, x)
	if e != api.OK {
		t.Errorf("Flip(%08x, %d, %d, %d): error %d", sum, size, at, x, e)
	}
	return got
}

// fourOf is the four bytes that have this checksum: the reckoning gone backwards.
func fourOf(sum uint32) []byte {
	c := ^sum
	for range 32 {
		if c>>31 == 1 {
			c = (c^0xedb88320)<<1 | 1
		} else {
			c <<= 1
		}
	}
	return binary.LittleEndian.AppendUint32(nil, ^c)
}

// with is a copy of b with one byte xor x.
func with(b []byte, at int, x byte) []byte {
	c := bytes.Clone(b)
	c[at] ^= x
	return c
}

// 2.1

func TestSumOfKnownBytes(t *testing.T) {
	for _, k := range []struct {
		text string
		want uint32
	}{
		{"", 0},
		{"a", 0xe8b7be43},
		{"abc", 0x352441c2},
		{"123456789", 0xcbf43926},
		{"\x00", 0xd202ef8d},
		{"\x00\x00\x00\x00", 0x2144df1c},
		{"\xff\xff\xff\xff", 0xffffffff},
		{"The quick brown fox jumps over the lazy dog", 0x414fa339},
	} {
		wantSum(t, "Sum of "+k.text, Sum([]byte(k.text)), k.want)
	}
	wantSum(t, "Sum of nil", Sum(nil), 0)
	wantSum(t, "Sum of an empty list", Sum([]byte{}), 0)
}

func TestSumIsAsTheWordsTell(t *testing.T) {
	for x := range 256 {
		wantSum(t, "Sum of one byte", Sum([]byte{byte(x)}), plain([]byte{byte(x)}))
		wantSum(t, "Sum of two bytes", Sum([]byte{1, byte(x)}), plain([]byte{1, byte(x)}))
	}
	for _, b := range append(lists(), some(1<<16+1, 3), some(api.MaxBytes, 4)) {
		wantSum(t, "Sum", Sum(b), plain(b))
		wantSum(t, "Sum, against gzip's", Sum(b), crc32.ChecksumIEEE(b))
	}
}

func TestMoreGoesOnFromASum(t *testing.T) {
	for _, sum := range []uint32{0, 1, 0xcbf43926, math.MaxUint32} {
		wantSum(t, "More of nil", More(sum, nil), sum)
		wantSum(t, "More of an empty list", More(sum, []byte{}), sum)
		for _, b := range lists() {
			wantSum(t, "More", More(sum, b), crc32.Update(sum, crc32.IEEETable, b))
		}
	}
}

func TestZerosPutsNoughtsBehind(t *testing.T) {
	for _, b := range lists() {
		for _, n := range []int{0, 1, 2, 3, 4, 5, 17, api.Sector} {
			want := plain(append(bytes.Clone(b), make([]byte, n)...))
			wantSum(t, "Zeros", Zeros(plain(b), n), want)
		}
	}
}

func TestZerosOfTooFew(t *testing.T) {
	for _, sum := range []uint32{0, 1, 0xcbf43926, math.MaxUint32} {
		for _, n := range []int{0, -1, -2, -(1 << 16), -(1<<32 - 1), math.MinInt} {
			wantSum(t, "Zeros of none", Zeros(sum, n), sum)
		}
	}
}

func TestZerosOfTooMany(t *testing.T) {
	behind := func(sum uint32, n int) uint32 { return crc32.Update(sum, crc32.IEEETable, make([]byte, n)) }
	for _, sum := range []uint32{0, 1, 0xcbf43926} {
		most := behind(sum, 1<<16)
		if most == behind(sum, 1<<16-1) || most == behind(sum, 1<<16+1) {
			t.Fatal("the bound can't be told from what is beside it")
		}
		wantSum(t, "Zeros of one less than the most", Zeros(sum, 1<<16-1), behind(sum, 1<<16-1))
		for _, n := range []int{1 << 16, 1<<16 + 1, 1 << 17, 1<<32 + 1, math.MaxInt} {
			wantSum(t, "Zeros of the most and more", Zeros(sum, n), most)
		}
	}
}

// 2.2

func TestFlipIsTheSumOfTheBytesFlipped(t *testing.T) {
	for _, b := range lists() {
		for at := range b {
			for _, x := range []byte{0, 1, 2, 16, 0x5a, 128, 255} {
				wantSum(t, "Flip", flip(t, plain(b), len(b), at, x), plain(with(b, at, x)))
			}
		}
	}
}

func TestFlipOfEachByte(t *testing.T) {
	b := []byte("123456789")
	for at := range b {
		for x := range 256 {
			got := flip(t, 0xcbf43926, len(b), at, byte(x))
			wantSum(t, "Flip", got, plain(with(b, at, byte(x))))
		}
	}
}

func TestFlipAtTheGreatestSize(t *testing.T) {
	b := some(1<<16, 5)
	for _, at := range []int{0, 1, 1 << 15, 1<<16 - 2, 1<<16 - 1} {
		wantSum(t, "Flip", flip(t, plain(b), len(b), at, 0x81), plain(with(b, at, 0x81)))
	}
}

func TestFlipOfAnySum(t *testing.T) {
	for _, sum := range []uint32{0, 1, 0x80000000, 0xcbf43926, math.MaxUint32} {
		b := fourOf(sum)
		wantSum(t, "Sum", Sum(b), sum)
		for at := range b {
			wantSum(t, "Flip", flip(t, sum, 4, at, 0x35), plain(with(b, at, 0x35)))
		}
	}
}

func TestFlipRefuses(t *testing.T) {
	for _, k := range []struct{ size, at int }{
		{9, -1}, {9, 9}, {9, 10}, {9, math.MaxInt}, {9, math.MinInt},
		{1, 1}, {1, -1}, {0, 0}, {0, -1}, {0, 1},
		{-1, -1}, {-1, 0}, {-1, -2}, {-2, -3}, {math.MinInt, math.MinInt}, {math.MinInt, 0}, {math.MinInt, math.MaxInt},
		{1 << 16, -1}, {1 << 16, 1 << 16},
		{1<<16 + 1, 0}, {1<<16 + 1, 1 << 16}, {1<<16 + 1, -1}, {1<<16 + 1, 1<<16 + 1},
		{1 << 17, 5}, {1<<32 + 9, 3}, {math.MaxInt, 0}, {math.MaxInt, math.MaxInt - 1}, {math.MaxInt, math.MaxInt},
	} {
		for _, x := range []byte{0, 1, 255} {
			got, e := Flip(0xcbf43926, k.size, k.at, x)
			if got != 0 || e != api.ErrArg {
				t.Errorf("Flip of %d bytes at %d: %08x, error %d", k.size, k.at, got, e)
			}
		}
	}
}

// 2.3

func TestSumOfTwoPieces(t *testing.T) {
	for _, b := range lists() {
		for cut := range len(b) + 1 {
			wantSum(t, "More", More(Sum(b[:cut]), b[cut:]), Sum(b))
		}
		wantSum(t, "Zeros", Zeros(Sum(b), 9), More(Sum(b), make([]byte, 9)))
		wantSum(t, "Zeros twice", Zeros(Zeros(Sum(b), 4), 5), Zeros(Sum(b), 9))
	}
}

// 2.4

func TestOneOtherPlaceIsFound(t *testing.T) {
	for _, b := range append(lists(), some(5000, 6)) {
		sum, places := Sum(b), max(1, len(b)/20)
		for at := 0; at < len(b); at += places {
			for x := 1; x < 256; x++ {
				if Sum(with(b, at, byte(x))) == sum {
					t.Fatalf("the place %d of %d, xor %d: not found by Sum", at, len(b), x)
				}
				if flip(t, sum, len(b), at, byte(x)) == sum {
					t.Fatalf("the place %d of %d, xor %d: not found by Flip", at, len(b), x)
				}
			}
		}
	}
}

// 2.5

func TestFlipTwiceLeadsBack(t *testing.T) {
	for _, sum := range []uint32{0, 1, 0xcbf43926, math.MaxUint32} {
		for _, size := range []int{1, 2, 9, api.Sector, 1 << 16} {
			for _, at := range []int{0, size / 2, size - 1} {
				for _, x := range []byte{0, 1, 0xa5, 255} {
					once := flip(t, sum, size, at, x)
					if (once == sum) != (x == 0) {
						t.Errorf("Flip of %d bytes at %d with %d: %08x of %08x", size, at, x, once, sum)
					}
					wantSum(t, "Flip twice", flip(t, once, size, at, x), sum)
				}
			}
		}
	}
}

// 2.6

func TestThreeListsAndTheirXor(t *testing.T) {
	for _, n := range []int{0, 1, 2, 3, 4, 7, 64, api.Sector, 5000} {
		a, b, c, all := some(n, 7), some(n, 8), some(n, 9), make([]byte, n)
		for i := range n {
			all[i] = a[i] ^ b[i] ^ c[i]
		}
		wantSum(t, "xor of the four", Sum(a)^Sum(b)^Sum(c)^Sum(all), 0)
	}
}

// The rules that hold everywhere

func TestBytesThatAreHandedInStay(t *testing.T) {
	b := some(100, 10)
	kept := bytes.Clone(b)
	first := Sum(b[:50])
	More(first, b[50:90])
	if !bytes.Equal(b, kept) {
		t.Error("what was handed in is changed")
	}
	clear(b)
	wantSum(t, "More, with the first bytes changed since", More(first, kept[50:]), plain(kept))
}
