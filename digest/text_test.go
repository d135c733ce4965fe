package digest

import (
	"encoding/hex"
	"strings"
	"testing"
)

// The chapter's examples.
func TestExamples(t *testing.T) {
	wantText(t, "Of", Of(""), "69217a3079908094e11121d042354a7c1f55b6482ca1a51e1b250dfd1ed0eef9")
	wantText(t, "Of abc", Of("abc"), "508c5e8c327c14e2e1a72ba34eeb452f37458b209ed63a294d999b4c86675982")
}

// 16.2: each byte at each place of a digest.
func TestHexOfEachByte(t *testing.T) {
	wantText(t, "Hex of noughts", Hex([32]byte{}), strings.Repeat("0", 64))
	for at := range 32 {
		for x := range 256 {
			var d [32]byte
			d[at] = byte(x)
			pair := string([]byte{"0123456789abcdef"[x/16], "0123456789abcdef"[x%16]})
			text := strings.Repeat("00", at) + pair + strings.Repeat("00", 31-at)
			wantText(t, "Hex", Hex(d), text)
			wantParsed(t, text, d)
		}
	}
}

// 16.2: each byte at each place of a text.
func TestParseOfEachByte(t *testing.T) {
	for _, s := range []string{strings.Repeat("0", 64), Of("abc"), Of("")} {
		for at := range s {
			for x := range 256 {
				text := put(s, at, byte(x))
				if !isDigit(byte(x)) {
					wantUnparsed(t, text)
					continue
				}
				d, err := hex.DecodeString(text)
				if err != nil {
					t.Fatal(err)
				}
				wantParsed(t, text, [32]byte(d))
			}
		}
	}
}

// 16.2: texts of each length but the right one, also of digits alone.
func TestTextsOfOtherLengths(t *testing.T) {
	for n := range 300 {
		for _, digits := range []string{"0", "f", "5a"} {
			s := strings.Repeat(digits, n)[:n]
			if n == 64 {
				wantText(t, "Hex of Parse", hexOf(t, s), s)
			} else {
				wantUnparsed(t, s)
			}
		}
	}
	s := Of("abc")
	for at := range s {
		wantUnparsed(t, s[:at])
		wantUnparsed(t, s[at+1:])
		wantUnparsed(t, s[:at]+s[at+1:])
		wantUnparsed(t, s[:at]+"0"+s[at:])
	}
	for _, text := range []string{s + "0", "0" + s, s + s, s + " ", " " + s, s + "\n", s + "\x00", "0x" + s, strings.Repeat("0", 1<<16), strings.Repeat("0", 64+256)} {
		wantUnparsed(t, text)
	}
}

// hexOf is the text of the digest that a text is.
func hexOf(t *testing.T, s string) string {
	t.Helper()
	d, e := Parse(s)
	if e != 0 {
		t.Errorf("Parse of %s: error %d", short(s), e)
	}
	return Hex(d)
}

// 16.2: texts of 64 bytes, or of 64 runes, that are none.
func TestTextsThatAreNone(t *testing.T) {
	s := Of("abc")
	for _, text := range []string{
		strings.ToUpper(s), strings.ToUpper(s[:32]) + s[32:], s[:32] + strings.ToUpper(s[32:]), strings.Repeat("F", 64),
		s[:63] + " ", " " + s[:63], s[:63] + "\n", s[:63] + "\x00", "\x00" + s[1:], "0x" + s[2:], "0X" + s[2:], "-" + s[1:], "+" + s[1:], s[:31] + "_" + s[32:],
		s[:62] + "\u00e4", "\u00e4" + s[2:], s[:61] + "\u0663", strings.Repeat("\u00e4", 32), strings.Repeat("\u00e4", 64), strings.Repeat("\uff11", 64),
		s[:61] + "\uff11", strings.Repeat("\xff", 64), strings.Repeat("\x80", 64), strings.Repeat("\x00", 64), strings.Repeat(" ", 64), strings.Repeat("g", 64),
	} {
		wantUnparsed(t, text)
	}
}

// 16.2: several faults in one text, each of which is told by the same error.
func TestSeveralFaultsOfAText(t *testing.T) {
	s := Of("")
	faults := []byte{'A', 'F', 'g', '/', ':', '`', '@', 'G', 0, ' ', 127, 128, 255, 0xb0, 0xe1}
	for at := range s {
		for other := range s {
			a, b := faults[at%len(faults)], faults[(at+other)%len(faults)]
			text := put(put(s, at, a), other, b)
			wantUnparsed(t, text)
			wantUnparsed(t, text[1:])
			wantUnparsed(t, text+"0")
			wantUnparsed(t, put(text, 63, 'B')[:63])
		}
	}
}

// 16.4: from digests to texts and back, from texts to digests and back.
func TestParseAndHexLeadBack(t *testing.T) {
	c := chance(10)
	for range 2000 {
		d := c.digest()
		wantText(t, "Hex", Hex(d), hex.EncodeToString(d[:]))
		wantParsed(t, Hex(d), d)
	}
	for _, s := range texts() {
		wantText(t, "Hex of Parse", hexOf(t, s), s)
	}
	for _, b := range []string{"", "a", "abc", string(rising(64)), string(rising(65))} {
		wantParsed(t, Of(b), Sum([]byte(b)))
	}
}

// 16.2: Of takes a text's bytes as they are.
func TestOfAnyBytes(t *testing.T) {
	for x := range 256 {
		s := string([]byte{byte(x)})
		wantText(t, "Of a byte", Of(s), toldDigest(nil, []byte{byte(x)}))
		wantText(t, "Of bytes", Of(s+"\x00\xff"), toldDigest(nil, []byte{byte(x), 0, 255}))
	}
	wantText(t, "Of a rune", Of("\u00e4"), toldDigest(nil, []byte{0xc3, 0xa4}))
	wantText(t, "Of a digest's text", Of(Of("")), toldDigest(nil, []byte("69217a3079908094e11121d042354a7c1f55b6482ca1a51e1b250dfd1ed0eef9")))
}

// 16.5: what is told by Of is Same, and nothing beside it.
func TestSameIsToldByOf(t *testing.T) {
	for _, n := range []int{0, 1, 63, 64, 65, 127, 128, 129} {
		b := rising(n)
		s := Of(string(b))
		wantSame(t, s, b, true)
		for at := range s {
			for x := range 256 {
				wantSame(t, put(s, at, byte(x)), b, byte(x) == s[at])
			}
		}
		others := []string{"", s[1:], s[:63], s + "0", "0" + s, s + s[63:], s[:1] + s, s + " ", " " + s, s + "\n", s + "\x00", s + s, s[:32], "0x" + s, strings.ToUpper(s), string(b)}
		for _, other := range others {
			wantSame(t, other, b, false)
		}
	}
}

// 16.5: each letter of a text on its own as a capital one.
func TestSameOfCapitalLetters(t *testing.T) {
	letters := 0
	for _, text := range []string{"", "abc", string(rising(65))} {
		s := Of(text)
		for at := range s {
			if s[at] >= 'a' {
				letters++
				wantSame(t, put(s, at, s[at]-'a'+'A'), []byte(text), false)
				wantUnparsed(t, put(s, at, s[at]-'a'+'A'))
			}
		}
	}
	if letters < 30 {
		t.Errorf("only %d letters", letters)
	}
}

// 16.5: the text of other bytes' digest is not Same: of one bit turned, or of more or fewer bytes.
func TestSameOfOtherBytes(t *testing.T) {
	for _, n := range []int{1, 63, 64, 65, 129} {
		b := rising(n)
		s := Of(string(b))
		for bit := range 8 * n {
			wantSame(t, s, with(b, bit/8, 1<<(bit%8)), false)
		}
		wantSame(t, s, b[:n-1], false)
		wantSame(t, s, append(rising(n), 0), false)
		wantSame(t, s, append([]byte{0}, b...), false)
		wantSame(t, s, nil, false)
		wantSame(t, s, []byte{}, false)
	}
	wantSame(t, Of(""), nil, true)
	wantSame(t, Of(""), []byte{}, true)
	wantSame(t, Of(""), []byte{0}, false)
	wantSame(t, Of("\x00"), nil, false)
	wantSame(t, "", nil, false)
	wantSame(t, "", []byte{}, false)
	wantSame(t, strings.Repeat("0", 64), nil, false)
	keyed, _ := Keyed([]byte{0}, nil)
	wantSame(t, Hex(keyed), nil, false)
}
