package tar

import (
	"strconv"
	"strings"
	"testing"
)

// 15.1, example 1, and records told by hand.
func TestRecordsByHand(t *testing.T) {
	wantRecord(t, "path", "a", "9 path=a\n")
	wantRecord(t, "", "", "4 =\n")
	wantRecord(t, "a", "=b=\n", "9 a==b=\n\n")
	wantRecord(t, "a=b", "", "7 a=b=\n")
	wantRecord(t, "linkpath", "/usr/lib", "21 linkpath=/usr/lib\n")
	wantRecords(t, "")
	wantRecords(t, "4 =\n", "", "")
	wantRecords(t, "9 path=a\n", "path", "a")
	wantRecords(t, "10 path=a\n", "path", "a")
	wantRecords(t, "9 path=a\n4 =\n9 path=b\n", "path", "a", "", "", "path", "b")
	wantRecords(t, "6 =a=\n", "", "a=")
	wantRecords(t, "6 a==\n", "a", "=")
	wantRecords(t, "6 \n=\n\n", "\n", "\n")
	wantRecords(t, "8  a=b\n\n", " a", "b\n")
	wantRecords(t, "7 \x00\xff=\x80\n", "\x00\xff", "\x80")
}

// 15.1: texts that are no records.
func TestNoRecords(t *testing.T) {
	for _, b := range []string{
		" ", "\n", "=", "0", "4", "4 ", "4 =", "4 =a", "4 \n=", "4 a\n", "4=\n\n", "4\t=\n", " 4 =\n", "+4 =\n", "-4 =\n", "x =\n",
		"0 =\n", "1 =\n", "2 =\n", "3 =\n", "5 =\n", "44 =\n", "04 =\n", "05 =\n", "004 =\n", "0x5 =\n", "4  =\n", "6a =\n",
		"1  ", "2  ", "3  \n", "3 \n=", "3 \n", "2 \n", "1 \n", "0 \n", "1\n", "0 ",
		"8 path=a\n", "9 path=a", "9 path=ab", "9 path:a\n", "10 path=aa", "9 path=a\n ", "9 path=a\n9 path=a", "9 path=a\n0",
		"9 path=a\n\n", "\n9 path=a\n", "9 path=a\x00", "99999999999999999999 a=b\n", "18446744073709551625 path=a\n", "9  \n      ",
		"\x39\xa0path=a\n", "\u0669 path=a\n", "1_0 path=a\n", "10 path=a\n\n", "11 path=a\n",
	} {
		wantNoRecords(t, b)
		wantNoRecords(t, "9 path=a\n"+b)
		wantNoRecords(t, b+"x")
	}
}

// 15.1: records of each length at which the digits get one more, with 1 to 7 digits.
func TestDigits(t *testing.T) {
	for digits := 1; digits <= 7; digits++ {
		most := 1
		for range digits {
			most *= 10
		}
		for body := max(most-digits-12, 3); body <= most-digits+12; body++ {
			// The smallest number that counts itself too.
			told := body + 1
			for told != body+len(strconv.Itoa(told)) {
				told++
			}
			value := strings.Repeat("v", body-3)
			r := strconv.Itoa(told) + " =" + value + "\n"
			wantRecord(t, "", value, r)
			if told < 1000000 {
				wantRecords(t, r, "", value)
				wantRecords(t, r+"4 =\n", "", value, "", "")
			} else {
				wantNoRecords(t, r)
			}
			wantNoRecords(t, r[:len(r)-1])
			wantNoRecords(t, "0"+r)
		}
	}
}

// 15.1: digits beyond what a record may have are not begun with, whatever they tell.
func TestMoreDigitsThanMayBe(t *testing.T) {
	for n := range 30 {
		wantNoRecords(t, strings.Repeat("0", n+1)+"4 =\n")
		wantNoRecords(t, strings.Repeat("0", n+1)+"9 path=a\n")
		wantNoRecords(t, strings.Repeat("1", n+1))
		wantNoRecords(t, strings.Repeat("1", n+6)+" a=b\n")
	}
	big := "1000000 a=" + strings.Repeat("b", 1000000-11) + "\n"
	wantNoRecords(t, big)
	big = "999999 a=" + strings.Repeat("b", 999999-10) + "\n"
	wantRecords(t, big, "a", big[9:len(big)-1])
	wantNoRecords(t, turned(big, len(big)-1, ' '))
}

// recordsOf tells keys and values by the words, and whether they are records.
func recordsOf(b string) (told []string, ok bool) {
	for b != "" {
		digits, _, found := strings.Cut(b, " ")
		if !found || len(digits) == 0 || len(digits) > 6 || digits[0] == '0' || strings.Trim(digits, "0123456789") != "" {
			return nil, false
		}
		n, _ := strconv.Atoi(digits)
		if n > len(b) {
			return nil, false
		}
		r := b[:n]
		key, value, found := strings.Cut(strings.TrimPrefix(r, digits+" "), "=")
		if len(r) < len(digits)+3 || !found || !strings.HasSuffix(value, "\n") {
			return nil, false
		}
		told = append(told, key, value[:len(value)-1])
		b = b[n:]
	}
	return told, true
}

// 15.1: all short texts out of some pieces.
func TestShortTextsAsRecords(t *testing.T) {
	well, none := 0, 0
	for _, s := range append(every(8, "4", "5", " ", "=", "\n"), every(5, "1", "0", " ", "=\n", "a", "\n", "6 a=b\n")...) {
		if told, ok := recordsOf(s); ok {
			well++
			wantRecords(t, s, told...)
		} else {
			none++
			wantNoRecords(t, s)
		}
	}
	if well < 40 || none < 1000 {
		t.Errorf("%d of the texts are records, %d are not", well, none)
	}
}

// 15.1: Records of Records is what went in, and any byte that is left out or put in is told.
func TestRecordsByChance(t *testing.T) {
	c := chance(3)
	for range 3000 {
		var told []string
		all := ""
		for range c.below(6) {
			key := c.one("", "path", "linkpath", "size", "a b", "\n", some(c.below(20), uint64(c)))
			key = strings.ReplaceAll(key, "=", "")
			value := c.one("", "=", "\n", "5 =a\n", some(c.below(120), uint64(c)))
			told = append(told, key, value)
			all += Record(key, value)
		}
		wantRecords(t, all, told...)
		if all == "" {
			continue
		}
		at := c.below(len(all))
		for _, other := range []string{all[:at] + all[at+1:], all[:at] + c.one("1", " ", "=", "\n") + all[at:], turned(all, at, byte(c.below(256)))} {
			if told, ok := recordsOf(other); ok {
				wantRecords(t, other, told...)
			} else {
				wantNoRecords(t, other)
			}
		}
	}
}
