package tar

import (
	"bytes"
	"strconv"
	"strings"

	"sutler/api"
)

// The most digits that a record and a size begin with.
const (
	recordDigits = 6
	sizeDigits   = 9
)

// Records tells the keys and values of records, one behind the other.
func Records(b []byte) ([]string, api.Errno) {
	var told []string
	for len(b) > 0 {
		body, behind, ok := cutRecord(b)
		if !ok {
			return nil, api.ErrTar
		}
		key, value, ok := bytes.Cut(body, []byte("="))
		if !ok {
			return nil, api.ErrTar
		}
		told = append(told, string(key), string(value))
		b = behind
	}
	return told, api.OK
}

// cutRecord cuts the first record off: what is between its blank and its line feed, and what stands
// behind it.
func cutRecord(b []byte) (body, behind []byte, ok bool) {
	digits, _, found := bytes.Cut(b[:min(len(b), recordDigits+1)], []byte(" "))
	size, ok := number(string(digits), recordDigits)
	from := len(digits) + 1
	if !found || !ok || size <= from || size > len(b) || b[size-1] != '\n' {
		return nil, nil, false
	}
	return b[from : size-1], b[size:], true
}

// number is the number that a text is: at most so many digits, without a 0 ahead of others.
func number(s string, most int) (int, bool) {
	if s == "" || len(s) > most || s[0] == '0' && len(s) > 1 || strings.Trim(s, "0123456789") != "" {
		return 0, false
	}
	n, err := strconv.Atoi(s)
	return n, err == nil
}

// Record is the record of a key and a value.
func Record(key, value string) string {
	body := " " + key + "=" + value + "\n"
	// The digits count themselves: from too small a number up, the first one that is right is the
	// smallest one.
	digits := ""
	for told := -1; told != len(digits)+len(body); {
		told = len(digits) + len(body)
		digits = strconv.Itoa(told)
	}
	return digits + body
}
