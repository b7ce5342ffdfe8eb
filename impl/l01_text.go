package impl

import (
	"strconv"
	"strings"
)

const MaxText = 8000

const (
	mostDigits = 12
	modeDigits = 3
	mostMode   = 511
)

func DecText(n int) string { return strconv.Itoa(n) }

func ReadDec(s string) int {
	if s == "" || len(s) > mostDigits {
		return -1
	}
	if s[0] == '0' && len(s) > 1 {
		return -1
	}
	return readDigits(s, 10)
}

func PadText(n int, digits int) string {
	if n < 0 || digits < 1 || digits > mostDigits {
		return ""
	}
	return padZeros(DecText(n), digits)
}

func OctText(n int) string {
	if n < 0 || n > mostMode {
		return ""
	}
	return "0" + padZeros(strconv.FormatInt(int64(n), 8), modeDigits)
}

func ReadOct(s string) int {
	if len(s) == modeDigits+1 && s[0] == '0' {
		s = s[1:]
	}
	if len(s) != modeDigits {
		return -1
	}
	return readDigits(s, 8)
}

func Lines(s string) []string { return collect(eachLine(s)) }

func Words(s string) []string { return collect(eachWord(s)) }

func Before(a string, b string) bool { return a < b }

// readDigits leaves the length to its callers: each of them has a limit that
// keeps the number far from the greatest int.
func readDigits(s string, base int) int {
	n := 0
	for _, sign := range s {
		digit := int(sign) - '0'
		if digit < 0 || digit >= base {
			return -1
		}
		n = n*base + digit
	}
	return n
}

func padZeros(s string, width int) string {
	if len(s) >= width {
		return s
	}
	return strings.Repeat("0", width-len(s)) + s
}

func collect(parts func(yield func(string) bool)) []string {
	var list []string
	for part := range parts {
		list = append(list, part)
	}
	return list
}

func eachLine(s string) func(yield func(string) bool) {
	return func(yield func(string) bool) {
		from := 0
		for i, sign := range s {
			if sign != '\n' {
				continue
			}
			if !yield(s[from:i]) {
				return
			}
			from = i + 1
		}
		if from < len(s) {
			yield(s[from:])
		}
	}
}

// eachWord copies bytes between places, never signs: a byte that is no whole
// sign must come out as it went in. The word is a list of bytes because quotes
// may cut it into many pieces, and adding texts would copy them again and again.
func eachWord(s string) func(yield func(string) bool) {
	return func(yield func(string) bool) {
		var word []byte
		from := 0
		begun, quoted := false, false
		for i, sign := range s {
			switch {
			case sign == '"':
				word = append(word, s[from:i]...)
				from = i + 1
				begun, quoted = true, !quoted
			case quoted || !isBlank(sign):
				begun = true
			default:
				if begun && !yield(string(append(word, s[from:i]...))) {
					return
				}
				word, begun, from = word[:0], false, i+1
			}
		}
		if begun {
			yield(string(append(word, s[from:]...)))
		}
	}
}

func isBlank(sign rune) bool { return sign == ' ' || sign == '\t' }
