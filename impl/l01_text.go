package impl

import (
	"strconv"
	"strings"
)

const (
	maxName   = 8
	maxPadded = 2000
)

func FormatInt(n int) string {
	return strconv.Itoa(n)
}

func ParseInt(s string) (int, bool) {
	n, err := strconv.Atoi(s)
	// Atoi also reads +5, -0 and 007, which are not the text of any integer.
	if err != nil || FormatInt(n) != s {
		return 0, false
	}
	return n, true
}

// isDigit and isSmallLetter need not ask whether the text is valid UTF-8:
// a byte above 127 always gives a rune above 127, as a part of one or as the error rune.
func isDigit(r rune) bool {
	return '0' <= r && r <= '9'
}

func isSmallLetter(r rune) bool {
	return 'a' <= r && r <= 'z'
}

func IsDigits(s string) bool {
	for _, r := range s {
		if !isDigit(r) {
			return false
		}
	}
	return s != ""
}

func IsName(s string) bool {
	if s == "" || len(s) > maxName {
		return false
	}
	for i, r := range s {
		if !isSmallLetter(r) && (i == 0 || !isDigit(r)) {
			return false
		}
	}
	return true
}

func bytesIn(s string) [256]bool {
	var found [256]bool
	for i := range len(s) {
		found[s[i]] = true
	}
	return found
}

// SplitAny goes byte by byte: the bytes of one rune may be separators each,
// and a separator may be a byte that is only part of a rune.
func SplitAny(s string, by string) []string {
	separators := bytesIn(by)
	var parts []string
	start := 0
	for i := range len(s) {
		if separators[s[i]] {
			parts = append(parts, s[start:i])
			start = i + 1
		}
	}
	return append(parts, s[start:])
}

func SplitLines(s string) []string {
	lines := SplitAny(s, "\n")
	last := len(lines) - 1
	if lines[last] == "" {
		return lines[:last]
	}
	return lines
}

// joinParts is variadic because some callers have a list and others single strings.
func joinParts(by string, parts ...string) string {
	return strings.Join(parts, by)
}

func Join(l []string, by string) string {
	return joinParts(by, l...)
}

func PadZeros(s string, n int) string {
	if len(s) >= n || n > maxPadded {
		return s
	}
	return joinParts("", strings.Repeat("0", n-len(s)), s)
}
