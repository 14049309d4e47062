package impl

import (
	"strconv"
	"strings"
)

func FormatInt(n int) string { return strconv.Itoa(n) }

func ParseInt(s string) (int, bool) {
	n, err := strconv.Atoi(s)
	// Atoi is more lenient than FormatInt: it also takes "+1", "-0" and "01".
	if err != nil || FormatInt(n) != s {
		return 0, false
	}
	return n, true
}

// IsDigits, like IsName, may scan runes although strings are arbitrary bytes:
// a byte of 128 or more is part of a longer rune or, if it is not valid UTF-8,
// read as U+FFFD, and neither is a digit or a letter.
func IsDigits(s string) bool {
	for _, r := range s {
		if !isDigit(r) {
			return false
		}
	}
	return s != ""
}

const maxNameBytes = 8

func IsName(s string) bool {
	if s == "" || len(s) > maxNameBytes {
		return false
	}
	for i, r := range s {
		if !isLetter(r) && (i == 0 || !isDigit(r)) {
			return false
		}
	}
	return true
}

func isDigit(r rune) bool { return '0' <= r && r <= '9' }

func isLetter(r rune) bool { return 'a' <= r && r <= 'z' }

func SplitAny(s string, by string) []string {
	// Bytes, not runes: a separator may be a part of a longer rune of s, and
	// two different invalid bytes would be the same rune.
	var separates [256]bool
	for i := range len(by) {
		separates[by[i]] = true
	}
	var parts []string
	start := 0
	for i := range len(s) {
		if separates[s[i]] {
			parts = append(parts, s[start:i])
			start = i + 1
		}
	}
	return append(parts, s[start:])
}

func SplitLines(s string) []string {
	lines := SplitAny(s, "\n")
	last := len(lines) - 1
	if lines[last] == "" {
		return lines[:last]
	}
	return lines
}

func Join(l []string, by string) string { return joinParts(by, l...) }

// joinParts is variadic so that a caller with a fixed number of parts can name
// them one by one.
func joinParts(by string, parts ...string) string { return strings.Join(parts, by) }

const maxPadding = 2000

func PadZeros(s string, n int) string {
	if len(s) >= n || n > maxPadding {
		return s
	}
	return strings.Repeat("0", n-len(s)) + s
}
