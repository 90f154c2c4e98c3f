package impl

import (
	"strconv"
	"strings"
)

const maxNameBytes = 8

const maxPadBytes = 2000

func FormatInt(n int) string { return strconv.Itoa(n) }

func ParseInt(s string) (int, bool) {
	n, err := strconv.Atoi(s)
	// Atoi also reads texts that FormatInt never writes, such as "+5", "-0" and "07".
	if err != nil || FormatInt(n) != s {
		return 0, false
	}
	return n, true
}

func IsDigits(s string) bool {
	for _, r := range s {
		if !isDigit(r) {
			return false
		}
	}
	return s != ""
}

func IsName(s string) bool {
	if s == "" || len(s) > maxNameBytes {
		return false
	}
	for i, r := range s {
		if !isLetter(r) && (i == 0 || !isDigit(r)) {
			return false
		}
	}
	return true
}

func SplitAny(s string, by string) []string {
	separates := byteSet(by)
	var parts []string
	start := 0
	// Bytes, not runes: a separator may be one byte of a longer rune.
	for i := 0; i < len(s); i++ {
		if separates[s[i]] {
			parts = append(parts, strings.Clone(s[start:i]))
			start = i + 1
		}
	}
	return append(parts, strings.Clone(s[start:]))
}

func SplitLines(s string) []string {
	lines := SplitAny(s, "\n")
	last := len(lines) - 1
	if lines[last] == "" {
		return lines[:last]
	}
	return lines
}

func Join(l []string, by string) string { return joinParts(by, l...) }

func PadZeros(s string, n int) string {
	if len(s) >= n || n > maxPadBytes {
		// A clone, because no result shares memory with an argument.
		return strings.Clone(s)
	}
	return strings.Repeat("0", n-len(s)) + s
}

func isDigit(r rune) bool { return '0' <= r && r <= '9' }

func isLetter(r rune) bool { return 'a' <= r && r <= 'z' }

func byteSet(s string) [256]bool {
	var set [256]bool
	for i := 0; i < len(s); i++ {
		set[s[i]] = true
	}
	return set
}

// joinParts builds its result anew, where strings.Join would return the only element of a list itself.
func joinParts(by string, parts ...string) string {
	var text strings.Builder
	for i, part := range parts {
		if i > 0 {
			text.WriteString(by)
		}
		text.WriteString(part)
	}
	return text.String()
}
