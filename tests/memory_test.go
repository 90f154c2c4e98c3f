package tests

import (
	"slices"
	"strings"
	"testing"
	"unsafe"
)

// overlap reports whether two strings have bytes in memory in common.
func overlap(a, b string) bool {
	if a == "" || b == "" {
		return false
	}
	x := uintptr(unsafe.Pointer(unsafe.StringData(a)))
	y := uintptr(unsafe.Pointer(unsafe.StringData(b)))
	return x < y+uintptr(len(b)) && y < x+uintptr(len(a))
}

// checkApart fails if a result has bytes in common with one of the arguments.
func checkApart(t *testing.T, label, result string, arguments ...string) {
	t.Helper()
	for _, a := range arguments {
		if overlap(result, a) {
			t.Errorf("%s: the result %.20q shares memory with the argument %.20q", label, result, a)
		}
	}
}

// roomy returns a list with these elements and spare capacity behind them, and the whole memory of it.
func roomy(elements ...string) (list, memory []string) {
	memory = append(slices.Clone(elements), "spare", "room")
	return memory[:len(elements)], memory
}

func TestOverlapSeesSharing(t *testing.T) {
	s := strings.Clone("abcdef")
	if !overlap(s, s) || !overlap(s[1:3], s[2:5]) || overlap(s[:2], s[2:]) || overlap(s, strings.Clone(s)) || overlap("", s) {
		t.Error("overlap does not tell shared memory")
	}
}
