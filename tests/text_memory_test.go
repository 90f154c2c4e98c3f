package tests

import (
	"slices"
	"strings"
	"testing"

	"loop.example/g03208/impl"
)

func TestTextResultsShareNoMemory(t *testing.T) {
	for _, s := range []string{"a,b c", "abc", ",,abc,", "a\nb\n", "abc\n", "x", "\xff,\xfe"} {
		for _, by := range []string{"", ",", ", ", "\n", "\xff"} {
			for _, part := range impl.SplitAny(s, by) {
				checkApart(t, "SplitAny", part, s, by)
			}
			checkApart(t, "Join", impl.Join([]string{s}, by), s, by)
			checkApart(t, "Join", impl.Join([]string{"", s}, ""), s)
			checkApart(t, "Join", impl.Join([]string{s, s}, by), s, by)
			checkApart(t, "Join", impl.Join([]string{"", ""}, by), by)
		}
		for _, line := range impl.SplitLines(s) {
			checkApart(t, "SplitLines", line, s)
		}
		for _, n := range []int{-1, 0, len(s), len(s) + 1, 2000, 2001} {
			checkApart(t, "PadZeros", impl.PadZeros(s, n), s)
		}
	}
}

func TestJoinLeavesItsListAlone(t *testing.T) {
	for _, elements := range [][]string{{}, {"b"}, {"b", "a", "", "b"}, {"\xff", "x"}} {
		list, memory := roomy(elements...)
		before := slices.Clone(memory)
		first := impl.Join(list, "-")
		if !slices.Equal(memory, before) {
			t.Errorf("Join changes the memory of its list from %q to %q", before, memory)
		}
		if second := impl.Join(list, "-"); second != first {
			t.Errorf("Join of %q returns %q and then %q", elements, first, second)
		}
	}
}

func TestSplitResultsAreNew(t *testing.T) {
	splits := map[string]func() []string{
		"SplitAny":   func() []string { return impl.SplitAny("a,b c", ", ") },
		"SplitLines": func() []string { return impl.SplitLines("a\nb\nc\n") },
	}
	for name, split := range splits {
		first := split()
		first = append(first[:2], "changed", "more")
		first[0] = "changed"
		if second := split(); !slices.Equal(second, []string{"a", "b", "c"}) {
			t.Errorf("%s returns %q after its earlier result was changed to %q", name, second, first)
		}
	}
}

func TestTextArgumentsAreUnchanged(t *testing.T) {
	s, by := strings.Clone("a,b\nc"), strings.Clone(", \n")
	impl.SplitAny(s, by)
	impl.SplitLines(s)
	impl.PadZeros(s, 2000)
	impl.Join([]string{s, s}, by)
	impl.IsDigits(s)
	impl.IsName(s)
	impl.ParseInt(s)
	if s != "a,b\nc" || by != ", \n" {
		t.Errorf("arguments were changed to %q and %q", s, by)
	}
}
