package tests

import (
	"math"
	"slices"
	"strings"
	"testing"

	"loop.example/g03208/impl"
)

// pointTexts are lists of points with the only texts that stand for them.
var pointTexts = []struct {
	p    []impl.Point
	text string
}{
	{nil, "-"},
	{xy(0, 0), "0,0"},
	{xy(4, 40), "4,40"},
	{xy(0, 0, 6, 0, 0, 4), "0,0 6,0 0,4"},
	{xy(3, 3, 3, 3), "3,3 3,3"},
	// Any integers, not only those of valid points.
	{xy(-1, 41, 10, -20), "-1,41 10,-20"},
	{xy(math.MinInt, math.MaxInt), "-9223372036854775808,9223372036854775807"},
	{slices.Repeat(xy(1, 2), 29), strings.Repeat("1,2 ", 28) + "1,2"},
	{slices.Repeat(xy(1, 2), 30), strings.Repeat("1,2 ", 29) + "1,2"},
}

func TestFormatPoints(t *testing.T) {
	for _, c := range pointTexts {
		if got := impl.FormatPoints(c.p); got != c.text {
			t.Errorf("FormatPoints(%v) = %q, want %q", c.p, got, c.text)
		}
	}
	if got := impl.FormatPoints([]impl.Point{}); got != "-" {
		t.Errorf("FormatPoints of no points = %q", got)
	}
	for _, n := range []int{31, 32, 60, 1000} {
		if got := impl.FormatPoints(slices.Repeat(xy(1, 2), n)); got != "" {
			t.Errorf("FormatPoints of %d points = %q", n, got)
		}
	}
}

func TestParsePoints(t *testing.T) {
	for _, c := range pointTexts {
		if got, ok := impl.ParsePoints(c.text); !slices.Equal(got, c.p) || !ok {
			t.Errorf("ParsePoints(%q) = %v, %v, want %v, true", c.text, got, ok, c.p)
		}
	}
}

func TestParsePointsRefuses(t *testing.T) {
	texts := []string{
		"", " ", "--", "- ", " -", "- -", "-,-", "- 1,2", "1,2 -", "none",
		"1", "1,", ",1", ",", "1,2,3", "1,2,", ",1,2", "1,,2", "1 2", "1;2", "1.2", "1, 2", "1 ,2",
		" 1,2", "1,2 ", "1,2  3,4", "1,2\n", "1,2\t3,4", "1,2\n3,4", "1,2;3,4", "1,2,3,4", "1,2 3", "1 2,3", "1,2 3,4,5", "1,2 3,",
		"01,2", "1,02", "+1,2", "1,+2", "-0,2", "1,-0", "1,--2", "a,2", "1,b", "1,2 x,4", "0x1,2", "1_0,2", "1e1,2",
		"9223372036854775808,0", "0,-9223372036854775809", "1,2\x00", "\xff", "\u0661,2", "1\u00a02",
		strings.Repeat("1,2 ", 30), strings.Repeat("1,2 ", 30) + "1,2", strings.Repeat("1,2 ", 1000) + "1,2", strings.Repeat(" ", 1000), strings.Repeat(",", 1000),
	}
	for _, text := range texts {
		if got, ok := impl.ParsePoints(text); len(got) != 0 || ok {
			t.Errorf("ParsePoints(%.40q) = %v, %v, want none and false", text, got, ok)
		}
	}
}

func TestParsePointsTakesOnlyWhatFormatPointsWrites(t *testing.T) {
	eachString("01,- ", 7, func(text string) {
		p, ok := impl.ParsePoints(text)
		if ok && impl.FormatPoints(p) != text || !ok && len(p) != 0 {
			t.Fatalf("ParsePoints(%q) = %v, %v", text, p, ok)
		}
	})
	for n := range 31 {
		eachDrawn(20, n, func(p []impl.Point) {
			if got, ok := impl.ParsePoints(impl.FormatPoints(p)); !slices.Equal(got, p) || !ok {
				t.Fatalf("ParsePoints(FormatPoints(%v)) = %v, %v", p, got, ok)
			}
		})
	}
}

func TestPointTextsAreNew(t *testing.T) {
	list, memory := roomyPoints(xy(0, 0, 6, 0, 0, 4))
	before := slices.Clone(memory)
	text := impl.FormatPoints(list)
	first, _ := impl.ParsePoints(text)
	second, _ := impl.ParsePoints(text)
	if !slices.Equal(memory, before) || pointsOverlap(first, second) || pointsOverlap(first, memory) {
		t.Error("the results share memory, or the argument was changed")
	}
	first[0] = pt(9, 9)
	if third, ok := impl.ParsePoints(text); !slices.Equal(third, list) || !slices.Equal(second, list) || !ok || text != "0,0 6,0 0,4" {
		t.Errorf("after a change to an earlier result, ParsePoints(%q) = %v and %v", text, second, third)
	}
}
