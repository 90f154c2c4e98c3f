package tests

import (
	"math"
	"slices"
	"strings"
	"testing"

	"loop.example/g03208/impl"
)

// intTexts are ints with the only texts that stand for them.
var intTexts = []struct {
	n    int
	text string
}{
	{0, "0"},
	{1, "1"},
	{-1, "-1"},
	{9, "9"},
	{10, "10"},
	{-10, "-10"},
	{99, "99"},
	{100, "100"},
	{-407, "-407"},
	{1000000, "1000000"},
	{math.MaxInt32, "2147483647"},
	{math.MaxInt32 + 1, "2147483648"},
	{math.MinInt32, "-2147483648"},
	{math.MaxUint32, "4294967295"},
	{9007199254740993, "9007199254740993"},
	{math.MaxInt - 1, "9223372036854775806"},
	{math.MaxInt, "9223372036854775807"},
	{math.MinInt + 1, "-9223372036854775807"},
	{math.MinInt, "-9223372036854775808"},
}

func TestFormatInt(t *testing.T) {
	for _, c := range intTexts {
		if got := impl.FormatInt(c.n); got != c.text {
			t.Errorf("FormatInt(%d) = %q, want %q", c.n, got, c.text)
		}
	}
}

func TestParseInt(t *testing.T) {
	for _, c := range intTexts {
		if got, ok := impl.ParseInt(c.text); got != c.n || !ok {
			t.Errorf("ParseInt(%q) = %d, %v, want %d, true", c.text, got, ok, c.n)
		}
	}
}

func TestParseIntRefuses(t *testing.T) {
	texts := []string{
		// Texts that FormatInt never writes.
		"", "-", "+", "--", "--5", "+5", "+0", "-0", "00", "07", "-07", "-00", "000000000000000000000", "5-", "1-2",
		" 5", "5 ", "5\n", "\t5", "5\r", "5\x00", "\x005", "- 5", "1 2",
		"1_000", "1,000", "0x10", "0b1", "0o7", "1e3", "5.0", "5.", ".5", "a", "5a", "a5", "ff", "NaN", "Inf", "nil",
		"\u0663", "\uff15", "\u22125", "\ufeff5", "\xff", "5\xff", "\xff5", "\xc3",
		// Beyond the greatest and the least int, also where 64 bits wrap around.
		"9223372036854775808", "9223372036854775810", "9223372036854775817", "-9223372036854775809", "-9223372036854775818",
		"10000000000000000000", "-10000000000000000000", "18446744073709551615", "18446744073709551616", "18446744073709551617",
		"-18446744073709551616", "-18446744073709551617", "99999999999999999999", "09223372036854775807",
		strings.Repeat("9", 100), "-" + strings.Repeat("9", 100), "1" + strings.Repeat("0", 5000),
	}
	for _, text := range texts {
		if got, ok := impl.ParseInt(text); got != 0 || ok {
			t.Errorf("ParseInt(%q) = %d, %v, want 0, false", text, got, ok)
		}
	}
}

func TestIsDigits(t *testing.T) {
	for _, s := range []string{"0", "9", "00", "007", "0123456789", "9223372036854775808", strings.Repeat("5", 10000)} {
		if !impl.IsDigits(s) {
			t.Errorf("IsDigits(%q) = false", s)
		}
	}
	refused := []string{
		"", " ", "-", "-1", "+1", "1.5", "1 ", " 1", "1\n", "1 2", "a", "1a", "a1", "/", ":", "1/", ":1", "0x1",
		"\u0661", "\uff11", "\u00b2", "1\u0661", "\xff", "1\xff", "\xff1", "\xb1", "\x00", "1\x00",
		strings.Repeat("5", 10000) + "x", "x" + strings.Repeat("5", 10000),
	}
	for _, s := range refused {
		if impl.IsDigits(s) {
			t.Errorf("IsDigits(%q) = true", s)
		}
	}
}

func TestIsName(t *testing.T) {
	for _, s := range []string{"a", "z", "m", "a0", "z9", "aa", "zz", "x1", "a1b2", "abc", "abcdefg", "abcdefgh", "a1234567", "z9999999"} {
		if !impl.IsName(s) {
			t.Errorf("IsName(%q) = false", s)
		}
	}
	refused := []string{
		"", "0", "9", "1x", "0a", "A", "Z", "aB", "Ab", "a_b", "a-b", "_", "a ", " a", "a b", "a\n", "a.b",
		"`", "{", "a`", "a{", "a/", "a:", "abcdefghi", "a12345678", "abcdefgh1", "1bcdefgh", "abcdefgH", "abcdefg_",
		"\u00e9", "a\u00e9", "\u0430", "a\uff11", "a\u0661", "\xff", "a\xff", "\xe1", "a\x00", "\x00", strings.Repeat("a", 10000),
	}
	for _, s := range refused {
		if impl.IsName(s) {
			t.Errorf("IsName(%q) = true", s)
		}
	}
}

// TestEveryByte puts each byte into each place of a short string.
func TestEveryByte(t *testing.T) {
	for i := range 256 {
		b := string([]byte{byte(i)})
		digit := i >= '0' && i <= '9'
		letter := i >= 'a' && i <= 'z'
		for _, s := range []string{b, b + "7", "7" + b, "1" + b + "2"} {
			if got := impl.IsDigits(s); got != digit {
				t.Errorf("IsDigits(%q) = %v", s, got)
			}
		}
		for _, s := range []string{b, b + "7", b + "z"} {
			if got := impl.IsName(s); got != letter {
				t.Errorf("IsName(%q) = %v", s, got)
			}
		}
		for _, s := range []string{"q" + b, "q" + b + "7", "abcdefg" + b} {
			if got := impl.IsName(s); got != (letter || digit) {
				t.Errorf("IsName(%q) = %v", s, got)
			}
		}
		if n, ok := impl.ParseInt(b); ok != digit || ok && n != i-'0' || !ok && n != 0 {
			t.Errorf("ParseInt(%q) = %d, %v", b, n, ok)
		}
	}
}

func TestSplitAny(t *testing.T) {
	cases := []struct {
		s, by string
		want  []string
	}{
		{"a,b c", ", ", []string{"a", "b", "c"}},
		{"a,b,c", ",", []string{"a", "b", "c"}},
		{"a,b c", ",", []string{"a", "b c"}},
		// Nothing to split, or nothing to split at.
		{"", "", []string{""}},
		{"", ",", []string{""}},
		{"abc", "", []string{"abc"}},
		{"abc", ",", []string{"abc"}},
		{"a,b", "; ", []string{"a,b"}},
		// A separator that by has twice counts once.
		{"a,b", ",,", []string{"a", "b"}},
		{"a,b;c", ",;,;", []string{"a", "b", "c"}},
		// Separators in a row, at the beginning and at the end.
		{"a,,b", ",", []string{"a", "", "b"}},
		{"a, b", ", ", []string{"a", "", "b"}},
		{"a,;,b", ";,", []string{"a", "", "", "b"}},
		{",", ",", []string{"", ""}},
		{",,", ",", []string{"", "", ""}},
		{",a", ",", []string{"", "a"}},
		{"a,", ",", []string{"a", ""}},
		{"a\nb\n", "\n", []string{"a", "b", ""}},
		{"abc", "abc", []string{"", "", "", ""}},
		// Bytes, not runes: the two bytes of e with an acute accent are two separators, and each of them is one in other runes.
		{"x\u00e9y", "\u00e9", []string{"x", "", "y"}},
		{"x\u00e9y", "\xa9", []string{"x\xc3", "y"}},
		{"\u00e8", "\u00e9", []string{"", "\xa8"}},
		{"\u20ac", "\x82", []string{"\xe2", "\xac"}},
		{"a\xffb", "\xff", []string{"a", "b"}},
		{"a\xffb\xfe", "\xfe\xff", []string{"a", "b", ""}},
		{"a\xffb", "\ufffd", []string{"a\xffb"}},
		{"a\ufffdb", "\xff", []string{"a\ufffdb"}},
		{"\xff,\xfe", ",", []string{"\xff", "\xfe"}},
		{"\xc3,\xa9", ",", []string{"\xc3", "\xa9"}},
		{"a\x00b", "\x00", []string{"a", "b"}},
	}
	for _, c := range cases {
		if got := impl.SplitAny(c.s, c.by); !slices.Equal(got, c.want) {
			t.Errorf("SplitAny(%q, %q) = %q, want %q", c.s, c.by, got, c.want)
		}
	}
}

func TestSplitAnyAtEveryByte(t *testing.T) {
	for i := range 256 {
		b, other := string([]byte{byte(i)}), string([]byte{byte(i + 1)})
		if got := impl.SplitAny(other+b+other, b); !slices.Equal(got, []string{other, other}) {
			t.Errorf("SplitAny at byte %d = %q", i, got)
		}
		if got := impl.SplitAny(other, b); !slices.Equal(got, []string{other}) {
			t.Errorf("SplitAny of byte %d at byte %d = %q", byte(i+1), i, got)
		}
	}
}

func TestSplitLines(t *testing.T) {
	cases := []struct {
		s    string
		want []string
	}{
		{"a\nb\n", []string{"a", "b"}},
		{"a\nb", []string{"a", "b"}},
		{"", nil},
		{"a", []string{"a"}},
		{"a\n", []string{"a"}},
		{"\n", []string{""}},
		{"\n\n", []string{"", ""}},
		{"\na", []string{"", "a"}},
		{"a\n\n", []string{"a", ""}},
		{"a\n\nb", []string{"a", "", "b"}},
		{"a\n ", []string{"a", " "}},
		{" \n", []string{" "}},
		{"a\r\nb\r\n", []string{"a\r", "b\r"}},
		{"a\rb", []string{"a\rb"}},
		{"a\u2028b\u0085c\vd\fe\x00f", []string{"a\u2028b\u0085c\vd\fe\x00f"}},
		{"\xff\n\xfe\n", []string{"\xff", "\xfe"}},
		{"\xe2\n\x82\xac", []string{"\xe2", "\x82\xac"}},
		{"\u010a\u0a0a", []string{"\u010a\u0a0a"}},
		{"\u00e9\n\u20ac", []string{"\u00e9", "\u20ac"}},
	}
	for _, c := range cases {
		if got := impl.SplitLines(c.s); !slices.Equal(got, c.want) {
			t.Errorf("SplitLines(%q) = %q, want %q", c.s, got, c.want)
		}
	}
}

func TestJoin(t *testing.T) {
	cases := []struct {
		l    []string
		by   string
		want string
	}{
		{[]string{"a", "b", "c"}, "-", "a-b-c"},
		{[]string{"a", "b"}, ", ", "a, b"},
		{[]string{"a", "b"}, "", "ab"},
		{nil, "-", ""},
		{[]string{}, "-", ""},
		{nil, "", ""},
		{[]string{""}, "-", ""},
		{[]string{"a"}, "-", "a"},
		{[]string{"", ""}, "-", "-"},
		{[]string{"", "", ""}, "ab", "abab"},
		{[]string{"", "a", ""}, "-", "-a-"},
		{[]string{"a-", "-b"}, "-", "a---b"},
		{[]string{"b", "a", "b"}, ".", "b.a.b"},
		{[]string{"\xff", "\xfe"}, "\x00", "\xff\x00\xfe"},
		{[]string{"\xc3", "y"}, "\xa9", "\u00e9y"},
		{[]string{"\u20ac", "\u20ac"}, "\u00e9", "\u20ac\u00e9\u20ac"},
	}
	for _, c := range cases {
		if got := impl.Join(c.l, c.by); got != c.want {
			t.Errorf("Join(%q, %q) = %q, want %q", c.l, c.by, got, c.want)
		}
	}
}

func TestPadZeros(t *testing.T) {
	zeros := func(n int) string { return strings.Repeat("0", n) }
	x := func(n int) string { return strings.Repeat("x", n) }
	cases := []struct {
		s    string
		n    int
		want string
	}{
		{"7", 3, "007"},
		{"7", 2, "07"},
		{"abc", 4, "0abc"},
		{"0", 3, "000"},
		{"-5", 4, "00-5"},
		// At least n bytes already, or n negative.
		{"7", 1, "7"},
		{"7", 0, "7"},
		{"123", 2, "123"},
		{"123", 3, "123"},
		{"7", -1, "7"},
		{"7", -2000, "7"},
		{"7", -2001, "7"},
		{"7", math.MinInt, "7"},
		{"", 0, ""},
		{"", -1, ""},
		{"", math.MinInt, ""},
		{"", 1, "0"},
		{"", 5, "00000"},
		// Bytes count, not runes.
		{"\u00e9", 2, "\u00e9"},
		{"\u00e9", 3, "0\u00e9"},
		{"\xff", 2, "0\xff"},
		{"\x00", 2, "0\x00"},
		// 2000 is the last length that is padded to.
		{"7", 1999, zeros(1998) + "7"},
		{"7", 2000, zeros(1999) + "7"},
		{"7", 2001, "7"},
		{"", 2000, zeros(2000)},
		{"", 2001, ""},
		{"7", 1 << 32, "7"},
		{"7", math.MaxInt, "7"},
		{"", math.MaxInt, ""},
		{x(1999), 2000, "0" + x(1999)},
		{x(1999), 2001, x(1999)},
		{x(2000), 2000, x(2000)},
		{x(2000), 2001, x(2000)},
		{x(2001), 2000, x(2001)},
		{x(2001), 2002, x(2001)},
		{x(3000), 3001, x(3000)},
	}
	for _, c := range cases {
		if got := impl.PadZeros(c.s, c.n); got != c.want {
			t.Errorf("PadZeros(%.20q of %d bytes, %d) = %.20q of %d bytes, want %d bytes", c.s, len(c.s), c.n, got, len(got), len(c.want))
		}
	}
}
