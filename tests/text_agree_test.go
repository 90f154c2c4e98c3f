package tests

import (
	"math"
	"regexp"
	"slices"
	"strings"
	"testing"

	"loop.example/g03208/impl"
)

// eachString calls do with every string of at most n of the bytes of alphabet.
func eachString(alphabet string, n int, do func(s string)) {
	var add func(s string)
	add = func(s string) {
		do(s)
		if len(s) == n {
			return
		}
		for i := range len(alphabet) {
			add(s + alphabet[i:i+1])
		}
	}
	add("")
}

func TestParseIntUndoesFormatInt(t *testing.T) {
	check := func(n int) {
		text := impl.FormatInt(n)
		if got, ok := impl.ParseInt(text); got != n || !ok {
			t.Errorf("ParseInt(FormatInt(%d)) = %d, %v", n, got, ok)
		}
		if digits := strings.TrimPrefix(text, "-"); !impl.IsDigits(digits) || (len(digits) < len(text)) != (n < 0) {
			t.Errorf("FormatInt(%d) = %q", n, text)
		}
	}
	for n := -2000; n <= 2000; n++ {
		check(n)
	}
	for k := range 64 {
		for d := -1; d <= 1; d++ {
			check(1<<k + d)
			check(-1<<k + d)
		}
	}
	for n := 1; n <= math.MaxInt/10; n *= 10 {
		check(n)
		check(-n - 1)
	}
}

func TestParseIntTakesOnlyWhatFormatIntWrites(t *testing.T) {
	written := regexp.MustCompile(`\A(0|-?[1-9][0-9]*)\z`)
	eachString("+-01a 9\n", 5, func(s string) {
		n, ok := impl.ParseInt(s)
		if ok != written.MatchString(s) || ok && impl.FormatInt(n) != s || !ok && n != 0 {
			t.Errorf("ParseInt(%q) = %d, %v", s, n, ok)
		}
	})
}

func TestWordsFollowTheirPatterns(t *testing.T) {
	digits := regexp.MustCompile(`\A[0-9]+\z`)
	name := regexp.MustCompile(`\A[a-z][a-z0-9]{0,7}\z`)
	eachString("09az_A\xc3\xa9", 4, func(s string) {
		for _, word := range []string{s, "abcd" + s, "abcde" + s, "12" + s} {
			if got := impl.IsDigits(word); got != digits.MatchString(word) {
				t.Errorf("IsDigits(%q) = %v", word, got)
			}
			if got := impl.IsName(word); got != name.MatchString(word) {
				t.Errorf("IsName(%q) = %v", word, got)
			}
		}
	})
}

func TestSplitAnyAgreesWithSplit(t *testing.T) {
	for _, by := range []string{"", ",", " ", ", ", ",,", "\xa9", "\xc3\xa9", "a,\xff"} {
		eachString(", a\xc3\xa9\xff", 5, func(s string) {
			marked := []byte(s)
			for i, b := range marked {
				if strings.IndexByte(by, b) >= 0 {
					marked[i] = 1
				}
			}
			want := strings.Split(string(marked), "\x01")
			if got := impl.SplitAny(s, by); !slices.Equal(got, want) {
				t.Errorf("SplitAny(%q, %q) = %q, want %q", s, by, got, want)
			}
		})
	}
}

func TestJoinUndoesSplitAny(t *testing.T) {
	for _, by := range []string{",", "\n", "\x00", "\xff", "\xa9"} {
		eachString(",\na\x00\xa9\xff", 5, func(s string) {
			if got := impl.Join(impl.SplitAny(s, by), by); got != s {
				t.Errorf("Join(SplitAny(%q, %q)) = %q", s, by, got)
			}
		})
	}
}

func TestSplitLinesAgreesWithLines(t *testing.T) {
	eachString("\n\ra \xe2", 6, func(s string) {
		var want []string
		for line := range strings.Lines(s) {
			want = append(want, strings.TrimSuffix(line, "\n"))
		}
		if got := impl.SplitLines(s); !slices.Equal(got, want) {
			t.Errorf("SplitLines(%q) = %q, want %q", s, got, want)
		}
	})
}

func TestJoinAgreesWithItself(t *testing.T) {
	eachString("a,\xff", 3, func(s string) {
		eachString("b,\xfe", 2, func(u string) {
			for _, by := range []string{"", ",", "<>", "\xff"} {
				if got := impl.Join([]string{s, u, s}, by); got != s+by+u+by+s {
					t.Errorf("Join(%q, %q, %q; %q) = %q", s, u, s, by, got)
				}
			}
		})
	})
}

func TestPadZerosLength(t *testing.T) {
	for _, s := range []string{"", "7", "-12", "\xff\xfe", strings.Repeat("8", 1990)} {
		for n := -5; n <= 2010; n++ {
			missing := n - len(s)
			if missing < 0 || n > 2000 {
				missing = 0
			}
			if got := impl.PadZeros(s, n); got != strings.Repeat("0", missing)+s {
				t.Errorf("PadZeros of %d bytes to %d has %d bytes", len(s), n, len(got))
			}
		}
	}
}

func TestLongTexts(t *testing.T) {
	const n = 1 << 18
	if got := impl.SplitAny(strings.Repeat("ab,", n), ", \n"); len(got) != n+1 || got[n-1] != "ab" || got[n] != "" {
		t.Errorf("SplitAny of a long text has %d parts", len(got))
	}
	if got := impl.SplitAny(strings.Repeat("ab,", n), strings.Repeat(",", n)); len(got) != n+1 {
		t.Errorf("SplitAny by a long text has %d parts", len(got))
	}
	if got := impl.SplitLines(strings.Repeat("\n", n)); len(got) != n {
		t.Errorf("SplitLines of a long text has %d lines", len(got))
	}
	if got := impl.Join(make([]string, n+1), ","); got != strings.Repeat(",", n) {
		t.Errorf("Join of a long list has %d bytes", len(got))
	}
}
