package tests

import (
	"strings"
	"testing"

	"loop.example/g03208/impl"
)

func TestFormatShape(t *testing.T) {
	for _, c := range cellShapes {
		w, h, mask := drawn(c.text)
		if got := impl.FormatShape(w, h, mask); got != c.text {
			t.Errorf("%s: FormatShape(%d, %d, %d) = %q, want %q", c.name, w, h, mask, got, c.text)
		}
	}
}

// checkText fails if ParseShape does not read this shape from a text.
func checkText(t *testing.T, text string, w, h, mask int) {
	t.Helper()
	if gotW, gotH, got, ok := impl.ParseShape(text); gotW != w || gotH != h || got != mask || !ok {
		t.Errorf("ParseShape(%q) = %d, %d, %d, %v, want %d, %d, %d, true", text, gotW, gotH, got, ok, w, h, mask)
	}
}

// checkNoText fails if ParseShape reads anything from a text.
func checkNoText(t *testing.T, text string) {
	t.Helper()
	if w, h, mask, ok := impl.ParseShape(text); w != 0 || h != 0 || mask != 0 || ok {
		t.Errorf("ParseShape(%.60q) = %d, %d, %d, %v, want zeros and false", text, w, h, mask, ok)
	}
}

func TestParseShape(t *testing.T) {
	for _, c := range cellShapes {
		w, h, mask := drawn(c.text)
		checkText(t, c.text, w, h, mask)
	}
}

// textOf returns h rows, each of them the same.
func textOf(row string, h int) string { return strings.Repeat(row+"/", h-1) + row }

// TestTextsOfAllSizes has tables without a shape, with a shape of all cells, and with one cell that is in it or is not.
func TestTextsOfAllSizes(t *testing.T) {
	eachTable(func(w, h int) {
		all := 1<<(w*h) - 1
		none, whole := textOf(strings.Repeat(".", w), h), textOf(strings.Repeat("#", w), h)
		if impl.FormatShape(w, h, 0) != none || impl.FormatShape(w, h, all) != whole {
			t.Errorf("FormatShape(%d, %d, ..) = %q and %q, want %q and %q", w, h, impl.FormatShape(w, h, 0), impl.FormatShape(w, h, all), none, whole)
		}
		checkText(t, none, w, h, 0)
		checkText(t, whole, w, h, all)
		for i := range w * h {
			// One more byte for each row before.
			at := i + i/w
			cell, hole := none[:at]+"#"+none[at+1:], whole[:at]+"."+whole[at+1:]
			if impl.FormatShape(w, h, 1<<i) != cell || impl.FormatShape(w, h, all-1<<i) != hole {
				t.Errorf("FormatShape(%d, %d, ..) = %q and %q, want %q and %q", w, h, impl.FormatShape(w, h, 1<<i), impl.FormatShape(w, h, all-1<<i), cell, hole)
			}
			checkText(t, cell, w, h, 1<<i)
			checkText(t, hole, w, h, all-1<<i)
		}
	})
}

func TestParseShapeRefuses(t *testing.T) {
	texts := []string{
		"", "/", "//", "///", "/////", " ", "\n", "-", "none",
		// Rows of different lengths, also such as make up for each other's length.
		"##/#", "#/##", "##./#../#", "#/##/#", "##/#/###", "##/###/#", "#/##/...", "###/..", "######/#####", "##/##/#.#", "###/#/##", "....../...../......./......",
		// Empty rows.
		"##//##", "#//#", "//#", "#//", "##/", "/##", "#/", "/#", "##/#./", "/##/#.", "/##/", "##/#.//", "./", "/.", "######/", "#/#/#/#/#/#/",
		// Other characters.
		"#x/..", "x", "0", "1", "#o", "##|..", "##\\..", "##,..", "##-..", "#\"", "#$/..", "-./..", "#*", "##\x00", "\x00", "\x00#/.#", "#\xff", "\xff\xfe", "##\x80/...", "\xa3.", "\xae#",
		"\u0123", "\u012e.", "#\u0123/#\u012e", "\uff03", "\uff0e\uff0e", "##\u2215..", "\u2022#", "\ufeff##/##", "##\u00a0",
		// Line ends and spaces.
		"##\n..", "##/..\n", "\n##/..", "##/\n..", "##\r\n..", "##/..\r", "##/..\r\n", "##\n/..", " ##/..", "##/.. ", "## /..", "##/ ..", "# #/...", "##\t/..", "##/..\t", "# ", " #", ". .", "##/..\x00",
		// One row or column too many, and many more.
		".......", "#######", textOf("#", 7), textOf(".", 7), textOf("#######", 6), textOf("######", 7), textOf("#######", 7), textOf("..", 7),
		strings.Repeat("#", 36), strings.Repeat(".", 63), strings.Repeat("#", 64), strings.Repeat("#", 65), strings.Repeat("#", 1<<16), strings.Repeat("/", 1<<16), textOf("#", 36), textOf("#", 64), textOf("######", 1<<12), textOf(strings.Repeat(".", 1<<12), 6), textOf("#########", 4), textOf("####", 9),
	}
	for _, text := range texts {
		checkNoText(t, text)
	}
	for _, c := range cellShapes {
		for _, extra := range []string{" ", "\n", "\r\n", "\t", "/", "//", "\x00", "x", "\xff", "\u00a0"} {
			checkNoText(t, c.text+extra)
			checkNoText(t, extra+c.text)
			checkNoText(t, c.text+"/"+extra)
		}
	}
}

// isShapeText tells what the chapter says of a text, row by row.
func isShapeText(text string) bool {
	rows := strings.Split(text, "/")
	if len(rows) > 6 || rows[0] == "" || len(rows[0]) > 6 {
		return false
	}
	for _, row := range rows {
		if len(row) != len(rows[0]) || strings.Trim(row, "#.") != "" {
			return false
		}
	}
	return true
}

// checkAnyText parses a text that may belong to a shape or not.
func checkAnyText(t *testing.T, text string) {
	t.Helper()
	if !isShapeText(text) {
		checkNoText(t, text)
		return
	}
	w, h, mask := drawn(text)
	checkText(t, text, w, h, mask)
	if got := impl.FormatShape(w, h, mask); got != text {
		t.Errorf("FormatShape(ParseShape(%q)) = %q", text, got)
	}
}

func TestShortTextsOfShapes(t *testing.T) {
	eachString("#./", 10, func(text string) { checkAnyText(t, text) })
	eachString("#./ \n\xff", 6, func(text string) { checkAnyText(t, text) })
}

// TestChangedTextsOfShapes changes, leaves out and adds single bytes.
func TestChangedTextsOfShapes(t *testing.T) {
	for _, c := range cellShapes {
		for i := range len(c.text) {
			checkAnyText(t, c.text[:i]+c.text[i+1:])
			for b := range 256 {
				checkAnyText(t, c.text[:i]+string([]byte{byte(b)})+c.text[i+1:])
				checkAnyText(t, c.text[:i]+string([]byte{byte(b)})+c.text[i:])
			}
		}
	}
	// Texts that are as long as they can be.
	for _, text := range []string{textOf("######", 6), textOf("......", 6), textOf("#.#.#.", 6)} {
		for i := range len(text) {
			checkAnyText(t, text[:i]+text[i+1:])
			for _, b := range []string{"#", ".", "/", " ", "\n", "x", "\x00", "\xff"} {
				checkAnyText(t, text[:i]+b+text[i+1:])
				checkAnyText(t, text[:i]+b+text[i:])
			}
		}
	}
}
