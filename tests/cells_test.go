package tests

import (
	"math"
	"slices"
	"strings"
	"testing"

	"loop.example/g03208/impl"
)

// drawn reads the drawing of a shape as the chapter says that a mask is written.
func drawn(text string) (w, h, mask int) {
	rows := strings.Split(text, "/")
	w, h = len(rows[0]), len(rows)
	for y, row := range rows {
		for x := range w {
			if row[x] == '#' {
				mask += 1 << (y*w + x)
			}
		}
	}
	return w, h, mask
}

// masksOf reads drawings.
func masksOf(texts ...string) []int {
	var masks []int
	for _, text := range texts {
		_, _, mask := drawn(text)
		masks = append(masks, mask)
	}
	return masks
}

// cellShapes are shapes with what the functions tell of them. An empty text among those that are moved is for a motion after which the shape does not fit.
var cellShapes = []struct {
	name   string
	text   string
	cells  int
	rim    int
	parts  []string
	moved  [8]string
	lowest string
}{
	{"all of the least table", "#", 1, 4,
		[]string{"#"},
		[8]string{"#", "#", "#", "#", "#", "#", "#", "#"}, "#"},
	{"none of the least table", ".", 0, 0,
		nil,
		[8]string{".", ".", ".", ".", ".", ".", ".", "."}, "."},
	{"none of a wide table", ".../...", 0, 0,
		nil,
		[8]string{".../...", ".../...", ".../...", ".../...", ".../...", ".../...", ".../...", ".../..."}, ".../..."},
	{"the last cell", ".../..#", 1, 4,
		[]string{".../..#"},
		[8]string{"#../...", "#../...", "#../...", "#../...", "#../...", "#../...", "#../...", "#../..."}, "#../..."},
	{"all of a wide table", "###/###", 6, 10,
		[]string{"###/###"},
		[8]string{"###/###", "", "###/###", "", "###/###", "", "###/###", ""}, "###/###"},
	{"all of a high table", "#/#/#/#/#/#", 6, 14,
		[]string{"#/#/#/#/#/#"},
		[8]string{"#/#/#/#/#/#", "", "#/#/#/#/#/#", "", "#/#/#/#/#/#", "", "#/#/#/#/#/#", ""}, "#/#/#/#/#/#"},
	{"all of a square table", "##/##", 4, 8,
		[]string{"##/##"},
		[8]string{"##/##", "##/##", "##/##", "##/##", "##/##", "##/##", "##/##", "##/##"}, "##/##"},
	{"three cells", "##./#..", 3, 8,
		[]string{"##./#.."},
		[8]string{"##./#..", "##./.#.", ".#./##.", "#../##.", "##./.#.", ".#./##.", "#../##.", "##./#.."}, "##./#.."},
	{"three cells at the edge", "..#/.##", 3, 8,
		[]string{"..#/.##"},
		[8]string{".#./##.", "#../##.", "##./#..", "##./.#.", "#../##.", "##./#..", "##./.#.", ".#./##."}, "##./#.."},
	{"no symmetry", ".##/##./.#.", 5, 12,
		[]string{".##/##./.#."},
		[8]string{".##/##./.#.", ".#./###/..#", ".#./.##/##.", "#../###/.#.", "##./.##/.#.", "..#/###/.#.", ".#./##./.##", ".#./###/#.."}, ".#./###/#.."},
	{"no symmetry, within a wide table", "....../....#./...##./....##", 5, 12,
		[]string{"....../....#./...##./....##"},
		[8]string{
			".#..../##..../.##.../......", ".#..../###.../#...../......", "##..../.##.../.#..../......", "..#.../###.../.#..../......",
			".#..../.##.../##..../......", "#...../###.../.#..../......", ".##.../##..../.#..../......", ".#..../###.../..#.../......",
		}, ".#..../###.../#...../......"},
	{"turns as symmetries", ".##/.#./##.", 5, 12,
		[]string{".##/.#./##."},
		[8]string{".##/.#./##.", "#../###/..#", ".##/.#./##.", "#../###/..#", "##./.#./.##", "..#/###/#..", "##./.#./.##", "..#/###/#.."}, "..#/###/#.."},
	{"a row that fits only level", "###/...", 3, 8,
		[]string{"###/..."},
		[8]string{"###/...", "", "###/...", "", "###/...", "", "###/...", ""}, "###/..."},
	{"a row that fits upright, too", "..../..../.###", 3, 8,
		[]string{"..../..../.###"},
		[8]string{
			"###./..../....", "#.../#.../#...", "###./..../....", "#.../#.../#...",
			"###./..../....", "#.../#.../#...", "###./..../....", "#.../#.../#...",
		}, "###./..../...."},
	{"a column that fits only upright", ".#/.#/.#", 3, 8,
		[]string{".#/.#/.#"},
		[8]string{"#./#./#.", "", "#./#./#.", "", "#./#./#.", "", "#./#./#.", ""}, "#./#./#."},
	{"a column that fits level, too", "....#./....#.", 2, 6,
		[]string{"....#./....#."},
		[8]string{
			"#...../#.....", "##..../......", "#...../#.....", "##..../......",
			"#...../#.....", "##..../......", "#...../#.....", "##..../......",
		}, "##..../......"},
	{"fits while width and height stay", "####/#...", 5, 12,
		[]string{"####/#..."},
		[8]string{"####/#...", "", "...#/####", "", "####/...#", "", "#.../####", ""}, "####/#..."},
	{"the least mask after a half turn", "...#/####", 5, 12,
		[]string{"...#/####"},
		[8]string{"...#/####", "", "####/#...", "", "#.../####", "", "####/...#", ""}, "####/#..."},
	{"the least mask after a mirroring only", "##./.##", 4, 10,
		[]string{"##./.##"},
		[8]string{"##./.##", "", "##./.##", "", ".##/##.", "", ".##/##.", ""}, ".##/##."},
	{"around a hole", "###/#.#/###", 8, 16,
		[]string{"###/#.#/###"},
		[8]string{"###/#.#/###", "###/#.#/###", "###/#.#/###", "###/#.#/###", "###/#.#/###", "###/#.#/###", "###/#.#/###", "###/#.#/###"}, "###/#.#/###"},
	{"touching at a corner", "#./.#", 2, 8,
		[]string{"#./..", "../.#"},
		[8]string{"#./.#", ".#/#.", "#./.#", ".#/#.", ".#/#.", "#./.#", ".#/#.", "#./.#"}, ".#/#."},
	{"touching at the other corner", ".#/#.", 2, 8,
		[]string{".#/..", "../#."},
		[8]string{".#/#.", "#./.#", ".#/#.", "#./.#", "#./.#", ".#/#.", "#./.#", ".#/#."}, ".#/#."},
	{"neighbors in the mask only", "..#/#..", 2, 8,
		[]string{"..#/...", ".../#.."},
		[8]string{"..#/#..", "", "..#/#..", "", "#../..#", "", "#../..#", ""}, "..#/#.."},
	{"around the edge, row by row", "...#/#..#/#...", 4, 12,
		[]string{"...#/...#/....", "..../#.../#..."},
		[8]string{"...#/#..#/#...", "", "...#/#..#/#...", "", "#.../#..#/...#", "", "#.../#..#/...#", ""}, "...#/#..#/#..."},
	{"apart in a row", "#.##", 3, 10,
		[]string{"#...", "..##"},
		[8]string{"#.##", "", "##.#", "", "##.#", "", "#.##", ""}, "##.#"},
	{"apart in a column", "#/./#/#", 3, 10,
		[]string{"#/././.", "././#/#"},
		[8]string{"#/./#/#", "", "#/#/./#", "", "#/./#/#", "", "#/#/./#", ""}, "#/#/./#"},
	{"three parts that do not end in their order", "####../#....#/#.##.#/#.##.#/#....#/..####", 20, 44,
		[]string{"####../#...../#...../#...../#...../......", "....../.....#/.....#/.....#/.....#/..####", "....../....../..##../..##../....../......"},
		[8]string{
			"####../#....#/#.##.#/#.##.#/#....#/..####", ".#####/.....#/#.##.#/#.##.#/#...../#####.",
			"####../#....#/#.##.#/#.##.#/#....#/..####", ".#####/.....#/#.##.#/#.##.#/#...../#####.",
			"..####/#....#/#.##.#/#.##.#/#....#/####..", "#####./#...../#.##.#/#.##.#/.....#/.#####",
			"..####/#....#/#.##.#/#.##.#/#....#/####..", "#####./#...../#.##.#/#.##.#/.....#/.#####",
		}, "..####/#....#/#.##.#/#.##.#/#....#/####.."},
}

func TestShapesOfCells(t *testing.T) {
	for _, c := range cellShapes {
		w, h, mask := drawn(c.text)
		if !impl.ShapeOk(w, h, mask) {
			t.Errorf("%s: ShapeOk(%d, %d, %d) = false", c.name, w, h, mask)
		}
		if got := impl.CellCount(w, h, mask); got != c.cells {
			t.Errorf("%s: CellCount(%d, %d, %d) = %d, want %d", c.name, w, h, mask, got, c.cells)
		}
		if got := impl.RimOf(w, h, mask); got != c.rim {
			t.Errorf("%s: RimOf(%d, %d, %d) = %d, want %d", c.name, w, h, mask, got, c.rim)
		}
		if got, want := impl.PartsOf(w, h, mask), masksOf(c.parts...); !slices.Equal(got, want) {
			t.Errorf("%s: PartsOf(%d, %d, %d) = %v, want %v", c.name, w, h, mask, got, want)
		}
		if got := impl.IsWhole(w, h, mask); got != (len(c.parts) == 1) {
			t.Errorf("%s: IsWhole(%d, %d, %d) = %v", c.name, w, h, mask, got)
		}
		if got, want := impl.NameOfShape(w, h, mask), masksOf(c.lowest)[0]; got != want {
			t.Errorf("%s: NameOfShape(%d, %d, %d) = %d, want %d", c.name, w, h, mask, got, want)
		}
	}
}

func TestMovedShapes(t *testing.T) {
	for _, c := range cellShapes {
		w, h, mask := drawn(c.text)
		// What motion 0 leaves is the shape in the corner.
		if got, want := impl.CornerOf(w, h, mask), masksOf(c.moved[0])[0]; got != want {
			t.Errorf("%s: CornerOf(%d, %d, %d) = %d, want %d", c.name, w, h, mask, got, want)
		}
		for m, text := range c.moved {
			want, fits := 0, text != ""
			if fits {
				want = masksOf(text)[0]
			}
			if got, ok := impl.MovedShape(w, h, mask, m); got != want || ok != fits {
				t.Errorf("%s: MovedShape(%d, %d, %d, %d) = %d, %v, want %d, %v", c.name, w, h, mask, m, got, ok, want, fits)
			}
		}
		for _, m := range noMotions {
			if got, ok := impl.MovedShape(w, h, mask, m); got != 0 || ok {
				t.Errorf("%s: MovedShape(%d, %d, %d, %d) = %d, %v, want 0, false", c.name, w, h, mask, m, got, ok)
			}
		}
	}
}

// eachTable calls do with the widths and heights of all tables.
func eachTable(do func(w, h int)) {
	for h := 1; h <= impl.MaxSide; h++ {
		for w := 1; w <= impl.MaxSide; w++ {
			do(w, h)
		}
	}
}

func TestMaxSide(t *testing.T) {
	if impl.MaxSide != 6 {
		t.Errorf("MaxSide = %d", impl.MaxSide)
	}
}

// TestBoundsOfTables has the empty shape and the whole table for every width and height.
func TestBoundsOfTables(t *testing.T) {
	eachTable(func(w, h int) {
		all := 1<<(w*h) - 1
		if !impl.ShapeOk(w, h, 0) || !impl.ShapeOk(w, h, all) || !impl.ShapeOk(w, h, all/2) {
			t.Errorf("ShapeOk(%d, %d, ..) is false for a shape", w, h)
		}
		if none, whole := impl.CellCount(w, h, 0), impl.CellCount(w, h, all); none != 0 || whole != w*h {
			t.Errorf("CellCount(%d, %d, ..) = %d for no cells and %d for all", w, h, none, whole)
		}
		if impl.IsWhole(w, h, 0) || !impl.IsWhole(w, h, all) {
			t.Errorf("IsWhole(%d, %d, ..) = %v for no cells and %v for all", w, h, impl.IsWhole(w, h, 0), impl.IsWhole(w, h, all))
		}
		if none, whole := impl.PartsOf(w, h, 0), impl.PartsOf(w, h, all); len(none) != 0 || !slices.Equal(whole, []int{all}) {
			t.Errorf("PartsOf(%d, %d, ..) = %v for no cells and %v for all", w, h, none, whole)
		}
		if none, whole := impl.CornerOf(w, h, 0), impl.CornerOf(w, h, all); none != 0 || whole != all {
			t.Errorf("CornerOf(%d, %d, ..) = %d for no cells and %d for all", w, h, none, whole)
		}
		if none, whole := impl.NameOfShape(w, h, 0), impl.NameOfShape(w, h, all); none != 0 || whole != all {
			t.Errorf("NameOfShape(%d, %d, ..) = %d for no cells and %d for all", w, h, none, whole)
		}
		if none, whole := impl.RimOf(w, h, 0), impl.RimOf(w, h, all); none != 0 || whole != 2*(w+h) {
			t.Errorf("RimOf(%d, %d, ..) = %d for no cells and %d for all", w, h, none, whole)
		}
		for m := range 8 {
			if got, ok := impl.MovedShape(w, h, 0, m); got != 0 || !ok {
				t.Errorf("MovedShape(%d, %d, 0, %d) = %d, %v, want 0, true", w, h, m, got, ok)
			}
			want, fits := 0, m%2 == 0 || w == h
			if fits {
				want = all
			}
			if got, ok := impl.MovedShape(w, h, all, m); got != want || ok != fits {
				t.Errorf("MovedShape(%d, %d, %d, %d) = %d, %v, want %d, %v", w, h, all, m, got, ok, want, fits)
			}
		}
	})
}

// TestSingleCells has each cell of each table alone.
func TestSingleCells(t *testing.T) {
	eachTable(func(w, h int) {
		for i := range w * h {
			cell := 1 << i
			if !impl.ShapeOk(w, h, cell) || impl.CellCount(w, h, cell) != 1 || impl.RimOf(w, h, cell) != 4 || !impl.IsWhole(w, h, cell) || !slices.Equal(impl.PartsOf(w, h, cell), []int{cell}) || impl.CornerOf(w, h, cell) != 1 || impl.NameOfShape(w, h, cell) != 1 {
				t.Errorf("the cell %d alone, in the table %d, %d, is not what it is", i, w, h)
			}
			for m := range 8 {
				if got, ok := impl.MovedShape(w, h, cell, m); got != 1 || !ok {
					t.Errorf("MovedShape(%d, %d, %d, %d) = %d, %v, want 1, true", w, h, cell, m, got, ok)
				}
			}
		}
	})
}

// TestMostParts has every second cell, as on a chessboard, which touch at corners only: there can be no more parts.
func TestMostParts(t *testing.T) {
	eachTable(func(w, h int) {
		for first := range 2 {
			var parts []int
			mask := 0
			for i := range w * h {
				if (i%w+i/w)%2 == first {
					parts = append(parts, 1<<i)
					mask += 1 << i
				}
			}
			if got := impl.PartsOf(w, h, mask); !slices.Equal(got, parts) {
				t.Errorf("PartsOf(%d, %d, %d) = %v, want %v", w, h, mask, got, parts)
			}
			if impl.IsWhole(w, h, mask) != (len(parts) == 1) || impl.RimOf(w, h, mask) != 4*len(parts) || impl.CellCount(w, h, mask) != len(parts) {
				t.Errorf("%d cells that touch at corners only, in the table %d, %d, are not told as that", len(parts), w, h)
			}
		}
	})
}

// TestCellsAcrossTheEdge has, for each row but the last one, its last cell and the first one of the next row, which are next to each other in the mask.
func TestCellsAcrossTheEdge(t *testing.T) {
	eachTable(func(w, h int) {
		for y := 1; y < h; y++ {
			last, first := 1<<(y*w-1), 1<<(y*w)
			want := []int{last, first}
			if w == 1 {
				want = []int{last + first}
			}
			if got := impl.PartsOf(w, h, last+first); !slices.Equal(got, want) || impl.IsWhole(w, h, last+first) != (w == 1) {
				t.Errorf("PartsOf(%d, %d, %d) = %v, want %v", w, h, last+first, got, want)
			}
			if got, want := impl.RimOf(w, h, last+first), 4+2*len(want); got != want {
				t.Errorf("RimOf(%d, %d, %d) = %d, want %d", w, h, last+first, got, want)
			}
		}
	})
}

// noSides are numbers that no width and no height of a table has.
var noSides = []int{0, -1, 7, 8, -2, -6, 36, 63, 64, 255, 256, 1 << 31, 1 << 32, 1<<32 + 1, 1<<32 + 6, -1 << 31, -1 << 32, math.MinInt, math.MinInt + 1, math.MaxInt - 1, math.MaxInt}

// eachNoShape calls do with numbers that are no shape, because of the width, the height or the mask.
func eachNoShape(do func(w, h, mask int)) {
	for _, bad := range noSides {
		for _, mask := range []int{0, 1, -1, 1<<36 - 1, math.MinInt, math.MaxInt} {
			for _, good := range []int{1, 2, impl.MaxSide} {
				do(bad, good, mask)
				do(good, bad, mask)
			}
			for _, other := range noSides {
				do(bad, other, mask)
			}
		}
	}
	// As many cells as a table can have, but not so many columns and rows.
	for _, s := range [][2]int{{36, 1}, {1, 36}, {9, 4}, {4, 9}, {12, 3}, {7, 1}, {1, 7}, {-1, -1}, {-6, -6}, {-2, -3}} {
		do(s[0], s[1], 0)
		do(s[0], s[1], 1)
	}
	eachTable(func(w, h int) {
		cells := w * h
		for _, mask := range []int{-1, -2, -1 << cells, 1 << cells, 1<<cells + 1, 1<<(cells+1) - 1, 1 << (cells + 1), 1 << 62, math.MinInt, math.MinInt + 1, math.MaxInt - 1, math.MaxInt} {
			do(w, h, mask)
		}
	})
}

func TestNoShapes(t *testing.T) {
	eachNoShape(func(w, h, mask int) {
		if impl.ShapeOk(w, h, mask) {
			t.Errorf("ShapeOk(%d, %d, %d) = true", w, h, mask)
		}
		if impl.IsWhole(w, h, mask) {
			t.Errorf("IsWhole(%d, %d, %d) = true", w, h, mask)
		}
		if got := impl.PartsOf(w, h, mask); len(got) != 0 {
			t.Errorf("PartsOf(%d, %d, %d) = %v, want none", w, h, mask, got)
		}
		if got := impl.FormatShape(w, h, mask); got != "" {
			t.Errorf("FormatShape(%d, %d, %d) = %q, want none", w, h, mask, got)
		}
		for _, got := range []int{impl.CellCount(w, h, mask), impl.CornerOf(w, h, mask), impl.NameOfShape(w, h, mask), impl.RimOf(w, h, mask)} {
			if got != -1 {
				t.Errorf("CellCount, CornerOf, NameOfShape and RimOf of %d, %d, %d = %d, %d, %d and %d, want -1", w, h, mask, impl.CellCount(w, h, mask), impl.CornerOf(w, h, mask), impl.NameOfShape(w, h, mask), impl.RimOf(w, h, mask))
			}
		}
		for _, m := range []int{0, 1, 2, 3, 4, 5, 6, 7, 8, -1, math.MinInt, math.MaxInt} {
			if got, ok := impl.MovedShape(w, h, mask, m); got != 0 || ok {
				t.Errorf("MovedShape(%d, %d, %d, %d) = %d, %v, want 0, false", w, h, mask, m, got, ok)
			}
		}
	})
}
