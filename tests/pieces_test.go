package tests

import (
	"math"
	"slices"
	"strings"
	"testing"

	"loop.example/g03208/impl"
)

// drawnCut reads the drawing of a cut: each cell of the shape has the digit of its piece.
func drawnCut(text string) (w, h, mask int, cut []int) {
	marks := strings.Map(func(mark rune) rune {
		if mark >= '0' && mark <= '9' {
			cut = append(cut, int(mark-'0'))
			return '#'
		}
		return mark
	}, text)
	w, h, mask = drawn(marks)
	return w, h, mask, cut
}

// cutOnly returns the numbers of a drawn cut; none for the empty text.
func cutOnly(text string) []int {
	_, _, _, cut := drawnCut(text)
	return cut
}

// eachOrder calls do with a list in every order.
func eachOrder(list []int, do func(l []int)) {
	l := slices.Clone(list)
	var swap func(k int)
	swap = func(k int) {
		if k == len(l) {
			do(slices.Clone(l))
			return
		}
		for i := k; i < len(l); i++ {
			l[k], l[i] = l[i], l[k]
			swap(k + 1)
			l[k], l[i] = l[i], l[k]
		}
	}
	swap(0)
}

// cellCuts are cuts with what the functions tell of them.
var cellCuts = []struct {
	name   string
	text   string
	pieces []string
	sizes  []int
	length int
}{
	{"the least table", "0",
		[]string{"#"}, []int{1}, 0},
	{"the last cell of the greatest table", "....../....../....../....../....../.....0",
		[]string{"....../....../....../....../....../.....#"}, []int{1}, 0},
	{"one piece", "00/00",
		[]string{"##/##"}, []int{4}, 0},
	{"upper and lower half", "00/11",
		[]string{"##/..", "../##"}, []int{2, 2}, 2},
	{"left and right half", "01/01",
		[]string{"#./#.", ".#/.#"}, []int{2, 2}, 2},
	{"all but the last cell", "00/01",
		[]string{"##/#.", "../.#"}, []int{3, 1}, 2},
	{"the first cell only", "01/11",
		[]string{"#./..", ".#/##"}, []int{1, 3}, 2},
	{"the second cell only", "01/00",
		[]string{"#./##", ".#/.."}, []int{3, 1}, 2},
	{"single cells", "01/23",
		[]string{"#./..", ".#/..", "../#.", "../.#"}, []int{1, 1, 1, 1}, 4},
	{"a row in single cells", "012345",
		[]string{"#.....", ".#....", "..#...", "...#..", "....#.", ".....#"}, []int{1, 1, 1, 1, 1, 1}, 5},
	{"a column in three", "0/0/1/1/1/2",
		[]string{"#/#/./././.", "././#/#/#/.", "./././././#"}, []int{2, 3, 1}, 2},
	{"nine cells in one piece", "000/000/000",
		[]string{"###/###/###"}, []int{9}, 0},
	{"nine single cells", "012/345/678",
		[]string{"#../.../...", ".#./.../...", "..#/.../...", ".../#../...", ".../.#./...", ".../..#/...", ".../.../#..", ".../.../.#.", ".../.../..#"},
		[]int{1, 1, 1, 1, 1, 1, 1, 1, 1}, 12},
	{"a piece around another one", "000/010/000",
		[]string{"###/#.#/###", ".../.#./..."}, []int{8, 1}, 4},
	{"pieces in each other's arms", "000/110/122",
		[]string{"###/..#/...", ".../##./#..", ".../.../.##"}, []int{4, 3, 2}, 6},
	{"a piece that comes back rows later", "0111/0001/....",
		[]string{"#.../###./....", ".###/...#/...."}, []int{4, 4}, 4},
	{"numbers by rows, not by columns", "..0/1.0/122",
		[]string{"..#/..#/...", ".../#../#..", ".../.../.##"}, []int{2, 2, 2}, 2},
	{"parts as pieces", "0.1",
		[]string{"#..", "..#"}, []int{1, 1}, 0},
	{"touching at a corner", "0./.1",
		[]string{"#./..", "../.#"}, []int{1, 1}, 0},
	{"touching at the other corner", ".0/1.",
		[]string{".#/..", "../#."}, []int{1, 1}, 0},
	{"neighbors in the mask only", "..0/1..",
		[]string{"..#/...", ".../#.."}, []int{1, 1}, 0},
	{"parts that are cut, too", "00.1/02.1/....",
		[]string{"##../#.../....", "...#/...#/....", "..../.#../...."}, []int{3, 2, 1}, 2},
	{"in the middle of the greatest table", "....../..00../..01../.2311./.2..../......",
		[]string{
			"....../..##../..#.../....../....../......", "....../....../...#../...##./....../......",
			"....../....../....../.#..../.#..../......", "....../....../....../..#.../....../......",
		}, []int{3, 3, 2, 1}, 5},
	{"in the corners of the greatest table", "0....1/0....1/....../....../.....2/333..2",
		[]string{
			"#...../#...../....../....../....../......", ".....#/.....#/....../....../....../......",
			"....../....../....../....../.....#/.....#", "....../....../....../....../....../###...",
		}, []int{2, 2, 2, 3}, 0},
}

func TestCuts(t *testing.T) {
	for _, c := range cellCuts {
		w, h, mask, cut := drawnCut(c.text)
		if !impl.CutOk(w, h, mask, cut) {
			t.Errorf("%s: CutOk(%d, %d, %d, %v) = false", c.name, w, h, mask, cut)
		}
		if got, want := impl.PiecesOf(w, h, mask, cut), masksOf(c.pieces...); !slices.Equal(got, want) {
			t.Errorf("%s: PiecesOf(%d, %d, %d, %v) = %v, want %v", c.name, w, h, mask, cut, got, want)
		}
		if got := impl.SizesOf(w, h, mask, cut); !slices.Equal(got, c.sizes) {
			t.Errorf("%s: SizesOf(%d, %d, %d, %v) = %v, want %v", c.name, w, h, mask, cut, got, c.sizes)
		}
		if got := impl.CutLength(w, h, mask, cut); got != c.length {
			t.Errorf("%s: CutLength(%d, %d, %d, %v) = %d, want %d", c.name, w, h, mask, cut, got, c.length)
		}
	}
}

// checkNoCut fails unless all functions of a cut tell that this is none.
func checkNoCut(t *testing.T, name string, w, h, mask int, cut []int) {
	t.Helper()
	if impl.CutOk(w, h, mask, cut) {
		t.Errorf("%s: CutOk(%d, %d, %d, %v) = true", name, w, h, mask, cut)
	}
	if got := impl.PiecesOf(w, h, mask, cut); len(got) != 0 {
		t.Errorf("%s: PiecesOf(%d, %d, %d, %v) = %v, want none", name, w, h, mask, cut, got)
	}
	if got := impl.SizesOf(w, h, mask, cut); len(got) != 0 {
		t.Errorf("%s: SizesOf(%d, %d, %d, %v) = %v, want none", name, w, h, mask, cut, got)
	}
	if got := impl.CutLength(w, h, mask, cut); got != -1 {
		t.Errorf("%s: CutLength(%d, %d, %d, %v) = %d, want -1", name, w, h, mask, cut, got)
	}
}

// farNumbers are numbers that no piece of a cut has.
var farNumbers = []int{-1, -2, 9, 10, 36, 63, 64, 1 << 31, 1 << 32, -1 << 31, -1 << 32, math.MinInt, math.MinInt + 1, math.MaxInt - 1, math.MaxInt}

var noCuts = []struct {
	name string
	text string
	cut  []int
}{
	{"nil", "#", nil},
	{"empty", "##/##", []int{}},
	{"too short", "##/##", []int{0, 0, 0}},
	{"too short for single cells", "##/##", []int{0, 1, 2}},
	{"too long", "##/##", []int{0, 0, 0, 0, 0}},
	{"too long by another piece", "##/##", []int{0, 0, 0, 0, 1}},
	{"as long as the table, not as the shape", "##/#.", []int{0, 0, 0, 0}},
	{"twice as long", "#", []int{0, 0}},
	{"begins with 1", "#", []int{1}},
	{"all 1", "##/##", []int{1, 1, 1, 1}},
	{"not in order", "##/##", []int{1, 1, 0, 0}},
	{"the second and third piece not in order", "####", []int{0, 2, 1, 1}},
	{"a number left out", "##/##", []int{0, 0, 2, 2}},
	{"a number left out at the end", "####", []int{0, 1, 1, 3}},
	{"0 left out, in order", "##/##", []int{1, 1, 2, 2}},
	{"a negative number first", "##/##", []int{-1, 0, 1, 2}},
	{"a negative number last", "##/##", []int{0, 0, 0, -1}},
	{"touching at corners only", "##/##", []int{0, 1, 1, 0}},
	{"one of both pieces touching at corners only", "##/##", []int{0, 1, 2, 0}},
	{"the other one of both", "##/##", []int{0, 1, 1, 2}},
	{"apart within a row", "###", []int{0, 1, 0}},
	{"apart within a column", "#/#/#", []int{0, 1, 0}},
	{"the last piece apart", "####", []int{0, 1, 2, 1}},
	{"around the edge in the mask", "###/###", []int{0, 0, 1, 1, 2, 2}},
	{"only around the edge in the mask", "..#/#..", []int{0, 0}},
	{"the ends of all rows", "##/##/##", []int{0, 1, 1, 2, 2, 3}},
	{"two parts in one piece", "#.#", []int{0, 0}},
	{"two parts that touch at a corner in one piece", "#./.#", []int{0, 0}},
	{"two columns in one piece", "#.#/#.#", []int{0, 0, 0, 0}},
	{"around a hole, but not all around", "###/#.#/###", []int{0, 0, 1, 0, 0, 0, 1, 0}},
	{"the middle with a corner", "###/###/###", []int{0, 1, 1, 1, 0, 1, 1, 1, 1}},
	{"no cells", "...", nil},
	{"no cells, but a number", "...", []int{0}},
	{"no cells, but a number for each place", "...", []int{0, 0, 0}},
	{"ten cells in one piece", "#####/#####", []int{0, 0, 0, 0, 0, 0, 0, 0, 0, 0}},
	{"ten single cells", "#####/#####", []int{0, 1, 2, 3, 4, 5, 6, 7, 8, 9}},
	{"ten cells with nine numbers", "#####/#####", []int{0, 0, 0, 0, 0, 0, 0, 0, 0}},
	{"ten cells without numbers", "#####/#####", nil},
	{"ten cells in two rows of pieces", "#####/#####", []int{0, 0, 0, 0, 0, 1, 1, 1, 1, 1}},
	{"all cells of the greatest table", "######/######/######/######/######/######", make([]int, 36)},
	{"all cells of the greatest table, but nine numbers", "######/######/######/######/######/######", make([]int, 9)},
}

func TestNoCuts(t *testing.T) {
	for _, c := range noCuts {
		w, h, mask := drawn(c.text)
		checkNoCut(t, c.name, w, h, mask, c.cut)
	}
}

// TestSpoiledCuts changes single numbers of cuts, and takes numbers away or adds some.
func TestSpoiledCuts(t *testing.T) {
	for _, c := range cellCuts {
		w, h, mask, cut := drawnCut(c.text)
		for i := range cut {
			for _, far := range farNumbers {
				spoiled := slices.Clone(cut)
				spoiled[i] = far
				checkNoCut(t, c.name+" with a far number", w, h, mask, spoiled)
			}
			checkNoCut(t, c.name+" with one number less", w, h, mask, slices.Delete(slices.Clone(cut), i, i+1))
			checkNoCut(t, c.name+" with a number twice", w, h, mask, slices.Insert(slices.Clone(cut), i, cut[i]))
			checkNoCut(t, c.name+" up to a number", w, h, mask, cut[:i])
		}
		var up, down []int
		for _, number := range cut {
			up, down = append(up, number+1), append(down, number-1)
		}
		checkNoCut(t, c.name+" with greater numbers", w, h, mask, up)
		checkNoCut(t, c.name+" with lesser numbers", w, h, mask, down)
		checkNoCut(t, c.name+" twice", w, h, mask, slices.Concat(cut, cut))
		checkNoCut(t, c.name+" and much more", w, h, mask, slices.Concat(cut, make([]int, 5000)))
		// With another shape than its own.
		checkNoCut(t, c.name+" of no cells", w, h, 0, cut)
		checkNoCut(t, c.name+" of a cell less", w, h, mask&(mask-1), cut)
		if other := mask | (mask + 1); other < 1<<(w*h) {
			checkNoCut(t, c.name+" of a cell more", w, h, other, cut)
		}
	}
}

// TestTablesOfTenCells has ten cells in a row of the mask for every table with as many.
func TestTablesOfTenCells(t *testing.T) {
	eachTable(func(w, h int) {
		if w*h < 10 {
			return
		}
		mask := 1<<10 - 1
		var single []int
		for i := range 10 {
			single = append(single, i)
			checkNoCut(t, "ten cells", w, h, mask, single)
			checkNoCut(t, "ten cells", w, h, mask, make([]int, i+1))
		}
		checkUncut(t, w, h, mask)
		checkUncut(t, w, h, 1<<(w*h)-1)
	})
}

// somePieces are numbers of pieces, the least and the greatest ints among them.
var somePieces = []int{0, 1, 2, 3, 4, 5, 6, 7, 8, 9, 10, -1, -2, -9, 36, 63, 64, 1 << 32, 1<<32 + 1, -1 << 32, math.MinInt, math.MinInt + 1, math.MaxInt - 1, math.MaxInt}

// checkUncut fails unless the functions that make cuts tell that this shape, or what is none, has no cuts.
func checkUncut(t *testing.T, w, h, mask int) {
	t.Helper()
	for _, pieces := range somePieces {
		if got := impl.CountCuts(w, h, mask, pieces); got != -1 {
			t.Errorf("CountCuts(%d, %d, %d, %d) = %d, want -1", w, h, mask, pieces, got)
		}
		if got, ok := impl.FirstCut(w, h, mask, pieces); len(got) != 0 || ok {
			t.Errorf("FirstCut(%d, %d, %d, %d) = %v, %v, want none", w, h, mask, pieces, got, ok)
		}
	}
	if got, ok := impl.BestHalves(w, h, mask); len(got) != 0 || ok {
		t.Errorf("BestHalves(%d, %d, %d) = %v, %v, want none", w, h, mask, got, ok)
	}
	for _, pieces := range [][]int{nil, {}, {mask}, {0}, {1}, {1, 2}, {mask, mask}, {-1}, {mask & -mask, mask & (mask - 1)}} {
		checkNoCutOf(t, "not to be cut", w, h, mask, pieces)
	}
}

func TestCutsOfNoShapes(t *testing.T) {
	eachNoShape(func(w, h, mask int) {
		for _, cut := range [][]int{nil, {}, {0}, {0, 1}, {0, 0, 0, 0}, make([]int, 9)} {
			checkNoCut(t, "no shape", w, h, mask, cut)
		}
		checkUncut(t, w, h, mask)
	})
}

// TestCutsOfEmptyShapes also has the least cell of each table, which has one cut.
func TestCutsOfEmptyShapes(t *testing.T) {
	eachTable(func(w, h int) {
		for _, cut := range [][]int{nil, {}, {0}, make([]int, w*h)} {
			checkNoCut(t, "empty", w, h, 0, cut)
		}
		checkUncut(t, w, h, 0)
		for i := range w * h {
			if !impl.CutOk(w, h, 1<<i, []int{0}) || impl.CutLength(w, h, 1<<i, []int{0}) != 0 || impl.CountCuts(w, h, 1<<i, 1) != 1 || impl.CountCuts(w, h, 1<<i, 2) != 0 {
				t.Errorf("the cell %d alone, in the table %d, %d, does not have its one cut", i, w, h)
			}
			if got, ok := impl.CutOf(w, h, 1<<i, []int{1 << i}); !slices.Equal(got, []int{0}) || !ok {
				t.Errorf("CutOf(%d, %d, %d, ..) = %v, %v for the cell itself", w, h, 1<<i, got, ok)
			}
		}
	})
}

func TestCutsOfPieces(t *testing.T) {
	for _, c := range cellCuts {
		w, h, mask, cut := drawnCut(c.text)
		pieces := masksOf(c.pieces...)
		tries := 0
		check := func(l []int) {
			// All orders of nine pieces take too long.
			if tries++; tries > 1000 {
				return
			}
			if got, ok := impl.CutOf(w, h, mask, l); !slices.Equal(got, cut) || !ok {
				t.Errorf("%s: CutOf(%d, %d, %d, %v) = %v, %v, want %v", c.name, w, h, mask, l, got, ok, cut)
			}
		}
		slices.Reverse(pieces)
		check(pieces)
		eachOrder(masksOf(c.pieces...), check)
	}
}

// checkNoCutOf fails unless CutOf tells that there is no cut with these pieces.
func checkNoCutOf(t *testing.T, name string, w, h, mask int, pieces []int) {
	t.Helper()
	if got, ok := impl.CutOf(w, h, mask, pieces); len(got) != 0 || ok {
		t.Errorf("%s: CutOf(%d, %d, %d, %v) = %v, %v, want none", name, w, h, mask, pieces, got, ok)
	}
}

var noPieces = []struct {
	name   string
	text   string
	pieces []int
}{
	{"nil", "##/##", nil},
	{"empty", "##/##", []int{}},
	{"a cell too few", "##/##", masksOf("##/#.")},
	{"a cell too few in two pieces", "##/##", masksOf("##/..", "../#.")},
	{"a cell too many", "##/#.", masksOf("##/##")},
	{"a cell too many alone", "##/..", masksOf("##/..", "../.#")},
	{"another cell", "##/#.", masksOf("##/.#")},
	{"a piece twice", "##/##", masksOf("##/..", "../##", "##/..")},
	{"the whole shape twice", "##/##", masksOf("##/##", "##/##")},
	{"a cell twice", "##/##", masksOf("##/#.", "../##")},
	{"a piece within another one", "##/##", masksOf("##/##", "#./..")},
	{"the same within the other one, before it", "##/##", masksOf("#./..", "##/##")},
	{"no cells", "##/##", []int{0}},
	{"no cells, last", "##/##", append(masksOf("##/##"), 0)},
	{"no cells, first", "##/##", append([]int{0}, masksOf("##/##")...)},
	{"no cells in between", "##/##", masksOf("##/..", "../..", "../##")},
	{"touching at corners only", "##/##", masksOf("#./.#", ".#/#.")},
	{"one touching at corners only", "##/##", masksOf("#./.#", ".#/..", "../#.")},
	{"apart", "#.#", masksOf("#.#")},
	{"around the edge in the mask", "###/###", masksOf("##./...", "..#/#..", ".../.##")},
	{"negative", "##/##", []int{-1}},
	{"negative, with the rest", "##/##", []int{15, -1}},
	{"two that have the mask as their sum", "##/##", []int{16, -1}},
	{"others that have the mask as their sum", "##/##", []int{5, 5, 5}},
	{"beyond the table", "##/##", []int{15, 16}},
	{"partly beyond the table", "##/##", []int{31}},
	{"the least int", "##/##", []int{15, math.MinInt}},
	{"the greatest int", "##/##", []int{math.MaxInt}},
	{"the greatest int, last", "##/##", []int{15, math.MaxInt}},
	{"the least and the greatest int", "##/##", []int{math.MinInt, math.MaxInt, 15, 1}},
	{"ten cells in one piece", "#####/#####", masksOf("#####/#####")},
	{"ten cells in two pieces", "#####/#####", masksOf("#####/.....", "...../#####")},
	{"no cells of the shape", "../..", masksOf("#./..")},
	{"no cells at all", "../..", []int{0}},
	{"no cells and no pieces", "../..", nil},
}

func TestNoCutsOfPieces(t *testing.T) {
	for _, c := range noPieces {
		w, h, mask := drawn(c.text)
		eachOrder(c.pieces, func(l []int) { checkNoCutOf(t, c.name, w, h, mask, l) })
	}
}

// TestSpoiledPieces leaves out pieces of cuts, adds some and changes some.
func TestSpoiledPieces(t *testing.T) {
	for _, c := range cellCuts {
		w, h, mask, _ := drawnCut(c.text)
		pieces := masksOf(c.pieces...)
		for i, piece := range pieces {
			others := slices.Delete(slices.Clone(pieces), i, i+1)
			checkNoCutOf(t, c.name+" without a piece", w, h, mask, others)
			checkNoCutOf(t, c.name+" with a piece twice", w, h, mask, slices.Concat(pieces, []int{piece}))
			checkNoCutOf(t, c.name+" with a piece twice, first", w, h, mask, slices.Concat([]int{piece}, pieces))
			for _, bad := range []int{0, -1, -piece, ^piece, piece - 1<<36, piece | 1<<(w*h), piece | 1<<62, piece | math.MinInt, mask &^ piece, math.MinInt, math.MaxInt} {
				checkNoCutOf(t, c.name+" with another piece", w, h, mask, slices.Insert(slices.Clone(others), i, bad))
				checkNoCutOf(t, c.name+" with one more piece", w, h, mask, slices.Insert(slices.Clone(pieces), i, bad))
			}
		}
		checkNoCutOf(t, c.name+" twice", w, h, mask, slices.Concat(pieces, pieces))
		checkNoCutOf(t, c.name+" and much more", w, h, mask, slices.Concat(pieces, make([]int, 5000)))
		checkNoCutOf(t, c.name+" of no cells", w, h, 0, pieces)
		checkNoCutOf(t, c.name+" of a cell less", w, h, mask&(mask-1), pieces)
		checkNoCutOf(t, c.name+" of a mask that is none", w, h, mask|1<<(w*h), pieces)
		checkNoCutOf(t, c.name+" of a negative mask", w, h, mask-1<<(w*h), pieces)
	}
}
