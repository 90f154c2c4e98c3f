package tests

import (
	"math"
	"slices"
	"testing"

	"loop.example/g03208/impl"
)

// samePieces are pairs of shapes of one table that become the same by motions, all of which are named, and a shift.
var samePieces = []struct {
	name    string
	a, b    string
	motions []int
}{
	{"the least table", "#", "#", allMotions},
	{"the same in its place", "##./#../...", "##./#../...", []int{0, 7}},
	{"one cell", "#../...", ".../..#", allMotions},
	{"one cell in opposite corners of the greatest table", "#...../....../....../....../....../......", "....../....../....../....../....../.....#", allMotions},
	{"only by a shift to the right", "####./##.../.....", ".####/.##../.....", []int{0}},
	{"only by a shift down", "###/##./.../...", ".../.../###/##.", []int{0}},
	{"only by a shift both ways", ".##.../##..../.#..../....../....../......", "....../....../....../....##/...##./....#.", []int{0}},
	{"only by a quarter turn", ".##/##./.#.", ".#./###/..#", []int{1}},
	{"only by a half turn", ".##/##./.#.", ".#./.##/##.", []int{2}},
	{"only by three quarter turns", ".##/##./.#.", "#../###/.#.", []int{3}},
	{"only by a mirroring", ".##/##./.#.", "##./.##/.#.", []int{4}},
	{"only by a mirroring and a quarter turn", ".##/##./.#.", "..#/###/.#.", []int{5}},
	{"only by a mirroring and a half turn", ".##/##./.#.", ".#./##./.##", []int{6}},
	{"only by a mirroring and three quarter turns", ".##/##./.#.", ".#./###/#..", []int{7}},
	{"only by mirrorings, with turns as symmetries", "##./.##", ".##/##.", []int{4, 6}},
	{"only by a half turn, with mirrorings as symmetries", "###/.#./.#.", ".#./.#./###", []int{2, 6}},
	{"only by a quarter turn, with mirrorings as symmetries", "###/.#./.#.", "..#/###/..#", []int{1, 5}},
	{"a turn and a shift", "##./.#./.#./...", ".../.../..#/###", []int{1}},
	{"a mirroring and a shift", "##../#.../#.../....", "..../.##./..#./..#.", []int{4}},
	{"a row and a column", "###/.../...", "..#/..#/..#", []int{1, 3, 5, 7}},
	{"a row of six and a column of six", "######/....../....../....../....../......", ".....#/.....#/.....#/.....#/.....#/.....#", []int{1, 3, 5, 7}},
	{"all cells of a wide table", "####/####", "####/####", []int{0, 2, 4, 6}},
	{"all cells of a high table", "#/#/#/#/#", "#/#/#/#/#", []int{0, 2, 4, 6}},
	{"all cells of the greatest table", "######/######/######/######/######/######", "######/######/######/######/######/######", allMotions},
	{"fits in one position only, turned by a half", "####/#...", "...#/####", []int{2}},
	{"fits in one position only, mirrored", "####/#...", "####/...#", []int{4}},
	{"fits in one position only, upright", "##/#./#./#.", ".#/.#/.#/##", []int{2}},
	{"seven cells", "###/#.#/##.", ".##/#.#/###", []int{2, 5}},
	{"seven cells in a narrow table", "######/#.....", "#...../######", []int{6}},
	{"eight cells around a hole", "###../#.#../###..", "..###/..#.#/..###", allMotions},
	{"nine cells", "####./#####", "#####/.####", []int{2}},
	{"ten cells", "####../#.###./.##...", "...##./.###.#/..####", []int{2}},
	{"two cells apart, shifted", "#.#./....", "..../.#.#", []int{0, 2, 4, 6}},
	{"two cells apart, turned", "#.#/.../...", "..#/.../..#", []int{1, 3, 5, 7}},
	{"two cells that touch at a corner", "#./.#", ".#/#.", []int{1, 3, 4, 6}},
	{"two parts, mirrored", "#.##", "##.#", []int{2, 4}},
	{"two parts, shifted and mirrored", "##.#/....", "..../#.##", []int{2, 4}},
	{"three parts", "#.#/.../#..", "#.#/.../..#", []int{1, 4}},
	{"two cells apart as after an edge of the mask", "..#/#..", "#../..#", []int{4, 6}},
	{"no cells", ".../...", ".../...", allMotions},
}

var allMotions = []int{0, 1, 2, 3, 4, 5, 6, 7}

// motionsTo returns the motions that make the first shape the second one in the corner.
func motionsTo(w, h, a, b int) []int {
	var motions []int
	for m := range 8 {
		if moved, fits := ledShape(w, h, a, m); fits && moved == cornerByShifts(w, h, b) {
			motions = append(motions, m)
		}
	}
	return motions
}

func TestSamePieces(t *testing.T) {
	for _, c := range samePieces {
		w, h, a := drawn(c.a)
		_, _, b := drawn(c.b)
		if !impl.SamePiece(w, h, a, b) || !impl.SamePiece(w, h, b, a) {
			t.Errorf("%s: SamePiece(%d, %d, ..) of %d and %d = %v and %v from the other side, want true", c.name, w, h, a, b, impl.SamePiece(w, h, a, b), impl.SamePiece(w, h, b, a))
		}
		if motions := motionsTo(w, h, a, b); !slices.Equal(motions, c.motions) {
			t.Errorf("%s: the pair %q and %q is not what its name tells: the motions are %v, not %v", c.name, c.a, c.b, motions, c.motions)
		}
	}
}

// otherPieces are pairs of shapes of one table that do not.
var otherPieces = []struct {
	name string
	a, b string
}{
	{"none and all of the least table", ".", "#"},
	{"a cell more", "##/..", "##/#."},
	{"one cell and two", "#..", ".##"},
	{"a bent one and a straight one", "##./#..", "###/..."},
	{"a square and others of four cells", "##./##.", "##./.##"},
	{"a T and an S", "###/.#.", ".##/##."},
	{"a T and an L", "###/.#.", "###/#.."},
	{"the same rim, not the same shape", "###/##.", "###/#.#"},
	{"one part and two", "##./...", "#.#/..."},
	{"one part and two at a corner", "##/..", "#./.#"},
	{"two parts farther apart", "#.#.", "#..#"},
	{"two parts with another gap", "##.#..", "##..#."},
	{"two parts that exchange their rows", "##../...#", "##../..#."},
	{"two cells at a corner and apart", "#../.#.", "#.#/..."},
	{"moved around the edge of the mask", ".##/...", "..#/#.."},
	{"moved around the edge of the mask in a high table", ".#/.#/..", ".#/#./.."},
	{"two parts moved around the edge of the mask", "#.#./....", ".#.#/#..."},
	{"beside the hole and in it", "###/#.#/##.", "###/##./##."},
	{"no cells and a row that does not fit upright", ".../...", "###/..."},
	{"no cells and a column that does not fit level", "./././.", "#/#/#/."},
	{"no cells and all of the table", ".../...", "###/###"},
	{"no cells and one cell", "../..", "../.#"},
	{"seven cells and eight", "####/###.", "####/####"},
	{"seven cells of other shapes", "###/#.#/##.", "###/##./##."},
	{"ten cells of other shapes", "#####/#####/.....", "#####/####./#...."},
}

func TestOtherPieces(t *testing.T) {
	for _, c := range otherPieces {
		w, h, a := drawn(c.a)
		_, _, b := drawn(c.b)
		if impl.SamePiece(w, h, a, b) || impl.SamePiece(w, h, b, a) {
			t.Errorf("%s: SamePiece(%d, %d, ..) of %d and %d = %v and %v from the other side, want false", c.name, w, h, a, b, impl.SamePiece(w, h, a, b), impl.SamePiece(w, h, b, a))
		}
	}
}

// noMasks are no masks of a table with so many cells.
func noMasks(cells int) []int {
	return []int{-1, -2, -1 << cells, 1 << cells, 1<<cells + 1, 1<<(cells+1) - 1, 1 << 62, math.MinInt, math.MinInt + 1, math.MaxInt - 1, math.MaxInt}
}

// TestPiecesThatAreNoShapes has what is no shape as the first piece, as the second one and as both.
func TestPiecesThatAreNoShapes(t *testing.T) {
	eachNoShape(func(w, h, mask int) {
		for _, other := range []int{mask, 0, 1, 2, 3, 1<<36 - 1, -1, math.MinInt, math.MaxInt} {
			if impl.SamePiece(w, h, mask, other) || impl.SamePiece(w, h, other, mask) {
				t.Errorf("SamePiece(%d, %d, ..) of %d and %d is true", w, h, mask, other)
			}
			checkUnmatched(t, "no shape", w, h, []int{mask}, []int{other})
			checkUnmatched(t, "no shape", w, h, []int{other}, []int{mask})
			checkUnmatched(t, "no shape among others", w, h, []int{1, mask, 1}, []int{other, 1, 1})
		}
	})
	eachTable(func(w, h int) {
		for _, bad := range noMasks(w * h) {
			for _, other := range noMasks(w * h) {
				if impl.SamePiece(w, h, bad, other) {
					t.Errorf("SamePiece(%d, %d, %d, %d) = true", w, h, bad, other)
				}
			}
		}
	})
}

// TestEmptyPieces has no cells on one side or on both.
func TestEmptyPieces(t *testing.T) {
	eachTable(func(w, h int) {
		if !impl.SamePiece(w, h, 0, 0) {
			t.Errorf("SamePiece(%d, %d, 0, 0) = false", w, h)
		}
		all := 1<<(w*h) - 1
		for _, mask := range []int{1, all, 1 << (w*h - 1), 1<<w - 1, all &^ 1, all &^ (1<<w - 1)} {
			if mask != 0 && (impl.SamePiece(w, h, 0, mask) || impl.SamePiece(w, h, mask, 0)) {
				t.Errorf("SamePiece(%d, %d, ..) of no cells and %d is true", w, h, mask)
			}
		}
	})
}

// TestSingleCellsAreTheSame has all pairs of cells of all tables.
func TestSingleCellsAreTheSame(t *testing.T) {
	eachTable(func(w, h int) {
		for i := range w * h {
			for k := range w * h {
				if !impl.SamePiece(w, h, 1<<i, 1<<k) {
					t.Errorf("SamePiece(%d, %d, %d, %d) = false", w, h, 1<<i, 1<<k)
				}
				// Two cells are not one.
				if k != i && impl.SamePiece(w, h, 1<<i, 1<<i+1<<k) {
					t.Errorf("SamePiece(%d, %d, %d, %d) = true", w, h, 1<<i, 1<<i+1<<k)
				}
			}
		}
	})
}

// matchedPieces are lists of pieces with the indices that match them.
var matchedPieces = []struct {
	name string
	a, b []string
	want []int
}{
	{"one piece", []string{"##/#."}, []string{"##/#."}, []int{0}},
	{"one piece that is shifted", []string{"##../#..."}, []string{"..##/..#."}, []int{0}},
	{"one piece that is turned", []string{".##/##./.#."}, []string{".#./###/..#"}, []int{0}},
	{"one piece that is mirrored", []string{"##./.##"}, []string{".##/##."}, []int{0}},
	{"in order", []string{"##/..", "#./.."}, []string{".#/.#", "../.#"}, []int{0, 1}},
	{"not in order", []string{"##/..", "#./.."}, []string{"../.#", "#./#."}, []int{1, 0}},
	{"the given ones", []string{"##/..", "../#."}, []string{"#./..", ".#/.#"}, []int{1, 0}},
	{"three around", []string{"#.../....", "##../....", "###./...."}, []string{"..../.###", "#.../....", "##../...."}, []int{1, 2, 0}},
	{"the same piece three times", []string{"##/#.", "##/#.", "##/#."}, []string{"##/#.", "##/#.", "##/#."}, []int{0, 1, 2}},
	{"several that are the same as one", []string{"##/#."}, []string{"##/.#"}, []int{0}},
	{"the least one that is left", []string{"#./..", "##/..", "#./..", "../##"}, []string{"#./#.", "##/..", ".#/..", "../#."}, []int{2, 0, 3, 1}},
	{"the least one that is left, after others", []string{"#./..", "#./..", "##/..", "#./.."}, []string{"../#.", "#./#.", "../.#", ".#/.."}, []int{0, 2, 1, 3}},
	{"shifted, turned and mirrored ones", []string{"##../#.../#.../....", "..../..##/...#/...#", "..#./###./..../....", "..../..../.#../.###"}, []string{"..../.#../.#../##..", "#.../#.../##../....", "###./..#./..../....", "..../..../###./#..."}, []int{0, 1, 2, 3}},
	{"pieces that have cells in common", []string{"##/##", "##/#.", "##/##"}, []string{".#/##", "##/##", "##/##"}, []int{1, 0, 2}},
	{"no cells among others", []string{"../..", "#./..", "../.."}, []string{".#/..", "../..", "../.."}, []int{1, 0, 2}},
	{"no cells and a row that does not fit upright", []string{"###/...", ".../..."}, []string{".../...", ".../###"}, []int{1, 0}},
	{"pieces in several parts", []string{"#.#/...", "##./...", "#../.#."}, []string{".../##.", ".#./..#", ".../#.#"}, []int{2, 0, 1}},
	{"one cell, seven, eight, nine and ten", []string{"#..../...../.....", "###../####./.....", "####./####./.....", "#####/####./.....", "#####/#####/....."},
		[]string{"#####/.####/.....", "...../#####/#####", "####./.###./.....", "...../...../....#", ".####/.####/....."}, []int{3, 2, 4, 0, 1}},
	{"all cells of the greatest table, twice", []string{"######/######/######/######/######/######", "######/######/######/######/######/######"},
		[]string{"######/######/######/######/######/######", "######/######/######/######/######/######"}, []int{0, 1}},
}

func TestMatchedPieces(t *testing.T) {
	for _, c := range matchedPieces {
		w, h, _ := drawn(c.a[0])
		a, b := masksOf(c.a...), masksOf(c.b...)
		if got, ok := impl.MatchPieces(w, h, a, b); !slices.Equal(got, c.want) || !ok {
			t.Errorf("%s: MatchPieces(%d, %d, %v, %v) = %v, %v, want %v", c.name, w, h, a, b, got, ok, c.want)
		}
		// One more on one side only is one too many.
		checkUnmatched(t, c.name+" and one more", w, h, append(slices.Clone(a), a[0]), b)
		checkUnmatched(t, c.name+" and one more", w, h, a, append(slices.Clone(b), b[0]))
		checkUnmatched(t, c.name+" and one less", w, h, a[1:], b)
		checkUnmatched(t, c.name+" and one less", w, h, a, b[1:])
		checkSpoiledMatch(t, c.name, w, h, a, b)
	}
}

// checkSpoiledMatch fails if pieces are matched although one of them is no shape.
func checkSpoiledMatch(t *testing.T, name string, w, h int, a, b []int) {
	t.Helper()
	for i := range a {
		for _, bad := range noMasks(w * h) {
			spoiledA, spoiledB := slices.Clone(a), slices.Clone(b)
			spoiledA[i], spoiledB[i] = bad, bad
			checkUnmatched(t, name+" with no shape", w, h, spoiledA, b)
			checkUnmatched(t, name+" with no shape", w, h, a, spoiledB)
			checkUnmatched(t, name+" with no shape on both sides", w, h, spoiledA, spoiledB)
			checkUnmatched(t, name+" with the same that is no shape", w, h, spoiledA, spoiledA)
		}
	}
	for _, side := range noSides {
		checkUnmatched(t, name+" in no table", side, h, a, b)
		checkUnmatched(t, name+" in no table", w, side, a, b)
	}
}

// checkUnmatched fails unless MatchPieces tells that there is no match, from both sides.
func checkUnmatched(t *testing.T, name string, w, h int, a, b []int) {
	t.Helper()
	if got, ok := impl.MatchPieces(w, h, a, b); len(got) != 0 || ok {
		t.Errorf("%s: MatchPieces(%d, %d, %v, %v) = %v, %v, want none", name, w, h, a, b, got, ok)
	}
	if got, ok := impl.MatchPieces(w, h, b, a); len(got) != 0 || ok {
		t.Errorf("%s: MatchPieces(%d, %d, %v, %v) = %v, %v, want none", name, w, h, b, a, got, ok)
	}
}

var unmatchedPieces = []struct {
	name string
	a, b []int
}{
	{"none and one", nil, masksOf("##/..")},
	{"none and no cells", []int{}, []int{0}},
	{"one and two", masksOf("##/.."), masksOf("##/..", "##/..")},
	{"another piece", masksOf("##/.."), masksOf("#./..")},
	{"touching at a corner only", masksOf("##/.."), masksOf("#./.#")},
	{"no cells and one", []int{0}, masksOf("#./..")},
	{"once too few", masksOf("#./..", "#./.."), masksOf("#./..", "##/..")},
	{"once too few, last", masksOf("##/..", "#./..", "#./#."), masksOf("#./#.", "../##", "##/#.")},
	{"the last one only", masksOf("#./..", "##/..", "##/#."), masksOf(".#/..", "../##", "##/##")},
	{"the first one only", masksOf("##/#.", "##/..", "#./.."), masksOf("##/##", "../##", ".#/..")},
	{"as many cells in all", masksOf("##/..", "##/.."), masksOf("##/#.", "#./..")},
	{"beyond the table", []int{16}, []int{16}},
	{"the last cell and beyond", []int{8, 16}, []int{8, 16}},
	{"negative", []int{-1}, []int{-1}},
	{"negative and all cells", []int{-1}, []int{15}},
	{"the least int", []int{math.MinInt}, []int{math.MinInt}},
	{"the greatest int", []int{math.MaxInt}, []int{math.MaxInt}},
	{"the least int and no cells", []int{math.MinInt, 0}, []int{0, math.MinInt}},
}

func TestUnmatchedPieces(t *testing.T) {
	for _, c := range unmatchedPieces {
		checkUnmatched(t, c.name, 2, 2, c.a, c.b)
	}
}

// TestNoPiecesMatchNone has empty lists, in which there is nothing that is not the same.
func TestNoPiecesMatchNone(t *testing.T) {
	for _, sides := range [][2]int{{1, 1}, {2, 2}, {6, 6}, {1, 6}, {0, 0}, {7, 1}, {-1, 3}, {math.MinInt, math.MaxInt}} {
		for _, a := range [][]int{nil, {}} {
			for _, b := range [][]int{nil, {}} {
				if got, ok := impl.MatchPieces(sides[0], sides[1], a, b); len(got) != 0 || !ok {
					t.Errorf("MatchPieces(%d, %d, %v, %v) = %v, %v, want no indices and true", sides[0], sides[1], a, b, got, ok)
				}
			}
		}
	}
}

// TestManyPieces has many more pieces than a cut can have.
func TestManyPieces(t *testing.T) {
	var a, b, want []int
	for i := range 1000 {
		a, b, want = append(a, 1<<(i%4)), append(b, 1<<(i/250)), append(want, i)
	}
	if got, ok := impl.MatchPieces(2, 2, a, b); !slices.Equal(got, want) || !ok {
		t.Errorf("MatchPieces of 1000 single cells = %v, %v, want all indices in order", got, ok)
	}
	b[999] = 3
	checkUnmatched(t, "1000 single cells, but one", 2, 2, a, b)
	a[0] = 12
	want = append([]int{999}, want[:999]...)
	if got, ok := impl.MatchPieces(2, 2, a, b); !slices.Equal(got, want) || !ok {
		t.Errorf("MatchPieces of 999 single cells and a row = %v, %v, want the last index and the others in order", got, ok)
	}
}
