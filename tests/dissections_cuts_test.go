package tests

import (
	"math"
	"slices"
	"testing"

	"loop.example/g03208/impl"
)

// dissections are cuts of two shapes of one table into pieces that become the same.
var dissections = []struct {
	name string
	a, b string
}{
	{"the least table", "0", "0"},
	{"one cell", "0../...", ".../..0"},
	{"one piece that is shifted", "00./0../...", ".../.00/.0."},
	{"one piece that is turned", ".00/00./.0.", ".0./000/..0"},
	{"one piece that is mirrored", "00./.00", ".00/00."},
	{"the given ones", "0011/....", "00../11.."},
	{"a row and a column", "001/.../...", "0../0../1.."},
	{"the first piece is the second one", "001/...", "0../11."},
	{"single cells", "012/...", "0.1/.2."},
	{"parts as pieces", "0.1", "01."},
	{"parts that are turned", "00.1/...1", "0.11/0..."},
	{"mirrored pieces", "0001/0111", "0111/0001"},
	{"four times the same piece", "0011/2233", "0123/0123"},
	{"seven cells", "0001/222.", "0111/222."},
	{"eight cells", "0000/1111/..../....", "01../01../01../01.."},
	{"nine cells", "000/111/222", "012/012/012"},
	{"nine cells that are turned by a half", "000/110/122", "001/211/222"},
	{"in the corners of the greatest table", "00..../01..../.1..../....../....../......", "....../....../....../....../....00/...110"},
}

// checkNotDissected fails if IsDissection tells that there is one, from either side.
func checkNotDissected(t *testing.T, name string, w, h, a, b int, cutA, cutB []int) {
	t.Helper()
	if impl.IsDissection(w, h, a, b, cutA, cutB) || impl.IsDissection(w, h, b, a, cutB, cutA) {
		t.Errorf("%s: IsDissection(%d, %d, ..) of %d by %v and %d by %v is true", name, w, h, a, cutA, b, cutB)
	}
}

// eachSpoiledCut calls do with lists that are no cuts of the shape that this cut is for.
func eachSpoiledCut(cut []int, do func(spoiled []int)) {
	do(nil)
	do([]int{})
	do(slices.Concat(cut, cut))
	do(append(slices.Clone(cut), 0))
	do(cut[1:])
	do(cut[:len(cut)-1])
	do(make([]int, 5000))
	var up, down []int
	for i, number := range cut {
		up, down = append(up, number+1), append(down, number-1)
		for _, far := range farNumbers {
			spoiled := slices.Clone(cut)
			spoiled[i] = far
			do(spoiled)
		}
	}
	do(up)
	do(down)
	// Its numbers are not in order.
	if last := slices.Max(cut); last > 0 {
		var turned []int
		for _, number := range cut {
			turned = append(turned, last-number)
		}
		do(turned)
	}
}

func TestDissections(t *testing.T) {
	for _, c := range dissections {
		w, h, a, cutA := drawnCut(c.a)
		_, _, b, cutB := drawnCut(c.b)
		if !impl.IsDissection(w, h, a, b, cutA, cutB) || !impl.IsDissection(w, h, b, a, cutB, cutA) {
			t.Errorf("%s: IsDissection(%d, %d, ..) of %d by %v and %d by %v is false", c.name, w, h, a, cutA, b, cutB)
		}
		eachSpoiledCut(cutA, func(spoiled []int) { checkNotDissected(t, c.name+", the first one spoiled", w, h, a, b, spoiled, cutB) })
		eachSpoiledCut(cutB, func(spoiled []int) {
			checkNotDissected(t, c.name+", the second one spoiled", w, h, a, b, cutA, spoiled)
		})
		eachSpoiledCut(cutA, func(spoiled []int) { checkNotDissected(t, c.name+", both spoiled", w, h, a, a, spoiled, spoiled) })
		for _, bad := range append(noMasks(w*h), 0) {
			checkNotDissected(t, c.name+", the first shape is none", w, h, bad, b, cutA, cutB)
			checkNotDissected(t, c.name+", the second shape is none", w, h, a, bad, cutA, cutB)
			checkNotDissected(t, c.name+", both shapes are none", w, h, bad, bad, cutA, cutB)
		}
		for _, beyond := range []int{1 << (w * h), 1 << 62, math.MinInt} {
			checkNotDissected(t, c.name+", the first shape goes beyond the table", w, h, a|beyond, b, cutA, cutB)
			checkNotDissected(t, c.name+", the second shape goes beyond the table", w, h, a, b|beyond, cutA, cutB)
			checkNotDissected(t, c.name+", both shapes go beyond the table", w, h, a|beyond, b|beyond, cutA, cutB)
		}
		for _, side := range noSides {
			checkNotDissected(t, c.name+", no width", side, h, a, b, cutA, cutB)
			checkNotDissected(t, c.name+", no height", w, side, a, b, cutA, cutB)
		}
	}
}

// notDissected are cuts of two shapes of one table that are no dissection, and what looks like cuts, but is none.
var notDissected = []struct {
	name string
	a, b string
}{
	{"one piece more", "0011", "0012"},
	{"other numbers of cells", "0011", "0001"},
	{"other numbers of cells in three pieces", "001122", "000112"},
	{"as many cells, but a row and a bent piece", "000/1..", "00./01."},
	{"one piece of another shape", "000/.0.", "000/0.."},
	{"a shape with one cell more", "001/...", "001/1.."},
	{"a shape with a piece more", "001/...", "001/.2."},
	{"the one piece twice, the other one once", "00/11/2.", "00/12/3."},
	{"pieces that are the same by one more cut", "0000", "0011"},
	{"one piece in two parts", "0.0", "0.0"},
	{"a piece in two parts that touch at a corner", "01/10", "01/10"},
	{"numbers that are not in order", "1100", "1100"},
	{"a number left out", "0022", "0022"},
	{"no piece 0", "11", "11"},
	{"no cells", "...", "..."},
	{"no cells and one", "...", "..0"},
	{"ten cells", "00000/11111", "00000/11111"},
	{"ten cells in one piece", "00000/00000", "00000/00000"},
}

func TestNoDissections(t *testing.T) {
	for _, c := range notDissected {
		w, h, a, cutA := drawnCut(c.a)
		_, _, b, cutB := drawnCut(c.b)
		checkNotDissected(t, c.name, w, h, a, b, cutA, cutB)
	}
}

// firstDissections are the first dissections of two shapes of one table, from the least number of pieces up to single cells.
var firstDissections = []struct {
	name string
	cuts [][2]string
}{
	{"the least table", [][2]string{{"0", "0"}}},
	{"one cell", [][2]string{{"0../...", ".../..0"}}},
	{"two cells that are turned", [][2]string{{"00/..", ".0/.0"}, {"01/..", ".0/.1"}}},
	{"the given ones", [][2]string{{"0011/....", "00../11.."}, {"0012/....", "00../12.."}, {"0123/....", "01../23.."}}},
	{"the given ones from the other side", [][2]string{{"00../11..", "0011/...."}, {"00../12..", "0012/...."}, {"01../23..", "0123/...."}}},
	{"a row and a bent piece", [][2]string{{"001/...", "00./1.."}, {"012/...", "01./2.."}}},
	{"a T and an L", [][2]string{{"000/.1.", "000/1.."}, {"001/.2.", "001/2.."}, {"012/.3.", "012/3.."}}},
	{"an L and an S", [][2]string{{"001/0..", "00./.01"}, {"001/2..", "00./.12"}, {"012/3..", "01./.23"}}},
	{"a square and an S", [][2]string{{"00./01.", "00./.01"}, {"00./12.", "00./.12"}, {"01./23.", "01./.23"}}},
	{"a cross and a square with one more cell", [][2]string{
		{".0./000/.1.", "01./00./0.."}, {".0./001/.2.", "00./01./2.."}, {".0./102/.3.", "00./12./3.."}, {".0./123/.4.", "01./23./4.."},
	}},
	{"a turned piece", [][2]string{
		{".00/00./.0.", ".0./000/..0"}, {".00/00./.1.", ".0./100/..0"}, {".00/10./.2.", ".0./001/..2"}, {".00/12./.3.", ".0./102/..3"}, {".01/23./.4.", ".0./123/..4"},
	}},
	{"two parts and one", [][2]string{{"0.1", "01."}}},
	{"two parts and the same ones", [][2]string{{"0.1", "0.1"}}},
	{"a row of six and two rows", [][2]string{
		{"000111/......", "000.../111..."}, {"000112/......", "000.../112..."}, {"000123/......", "000.../123..."}, {"001234/......", "001.../234..."}, {"012345/......", "012.../345..."},
	}},
	{"six cells", [][2]string{
		{"00001./.0....", "0000../10...."}, {"00001./.2....", "0000../12...."}, {"00012./.3....", "0001../23...."}, {"00123./.4....", "0012../34...."}, {"01234./.5....", "0123../45...."},
	}},
	{"seven cells in two", [][2]string{
		{"000/0.0/0.1", "000/010/0.."}, {"000/0.0/1.2", "000/010/2.."}, {"000/0.1/2.3", "000/012/3.."}, {"000/1.2/3.4", "000/123/4.."}, {"001/2.3/4.5", "001/234/5.."}, {"012/3.4/5.6", "012/345/6.."},
	}},
	{"seven cells in three", [][2]string{
		{"0001/020./....", "000./0.0./12.."}, {"0001/023./....", "000./0.1./23.."}, {"0001/234./....", "000./1.2./34.."}, {"0012/345./....", "001./2.3./45.."}, {"0123/456./....", "012./3.4./56.."},
	}},
	{"three parts and one", [][2]string{
		{"0...1./0...1./00..2.", "....../.00011/.0.2.."}, {"0...1./0...1./02..3.", "....../.00011/.2.3.."}, {"0...1./0...1./23..4.", "....../.00112/.3.4.."}, {"0...1./0...2./34..5.", "....../.00123/.4.5.."}, {"0...1./2...3./45..6.", "....../.01234/.5.6.."},
	}},
	{"seven cells apart", [][2]string{{"0.1.2./....../3.4.5./....../6.....", "012345/6...../....../....../......"}}},
}

// checkUndissected fails if Dissect finds a dissection into so many pieces.
func checkUndissected(t *testing.T, name string, w, h, a, b, pieces int) {
	t.Helper()
	if cutA, cutB, ok := impl.Dissect(w, h, a, b, pieces); len(cutA) != 0 || len(cutB) != 0 || ok {
		t.Errorf("%s: Dissect(%d, %d, %d, %d, %d) = %v, %v, %v, want none", name, w, h, a, b, pieces, cutA, cutB, ok)
	}
}

func TestFirstDissections(t *testing.T) {
	for _, c := range firstDissections {
		least, cells := 0, 0
		w, h, a, _ := drawnCut(c.cuts[0][0])
		_, _, b, _ := drawnCut(c.cuts[0][1])
		for i, cuts := range c.cuts {
			wantA, wantB := cutOnly(cuts[0]), cutOnly(cuts[1])
			pieces := slices.Max(wantA) + 1
			if i == 0 {
				least, cells = pieces, len(wantA)
			}
			if cutA, cutB, ok := impl.Dissect(w, h, a, b, pieces); !slices.Equal(cutA, wantA) || !slices.Equal(cutB, wantB) || !ok {
				t.Errorf("%s: Dissect(%d, %d, %d, %d, %d) = %v, %v, %v, want %v and %v", c.name, w, h, a, b, pieces, cutA, cutB, ok, wantA, wantB)
			}
		}
		if cells-least+1 != len(c.cuts) {
			t.Errorf("%s: there are %d cuts from %d to %d pieces", c.name, len(c.cuts), least, cells)
		}
		for _, pieces := range somePieces {
			if pieces < least || pieces > cells {
				checkUndissected(t, c.name, w, h, a, b, pieces)
				checkUndissected(t, c.name+", from the other side", w, h, b, a, pieces)
			}
		}
		if got, back := impl.FewestPieces(w, h, a, b), impl.FewestPieces(w, h, b, a); got != least || back != least {
			t.Errorf("%s: FewestPieces(%d, %d, ..) of %d and %d = %d and %d from the other side, want %d", c.name, w, h, a, b, got, back, least)
		}
	}
}

// checkNeverDissected fails unless two shapes, or what is none, have no dissection into any number of pieces.
func checkNeverDissected(t *testing.T, name string, w, h, a, b int) {
	t.Helper()
	for _, pieces := range somePieces {
		checkUndissected(t, name, w, h, a, b, pieces)
		checkUndissected(t, name, w, h, b, a, pieces)
	}
	if got, back := impl.FewestPieces(w, h, a, b), impl.FewestPieces(w, h, b, a); got != -1 || back != -1 {
		t.Errorf("%s: FewestPieces(%d, %d, ..) of %d and %d = %d and %d from the other side, want -1", name, w, h, a, b, got, back)
	}
}

func TestNeverDissected(t *testing.T) {
	for _, c := range []struct {
		name string
		a, b string
	}{
		{"no cells", "...", "..."},
		{"no cells and one", "...", ".#."},
		{"no cells and seven", "..../....", "####/###."},
		{"one cell and two", "#..", ".##"},
		{"one cell and seven", "#.../....", "####/###."},
		{"two cells apart and three", "#.#", "###"},
		{"six cells and seven", "####/##..", "####/###."},
		{"seven cells and eight", "####/###.", "####/####"},
		{"eight cells", "####/####", "####/####"},
		{"eight cells of one name", "####./####.", ".####/.####"},
		{"eight cells apart", "#.#.#./.#.#.#/#.#...", ".#.#.#/#.#.#./.#.#.."},
		{"eight cells and one", "####/####", "#.../...."},
		{"eight cells and none", "####/####", "..../...."},
		{"nine cells", "###/###/###", "###/###/###"},
		{"ten cells", "#####/#####", "#####/#####"},
		{"all cells of the greatest table", "######/######/######/######/######/######", "######/######/######/######/######/######"},
	} {
		w, h, a := drawn(c.a)
		_, _, b := drawn(c.b)
		checkNeverDissected(t, c.name, w, h, a, b)
	}
}

// TestDissectionsOfNoShapes has what is no shape as the first one, as the second one and as both.
func TestDissectionsOfNoShapes(t *testing.T) {
	eachNoShape(func(w, h, mask int) {
		for _, pieces := range []int{math.MinInt, -1, 0, 1, 2, 7, 8, math.MaxInt} {
			for _, other := range []int{mask, 0, 1, 3, -1} {
				checkUndissected(t, "no shape", w, h, mask, other, pieces)
				checkUndissected(t, "no shape", w, h, other, mask, pieces)
			}
		}
		for _, other := range []int{mask, 0, 1, 3, 127, -1, math.MinInt, math.MaxInt} {
			if got, back := impl.FewestPieces(w, h, mask, other), impl.FewestPieces(w, h, other, mask); got != -1 || back != -1 {
				t.Errorf("FewestPieces(%d, %d, ..) of %d and %d = %d and %d from the other side, want -1", w, h, mask, other, got, back)
			}
			for _, cut := range [][]int{nil, {}, {0}, {0, 0}, {0, 1}} {
				checkNotDissected(t, "no shape", w, h, mask, other, cut, cut)
				checkNotDissected(t, "no shape", w, h, mask, other, cut, []int{0})
			}
		}
	})
}

// TestDissectionsOfSingleCells has all pairs of cells of all tables.
func TestDissectionsOfSingleCells(t *testing.T) {
	eachTable(func(w, h int) {
		for i := range w * h {
			for k := range w * h {
				a, b := 1<<i, 1<<k
				cutA, cutB, ok := impl.Dissect(w, h, a, b, 1)
				if !ok || !slices.Equal(cutA, []int{0}) || !slices.Equal(cutB, []int{0}) || !impl.IsDissection(w, h, a, b, []int{0}, []int{0}) || impl.FewestPieces(w, h, a, b) != 1 {
					t.Errorf("the cells %d and %d of the table %d, %d are not dissected into one piece", i, k, w, h)
				}
			}
			checkNeverDissected(t, "one cell and none", w, h, 1<<i, 0)
		}
	})
}
