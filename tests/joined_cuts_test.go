package tests

import (
	"slices"
	"testing"

	"loop.example/g03208/impl"
)

// joinedCuts are two cuts of one shape with the one whose pieces are the parts of what theirs have in common.
var joinedCuts = []struct {
	name       string
	a, b, want string
}{
	{"one cell", "0", "0", "0"},
	{"the last cell of a table", "..../...0", "..../...0", "..../...0"},
	{"the same cut twice", "00/11", "00/11", "00/11"},
	{"one piece twice", "00/00", "00/00", "00/00"},
	{"single cells twice", "01/23", "01/23", "01/23"},
	{"rows and columns", "00/11", "01/01", "01/23"},
	{"one piece and another cut", "00/00", "00/01", "00/01"},
	{"single cells and another cut", "01/23", "00/11", "01/23"},
	{"one piece and single cells", "000/000", "012/345", "012/345"},
	{"one finer than the other one", "0012", "0011", "0012"},
	{"neither finer than the other one", "000111", "001122", "001233"},
	{"pieces that are not in the order of both", "0112/0222", "0001/2111", "0112/3222"},
	{"common cells in two parts", "0000/0110", "0000/1111", "0000/1223"},
	{"common cells in two parts of a column", "00/01/00", "01/01/01", "01/02/03"},
	{"common cells in two parts, around a hole", "000/0.0/011", "000/1.1/111", "000/1.2/133"},
	{"the rows around a piece", "000/010/000", "000/111/222", "000/123/444"},
	{"two combs", "000/010/010", "010/010/000", "012/032/042"},
	{"common cells in four parts that touch at corners", "000/010/000", "012/111/314", "012/345/678"},
	{"a shape in parts", "00.1/00.1", "01.2/01.2", "01.2/01.2"},
	{"a shape in parts that are cut both", "00.1/22.1", "01.2/01.3", "01.2/34.5"},
	{"in the corners of the greatest table", "00...1/00...1/....../....../....../......", "01...2/01...3/....../....../....../......", "01...2/01...3/....../....../....../......"},
	{"seven cells", "0000/111.", "0011/001.", "0011/223."},
	{"eight cells", "0000/1111", "0011/0011", "0011/2233"},
	{"nine cells in rows and columns", "000/111/222", "012/012/012", "012/345/678"},
}

// checkUnjoined fails unless JoinedCut and IsFiner tell that one of both lists is no cut, from both sides.
func checkUnjoined(t *testing.T, name string, w, h, mask int, a, b []int) {
	t.Helper()
	for _, cuts := range [][2][]int{{a, b}, {b, a}} {
		if got, ok := impl.JoinedCut(w, h, mask, cuts[0], cuts[1]); len(got) != 0 || ok {
			t.Errorf("%s: JoinedCut(%d, %d, %d, %v, %v) = %v, %v, want none", name, w, h, mask, cuts[0], cuts[1], got, ok)
		}
		if impl.IsFiner(w, h, mask, cuts[0], cuts[1]) {
			t.Errorf("%s: IsFiner(%d, %d, %d, %v, %v) = true", name, w, h, mask, cuts[0], cuts[1])
		}
	}
}

func TestJoinedCuts(t *testing.T) {
	for _, c := range joinedCuts {
		w, h, mask, a := drawnCut(c.a)
		b, want := cutOnly(c.b), cutOnly(c.want)
		for _, cuts := range [][2][]int{{a, b}, {b, a}} {
			if got, ok := impl.JoinedCut(w, h, mask, cuts[0], cuts[1]); !slices.Equal(got, want) || !ok {
				t.Errorf("%s: JoinedCut(%d, %d, %d, %v, %v) = %v, %v, want %v", c.name, w, h, mask, cuts[0], cuts[1], got, ok, want)
			}
			if !impl.IsFiner(w, h, mask, want, cuts[0]) {
				t.Errorf("%s: IsFiner(%d, %d, %d, %v, %v) = false", c.name, w, h, mask, want, cuts[0])
			}
			if got := impl.IsFiner(w, h, mask, cuts[0], want); got != slices.Equal(cuts[0], want) {
				t.Errorf("%s: IsFiner(%d, %d, %d, %v, %v) = %v", c.name, w, h, mask, cuts[0], want, got)
			}
			if got := impl.IsFiner(w, h, mask, cuts[0], cuts[1]); got != slices.Equal(cuts[0], want) {
				t.Errorf("%s: IsFiner(%d, %d, %d, %v, %v) = %v", c.name, w, h, mask, cuts[0], cuts[1], got)
			}
		}
	}
}

func TestSpoiledCutsAreNotJoined(t *testing.T) {
	for _, c := range joinedCuts {
		w, h, mask, a := drawnCut(c.a)
		b := cutOnly(c.b)
		eachSpoiledCut(a, func(spoiled []int) {
			checkUnjoined(t, c.name+", one spoiled", w, h, mask, spoiled, b)
			checkUnjoined(t, c.name+", both spoiled", w, h, mask, spoiled, spoiled)
		})
		eachSpoiledCut(b, func(spoiled []int) { checkUnjoined(t, c.name+", the other one spoiled", w, h, mask, a, spoiled) })
		for _, bad := range append(noMasks(w*h), 0, mask&(mask-1)) {
			checkUnjoined(t, c.name+", no such shape", w, h, bad, a, b)
			checkUnjoined(t, c.name+", no such shape", w, h, bad, nil, nil)
		}
		for _, side := range noSides {
			checkUnjoined(t, c.name+", no width", side, h, mask, a, b)
			checkUnjoined(t, c.name+", no height", w, side, mask, a, b)
		}
	}
}

// TestNoCutsAreNotJoined holds each list that is no cut against itself, the cut into one piece and that into single cells.
func TestNoCutsAreNotJoined(t *testing.T) {
	for _, c := range noCuts {
		w, h, mask := drawn(c.text)
		var one, single []int
		for i := range listedCells(w, h, mask) {
			one, single = append(one, 0), append(single, i)
		}
		checkUnjoined(t, c.name, w, h, mask, c.cut, c.cut)
		checkUnjoined(t, c.name+", with one piece", w, h, mask, c.cut, one)
		checkUnjoined(t, c.name+", with single cells", w, h, mask, c.cut, single)
	}
}

func TestNoShapesAreNotJoined(t *testing.T) {
	eachNoShape(func(w, h, mask int) {
		for _, cut := range [][]int{nil, {}, {0}, {0, 1}, {0, 0, 0, 0}} {
			checkUnjoined(t, "no shape", w, h, mask, cut, cut)
			checkUnjoined(t, "no shape", w, h, mask, cut, []int{0})
		}
	})
	eachTable(func(w, h int) {
		for _, cut := range [][]int{nil, {}, {0}, make([]int, w*h)} {
			checkUnjoined(t, "no cells", w, h, 0, cut, cut)
			checkUnjoined(t, "no cells", w, h, 0, cut, nil)
		}
		for i := range w * h {
			if got, ok := impl.JoinedCut(w, h, 1<<i, []int{0}, []int{0}); !slices.Equal(got, []int{0}) || !ok || !impl.IsFiner(w, h, 1<<i, []int{0}, []int{0}) {
				t.Errorf("the one cut of the cell %d of the table %d, %d is joined to %v, %v, or not finer than itself", i, w, h, got, ok)
			}
		}
	})
}

// finerCuts are cuts, the first of which is finer than the second one or not, and the other way.
var finerCuts = []struct {
	name        string
	a, b        string
	finer, back bool
}{
	{"one cell", "0", "0", true, true},
	{"the same", "0112", "0112", true, true},
	{"single cells and one piece", "01/23", "00/00", true, false},
	{"single cells and rows", "01/23", "00/11", true, false},
	{"a piece cut once more", "0012", "0011", true, false},
	{"the first piece cut once more", "0122", "0011", true, false},
	{"all pieces cut once more", "001122", "000000", true, false},
	{"rows and columns", "00/11", "01/01", false, false},
	{"as many pieces, not in the same places", "0011", "0001", false, false},
	{"one piece within another one, the other one not", "0011", "0111", false, false},
	{"only the last piece not within one", "0123/4455", "0123/0043", false, false},
	{"around a hole", "000/1.2/133", "000/1.1/111", true, false},
	{"a piece within, one around", "000/010/000", "000/000/000", true, false},
	{"a piece within another one, the one around it not", "000/010/000", "000/011/000", false, false},
	{"parts", "00.1", "00.1", true, true},
	{"parts cut once more", "01.2", "00.1", true, false},
	{"other parts cut once more", "00.1/22.1", "00.1/00.2", false, false},
	{"pieces with other numbers", "0112/3222", "0001/2111", true, false},
	{"nine cells", "012/345/678", "000/110/122", true, false},
	{"nine cells in other pieces", "000/110/122", "001/211/222", false, false},
}

func TestFinerCuts(t *testing.T) {
	for _, c := range finerCuts {
		w, h, mask, a := drawnCut(c.a)
		b := cutOnly(c.b)
		if got, back := impl.IsFiner(w, h, mask, a, b), impl.IsFiner(w, h, mask, b, a); got != c.finer || back != c.back {
			t.Errorf("%s: IsFiner(%d, %d, %d, ..) of %v and %v = %v and %v from the other side, want %v and %v", c.name, w, h, mask, a, b, got, back, c.finer, c.back)
		}
		for _, cut := range [][]int{a, b} {
			if !impl.CutOk(w, h, mask, cut) {
				t.Errorf("%s: %v is no cut of %d in the table %d, %d", c.name, cut, mask, w, h)
			}
		}
	}
}
