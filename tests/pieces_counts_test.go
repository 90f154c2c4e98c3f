package tests

import (
	"slices"
	"testing"

	"loop.example/g03208/impl"
)

// cutCounts are shapes with the numbers of their cuts into 1, 2, 3 .. pieces, up to one more than their cells.
var cutCounts = []struct {
	name   string
	text   string
	counts []int
}{
	{"one cell", "#", []int{1, 0}},
	{"one cell somewhere", "....../....../....../...#../....../......", []int{1, 0}},
	{"two neighbors", "##", []int{1, 1, 0}},
	{"two cells apart", "#.#", []int{0, 1, 0}},
	{"two cells that touch at a corner", ".#/#.", []int{0, 1, 0}},
	{"neighbors in the mask only", "..#/#..", []int{0, 1, 0}},
	// A row can be cut or not between all neighbors.
	{"a row of three", "###", []int{1, 2, 1, 0}},
	{"a row of six", "######", []int{1, 5, 10, 10, 5, 1, 0}},
	{"a column of six", "#/#/#/#/#/#", []int{1, 5, 10, 10, 5, 1, 0}},
	// So can all shapes without circles of cells.
	{"a cross", ".#./###/.#.", []int{1, 4, 6, 4, 1, 0}},
	{"stairs", "##../.##./..##", []int{1, 5, 10, 10, 5, 1, 0}},
	{"a snake", "###/..#/###/#../#..", []int{1, 8, 28, 56, 70, 56, 28, 8, 1, 0}},
	{"a tree within the greatest table", "..#.../.###../..#.#./..###./....../......", []int{1, 8, 28, 56, 70, 56, 28, 8, 1, 0}},
	// A circle has to be cut at least twice.
	{"a square", "##/##", []int{1, 6, 4, 1, 0}},
	{"around a hole", "###/#.#/###", []int{1, 28, 56, 70, 56, 28, 8, 1, 0}},
	// Parts are cut each on its own.
	{"two rows apart", "###/.../###", []int{0, 1, 4, 6, 4, 1, 0}},
	{"three cells apart", "#.#.#", []int{0, 0, 1, 0}},
	{"a square and a row apart", "##.#/##.#", []int{0, 1, 7, 10, 5, 1, 0}},
	{"nine cells apart", "#.#.#./....../#.#.#./....../#.#.#./......", []int{0, 0, 0, 0, 0, 0, 0, 0, 1, 0}},
	// Two circles with a side in common: as many pieces less than single cells as neighbors are joined, but any three sides of a circle join it.
	{"two by three", "###/###", []int{1, 15, 29, 21, 7, 1, 0}},
	{"two by three upright", "##/##/##", []int{1, 15, 29, 21, 7, 1, 0}},
}

func TestCountCuts(t *testing.T) {
	for _, c := range cutCounts {
		w, h, mask := drawn(c.text)
		for i, want := range c.counts {
			if got := impl.CountCuts(w, h, mask, i+1); got != want {
				t.Errorf("%s: CountCuts(%d, %d, %d, %d) = %d, want %d", c.name, w, h, mask, i+1, got, want)
			}
		}
		for _, pieces := range somePieces {
			if pieces >= 1 && pieces <= len(c.counts) {
				continue
			}
			if got := impl.CountCuts(w, h, mask, pieces); got != 0 {
				t.Errorf("%s: CountCuts(%d, %d, %d, %d) = %d, want 0", c.name, w, h, mask, pieces, got)
			}
			if got, ok := impl.FirstCut(w, h, mask, pieces); len(got) != 0 || ok {
				t.Errorf("%s: FirstCut(%d, %d, %d, %d) = %v, %v, want none", c.name, w, h, mask, pieces, got, ok)
			}
		}
	}
}

// sumOfCounts returns the number of all cuts of a shape.
func sumOfCounts(w, h, mask int) int {
	sum := 0
	for pieces := range 11 {
		sum += max(0, impl.CountCuts(w, h, mask, pieces))
	}
	return sum
}

// TestCountsOfAllCuts has rectangles, for which the numbers of all cuts are known, and which turn with the table.
func TestCountsOfAllCuts(t *testing.T) {
	for _, c := range []struct{ w, h, all int }{
		{1, 1, 1}, {2, 1, 2}, {3, 1, 4}, {6, 1, 32}, {2, 2, 12}, {3, 2, 74}, {4, 2, 456}, {3, 3, 1434},
	} {
		if got := sumOfCounts(c.w, c.h, 1<<(c.w*c.h)-1); got != c.all {
			t.Errorf("there are %d cuts of the rectangle %d, %d, want %d", got, c.w, c.h, c.all)
		}
		if got := sumOfCounts(c.h, c.w, 1<<(c.w*c.h)-1); got != c.all {
			t.Errorf("there are %d cuts of the rectangle %d, %d, want %d", got, c.h, c.w, c.all)
		}
	}
}

// firstCuts are shapes with their first cuts into 1, 2, 3 .. pieces; the empty text is for none.
var firstCuts = []struct {
	name string
	cuts []string
}{
	{"one cell", []string{"0"}},
	{"a row of four", []string{"0000", "0001", "0012", "0123"}},
	{"a column of three", []string{"0/0/0", "0/0/1", "0/1/2"}},
	{"a square", []string{"00/00", "00/01", "00/12", "01/23"}},
	{"two by three", []string{"000/000", "000/001", "000/012", "000/123", "001/234", "012/345"}},
	{"a cross", []string{".0./000/.0.", ".0./000/.1.", ".0./001/.2.", ".0./102/.3.", ".0./123/.4."}},
	{"open above", []string{"0.0/000", "0.1/000", "0.1/002", "0.1/023", "0.1/234"}},
	{"around a hole", []string{
		"000/0.0/000", "000/0.0/001", "000/0.0/012", "000/0.0/123", "000/0.1/234", "000/1.2/345", "001/2.3/456", "012/3.4/567",
	}},
	{"open at the left", []string{"000/..0/000", "000/..0/100", "000/..0/112", "000/..0/123", "000/..1/234", "001/..2/345", "012/..3/456"}},
	{"open at the right", []string{"000/0../000", "000/0../001", "000/0../012", "000/0../123", "000/1../234", "001/2../345", "012/3../456"}},
	{"three teeth", []string{"0.0.0/00000", "0.0.1/00000", "0.0.1/00002", "0.0.1/00023", "0.1.2/00034", "0.1.2/00345", "0.1.2/03456", "0.1.2/34567"}},
	{"two cells apart", []string{"", "0.1"}},
	{"two cells that touch at a corner", []string{"", ".0/1."}},
	{"neighbors in the mask only", []string{"", "..0/1.."}},
	{"two rows apart", []string{"", "000/.../111", "000/.../112", "000/.../123", "001/.../234", "012/.../345"}},
	{"two columns apart", []string{"", "0.1/0.1", "0.1/0.2", "0.1/2.3"}},
	{"three parts", []string{"", "", "00.1.2", "01.2.3"}},
	{"nine cells", []string{
		"000/000/000", "000/000/001", "000/000/012", "000/000/123", "000/001/234", "000/012/345", "000/123/456", "001/234/567", "012/345/678",
	}},
}

func TestFirstCuts(t *testing.T) {
	for _, c := range firstCuts {
		w, h, mask, _ := drawnCut(c.cuts[len(c.cuts)-1])
		for i, text := range c.cuts {
			var want []int
			if text != "" {
				want = cutOnly(text)
			}
			if got, ok := impl.FirstCut(w, h, mask, i+1); !slices.Equal(got, want) || ok != (text != "") {
				t.Errorf("%s: FirstCut(%d, %d, %d, %d) = %v, %v, want %v", c.name, w, h, mask, i+1, got, ok, want)
			}
		}
	}
}

// bestHalves are the best cuts into halves.
var bestHalves = []struct {
	name string
	text string
}{
	{"two cells", "01"},
	{"two cells above each other", "0/1"},
	{"two cells apart", "0.1"},
	{"two cells that touch at a corner", ".0/1."},
	{"neighbors in the mask only", "..0/1.."},
	{"a row of four", "0011"},
	{"a column of six", "0/0/0/1/1/1"},
	{"the first one of two for a square", "00/11"},
	{"the first one of several for two by three", "000/111"},
	{"the first one of several for three by two", "00/01/11"},
	{"not the first cut into halves", "0011/0011"},
	{"two by four upright", "00/00/11/11"},
	{"around a hole", "000/0.1/111"},
	{"two parts of the same size", "00.11"},
	{"two parts of the same size, but not the same shape", "00.1/00.1/...1/...1"},
	{"two parts of the same shape", "000/..0/1../111"},
	{"an L", "0.../0.../0111"},
	{"in the middle of the greatest table", "....../..0.../.000../.111../..1.../......"},
}

var noHalves = []struct {
	name string
	text string
}{
	{"one cell", "#"},
	{"three cells", "###"},
	{"five cells", ".#./###/.#."},
	{"nine cells", "###/###/###"},
	{"no cells", "..."},
	{"a T", "###/.#."},
	{"a T with long arms", "..#../#####"},
	{"three parts", "#.#.##"},
	{"two parts of three and one", "###.#"},
	{"four cells apart", "#.#/.../#.#"},
	{"two parts of five and three", "#####/...../.###."},
	{"ten cells", "#####/#####"},
	{"all cells of the greatest table", "######/######/######/######/######/######"},
}

func TestBestHalves(t *testing.T) {
	for _, c := range bestHalves {
		w, h, mask, want := drawnCut(c.text)
		if got, ok := impl.BestHalves(w, h, mask); !slices.Equal(got, want) || !ok {
			t.Errorf("%s: BestHalves(%d, %d, %d) = %v, %v, want %v", c.name, w, h, mask, got, ok, want)
		}
	}
	for _, c := range noHalves {
		w, h, mask := drawn(c.text)
		if got, ok := impl.BestHalves(w, h, mask); len(got) != 0 || ok {
			t.Errorf("%s: BestHalves(%d, %d, %d) = %v, %v, want none", c.name, w, h, mask, got, ok)
		}
	}
}
