package tests

import (
	"math"
	"slices"
	"testing"

	"loop.example/g03208/impl"
)

// greedyCuts are rectangles with the different sides of the squares that are cut from them, and how often each is cut.
var greedyCuts = []struct {
	name         string
	w, h         int
	sides, times []int
}{
	{"the given one", 5, 3, []int{3, 2, 1}, []int{1, 1, 2}},
	{"the given one, turned", 3, 5, []int{3, 2, 1}, []int{1, 1, 2}},
	{"the least square", 1, 1, []int{1}, []int{1}},
	{"a square", 30, 30, []int{30}, []int{1}},
	{"the greatest square", 1000, 1000, []int{1000}, []int{1}},
	{"two squares", 2, 1, []int{1}, []int{2}},
	{"two squares, turned", 1, 2, []int{1}, []int{2}},
	{"two great squares", 1000, 500, []int{500}, []int{2}},
	{"a multiple", 12, 4, []int{4}, []int{3}},
	{"a multiple, turned", 4, 12, []int{4}, []int{3}},
	{"a great multiple", 40, 1000, []int{40}, []int{25}},
	{"the widest one", 1000, 1, []int{1}, []int{1000}},
	{"the highest one", 1, 1000, []int{1}, []int{1000}},
	{"two sides", 6, 4, []int{4, 2}, []int{1, 2}},
	{"two sides, the first one twice", 5, 2, []int{2, 1}, []int{2, 2}},
	{"no common divisor", 7, 5, []int{5, 2, 1}, []int{1, 2, 2}},
	{"a common divisor", 21, 15, []int{15, 6, 3}, []int{1, 2, 2}},
	{"neighbors", 31, 30, []int{30, 1}, []int{1, 30}},
	{"neighbors, turned", 30, 31, []int{30, 1}, []int{1, 30}},
	{"other neighbors", 40, 41, []int{40, 1}, []int{1, 40}},
	{"the greatest neighbors", 999, 1000, []int{999, 1}, []int{1, 999}},
	{"1000 and 30", 1000, 30, []int{30, 10}, []int{33, 3}},
	{"1000 and 31", 31, 1000, []int{31, 8, 7, 1}, []int{32, 3, 1, 7}},
	{"1000 and 41", 1000, 41, []int{41, 16, 9, 7, 2, 1}, []int{24, 2, 1, 1, 3, 2}},
	{"neighbors in Fibonacci's row", 8, 5, []int{5, 3, 2, 1}, []int{1, 1, 1, 2}},
	{"multiples of neighbors in Fibonacci's row", 625, 1000, []int{625, 375, 250, 125}, []int{1, 1, 1, 2}},
	{"the greatest neighbors in Fibonacci's row", 987, 610, []int{610, 377, 233, 144, 89, 55, 34, 21, 13, 8, 5, 3, 2, 1}, []int{1, 1, 1, 1, 1, 1, 1, 1, 1, 1, 1, 1, 1, 2}},
	{"every second number of Fibonacci's row", 987, 377, []int{377, 233, 144, 89, 55, 34, 21, 13, 8, 5, 3, 2, 1}, []int{2, 1, 1, 1, 1, 1, 1, 1, 1, 1, 1, 1, 2}},
}

// noGreedySides are sides of no rectangle from which squares are cut.
var noGreedySides = []int{0, 1001, -1, 1002, -2, -5, -999, -1000, -1001, 2000, 1 << 31, 1 << 32, 1<<32 + 5, 1<<62 + 1, -1 << 31, -1 << 32, -1<<32 + 5, math.MinInt, math.MinInt + 1, math.MinInt + 5, math.MaxInt - 1, math.MaxInt}

// repeated returns a list with each side so many times.
func repeated(sides, times []int) []int {
	var list []int
	for i, side := range sides {
		list = append(list, slices.Repeat([]int{side}, times[i])...)
	}
	return list
}

func TestGreedySquares(t *testing.T) {
	for _, c := range greedyCuts {
		want := repeated(c.sides, c.times)
		if got := impl.GreedySquares(c.w, c.h); !slices.Equal(got, want) {
			t.Errorf("%s: GreedySquares(%d, %d) = %v, want %v", c.name, c.w, c.h, got, want)
		}
		if got := impl.GreedySquares(c.h, c.w); !slices.Equal(got, want) {
			t.Errorf("%s: GreedySquares(%d, %d) = %v, want %v", c.name, c.h, c.w, got, want)
		}
	}
}

func TestQuotientsOf(t *testing.T) {
	for _, c := range greedyCuts {
		if got := impl.QuotientsOf(c.w, c.h); !slices.Equal(got, c.times) {
			t.Errorf("%s: QuotientsOf(%d, %d) = %v, want %v", c.name, c.w, c.h, got, c.times)
		}
		if got := impl.QuotientsOf(c.h, c.w); !slices.Equal(got, c.times) {
			t.Errorf("%s: QuotientsOf(%d, %d) = %v, want %v", c.name, c.h, c.w, got, c.times)
		}
	}
}

func TestGreedyCutsOfNoRectangle(t *testing.T) {
	for _, bad := range noGreedySides {
		for _, side := range append([]int{1, 3, 30, 31, 40, 41, 1000}, noGreedySides...) {
			for _, s := range [][2]int{{bad, side}, {side, bad}} {
				if squares, quotients := impl.GreedySquares(s[0], s[1]), impl.QuotientsOf(s[0], s[1]); len(squares) != 0 || len(quotients) != 0 {
					t.Errorf("the squares cut from %d, %d are %v with the quotients %v, want none", s[0], s[1], squares, quotients)
				}
			}
		}
	}
}

// greedyRectangles are quotients and units with the rectangles that have them; those of greedyCuts are others.
var greedyRectangles = []struct {
	name      string
	quotients []int
	unit      int
	w, h      int
}{
	{"the given one", []int{1, 1, 2}, 1, 5, 3},
	{"1 alone", []int{1}, 1, 1, 1},
	{"1 alone, with a unit", []int{1}, 41, 41, 41},
	{"1 alone, with the greatest unit", []int{1}, 1000, 1000, 1000},
	{"1 alone, with nearly the greatest unit", []int{1}, 999, 999, 999},
	{"2 alone", []int{2}, 1, 2, 1},
	{"2 alone, just to 1000", []int{2}, 500, 1000, 500},
	{"3 alone, just below 1000", []int{3}, 333, 999, 333},
	{"1000 alone", []int{1000}, 1, 1000, 1},
	{"500 alone, just to 1000", []int{500}, 2, 1000, 2},
	{"two quotients", []int{1, 2}, 1, 3, 2},
	{"two quotients, in the other order", []int{2, 3}, 1, 7, 3},
	{"two quotients, just to 1000", []int{1, 999}, 1, 1000, 999},
	{"the first one great, just to 1000", []int{499, 2}, 1, 999, 2},
	{"with a unit, just to 1000", []int{2, 2}, 200, 1000, 400},
	{"1 in front", []int{1, 1, 1, 1, 1, 7}, 3, 183, 114},
	{"1 in between", []int{3, 1, 4, 1, 5}, 2, 268, 70},
}

func TestRectangleFrom(t *testing.T) {
	check := func(name string, quotients []int, unit, w, h int) {
		t.Helper()
		if gotW, gotH, ok := impl.RectangleFrom(quotients, unit); gotW != w || gotH != h || !ok {
			t.Errorf("%s: RectangleFrom(%v, %d) = %d, %d, %v, want %d, %d", name, quotients, unit, gotW, gotH, ok, w, h)
		}
	}
	for _, c := range greedyRectangles {
		check(c.name, c.quotients, c.unit, c.w, c.h)
	}
	for _, c := range greedyCuts {
		check(c.name, c.times, c.sides[len(c.sides)-1], max(c.w, c.h), min(c.w, c.h))
	}
}

// noQuotients are quotients that no rectangle has, whatever the unit.
var noQuotients = []struct {
	name      string
	quotients []int
}{
	{"nil", nil},
	{"none", []int{}},

	{"a last 1 behind 1", []int{1, 1}},
	{"a last 1 behind 2", []int{2, 1}},
	{"a last 1 behind 999", []int{999, 1}},
	{"a last 1 behind others", []int{1, 2, 3, 1}},
	{"1 three times", []int{1, 1, 1}},
	{"1 many times", slices.Repeat([]int{1}, 5000)},

	{"0", []int{0}},
	{"0 in front", []int{0, 2}},
	{"0 in front of others", []int{0, 1, 1, 2}},
	{"0 at the end", []int{2, 0}},
	{"0 in between", []int{1, 0, 2}},
	{"0 twice in between", []int{1, 0, 0, 2}},
	{"0 twice", []int{0, 0}},
	{"0 many times", make([]int, 5000)},
	{"0 many times in front of 2", append(make([]int, 5000), 2)},

	{"-1", []int{-1}},
	{"-2", []int{-2}},
	{"-1 in front", []int{-1, 2}},
	{"-1 at the end", []int{2, -1}},
	{"-1 in between", []int{3, -1, 2}},
	{"-1 twice", []int{-1, -1}},
	{"all negative", []int{-1, -1, -2}},
	{"the least int", []int{math.MinInt}},
	{"the least int in front", []int{math.MinInt, 2}},
	{"the least int at the end", []int{2, math.MinInt}},
	{"the least int twice", []int{math.MinInt, math.MinInt}},

	{"1001", []int{1001}},
	{"1001 in front", []int{1001, 2}},
	{"500 in front of 2", []int{500, 2}},
	{"1 in front of 1000", []int{1, 1000}},
	{"31 in front of 33", []int{31, 33}},
	{"just past 1000 in the last step", []int{3, 3, 3, 3, 9}},
	{"2 nine times", slices.Repeat([]int{2}, 9)},
	{"2 many times", slices.Repeat([]int{2}, 5000)},
	{"the quotients of 1597 and 987", append(slices.Repeat([]int{1}, 14), 2)},
	{"1 many times in front of 2", append(slices.Repeat([]int{1}, 5000), 2)},
	{"the greatest int", []int{math.MaxInt}},
	{"the greatest int in front", []int{math.MaxInt, 2}},
	{"the greatest int at the end", []int{2, math.MaxInt}},
	{"the greatest int in front of a sum that wraps around", []int{math.MaxInt, 1, 3}},
	{"the greatest int twice", []int{math.MaxInt, math.MaxInt}},
	{"great ones whose products wrap around to 0", []int{1 << 32, 1 << 32}},
	{"great ones whose products wrap around to small ones", []int{1<<32 + 1, 1<<32 + 1}},
	{"a great one that wraps around with 2", []int{1<<62 + 1, 2, 2}},
	{"the quotients of 5 and 3 with all but the last 32 bits", []int{1<<32 + 1, 1<<32 + 1, 1<<32 + 2}},
}

// noUnits are last sides that no rectangle has.
var noUnits = noGreedySides

// checkNoRectangle fails unless no rectangle has these quotients with this last side.
func checkNoRectangle(t *testing.T, name string, quotients []int, unit int) {
	t.Helper()
	if w, h, ok := impl.RectangleFrom(quotients, unit); w != 0 || h != 0 || ok {
		t.Errorf("%s: RectangleFrom(%v, %d) = %d, %d, %v, want none", name, quotients, unit, w, h, ok)
	}
}

func TestRectangleFromRefusesQuotients(t *testing.T) {
	for _, c := range noQuotients {
		for _, unit := range append([]int{1, 2, 3, 5, 999, 1000}, noUnits...) {
			checkNoRectangle(t, c.name, c.quotients, unit)
		}
	}
}

func TestRectangleFromRefusesUnits(t *testing.T) {
	for _, unit := range noUnits {
		for _, c := range greedyRectangles {
			checkNoRectangle(t, c.name, c.quotients, unit)
		}
		for _, c := range greedyCuts {
			checkNoRectangle(t, c.name, c.times, unit)
		}
	}
}

// TestRectangleFromRefusesMore has quotients and units that are both fine, but not together.
func TestRectangleFromRefusesMore(t *testing.T) {
	for _, c := range []struct {
		name      string
		quotients []int
		unit      int
	}{
		{"2, just past 1000", []int{2}, 501},
		{"3, just past 1000", []int{3}, 334},
		{"1000 with the unit 2", []int{1000}, 2},
		{"2 with the unit 1000", []int{2}, 1000},
		{"500 with the unit 3", []int{500}, 3},
		{"1000 with the unit 1000", []int{1000}, 1000},
		{"two quotients, just past 1000", []int{2, 2}, 201},
		{"two quotients, of which the first one leads past 1000", []int{1, 2}, 500},
		{"the quotients of the given one, past 1000", []int{1, 1, 2}, 201},
		{"the quotients of 987 and 610 with the unit 2", append(slices.Repeat([]int{1}, 13), 2), 2},
		// 5 times it is 4 more than 2 to the power of 64.
		{"a product that wraps around to 4", []int{3689348814741910324}, 5},
		{"a product that wraps around to 4, and others", []int{2, 3689348814741910324}, 5},
		{"a product that wraps around to 0", []int{1 << 61}, 8},
		{"a product that wraps around to 8", []int{1<<61 + 1}, 8},
	} {
		checkNoRectangle(t, c.name, c.quotients, c.unit)
	}
	// 1000 is the last one that is allowed for each quotient.
	for quotient := 1; quotient <= 1000; quotient++ {
		unit := 1000 / quotient
		if w, h, ok := impl.RectangleFrom([]int{quotient}, unit); w != quotient*unit || h != unit || !ok {
			t.Errorf("RectangleFrom([%d], %d) = %d, %d, %v, want %d, %d", quotient, unit, w, h, ok, quotient*unit, unit)
		}
		checkNoRectangle(t, "one more", []int{quotient}, unit+1)
	}
}

// squareSums are numbers with the sums of their squares.
var squareSums = []struct {
	name  string
	sides []int
	sum   int
}{
	{"nil", nil, 0},
	{"none", []int{}, 0},
	{"0", []int{0}, 0},
	{"0 three times", []int{0, 0, 0}, 0},
	{"1", []int{1}, 1},
	{"the given ones", []int{3, 2, 1, 1}, 15},
	{"in another order", []int{1, 3, 1, 2}, 15},
	{"with 0", []int{3, 0, 2, 0, 1, 1}, 15},
	{"Pythagoras", []int{3, 4}, 25},
	{"30, 31, 40 and 41", []int{30, 31, 40, 41}, 900 + 961 + 1600 + 1681},
	{"the perfect rectangle", []int{18, 15, 7, 8, 14, 4, 10, 1, 9}, 33 * 32},
	{"999 and 1000", []int{999, 1000}, 998001 + 1000000},
	{"1000 alone", []int{1000}, 1000000},
	{"40 times 1", slices.Repeat([]int{1}, 40), 40},
	{"41 times 40", slices.Repeat([]int{40}, 41), 65600},
	{"999 times 2", slices.Repeat([]int{2}, 999), 3996},
	{"1000 times 0", make([]int, 1000), 0},
	{"1000 times 1", slices.Repeat([]int{1}, 1000), 1000},
	{"1000 times 1000", slices.Repeat([]int{1000}, 1000), 1000000000},
}

func TestSumOfSquares(t *testing.T) {
	for _, c := range squareSums {
		if got := impl.SumOfSquares(c.sides); got != c.sum {
			t.Errorf("%s: SumOfSquares = %d, want %d", c.name, got, c.sum)
		}
	}
	for n := 0; n <= 1000; n++ {
		if got := impl.SumOfSquares([]int{n}); got != n*n {
			t.Errorf("SumOfSquares([%d]) = %d, want %d", n, got, n*n)
		}
	}
}

// noSummedSides are numbers that are not squared; 3037000500 is the least one whose square is no int.
var noSummedSides = []int{-1, 1001, 1002, -2, -3, -1000, -1001, 2000, 3037000499, 3037000500, 1 << 31, 1 << 32, 1<<32 + 3, -1 << 31, -1 << 32, math.MinInt, math.MinInt + 1, math.MaxInt - 1, math.MaxInt}

func TestSumOfSquaresRefuses(t *testing.T) {
	for _, bad := range noSummedSides {
		for _, sides := range [][]int{{bad}, {bad, 3, 2}, {3, bad, 2}, {3, 2, bad}, {bad, bad}, {0, bad}, {-bad, bad}, append(make([]int, 999), bad), append([]int{bad}, make([]int, 999)...)} {
			if got := impl.SumOfSquares(sides); got != -1 {
				t.Errorf("SumOfSquares(%v) = %d, want -1", sides, got)
			}
		}
	}
	for _, n := range []int{1001, 1002, 2000, 100000} {
		for _, side := range []int{0, 1, 1000, 1001, -1} {
			if got := impl.SumOfSquares(slices.Repeat([]int{side}, n)); got != -1 {
				t.Errorf("SumOfSquares of %d times %d is %d, want -1", n, side, got)
			}
		}
	}
}
