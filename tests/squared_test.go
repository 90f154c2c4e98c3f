package tests

import (
	"math"
	"slices"
	"testing"

	"loop.example/g03208/impl"
)

// ones returns n sides of 1.
func ones(n int) []int { return slices.Repeat([]int{1}, n) }

// rowsOfCells returns the least corners of the cells of a rectangle.
func rowsOfCells(w, h int) []impl.Point {
	var corners []impl.Point
	for y := range h {
		for x := range w {
			corners = append(corners, pt(x, y))
		}
	}
	return corners
}

// columnOfCells returns the least corners of the cells of a column.
func columnOfCells(x, h int) []impl.Point {
	var corners []impl.Point
	for y := range h {
		corners = append(corners, pt(x, y))
	}
	return corners
}

// squaredRectangles are sides that fill a rectangle in their order, with the least corners of the squares.
var squaredRectangles = []struct {
	name    string
	w, h    int
	sides   []int
	corners []impl.Point
}{
	{"the given one", 3, 2, []int{2, 1, 1}, xy(0, 0, 2, 0, 2, 1)},
	{"the given one, mirrored", 3, 2, []int{1, 2, 1}, xy(0, 0, 1, 0, 0, 1)},
	{"the given one, turned", 2, 3, []int{2, 1, 1}, xy(0, 0, 0, 2, 1, 2)},
	{"the given one, upside down", 2, 3, []int{1, 1, 2}, xy(0, 0, 1, 0, 0, 1)},

	{"the least square", 1, 1, []int{1}, xy(0, 0)},
	{"a square", 7, 7, []int{7}, xy(0, 0)},
	{"nearly the greatest square", 39, 39, []int{39}, xy(0, 0)},
	{"the greatest square", 40, 40, []int{40}, xy(0, 0)},
	{"four squares", 40, 40, []int{20, 20, 20, 20}, xy(0, 0, 20, 0, 0, 20, 20, 20)},
	{"a row", 4, 1, ones(4), xy(0, 0, 1, 0, 2, 0, 3, 0)},
	{"a column", 1, 4, ones(4), xy(0, 0, 0, 1, 0, 2, 0, 3)},
	{"the widest row", 40, 1, ones(40), rowsOfCells(40, 1)},
	{"the highest column", 1, 40, ones(40), rowsOfCells(1, 40)},
	{"39 cells", 3, 13, ones(39), rowsOfCells(3, 13)},
	{"40 cells", 8, 5, ones(40), rowsOfCells(8, 5)},
	{"40 squares, one of them great", 40, 39, append([]int{39}, ones(39)...), append(xy(0, 0), columnOfCells(39, 39)...)},

	{"greedy squares", 5, 3, []int{3, 2, 1, 1}, xy(0, 0, 3, 0, 3, 2, 4, 2)},
	{"greedy squares, turned", 3, 5, []int{3, 2, 1, 1}, xy(0, 0, 0, 3, 2, 3, 2, 4)},
	{"greedy squares of 40 and 31", 40, 31, []int{31, 9, 9, 9, 4, 4, 1, 1, 1, 1}, xy(0, 0, 31, 0, 31, 9, 31, 18, 31, 27, 35, 27, 39, 27, 39, 28, 39, 29, 39, 30)},

	{"a gap over two squares", 4, 6, []int{2, 2, 4}, xy(0, 0, 2, 0, 0, 2)},
	{"a gap over two squares of different sides", 3, 4, []int{2, 1, 1, 1, 2, 1}, xy(0, 0, 2, 0, 2, 1, 0, 2, 1, 2, 0, 3)},
	{"lowest gaps at the left and at the right", 4, 2, []int{1, 2, 1, 1, 1}, xy(0, 0, 1, 0, 3, 0, 0, 1, 3, 1)},
	{"the leftmost of two lowest gaps first", 5, 3, []int{1, 2, 1, 1, 1, 2, 1, 1, 1}, xy(0, 0, 1, 0, 3, 0, 4, 0, 0, 1, 3, 1, 0, 2, 1, 2, 2, 2)},
	{"the lowest gap, not the leftmost one", 5, 5, []int{3, 2, 2, 2, 1, 1, 1, 1}, xy(0, 0, 3, 0, 3, 2, 0, 3, 2, 3, 2, 4, 3, 4, 4, 4)},
	{"no cut from edge to edge", 13, 11, []int{6, 7, 5, 1, 4, 4}, xy(0, 0, 6, 0, 0, 6, 5, 6, 5, 7, 9, 7)},

	{"the perfect rectangle", 33, 32, []int{18, 15, 7, 8, 14, 4, 10, 1, 9}, xy(0, 0, 18, 0, 18, 15, 25, 15, 0, 18, 14, 18, 14, 22, 24, 22, 24, 23)},
	{"the perfect rectangle, mirrored", 33, 32, []int{15, 18, 8, 7, 4, 14, 1, 10, 9}, xy(0, 0, 15, 0, 0, 15, 8, 15, 15, 18, 19, 18, 8, 22, 9, 22, 0, 23)},
	{"the perfect rectangle, upside down", 33, 32, []int{14, 10, 9, 1, 8, 4, 7, 18, 15}, xy(0, 0, 14, 0, 24, 0, 24, 9, 25, 9, 14, 10, 18, 10, 0, 14, 18, 17)},
	{"the perfect rectangle, turned", 32, 33, []int{18, 14, 4, 10, 15, 7, 1, 9, 8}, xy(0, 0, 18, 0, 18, 14, 22, 14, 0, 18, 15, 18, 22, 24, 23, 24, 15, 25)},
}

// checkSquared fails unless sides fill a rectangle in their order.
func checkSquared(t *testing.T, name string, w, h int, sides []int, corners []impl.Point) {
	t.Helper()
	if got, ok := impl.CornersOf(w, h, sides); !slices.Equal(got, corners) || !ok {
		t.Errorf("%s: CornersOf(%d, %d, %v) = %v, %v, want %v", name, w, h, sides, got, ok, corners)
	}
	if !impl.IsSquared(w, h, sides) {
		t.Errorf("%s: IsSquared(%d, %d, %v) = false", name, w, h, sides)
	}
}

// checkNotSquared fails if sides fill a rectangle in their order.
func checkNotSquared(t *testing.T, name string, w, h int, sides []int) {
	t.Helper()
	if got, ok := impl.CornersOf(w, h, sides); len(got) != 0 || ok {
		t.Errorf("%s: CornersOf(%d, %d, %v) = %v, %v, want none", name, w, h, sides, got, ok)
	}
	if impl.IsSquared(w, h, sides) || impl.IsPerfect(w, h, sides) {
		t.Errorf("%s: IsSquared(%d, %d, %v) = %v, IsPerfect %v", name, w, h, sides, impl.IsSquared(w, h, sides), impl.IsPerfect(w, h, sides))
	}
}

// noSquaredSides are sides of no rectangle that is filled, and of no square in one.
var noSquaredSides = append([]int{0, 1000, 1001}, badNumbers...)

func TestSquaredRectangles(t *testing.T) {
	for _, c := range squaredRectangles {
		checkSquared(t, c.name, c.w, c.h, c.sides, c.corners)
		checkNotSquared(t, c.name+", without the last side", c.w, c.h, c.sides[:len(c.sides)-1])
		checkNotSquared(t, c.name+", without the first side", c.w, c.h, c.sides[1:])
		checkNotSquared(t, c.name+", wider", c.w+1, c.h, c.sides)
		checkNotSquared(t, c.name+", narrower", c.w-1, c.h, c.sides)
		checkNotSquared(t, c.name+", higher", c.w, c.h+1, c.sides)
		checkNotSquared(t, c.name+", lower", c.w, c.h-1, c.sides)
		for _, more := range []int{1, 2, c.w, c.h, 40} {
			checkNotSquared(t, c.name+", with a side left over", c.w, c.h, append(slices.Clone(c.sides), more))
		}
	}
}

// TestSquaredRectanglesWithBadNumbers puts a bad number in place of each number, and before and behind each side.
func TestSquaredRectanglesWithBadNumbers(t *testing.T) {
	for _, c := range squaredRectangles {
		for _, bad := range noSquaredSides {
			checkNotSquared(t, c.name+", with a bad width", bad, c.h, c.sides)
			checkNotSquared(t, c.name+", with a bad height", c.w, bad, c.sides)
			checkNotSquared(t, c.name+", with both bad", bad, bad, c.sides)
			for i := range c.sides {
				sides := slices.Clone(c.sides)
				sides[i] = bad
				checkNotSquared(t, c.name+", with a bad side", c.w, c.h, sides)
				checkNotSquared(t, c.name+", with one more side, which is bad", c.w, c.h, slices.Insert(slices.Clone(c.sides), i, bad))
				sides[i] = -c.sides[i]
				checkNotSquared(t, c.name+", with a negative side", c.w, c.h, sides)
				sides[i] = c.sides[i] + 1<<32
				checkNotSquared(t, c.name+", with a side beyond 32 bits", c.w, c.h, sides)
			}
			checkNotSquared(t, c.name+", with a bad side behind all", c.w, c.h, append(slices.Clone(c.sides), bad))
		}
	}
}

// notSquared are sides that do not fill a rectangle in their order.
var notSquared = []struct {
	name  string
	w, h  int
	sides []int
}{
	{"nil", 1, 1, nil},
	{"nil in the greatest one", 40, 40, nil},
	{"none", 3, 2, []int{}},

	{"a gap at the right", 3, 2, []int{2, 1}},
	{"a gap at the right, as wide as high", 4, 2, []int{2}},
	{"a gap at the top", 2, 2, []int{1, 1, 1}},
	{"a gap all over the top", 2, 3, []int{2}},
	{"a gap of one cell", 5, 3, []int{3, 2, 1}},
	{"a great gap", 40, 40, []int{39}},
	{"one less than 40 in a row", 40, 1, ones(39)},
	{"a gap on the left, the right being full", 4, 2, []int{1, 2, 1, 1}},

	{"wider and higher than all", 2, 2, []int{3}},
	{"wider than all", 1, 2, []int{2}},
	{"higher than all", 2, 1, []int{2}},
	{"41 in the greatest one", 40, 40, []int{41}},
	{"out of the top", 2, 3, []int{2, 2}},
	{"out of the top in a row", 40, 1, append(ones(38), 2)},
	{"out of the top, after others", 5, 3, []int{3, 2, 2}},
	{"out of the top by much", 3, 4, []int{1, 1, 1, 3, 3}},
	{"out of the right", 3, 2, []int{2, 2}},
	{"out of the right by much", 5, 4, []int{2, 4}},
	{"out of the right in a higher row", 3, 4, []int{1, 1, 1, 1, 3}},

	{"not into the lowest gap, but on the first square", 3, 2, []int{1, 1, 2}},
	{"not into the lowest gap, but beside it", 2, 3, []int{1, 2, 1}},
	{"not into the lowest gap at the right", 5, 3, []int{3, 1, 2, 1}},
	{"not into the lowest gap in between, but into a higher one", 5, 4, []int{2, 1, 2, 2, 1, 1, 1, 1, 1, 1, 1}},
	{"not into the leftmost of two lowest gaps, but into the other one", 5, 3, []int{1, 2, 1, 1, 2, 1, 1, 1, 1}},
	{"out of the top in the lowest gaps", 6, 2, []int{1, 1, 2, 1, 1, 2}},

	{"left over when all is filled", 3, 2, []int{2, 1, 1, 1}},
	{"left over in the least one", 1, 1, []int{1, 1}},
	{"left over in the greatest one", 40, 40, []int{40, 1}},
	{"left over, as great as all", 40, 40, []int{40, 40}},
	{"many left over", 2, 2, append([]int{2}, ones(39)...)},

	{"0 in front", 3, 2, []int{0, 2, 1, 1}},
	{"0 in between", 3, 2, []int{2, 0, 1, 1}},
	{"0 at the end", 3, 2, []int{2, 1, 1, 0}},
	{"0 alone", 1, 1, []int{0}},
	{"0 alone in none", 0, 0, []int{0}},
	{"many times 0", 1, 1, make([]int, 1000)},
	{"a negative one that takes back another one", 3, 2, []int{2, 1, 1, -1, 1}},
	{"a negative one alone", 1, 1, []int{-1}},
	{"all negative", 3, 2, []int{-2, -1, -1}},
	{"all negative, the rectangle as well", -3, -2, []int{-2, -1, -1}},

	{"no rectangle", 0, 0, nil},
	{"no width", 0, 3, nil},
	{"no height", 3, 0, nil},
	{"no height, filled", 3, 0, ones(3)},
	{"a negative rectangle", -1, -1, nil},
	{"41 in a row", 41, 1, ones(41)},
	{"41 in a column", 1, 41, ones(41)},
	{"a square of 41", 41, 41, []int{41}},
	{"few squares, just too wide", 41, 20, append([]int{20, 20}, ones(20)...)},
	{"few squares, just too high", 20, 41, append([]int{20, 20}, ones(20)...)},
	{"two squares, too wide", 42, 21, []int{21, 21}},
	{"two squares, too high", 21, 42, []int{21, 21}},
	{"the least rectangle of all", math.MinInt, math.MinInt, []int{math.MinInt}},
	{"the greatest rectangle of all", math.MaxInt, math.MaxInt, []int{math.MaxInt}},

	{"41 that would fill it", 11, 4, append([]int{2}, ones(40)...)},
	{"41 that would fill it, in a column", 4, 11, append([]int{2}, ones(40)...)},
	{"41 that would fill the greatest one", 40, 40, repeated([]int{10, 20, 5}, []int{10, 1, 30})},
	{"42 that would fill it", 7, 6, ones(42)},
	{"41, of which 40 fill it", 8, 5, ones(41)},
	{"41, of which the last one is 0", 8, 5, append(ones(40), 0)},
	{"1000", 8, 5, ones(1000)},
	{"1001", 8, 5, ones(1001)},
	{"1000 that would fill it", 40, 25, ones(1000)},
	{"1600 that would fill it", 40, 40, ones(1600)},
}

func TestNotSquared(t *testing.T) {
	for _, c := range notSquared {
		checkNotSquared(t, c.name, c.w, c.h, c.sides)
	}
	for _, bad := range noSquaredSides {
		for _, side := range append([]int{1, 3, 40}, noSquaredSides...) {
			for _, sides := range [][]int{nil, {1}, {side}, {bad}, {bad, side}, {side, bad}, ones(40)} {
				checkNotSquared(t, "a bad width", bad, side, sides)
				checkNotSquared(t, "a bad height", side, bad, sides)
			}
		}
	}
}

// squaredOrders are sides with all the orders in which they fill a rectangle.
var squaredOrders = []struct {
	name   string
	w, h   int
	orders [][]int
}{
	{"three sides", 3, 2, [][]int{{1, 2, 1}, {2, 1, 1}}},
	{"three sides, turned", 2, 3, [][]int{{1, 1, 2}, {2, 1, 1}}},
	{"equal sides, which have one order only", 4, 2, [][]int{{2, 2}}},
	{"a side alone", 5, 5, [][]int{{5}}},
	{"greedy squares", 5, 3, [][]int{{1, 1, 3, 2}, {2, 3, 1, 1}, {3, 1, 1, 2}, {3, 2, 1, 1}}},
	{"no cut from edge to edge", 13, 11, [][]int{{4, 4, 5, 7, 1, 6}, {5, 4, 4, 1, 7, 6}, {6, 7, 5, 1, 4, 4}, {7, 6, 1, 5, 4, 4}}},
	{"a row of three and one of two", 6, 5, [][]int{{2, 2, 2, 3, 3}, {3, 3, 2, 2, 2}}},
	{"no order at all, although the areas are right", 7, 2, [][]int{}},
	{"the perfect rectangle", 33, 32, [][]int{
		{9, 10, 14, 8, 1, 7, 4, 18, 15},
		{14, 10, 9, 1, 8, 4, 7, 18, 15},
		{15, 18, 8, 7, 4, 14, 1, 10, 9},
		{18, 15, 7, 8, 14, 4, 10, 1, 9},
	}},
}

// TestSquaredOrders goes through all orders of the sides.
func TestSquaredOrders(t *testing.T) {
	for _, c := range squaredOrders {
		sides := []int{3, 2, 1}
		if len(c.orders) > 0 {
			sides = c.orders[0]
		}
		var accepted [][]int
		eachOrder(sides, func(l []int) {
			if impl.IsSquared(c.w, c.h, l) {
				accepted = append(accepted, l)
			}
		})
		slices.SortFunc(accepted, slices.Compare[[]int])
		accepted = slices.CompactFunc(accepted, slices.Equal[[]int])
		if !sameLists(accepted, c.orders) {
			t.Errorf("%s: %d, %d is filled by %v, want %v", c.name, c.w, c.h, accepted, c.orders)
		}
	}
}

func TestIsPerfect(t *testing.T) {
	for _, c := range squaredRectangles {
		different := map[int]bool{}
		for _, side := range c.sides {
			different[side] = true
		}
		if got := impl.IsPerfect(c.w, c.h, c.sides); got != (len(different) == len(c.sides)) {
			t.Errorf("%s: IsPerfect(%d, %d, %v) = %v", c.name, c.w, c.h, c.sides, got)
		}
	}
	for _, c := range []struct {
		w, h  int
		sides []int
		want  bool
	}{
		{33, 32, []int{18, 15, 7, 8, 14, 4, 10, 1, 9}, true},
		{33, 32, []int{14, 10, 9, 1, 8, 4, 7, 18, 15}, true},
		{32, 33, []int{18, 14, 4, 10, 15, 7, 1, 9, 8}, true},
		{1, 1, []int{1}, true},
		{40, 40, []int{40}, true},
		{3, 2, []int{2, 1, 1}, false},
		{13, 11, []int{6, 7, 5, 1, 4, 4}, false},
		{2, 1, []int{1, 1}, false},
		{40, 1, ones(40), false},
		// Different sides that do not fill it.
		{33, 32, []int{18, 15, 7, 8, 14, 4, 10, 9, 1}, false},
		{33, 32, []int{18, 15, 7, 8, 14, 4, 10, 1}, false},
		{33, 32, []int{18, 15, 7, 8, 14, 4, 10, 1, 9, 2}, false},
		{32, 33, []int{18, 15, 7, 8, 14, 4, 10, 1, 9}, false},
		{33, 33, []int{18, 15, 7, 8, 14, 4, 10, 1, 9}, false},
		{3, 2, []int{2, 1}, false},
		{1, 1, nil, false},
		{0, 0, nil, false},
		{0, 0, []int{0}, false},
		{41, 41, []int{41}, false},
		{-1, -1, []int{-1}, false},
	} {
		if got := impl.IsPerfect(c.w, c.h, c.sides); got != c.want {
			t.Errorf("IsPerfect(%d, %d, %v) = %v", c.w, c.h, c.sides, got)
		}
	}
}
