package tests

import (
	"math"
	"slices"
	"testing"

	"loop.example/g03208/impl"
)

// stepPieces are the pieces of rectangles that are cut by steps, and the upper one after the move.
var stepPieces = []struct {
	n, a, b             int
	lower, upper, moved []impl.Point
}{
	{1, 1, 1,
		xy(0, 0, 1, 0, 1, 1, 0, 1),
		xy(0, 1, 1, 1, 1, 2, 0, 2),
		xy(1, 0, 2, 0, 2, 1, 1, 1)},
	{1, 3, 2,
		xy(0, 0, 3, 0, 3, 2, 0, 2),
		xy(0, 2, 3, 2, 3, 4, 0, 4),
		xy(3, 0, 6, 0, 6, 2, 3, 2)},
	{1, 10, 10,
		xy(0, 0, 10, 0, 10, 10, 0, 10),
		xy(0, 10, 10, 10, 10, 20, 0, 20),
		xy(10, 0, 20, 0, 20, 10, 10, 10)},
	{2, 1, 1,
		xy(0, 0, 2, 0, 2, 1, 1, 1, 1, 2, 0, 2),
		xy(0, 2, 1, 2, 1, 1, 2, 1, 2, 3, 0, 3),
		xy(1, 1, 2, 1, 2, 0, 3, 0, 3, 2, 1, 2)},
	{2, 2, 1,
		xy(0, 0, 4, 0, 4, 1, 2, 1, 2, 2, 0, 2),
		xy(0, 2, 2, 2, 2, 1, 4, 1, 4, 3, 0, 3),
		xy(2, 1, 4, 1, 4, 0, 6, 0, 6, 2, 2, 2)},
	{2, 2, 3,
		xy(0, 0, 4, 0, 4, 3, 2, 3, 2, 6, 0, 6),
		xy(0, 6, 2, 6, 2, 3, 4, 3, 4, 9, 0, 9),
		xy(2, 3, 4, 3, 4, 0, 6, 0, 6, 6, 2, 6)},
	{2, 10, 10,
		xy(0, 0, 20, 0, 20, 10, 10, 10, 10, 20, 0, 20),
		xy(0, 20, 10, 20, 10, 10, 20, 10, 20, 30, 0, 30),
		xy(10, 10, 20, 10, 20, 0, 30, 0, 30, 20, 10, 20)},
	{3, 1, 1,
		xy(0, 0, 3, 0, 3, 1, 2, 1, 2, 2, 1, 2, 1, 3, 0, 3),
		xy(0, 3, 1, 3, 1, 2, 2, 2, 2, 1, 3, 1, 3, 4, 0, 4),
		xy(1, 2, 2, 2, 2, 1, 3, 1, 3, 0, 4, 0, 4, 3, 1, 3)},
	{3, 2, 5,
		xy(0, 0, 6, 0, 6, 5, 4, 5, 4, 10, 2, 10, 2, 15, 0, 15),
		xy(0, 15, 2, 15, 2, 10, 4, 10, 4, 5, 6, 5, 6, 20, 0, 20),
		xy(2, 10, 4, 10, 4, 5, 6, 5, 6, 0, 8, 0, 8, 15, 2, 15)},
	{3, 9, 9,
		xy(0, 0, 27, 0, 27, 9, 18, 9, 18, 18, 9, 18, 9, 27, 0, 27),
		xy(0, 27, 9, 27, 9, 18, 18, 18, 18, 9, 27, 9, 27, 36, 0, 36),
		xy(9, 18, 18, 18, 18, 9, 27, 9, 27, 0, 36, 0, 36, 27, 9, 27)},
	{3, 10, 1,
		xy(0, 0, 30, 0, 30, 1, 20, 1, 20, 2, 10, 2, 10, 3, 0, 3),
		xy(0, 3, 10, 3, 10, 2, 20, 2, 20, 1, 30, 1, 30, 4, 0, 4),
		xy(10, 2, 20, 2, 20, 1, 30, 1, 30, 0, 40, 0, 40, 3, 10, 3)},
	{3, 1, 10,
		xy(0, 0, 3, 0, 3, 10, 2, 10, 2, 20, 1, 20, 1, 30, 0, 30),
		xy(0, 30, 1, 30, 1, 20, 2, 20, 2, 10, 3, 10, 3, 40, 0, 40),
		xy(1, 20, 2, 20, 2, 10, 3, 10, 3, 0, 4, 0, 4, 30, 1, 30)},
	{3, 10, 10,
		xy(0, 0, 30, 0, 30, 10, 20, 10, 20, 20, 10, 20, 10, 30, 0, 30),
		xy(0, 30, 10, 30, 10, 20, 20, 20, 20, 10, 30, 10, 30, 40, 0, 40),
		xy(10, 20, 20, 20, 20, 10, 30, 10, 30, 0, 40, 0, 40, 30, 10, 30)},
}

// noStepCounts and noStepSides are numbers that no steps have, among them some that would be one if only their last bits or their magnitudes counted.
var (
	noStepCounts = []int{0, 4, 5, 6, 7, 10, 40, -1, -2, -3, -4, 255, 256, 257, 1 << 31, 1 << 32, 1<<32 + 1, 1<<32 + 3, 1<<62 + 1, -1 << 31, -1 << 32, -1<<62 + 1, math.MinInt, math.MinInt + 1, math.MinInt + 2, math.MaxInt - 1, math.MaxInt}
	noStepSides  = []int{0, 11, 12, 13, 20, 39, 40, 41, -1, -2, -10, -11, 255, 256, 257, 1 << 31, 1 << 32, 1<<32 + 1, 1<<32 + 10, 1<<62 + 1, -1 << 31, -1 << 32, -1<<62 + 1, math.MinInt, math.MinInt + 1, math.MinInt + 5, math.MaxInt - 1, math.MaxInt}
)

// eachSteps calls do with all steps.
func eachSteps(do func(n, a, b int)) {
	for n := 1; n <= 3; n++ {
		for a := 1; a <= 10; a++ {
			for b := 1; b <= 10; b++ {
				do(n, a, b)
			}
		}
	}
}

// eachNoSteps calls do with numbers of which one, two or all are none of steps.
func eachNoSteps(do func(n, a, b int)) {
	counts, sides := append([]int{1, 2, 3}, noStepCounts...), append([]int{1, 2, 5, 9, 10}, noStepSides...)
	for i, n := range counts {
		for j, a := range sides {
			for k, b := range sides {
				if i >= 3 || j >= 5 || k >= 5 {
					do(n, a, b)
				}
			}
		}
	}
}

func TestStepsOk(t *testing.T) {
	eachSteps(func(n, a, b int) {
		if !impl.StepsOk(n, a, b) {
			t.Errorf("StepsOk(%d, %d, %d) = false", n, a, b)
		}
	})
	eachNoSteps(func(n, a, b int) {
		if impl.StepsOk(n, a, b) {
			t.Errorf("StepsOk(%d, %d, %d) = true", n, a, b)
		}
	})
}

// TestCoordinatesOfSteps has the greatest coordinate of both pieces and of the moved one at MaxCoord, at the next lesser one, and never above, so that it rules out no steps.
func TestCoordinatesOfSteps(t *testing.T) {
	counts := map[int]int{}
	eachSteps(func(n, a, b int) {
		greatest := 0
		for _, p := range [][]impl.Point{impl.LowerPiece(n, a, b), impl.UpperPiece(n, a, b), impl.MovedUpper(n, a, b)} {
			for _, c := range p {
				greatest = max(greatest, c.X, c.Y)
			}
		}
		if want := max((n+1)*a, (n+1)*b); greatest != want {
			t.Errorf("the greatest coordinate for %d, %d, %d is %d, want %d", n, a, b, greatest, want)
		}
		counts[greatest]++
	})
	if counts[impl.MaxCoord] != 19 || counts[impl.MaxCoord-4] != 17 || counts[impl.MaxCoord-1] != 0 || counts[impl.MaxCoord+1] != 0 {
		t.Errorf("the steps with each greatest coordinate are so many: %v", counts)
	}
}

func TestPiecesOfSteps(t *testing.T) {
	for _, c := range stepPieces {
		if got := impl.LowerPiece(c.n, c.a, c.b); !slices.Equal(got, c.lower) {
			t.Errorf("LowerPiece(%d, %d, %d) = %v, want %v", c.n, c.a, c.b, got, c.lower)
		}
		if got := impl.UpperPiece(c.n, c.a, c.b); !slices.Equal(got, c.upper) {
			t.Errorf("UpperPiece(%d, %d, %d) = %v, want %v", c.n, c.a, c.b, got, c.upper)
		}
		if got := impl.MovedUpper(c.n, c.a, c.b); !slices.Equal(got, c.moved) {
			t.Errorf("MovedUpper(%d, %d, %d) = %v, want %v", c.n, c.a, c.b, got, c.moved)
		}
	}
}

func TestPiecesOfNoSteps(t *testing.T) {
	eachNoSteps(func(n, a, b int) {
		if got := impl.LowerPiece(n, a, b); len(got) != 0 {
			t.Errorf("LowerPiece(%d, %d, %d) = %v, want none", n, a, b, got)
		}
		if got := impl.UpperPiece(n, a, b); len(got) != 0 {
			t.Errorf("UpperPiece(%d, %d, %d) = %v, want none", n, a, b, got)
		}
		if got := impl.MovedUpper(n, a, b); len(got) != 0 {
			t.Errorf("MovedUpper(%d, %d, %d) = %v, want none", n, a, b, got)
		}
	})
}

// noRectangleSides are sides that no rectangle has.
var noRectangleSides = append([]int{0}, badNumbers...)

func TestRectangleOf(t *testing.T) {
	for w := 1; w <= 40; w++ {
		for h := 1; h <= 40; h++ {
			if got, want := impl.RectangleOf(w, h), xy(0, 0, w, 0, w, h, 0, h); !slices.Equal(got, want) {
				t.Errorf("RectangleOf(%d, %d) = %v, want %v", w, h, got, want)
			}
		}
	}
	for _, bad := range noRectangleSides {
		for _, side := range append([]int{1, 2, 6, 39, 40}, noRectangleSides...) {
			if got, other := impl.RectangleOf(bad, side), impl.RectangleOf(side, bad); len(got) != 0 || len(other) != 0 {
				t.Errorf("RectangleOf of %d and %d is %v and %v, want none", bad, side, got, other)
			}
		}
	}
}

// likeRectangles are lists that are the same polygon as the rectangle w, h, in all orders of their corners.
var likeRectangles = []struct {
	name string
	w, h int
	p    []impl.Point
}{
	{"a rectangle", 4, 6, xy(0, 0, 4, 0, 4, 6, 0, 6)},
	{"the least one", 1, 1, xy(0, 0, 1, 0, 1, 1, 0, 1)},
	{"the greatest one", 40, 40, xy(0, 0, 40, 0, 40, 40, 0, 40)},
	{"the widest one", 40, 1, xy(0, 0, 40, 0, 40, 1, 0, 1)},
	{"the highest one", 1, 40, xy(0, 0, 1, 0, 1, 40, 0, 40)},
	{"a point on a side", 4, 6, xy(0, 0, 1, 0, 4, 0, 4, 6, 0, 6)},
	{"a point on each side", 4, 6, xy(0, 0, 2, 0, 4, 0, 4, 3, 4, 6, 1, 6, 0, 6, 0, 5)},
	{"MaxCorners corners", 4, 6, xy(0, 0, 1, 0, 2, 0, 3, 0, 4, 0, 4, 1, 4, 6, 2, 6, 0, 6, 0, 1)},
	{"MaxCorners corners, all but the others on one side", 7, 2, xy(0, 0, 1, 0, 2, 0, 3, 0, 4, 0, 5, 0, 6, 0, 7, 0, 7, 2, 0, 2)},
	{"points next to the corners of the greatest one", 40, 40, xy(0, 0, 1, 0, 40, 0, 40, 39, 40, 40, 0, 40, 0, 39)},
}

// unlikeRectangles are polygons that are not the rectangle w, h.
var unlikeRectangles = []struct {
	name string
	w, h int
	p    []impl.Point
}{
	{"moved to the right", 4, 6, xy(1, 0, 5, 0, 5, 6, 1, 6)},
	{"moved up", 4, 6, xy(0, 1, 4, 1, 4, 7, 0, 7)},
	{"moved into the opposite corner", 4, 6, xy(36, 34, 40, 34, 40, 40, 36, 40)},
	{"a square that is moved", 5, 5, xy(1, 1, 6, 1, 6, 6, 1, 6)},
	{"turned", 4, 6, xy(0, 0, 6, 0, 6, 4, 0, 4)},
	{"the widest one, turned", 40, 1, xy(0, 0, 1, 0, 1, 40, 0, 40)},
	{"wider", 4, 6, xy(0, 0, 5, 0, 5, 6, 0, 6)},
	{"narrower", 4, 6, xy(0, 0, 3, 0, 3, 6, 0, 6)},
	{"higher", 4, 6, xy(0, 0, 4, 0, 4, 7, 0, 7)},
	{"lower", 4, 6, xy(0, 0, 4, 0, 4, 5, 0, 5)},
	{"another rectangle of the same area", 4, 6, xy(0, 0, 3, 0, 3, 8, 0, 8)},
	{"a wider one of the same area", 4, 6, xy(0, 0, 12, 0, 12, 2, 0, 2)},
	{"another rectangle with the same rim", 4, 6, xy(0, 0, 5, 0, 5, 5, 0, 5)},
	{"slanted, of the same area", 4, 6, xy(0, 0, 4, 0, 6, 6, 2, 6)},
	{"a triangle of the same area", 4, 6, xy(0, 0, 8, 0, 8, 6)},
	{"six corners and the same area", 4, 6, xy(0, 0, 5, 0, 5, 4, 4, 4, 4, 5, 0, 5)},
	{"a triangle with the same box", 4, 6, xy(0, 0, 4, 0, 4, 6)},
	{"a corner less", 4, 6, xy(0, 0, 4, 0, 4, 6, 1, 6, 0, 5)},
	{"a notch", 4, 6, xy(0, 0, 4, 0, 4, 6, 3, 6, 2, 5, 1, 6, 0, 6)},
	{"a straight corner that is pushed in", 4, 6, xy(0, 0, 2, 1, 4, 0, 4, 6, 0, 6)},
	{"a straight corner that is pulled out", 4, 6, xy(0, 0, 4, 0, 5, 3, 4, 6, 0, 6)},
	{"the same corners in another order", 4, 6, xy(0, 0, 4, 0, 0, 6, 2, 2)},
	{"standing on a corner", 2, 2, xy(1, 0, 2, 1, 1, 2, 0, 1)},
	{"a square of the same area, standing on a corner", 4, 2, xy(2, 0, 4, 2, 2, 4, 0, 2)},
}

func TestSameRectangle(t *testing.T) {
	for _, c := range likeRectangles {
		inEveryOrder(c.p, func(p []impl.Point) {
			if !impl.SameRectangle(p, c.w, c.h) {
				t.Errorf("%s: SameRectangle(%v, %d, %d) = false", c.name, p, c.w, c.h)
			}
			if impl.SameRectangle(p, c.h, c.w) != (c.w == c.h) {
				t.Errorf("%s: SameRectangle(%v, %d, %d) = %v", c.name, p, c.h, c.w, c.w != c.h)
			}
			for _, bad := range noRectangleSides {
				if impl.SameRectangle(p, c.w, bad) || impl.SameRectangle(p, bad, c.h) || impl.SameRectangle(p, bad, bad) {
					t.Errorf("%s: SameRectangle(%v, ..) of %d, %d with %d in place of one of them or both is true", c.name, p, c.w, c.h, bad)
				}
			}
		})
	}
	for _, c := range unlikeRectangles {
		inEveryOrder(c.p, func(p []impl.Point) {
			if impl.SameRectangle(p, c.w, c.h) {
				t.Errorf("%s: SameRectangle(%v, %d, %d) = true", c.name, p, c.w, c.h)
			}
		})
	}
}

// TestSameRectangleRefuses has lists that are no polygons, with sides of rectangles and with other numbers: two lists without corners are not the same polygon.
func TestSameRectangleRefuses(t *testing.T) {
	eachNoPolygon(func(name string, p []impl.Point) {
		for _, s := range [][2]int{{6, 4}, {4, 4}, {1, 1}, {40, 40}, {0, 0}, {41, 41}, {-1, 5}, {math.MinInt, math.MaxInt}} {
			if impl.SameRectangle(p, s[0], s[1]) {
				t.Errorf("%s: SameRectangle(%v, %d, %d) = true", name, p, s[0], s[1])
			}
		}
	})
	for _, p := range [][]impl.Point{
		nil, {}, xy(0, 0), xy(0, 0, 4, 6), xy(0, 0, 4, 0, 4, 6, 0, 6, 0, 0), xy(0, 0, 4, 0, 4, 0, 4, 6, 0, 6), xy(0, 0, 4, 6, 4, 0, 0, 6),
		xy(0, 0, 5, 0, 4, 0, 4, 6, 0, 6), xy(0, 0, 1, 0, 2, 0, 3, 0, 4, 0, 4, 1, 4, 2, 4, 6, 2, 6, 0, 6, 0, 1),
	} {
		if impl.SameRectangle(p, 4, 6) {
			t.Errorf("SameRectangle(%v, 4, 6) = true", p)
		}
	}
	for _, bad := range noRectangleSides {
		for _, side := range []int{1, 4, 40, bad} {
			if impl.SameRectangle(xy(0, 0, bad, 0, bad, side, 0, side), bad, side) || impl.SameRectangle(xy(0, 0, side, 0, side, bad, 0, bad), side, bad) {
				t.Errorf("SameRectangle is true for the corners of a rectangle with the sides %d and %d", bad, side)
			}
		}
	}
}
