package tests

import (
	"math"
	"testing"

	"loop.example/g03208/impl"
)

// fewestSquares are rectangles with the least numbers of squares, found by hand.
var fewestSquares = []struct {
	name        string
	w, h, count int
}{
	{"the least square", 1, 1, 1},
	{"a square", 7, 7, 1},
	{"the greatest square", 30, 30, 1},
	{"two squares", 2, 1, 2},
	{"a multiple", 12, 4, 3},
	{"the widest one", 30, 1, 30},
	{"nearly the widest one", 29, 1, 29},
	{"a wide one", 30, 7, 9},
	{"a common divisor", 24, 16, 3},
	{"3 and 2", 3, 2, 3},
	{"4 and 3", 4, 3, 4},
	{"the given one", 5, 3, 4},
	{"5 and 4", 5, 4, 5},
	{"the other given one, where greedy cuts are not best", 6, 5, 5},
	{"where two rows of two and of three are best", 30, 25, 5},
	{"7 and 6, where a column of 4, 2 and 2 is best", 7, 6, 5},
	{"28 and 24, four times as great", 28, 24, 5},
	{"8 and 5", 8, 5, 5},
	{"21 and 13", 21, 13, 7},
	{"where six squares fill it, but not by cuts from edge to edge", 13, 11, 8},
	{"twice as great", 26, 22, 8},
}

// noFewestSides are sides of rectangles that are not counted.
var noFewestSides = []int{0, 31, -1, 32, -2, -5, -29, -30, -31, 40, 41, 60, 255, 256, 1000, 1001, 1 << 31, 1 << 32, 1<<32 + 5, -1 << 31, -1 << 32, math.MinInt, math.MinInt + 1, math.MaxInt - 1, math.MaxInt}

func TestFewestSquares(t *testing.T) {
	for _, c := range fewestSquares {
		if got := impl.FewestSquares(c.w, c.h); got != c.count {
			t.Errorf("%s: FewestSquares(%d, %d) = %d, want %d", c.name, c.w, c.h, got, c.count)
		}
		if got := impl.FewestSquares(c.h, c.w); got != c.count {
			t.Errorf("%s: FewestSquares(%d, %d) = %d, want %d", c.name, c.h, c.w, got, c.count)
		}
	}
}

func TestFewestSquaresRefuses(t *testing.T) {
	for _, bad := range noFewestSides {
		for _, side := range append([]int{1, 2, 5, 29, 30}, noFewestSides...) {
			if got, other := impl.FewestSquares(bad, side), impl.FewestSquares(side, bad); got != -1 || other != -1 {
				t.Errorf("FewestSquares of %d and %d is %d and %d, want -1", bad, side, got, other)
			}
		}
	}
}

// madeOf returns, for each number up to most, the rectangles with sides up to 30 that are made of so many squares by joining two whole rectangles again and again.
func madeOf(most int) [][31][31]bool {
	made := make([][31][31]bool, most+1)
	for side := 1; side <= 30; side++ {
		made[1][side][side] = true
	}
	for count := 2; count <= most; count++ {
		for first := 1; first <= count/2; first++ {
			joinRectangles(&made[first], &made[count-first], &made[count])
		}
	}
	return made
}

// joinRectangles adds the rectangles that are made of one of each of both kinds, beside or above each other.
func joinRectangles(first, second, joined *[31][31]bool) {
	for common := 1; common <= 30; common++ {
		for one := 1; one < 30; one++ {
			for other := 1; one+other <= 30; other++ {
				if first[one][common] && second[other][common] {
					joined[one+other][common] = true
				}
				if first[common][one] && second[common][other] {
					joined[common][one+other] = true
				}
			}
		}
	}
}

// TestFewestSquaresByJoins goes from squares to rectangles, not from rectangles to squares.
func TestFewestSquaresByJoins(t *testing.T) {
	made := madeOf(30)
	for w := 1; w <= 30; w++ {
		for h := 1; h <= 30; h++ {
			want := 1
			for !made[want][w][h] {
				want++
			}
			if got := impl.FewestSquares(w, h); got != want {
				t.Errorf("FewestSquares(%d, %d) = %d, want %d", w, h, got, want)
			}
		}
	}
}

// laidSquare is a square in a rectangle.
type laidSquare struct{ x, y, side int }

// fitsOver tells whether a square of this side can be laid from the column x on, all of whose columns have the height y, in a rectangle.
func fitsOver(heights []int, h, x, side int) bool {
	y := heights[x]
	if x+side > len(heights) || y+side > h {
		return false
	}
	for _, height := range heights[x : x+side] {
		if height != y {
			return false
		}
	}
	return true
}

// eachTiling calls do with all ways to fill a rectangle with squares, each laid where the least empty cell is.
func eachTiling(w, h int, do func(l []laidSquare)) {
	heights := make([]int, w)
	var list []laidSquare
	var fill func()
	fill = func() {
		x := 0
		for i, height := range heights {
			if height < heights[x] {
				x = i
			}
		}
		if heights[x] == h {
			do(list)
			return
		}
		for side := 1; fitsOver(heights, h, x, side); side++ {
			list = append(list, laidSquare{x, heights[x], side})
			for i := range side {
				heights[x+i] += side
			}
			fill()
			for i := range side {
				heights[x+i] -= side
			}
			list = list[:len(list)-1]
		}
	}
	fill()
}

// isCutFromEdgeToEdge tells whether squares that fill the rectangle from x, y to v, u come apart by such cuts alone.
func isCutFromEdgeToEdge(l []laidSquare, x, y, v, u int) bool {
	if len(l) == 1 {
		return true
	}
	for k := x + 1; k < v; k++ {
		if one, other, ok := apartAt(l, func(s laidSquare) (int, int) { return s.x, s.x + s.side }, k); ok {
			return isCutFromEdgeToEdge(one, x, y, k, u) && isCutFromEdgeToEdge(other, k, y, v, u)
		}
	}
	for k := y + 1; k < u; k++ {
		if one, other, ok := apartAt(l, func(s laidSquare) (int, int) { return s.y, s.y + s.side }, k); ok {
			return isCutFromEdgeToEdge(one, x, y, v, k) && isCutFromEdgeToEdge(other, x, k, v, u)
		}
	}
	return false
}

// apartAt parts squares that end at k or before it from those that begin there or behind it; false if one does neither.
func apartAt(l []laidSquare, ends func(s laidSquare) (int, int), k int) (one, other []laidSquare, ok bool) {
	for _, s := range l {
		from, to := ends(s)
		switch {
		case to <= k:
			one = append(one, s)
		case from >= k:
			other = append(other, s)
		default:
			return nil, nil, false
		}
	}
	return one, other, true
}

// TestFewestSquaresByTilings counts the squares of all ways to fill a small rectangle that come apart by cuts from edge to edge.
func TestFewestSquaresByTilings(t *testing.T) {
	for w := 1; w <= 7; w++ {
		for h := 1; h <= 6; h++ {
			fewest := w * h
			eachTiling(w, h, func(l []laidSquare) {
				if len(l) < fewest && isCutFromEdgeToEdge(l, 0, 0, w, h) {
					fewest = len(l)
				}
			})
			if got, other := impl.FewestSquares(w, h), impl.FewestSquares(h, w); got != fewest || other != fewest {
				t.Errorf("FewestSquares of %d and %d is %d and %d, want %d", w, h, got, other, fewest)
			}
		}
	}
}

// TestFewestSquaresIsBestByCuts has a rectangle that fewer squares fill, but not by cuts from edge to edge.
func TestFewestSquaresIsBestByCuts(t *testing.T) {
	sides := []int{6, 7, 5, 1, 4, 4}
	if !impl.IsSquared(13, 11, sides) || impl.FewestSquares(13, 11) <= len(sides) {
		t.Errorf("IsSquared(13, 11, %v) = %v, FewestSquares(13, 11) = %d", sides, impl.IsSquared(13, 11, sides), impl.FewestSquares(13, 11))
	}
	corners, _ := impl.CornersOf(13, 11, sides)
	if isCutFromEdgeToEdge(laidAt(corners, sides), 0, 0, 13, 11) {
		t.Errorf("the squares %v at %v come apart by cuts from edge to edge", sides, corners)
	}
}

// laidAt returns squares with their corners and sides.
func laidAt(corners []impl.Point, sides []int) []laidSquare {
	var l []laidSquare
	for i, c := range corners {
		l = append(l, laidSquare{c.X, c.Y, sides[i]})
	}
	return l
}

func TestFewestSquaresAgree(t *testing.T) {
	better := 0
	for w := 1; w <= 30; w++ {
		for h := 1; h <= 30; h++ {
			got, greedy := impl.FewestSquares(w, h), len(impl.GreedySquares(w, h))
			if got != impl.FewestSquares(h, w) {
				t.Errorf("FewestSquares(%d, %d) = %d, but %d in the other order", w, h, got, impl.FewestSquares(h, w))
			}
			if got < 1 || got > greedy || (got == 1) != (w == h) {
				t.Errorf("FewestSquares(%d, %d) = %d, greedy cuts give %d", w, h, got, greedy)
			}
			if got < greedy {
				better++
			}
			checkMultiples(t, w, h, got)
			checkJoinedRectangles(t, w, h, got)
		}
	}
	if better < 100 {
		t.Errorf("greedy cuts are not best for %d rectangles only", better)
	}
}

// checkMultiples fails unless greater rectangles of the same shape have no more squares.
func checkMultiples(t *testing.T, w, h, fewest int) {
	t.Helper()
	for times := 2; times*max(w, h) <= 30; times++ {
		if got := impl.FewestSquares(times*w, times*h); got < 1 || got > fewest {
			t.Errorf("FewestSquares(%d, %d) = %d, but %d for %d, %d", times*w, times*h, got, fewest, w, h)
		}
	}
}

// checkJoinedRectangles fails unless a rectangle with a square at a side of it has at most one square more.
func checkJoinedRectangles(t *testing.T, w, h, fewest int) {
	t.Helper()
	if w+h > 30 {
		return
	}
	if wide, high := impl.FewestSquares(w+h, h), impl.FewestSquares(w, w+h); wide > fewest+1 || high > fewest+1 {
		t.Errorf("FewestSquares(%d, %d) = %d and FewestSquares(%d, %d) = %d, but %d for %d, %d", w+h, h, wide, w, w+h, high, fewest, w, h)
	}
}
