package tests

import (
	"math"
	"testing"

	"loop.example/g03208/impl"
)

// stepsBetween are pairs of rectangles and the numbers of the steps that lead from the first to the second one.
var stepsBetween = []struct {
	name                string
	w, h, v, u, n, a, b int
}{
	{"the given ones", 4, 9, 6, 6, 2, 2, 3},
	{"the least ones, one step", 1, 2, 2, 1, 1, 1, 1},
	{"the least ones, two steps", 2, 3, 3, 2, 2, 1, 1},
	{"the least ones, three steps", 3, 4, 4, 3, 3, 1, 1},
	{"the greatest ones, one step", 10, 20, 20, 10, 1, 10, 10},
	{"the greatest ones, two steps", 20, 30, 30, 20, 2, 10, 10},
	{"the greatest ones, three steps", 30, 40, 40, 30, 3, 10, 10},
	{"narrow and high", 1, 20, 2, 10, 1, 1, 10},
	{"wide and low", 10, 2, 20, 1, 1, 10, 1},
	{"from the highest one", 3, 40, 4, 30, 3, 1, 10},
	{"to the widest one", 30, 4, 40, 3, 3, 10, 1},
	{"from a square", 2, 2, 4, 1, 1, 2, 1},
	{"from a square, two steps", 6, 6, 9, 4, 2, 3, 2},
	{"from a square, three steps", 12, 12, 16, 9, 3, 4, 3},
	{"to a square", 5, 20, 10, 10, 1, 5, 10},
	{"to a square, two steps", 12, 27, 18, 18, 2, 6, 9},
	{"to a square, three steps", 9, 16, 12, 12, 3, 3, 4},
	{"a width with two steps or three", 6, 12, 8, 9, 3, 2, 3},
	{"a width with one step, too", 6, 12, 9, 8, 2, 3, 4},
	{"a width with one step", 6, 12, 12, 6, 1, 6, 6},
}

func TestStepsBetween(t *testing.T) {
	for _, c := range stepsBetween {
		n, a, b, ok := impl.StepsBetween(c.w, c.h, c.v, c.u)
		if n != c.n || a != c.a || b != c.b || !ok {
			t.Errorf("%s: StepsBetween(%d, %d, %d, %d) = %d, %d, %d, %v, want %d, %d, %d", c.name, c.w, c.h, c.v, c.u, n, a, b, ok, c.n, c.a, c.b)
		}
		// They lead there only.
		checkNoStepsBetween(t, c.name+", back", c.v, c.u, c.w, c.h)
		checkNoStepsBetween(t, c.name+", turned", c.h, c.w, c.u, c.v)
		checkNoStepsBetween(t, c.name+", to itself", c.w, c.h, c.w, c.h)
		numbers := [4]int{c.w, c.h, c.v, c.u}
		for i := range numbers {
			for _, more := range []int{1, -1, 2, -2, 40, 256, 1 << 31, 1 << 32, -1 << 32, 1 << 62, math.MinInt} {
				other := numbers
				other[i] += more
				checkNoStepsBetween(t, c.name+", with another number", other[0], other[1], other[2], other[3])
			}
			other := numbers
			other[i] = -other[i]
			checkNoStepsBetween(t, c.name+", with a negative number", other[0], other[1], other[2], other[3])
		}
		checkNoStepsBetween(t, c.name+", negative", -c.w, -c.h, -c.v, -c.u)
	}
}

func checkNoStepsBetween(t *testing.T, name string, w, h, v, u int) {
	t.Helper()
	if n, a, b, ok := impl.StepsBetween(w, h, v, u); n != 0 || a != 0 || b != 0 || ok {
		t.Errorf("%s: StepsBetween(%d, %d, %d, %d) = %d, %d, %d, %v, want none", name, w, h, v, u, n, a, b, ok)
	}
}

// noStepsBetween are numbers between which no steps lead.
var noStepsBetween = []struct {
	name       string
	w, h, v, u int
}{
	{"only turned", 4, 9, 9, 4},
	{"only back", 6, 6, 4, 9},
	{"a rectangle and itself", 4, 9, 4, 9},
	{"a square and itself", 6, 6, 6, 6},
	{"over another one", 1, 16, 4, 4},
	{"the same area", 2, 18, 6, 6},
	{"a greater area", 4, 9, 6, 7},
	{"a lesser area", 4, 9, 6, 5},
	{"half the height", 2, 4, 2, 2},
	{"twice the width", 2, 4, 4, 4},
	{"the right heights, not the right widths", 2, 6, 4, 4},
	{"the right widths, not the right heights", 4, 6, 6, 6},
	{"a half as the height of a step", 4, 4, 6, 3},
	{"four steps", 4, 5, 5, 4},
	{"four steps to a square", 16, 25, 20, 20},
	{"five steps", 5, 6, 6, 5},
	{"zero steps", 0, 1, 1, 0},
	{"minus one step", -1, 0, 0, -1},
	{"minus two steps", -2, -1, -1, -2},
	{"steps that are too wide", 11, 2, 22, 1},
	{"two steps that are too wide", 22, 3, 33, 2},
	{"steps that are too high", 1, 22, 2, 11},
	{"two steps that are too high", 2, 33, 3, 22},
	{"steps that are too high, with sides up to MaxCoord", 8, 32, 16, 16},
	{"the highest one, too high a step", 10, 40, 20, 20},
	{"one more than MaxCoord", 3, 44, 4, 33},
	{"one more than MaxCoord wide", 33, 4, 44, 3},
	{"nothing", 0, 0, 0, 0},
	{"steps of no width", 0, 4, 0, 2},
	{"steps of no height", 4, 0, 8, 0},
	{"negative widths", -4, 9, -6, 6},
	{"negative heights", 4, -9, 6, -6},
	{"all negative", -4, -9, -6, -6},
	{"twice the width wraps around", 1 << 62, 2, math.MinInt, 1},
	{"twice the height wraps around", 1, math.MinInt, 2, 1 << 62},
	{"four times the width wraps around", 3 << 61, 4, math.MinInt, 3},
	{"four times a width is 0", -1 << 62, 4, 0, 3},
	{"the least ints", math.MinInt, math.MinInt, math.MinInt, math.MinInt},
	{"the greatest ints", math.MaxInt, math.MaxInt, math.MaxInt, math.MaxInt},
	{"the least and the greatest int", math.MinInt, math.MaxInt, math.MaxInt, math.MinInt},
}

func TestNoStepsBetween(t *testing.T) {
	for _, c := range noStepsBetween {
		checkNoStepsBetween(t, c.name, c.w, c.h, c.v, c.u)
	}
}

// TestNoStepsBetweenBadSides has a bad side in each place, with sides of rectangles or with bad ones in the others.
func TestNoStepsBetweenBadSides(t *testing.T) {
	for _, bad := range noRectangleSides {
		for _, other := range noRectangleSides {
			for _, fine := range [][4]int{{4, 9, 6, 6}, {1, 2, 2, 1}, {30, 40, 40, 30}, {other, other, other, other}, {other, 2 * other, 2 * other, other}} {
				for i := range fine {
					l := fine
					l[i] = bad
					checkNoStepsBetween(t, "a bad side", l[0], l[1], l[2], l[3])
				}
			}
		}
	}
}

// stepChains are rectangles, squares and how many times steps have to be applied.
var stepChains = []struct {
	name            string
	w, h, square, n int
}{
	{"the least square", 1, 1, 1, 0},
	{"a square", 6, 6, 6, 0},
	{"a square to which no other ones lead", 37, 37, 37, 0},
	{"the greatest square", 40, 40, 40, 0},
	{"one step", 1, 4, 2, 1},
	{"one step with the greatest height", 5, 20, 10, 1},
	{"two steps", 4, 9, 6, 1},
	{"three steps", 9, 16, 12, 1},
	{"three steps with the greatest area", 18, 32, 24, 1},
	{"one step back", 4, 1, 2, 1},
	{"two steps back", 9, 4, 6, 1},
	{"three steps back", 16, 9, 12, 1},
	{"three steps back with the greatest area", 32, 18, 24, 1},
	{"twice one step", 1, 16, 4, 2},
	{"one step and two steps", 2, 18, 6, 2},
	{"two steps and three steps", 6, 24, 12, 2},
	{"three steps and two steps", 9, 36, 18, 2},
	{"twice one step back", 16, 1, 4, 2},
	{"two steps and one step back", 18, 2, 6, 2},
	{"three steps and two steps back", 24, 6, 12, 2},
	{"two steps and three steps back", 36, 9, 18, 2},
	{"an odd side", 1, 9, 3, -1},
	{"an odd side, wide", 9, 1, 3, -1},
	{"steps lead elsewhere only", 1, 36, 6, -1},
	{"four steps", 16, 25, 20, -1},
	{"only over a side above MaxCoord", 36, 1, 6, -1},
	{"only by steps that are too high", 8, 32, 16, -1},
	{"only by steps that are too wide", 32, 8, 16, -1},
	{"the highest one", 10, 40, 20, -1},
	{"the widest one", 40, 10, 20, -1},
	{"another area", 3, 3, 2, -1},
	{"another area, next to the square's", 4, 9, 7, -1},
	{"another square", 6, 6, 5, -1},
	{"half the area of the square", 3, 6, 6, -1},
	{"twice the area of the square", 6, 12, 6, -1},
	{"the square's side as the width", 6, 4, 6, -1},
	{"the greatest area", 40, 40, 39, -1},
	{"no square has this area", 2, 3, 2, -1},
	{"one more than MaxCoord", 41, 41, 41, -1},
	{"a height above MaxCoord", 1, 49, 7, -1},
	{"a width above MaxCoord", 81, 1, 9, -1},
	{"one step from above MaxCoord", 21, 84, 42, -1},
	{"nothing", 0, 0, 0, -1},
	{"no width", 0, 9, 0, -1},
	{"a negative square", 6, 6, -6, -1},
	{"a negative rectangle", -6, -6, 6, -1},
	{"all negative", -6, -6, -6, -1},
	{"one step, negative", -1, -4, 2, -1},
	{"an area that wraps around to 0", 1 << 32, 1 << 32, 1 << 32, -1},
	{"an area that wraps around to that of the square", 1<<62 + 1, 4, 2, -1},
	{"a square whose area wraps around", 4, 9, 1<<63 - 6, -1},
}

func TestChainOfSteps(t *testing.T) {
	for _, c := range stepChains {
		if got := impl.ChainOfSteps(c.w, c.h, c.square); got != c.n {
			t.Errorf("%s: ChainOfSteps(%d, %d, %d) = %d, want %d", c.name, c.w, c.h, c.square, got, c.n)
		}
	}
}

func TestChainOfStepsRefuses(t *testing.T) {
	for _, bad := range noRectangleSides {
		for _, other := range append([]int{1, 2, 6, 40}, noRectangleSides...) {
			for _, l := range [][3]int{{bad, other, other}, {other, bad, other}, {other, other, bad}, {bad, bad, other}, {bad, other, bad}, {other, bad, bad}} {
				if got := impl.ChainOfSteps(l[0], l[1], l[2]); got != -1 {
					t.Errorf("ChainOfSteps(%d, %d, %d) = %d, want -1", l[0], l[1], l[2], got)
				}
			}
		}
	}
}
