package tests

import (
	"math"
	"slices"
	"testing"

	"loop.example/g03208/impl"
)

// pt returns a point.
func pt(x, y int) impl.Point { return impl.Point{X: x, Y: y} }

// badNumbers are numbers that no valid point has.
var badNumbers = []int{-1, 41, -2, 42, -40, -41, 80, 255, 256, 1 << 31, 1 << 32, 1<<32 + 5, -1 << 31, -1 << 32, math.MinInt, math.MinInt + 1, math.MaxInt - 1, math.MaxInt}

// badPoints returns points of which one number or both are out of bounds.
func badPoints() []impl.Point {
	var points []impl.Point
	for _, n := range badNumbers {
		for _, fine := range []int{0, 5, 40} {
			points = append(points, pt(n, fine), pt(fine, n))
		}
		for _, m := range badNumbers {
			points = append(points, pt(n, m))
		}
	}
	return points
}

// eachWithBad calls do with lists of n points: valid ones, of which each in turn, or all, are replaced by a bad one.
func eachWithBad(n int, do func(l []impl.Point)) {
	fine := [][]impl.Point{
		{pt(0, 0), pt(6, 4), pt(3, 2), pt(9, 6)},
		{pt(40, 40), pt(0, 0), pt(40, 0), pt(0, 40)},
		{pt(5, 5), pt(5, 5), pt(5, 5), pt(5, 5)},
	}
	for _, bad := range badPoints() {
		for _, points := range fine {
			for i := range n {
				l := slices.Clone(points[:n])
				l[i] = bad
				do(l)
			}
		}
		do(slices.Repeat([]impl.Point{bad}, n))
	}
}

func TestConstantsOfPoints(t *testing.T) {
	if impl.MaxCoord != 40 || impl.MtNone != 0 || impl.MtTouch != 1 || impl.MtCross != 2 || impl.MtAlong != 3 {
		t.Error("the constants are not those of the specification")
	}
	// They are untyped: they fit other types of numbers, too.
	const _ uint8 = impl.MaxCoord + impl.MtNone + impl.MtTouch + impl.MtCross + impl.MtAlong
}

func TestPointOk(t *testing.T) {
	fine := []int{0, 1, 2, 5, 20, 38, 39, 40}
	for _, x := range fine {
		for _, y := range fine {
			if !impl.PointOk(pt(x, y)) {
				t.Errorf("PointOk(%d, %d) = false", x, y)
			}
		}
	}
	if !impl.PointOk(impl.Point{}) {
		t.Error("PointOk of the zero value = false")
	}
	for _, p := range badPoints() {
		if impl.PointOk(p) {
			t.Errorf("PointOk(%v) = true", p)
		}
	}
}

func TestCrossOfAndSideOf(t *testing.T) {
	cases := []struct {
		a, b, p impl.Point
		want    int
	}{
		{pt(0, 0), pt(6, 4), pt(0, 1), 6},
		{pt(0, 0), pt(6, 4), pt(6, 0), -24},
		{pt(0, 0), pt(1, 0), pt(0, 1), 1},
		{pt(0, 0), pt(0, 1), pt(1, 0), -1},
		{pt(2, 3), pt(7, 5), pt(4, 9), 26},
		{pt(7, 5), pt(2, 3), pt(4, 9), -26},
		// Vertical and horizontal lines, in both directions.
		{pt(5, 0), pt(5, 9), pt(4, 3), 9},
		{pt(5, 9), pt(5, 0), pt(4, 3), -9},
		{pt(0, 5), pt(9, 5), pt(3, 4), -9},
		{pt(9, 5), pt(0, 5), pt(3, 4), 9},
		// Three points on one line, between the two, beyond either, and far from them.
		{pt(0, 0), pt(6, 4), pt(3, 2), 0},
		{pt(0, 0), pt(6, 4), pt(9, 6), 0},
		{pt(9, 6), pt(6, 4), pt(0, 0), 0},
		{pt(5, 1), pt(5, 3), pt(5, 40), 0},
		{pt(1, 5), pt(3, 5), pt(40, 5), 0},
		{pt(40, 0), pt(39, 1), pt(0, 40), 0},
		// Close to a line, but not on it.
		{pt(0, 0), pt(40, 39), pt(20, 20), 20},
		{pt(0, 0), pt(40, 39), pt(39, 38), -1},
		{pt(0, 0), pt(40, 39), pt(1, 1), 1},
		// Equal points.
		{pt(3, 4), pt(3, 4), pt(9, 9), 0},
		{pt(3, 4), pt(9, 9), pt(3, 4), 0},
		{pt(9, 9), pt(3, 4), pt(3, 4), 0},
		{pt(3, 4), pt(3, 4), pt(3, 4), 0},
		{pt(0, 0), pt(0, 0), pt(40, 40), 0},
		// The greatest and the least.
		{pt(0, 0), pt(40, 0), pt(0, 40), 1600},
		{pt(0, 0), pt(0, 40), pt(40, 0), -1600},
		{pt(40, 0), pt(40, 40), pt(0, 40), 1600},
		{pt(0, 0), pt(40, 40), pt(0, 40), 1600},
	}
	for _, c := range cases {
		if got := impl.CrossOf(c.a, c.b, c.p); got != c.want {
			t.Errorf("CrossOf(%v, %v, %v) = %d, want %d", c.a, c.b, c.p, got, c.want)
		}
		side := 0
		if c.want > 0 {
			side = 1
		} else if c.want < 0 {
			side = -1
		}
		if got := impl.SideOf(c.a, c.b, c.p); got != side {
			t.Errorf("SideOf(%v, %v, %v) = %d, want %d", c.a, c.b, c.p, got, side)
		}
	}
	eachWithBad(3, func(l []impl.Point) {
		if got := impl.CrossOf(l[0], l[1], l[2]); got != 0 {
			t.Errorf("CrossOf(%v) = %d, want 0", l, got)
		}
		if got := impl.SideOf(l[0], l[1], l[2]); got != 0 {
			t.Errorf("SideOf(%v) = %d, want 0", l, got)
		}
	})
}

func TestSquareOfAndStepsOf(t *testing.T) {
	cases := []struct {
		a, b          impl.Point
		square, steps int
	}{
		{pt(0, 0), pt(6, 4), 52, 2},
		{pt(6, 4), pt(0, 0), 52, 2},
		{pt(0, 4), pt(6, 0), 52, 2},
		{pt(6, 0), pt(0, 4), 52, 2},
		{pt(1, 2), pt(4, 6), 25, 1},
		{pt(1, 1), pt(10, 7), 117, 3},
		// Vertical, horizontal, and along the diagonals.
		{pt(5, 0), pt(5, 9), 81, 9},
		{pt(5, 9), pt(5, 0), 81, 9},
		{pt(0, 5), pt(9, 5), 81, 9},
		{pt(9, 5), pt(0, 5), 81, 9},
		{pt(3, 3), pt(10, 10), 98, 7},
		{pt(3, 10), pt(10, 3), 98, 7},
		// Single steps.
		{pt(7, 7), pt(8, 7), 1, 1},
		{pt(7, 7), pt(7, 6), 1, 1},
		{pt(7, 7), pt(6, 6), 2, 1},
		{pt(0, 0), pt(40, 39), 3121, 1},
		{pt(40, 0), pt(0, 39), 3121, 1},
		// Equal points.
		{pt(0, 0), pt(0, 0), 0, 0},
		{pt(7, 3), pt(7, 3), 0, 0},
		{pt(40, 40), pt(40, 40), 0, 0},
		// The greatest.
		{pt(0, 0), pt(40, 40), 3200, 40},
		{pt(0, 40), pt(40, 0), 3200, 40},
		{pt(0, 40), pt(0, 0), 1600, 40},
		{pt(0, 0), pt(40, 30), 2500, 10},
	}
	for _, c := range cases {
		if got := impl.SquareOf(c.a, c.b); got != c.square {
			t.Errorf("SquareOf(%v, %v) = %d, want %d", c.a, c.b, got, c.square)
		}
		if got := impl.StepsOf(c.a, c.b); got != c.steps {
			t.Errorf("StepsOf(%v, %v) = %d, want %d", c.a, c.b, got, c.steps)
		}
	}
	eachWithBad(2, func(l []impl.Point) {
		if got := impl.SquareOf(l[0], l[1]); got != -1 {
			t.Errorf("SquareOf(%v) = %d, want -1", l, got)
		}
		if got := impl.StepsOf(l[0], l[1]); got != -1 {
			t.Errorf("StepsOf(%v) = %d, want -1", l, got)
		}
	})
}

func TestIsOn(t *testing.T) {
	cases := []struct {
		a, b, p impl.Point
		want    bool
	}{
		{pt(0, 0), pt(6, 4), pt(3, 2), true},
		{pt(6, 4), pt(0, 0), pt(3, 2), true},
		{pt(0, 4), pt(6, 0), pt(3, 2), true},
		{pt(6, 0), pt(0, 4), pt(3, 2), true},
		// The ends.
		{pt(0, 0), pt(6, 4), pt(0, 0), true},
		{pt(0, 0), pt(6, 4), pt(6, 4), true},
		{pt(40, 40), pt(0, 0), pt(40, 40), true},
		{pt(40, 40), pt(0, 0), pt(0, 0), true},
		// On the line, but not on the segment.
		{pt(0, 0), pt(6, 4), pt(9, 6), false},
		{pt(3, 2), pt(6, 4), pt(0, 0), false},
		{pt(6, 4), pt(3, 2), pt(9, 6), false},
		{pt(5, 2), pt(5, 6), pt(5, 1), false},
		{pt(5, 2), pt(5, 6), pt(5, 7), false},
		{pt(2, 5), pt(6, 5), pt(1, 5), false},
		{pt(2, 5), pt(6, 5), pt(7, 5), false},
		{pt(6, 2), pt(2, 6), pt(1, 7), false},
		{pt(6, 2), pt(2, 6), pt(7, 1), false},
		// In the box of the segment, but not on it.
		{pt(0, 0), pt(6, 4), pt(3, 3), false},
		{pt(0, 0), pt(6, 4), pt(3, 1), false},
		{pt(0, 0), pt(6, 4), pt(0, 4), false},
		{pt(0, 0), pt(40, 39), pt(20, 20), false},
		// Vertical and horizontal, in both directions.
		{pt(5, 2), pt(5, 6), pt(5, 4), true},
		{pt(5, 6), pt(5, 2), pt(5, 3), true},
		{pt(5, 2), pt(5, 6), pt(4, 4), false},
		{pt(5, 2), pt(5, 6), pt(6, 4), false},
		{pt(2, 5), pt(6, 5), pt(4, 5), true},
		{pt(6, 5), pt(2, 5), pt(3, 5), true},
		{pt(2, 5), pt(6, 5), pt(4, 4), false},
		{pt(2, 5), pt(6, 5), pt(4, 6), false},
		// Equal ends: the segment is that point.
		{pt(3, 4), pt(3, 4), pt(3, 4), true},
		{pt(3, 4), pt(3, 4), pt(3, 5), false},
		{pt(3, 4), pt(3, 4), pt(2, 4), false},
		{pt(3, 4), pt(3, 4), pt(6, 8), false},
		{pt(0, 0), pt(0, 0), pt(0, 0), true},
		{pt(0, 0), pt(0, 0), pt(40, 40), false},
	}
	for _, c := range cases {
		if got := impl.IsOn(c.a, c.b, c.p); got != c.want {
			t.Errorf("IsOn(%v, %v, %v) = %v", c.a, c.b, c.p, got)
		}
	}
	eachWithBad(3, func(l []impl.Point) {
		if impl.IsOn(l[0], l[1], l[2]) {
			t.Errorf("IsOn(%v) = true", l)
		}
	})
}

func TestPointsOn(t *testing.T) {
	cases := []struct {
		a, b impl.Point
		want []impl.Point
	}{
		{pt(0, 0), pt(6, 4), []impl.Point{pt(0, 0), pt(3, 2), pt(6, 4)}},
		{pt(6, 4), pt(0, 0), []impl.Point{pt(6, 4), pt(3, 2), pt(0, 0)}},
		{pt(0, 4), pt(6, 0), []impl.Point{pt(0, 4), pt(3, 2), pt(6, 0)}},
		{pt(6, 0), pt(0, 4), []impl.Point{pt(6, 0), pt(3, 2), pt(0, 4)}},
		{pt(5, 2), pt(5, 5), []impl.Point{pt(5, 2), pt(5, 3), pt(5, 4), pt(5, 5)}},
		{pt(5, 5), pt(5, 2), []impl.Point{pt(5, 5), pt(5, 4), pt(5, 3), pt(5, 2)}},
		{pt(38, 40), pt(40, 40), []impl.Point{pt(38, 40), pt(39, 40), pt(40, 40)}},
		{pt(2, 0), pt(0, 0), []impl.Point{pt(2, 0), pt(1, 0), pt(0, 0)}},
		{pt(0, 0), pt(40, 39), []impl.Point{pt(0, 0), pt(40, 39)}},
		{pt(40, 20), pt(0, 0), []impl.Point{pt(40, 20), pt(38, 19), pt(36, 18), pt(34, 17), pt(32, 16), pt(30, 15), pt(28, 14), pt(26, 13), pt(24, 12), pt(22, 11), pt(20, 10), pt(18, 9), pt(16, 8), pt(14, 7), pt(12, 6), pt(10, 5), pt(8, 4), pt(6, 3), pt(4, 2), pt(2, 1), pt(0, 0)}},
		{pt(7, 3), pt(7, 3), []impl.Point{pt(7, 3)}},
		{pt(0, 0), pt(0, 0), []impl.Point{pt(0, 0)}},
		{pt(40, 40), pt(40, 40), []impl.Point{pt(40, 40)}},
	}
	for _, c := range cases {
		if got := impl.PointsOn(c.a, c.b); !slices.Equal(got, c.want) {
			t.Errorf("PointsOn(%v, %v) = %v, want %v", c.a, c.b, got, c.want)
		}
	}
	eachWithBad(2, func(l []impl.Point) {
		if got := impl.PointsOn(l[0], l[1]); len(got) != 0 {
			t.Errorf("PointsOn(%v) = %v, want none", l, got)
		}
	})
}

func TestBeforePoint(t *testing.T) {
	// Each point is before those behind it, and before no other one.
	ordered := []impl.Point{
		pt(math.MinInt, math.MinInt), pt(math.MaxInt, math.MinInt), pt(0, -1), pt(40, -1),
		pt(math.MinInt, 0), pt(-1, 0), pt(0, 0), pt(1, 0), pt(5, 0), pt(40, 0), pt(41, 0), pt(math.MaxInt, 0),
		pt(0, 1), pt(1, 1), pt(40, 1), pt(0, 5), pt(5, 5), pt(6, 5), pt(0, 40), pt(40, 40),
		pt(0, 41), pt(-1, math.MaxInt), pt(math.MaxInt, math.MaxInt),
	}
	for i, a := range ordered {
		for j, b := range ordered {
			if got := impl.BeforePoint(a, b); got != (i < j) {
				t.Errorf("BeforePoint(%v, %v) = %v", a, b, got)
			}
		}
	}
}
