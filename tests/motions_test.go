package tests

import (
	"math"
	"slices"
	"testing"

	"loop.example/g03208/impl"
)

// noMotions are numbers that no motion has, among them some that would be one if only their remainder or their last bits counted.
var noMotions = []int{-1, 8, -2, -3, -4, -5, -6, -7, -8, 9, 10, 12, 15, 16, 255, 256, 1 << 31, 1 << 32, 1<<32 + 1, 1<<32 + 4, -1 << 31, -1 << 32, math.MinInt, math.MinInt + 1, math.MaxInt - 1, math.MaxInt}

// moves are polygons and what each motion makes of them.
var moves = []struct {
	name  string
	p     []impl.Point
	moved [8][]impl.Point
}{
	{"triangle", xy(0, 0, 3, 0, 0, 1), [8][]impl.Point{
		xy(0, 0, 3, 0, 0, 1),
		xy(1, 0, 1, 3, 0, 0),
		xy(3, 1, 0, 1, 3, 0),
		xy(0, 3, 0, 0, 1, 3),
		xy(3, 0, 0, 0, 3, 1),
		xy(1, 3, 1, 0, 0, 3),
		xy(0, 1, 3, 1, 0, 0),
		xy(0, 0, 0, 3, 1, 0),
	}},
	{"triangle at the upper bounds, clockwise", xy(40, 40, 40, 39, 39, 40), [8][]impl.Point{
		xy(1, 1, 1, 0, 0, 1),
		xy(0, 1, 1, 1, 0, 0),
		xy(0, 0, 0, 1, 1, 0),
		xy(1, 0, 0, 0, 1, 1),
		xy(0, 1, 0, 0, 1, 1),
		xy(0, 0, 1, 0, 0, 1),
		xy(1, 0, 1, 1, 0, 0),
		xy(1, 1, 0, 1, 1, 0),
	}},
	{"triangle between the bounds", xy(0, 0, 40, 39, 1, 1), [8][]impl.Point{
		xy(0, 0, 40, 39, 1, 1),
		xy(39, 0, 0, 40, 38, 1),
		xy(40, 39, 0, 0, 39, 38),
		xy(0, 40, 39, 0, 1, 39),
		xy(40, 0, 0, 39, 39, 1),
		xy(39, 40, 0, 0, 38, 39),
		xy(0, 39, 40, 0, 1, 38),
		xy(0, 0, 39, 40, 1, 1),
	}},
	{"greatest square", xy(0, 0, 40, 0, 40, 40, 0, 40), [8][]impl.Point{
		xy(0, 0, 40, 0, 40, 40, 0, 40),
		xy(40, 0, 40, 40, 0, 40, 0, 0),
		xy(40, 40, 0, 40, 0, 0, 40, 0),
		xy(0, 40, 0, 0, 40, 0, 40, 40),
		xy(40, 0, 0, 0, 0, 40, 40, 40),
		xy(40, 40, 40, 0, 0, 0, 0, 40),
		xy(0, 40, 40, 40, 40, 0, 0, 0),
		xy(0, 0, 0, 40, 40, 40, 40, 0),
	}},
	{"straight corner, not at 0, 0", xy(2, 3, 4, 3, 7, 3, 2, 4), [8][]impl.Point{
		xy(0, 0, 2, 0, 5, 0, 0, 1),
		xy(1, 0, 1, 2, 1, 5, 0, 0),
		xy(5, 1, 3, 1, 0, 1, 5, 0),
		xy(0, 5, 0, 3, 0, 0, 1, 5),
		xy(5, 0, 3, 0, 0, 0, 5, 1),
		xy(1, 5, 1, 3, 1, 0, 0, 5),
		xy(0, 1, 2, 1, 5, 1, 0, 0),
		xy(0, 0, 0, 2, 0, 5, 1, 0),
	}},
	{"comb with MaxCorners corners", xy(0, 0, 8, 0, 8, 5, 7, 1, 6, 5, 5, 1, 4, 5, 3, 1, 2, 5, 0, 1), [8][]impl.Point{
		xy(0, 0, 8, 0, 8, 5, 7, 1, 6, 5, 5, 1, 4, 5, 3, 1, 2, 5, 0, 1),
		xy(5, 0, 5, 8, 0, 8, 4, 7, 0, 6, 4, 5, 0, 4, 4, 3, 0, 2, 4, 0),
		xy(8, 5, 0, 5, 0, 0, 1, 4, 2, 0, 3, 4, 4, 0, 5, 4, 6, 0, 8, 4),
		xy(0, 8, 0, 0, 5, 0, 1, 1, 5, 2, 1, 3, 5, 4, 1, 5, 5, 6, 1, 8),
		xy(8, 0, 0, 0, 0, 5, 1, 1, 2, 5, 3, 1, 4, 5, 5, 1, 6, 5, 8, 1),
		xy(5, 8, 5, 0, 0, 0, 4, 1, 0, 2, 4, 3, 0, 4, 4, 5, 0, 6, 4, 8),
		xy(0, 5, 8, 5, 8, 0, 7, 4, 6, 0, 5, 4, 4, 0, 3, 4, 2, 0, 0, 4),
		xy(0, 0, 0, 8, 5, 8, 1, 7, 5, 6, 1, 5, 5, 4, 1, 3, 5, 2, 1, 0),
	}},
	{"no corner at a corner of the box", xy(10, 5, 14, 8, 9, 9, 8, 7), [8][]impl.Point{
		xy(2, 0, 6, 3, 1, 4, 0, 2),
		xy(4, 2, 1, 6, 0, 1, 2, 0),
		xy(4, 4, 0, 1, 5, 0, 6, 2),
		xy(0, 4, 3, 0, 4, 5, 2, 6),
		xy(4, 0, 0, 3, 5, 4, 6, 2),
		xy(4, 4, 1, 0, 0, 5, 2, 6),
		xy(2, 4, 6, 1, 1, 0, 0, 2),
		xy(0, 2, 3, 6, 4, 1, 2, 0),
	}},
}

func TestMovePolygon(t *testing.T) {
	for _, c := range moves {
		for m, want := range c.moved {
			if got := impl.MovePolygon(c.p, m); !slices.Equal(got, want) {
				t.Errorf("%s: MovePolygon(%v, %d) = %v, want %v", c.name, c.p, m, got, want)
			}
		}
	}
}

func TestMovePolygonRefuses(t *testing.T) {
	for _, c := range polygons {
		for _, m := range noMotions {
			if got := impl.MovePolygon(c.p, m); len(got) != 0 {
				t.Errorf("%s: MovePolygon(%v, %d) = %v, want none", c.name, c.p, m, got)
			}
		}
	}
	eachNoPolygon(func(name string, p []impl.Point) {
		for m := -1; m <= 8; m++ {
			if got := impl.MovePolygon(p, m); len(got) != 0 {
				t.Errorf("%s: MovePolygon(%v, %d) = %v, want none", name, p, m, got)
			}
		}
	})
}

func TestShiftPolygon(t *testing.T) {
	cases := []struct {
		p    []impl.Point
		x, y int
		want []impl.Point
	}{
		{xy(0, 0, 3, 0, 0, 1), 2, 1, xy(2, 1, 5, 1, 2, 2)},
		{xy(0, 0, 3, 0, 0, 1), 0, 0, xy(0, 0, 3, 0, 0, 1)},
		{xy(5, 3, 7, 5, 5, 7, 3, 5), -3, -3, xy(2, 0, 4, 2, 2, 4, 0, 2)},
		{xy(5, 3, 7, 5, 5, 7, 3, 5), -4, -3, nil},
		{xy(5, 3, 7, 5, 5, 7, 3, 5), -3, -4, nil},
		{xy(5, 3, 7, 5, 5, 7, 3, 5), 33, 33, xy(38, 36, 40, 38, 38, 40, 36, 38)},
		{xy(5, 3, 7, 5, 5, 7, 3, 5), 34, 33, nil},
		{xy(5, 3, 7, 5, 5, 7, 3, 5), 33, 34, nil},
		// Into the opposite corner and back, clockwise.
		{xy(0, 0, 0, 1, 1, 0), 39, 39, xy(39, 39, 39, 40, 40, 39)},
		{xy(39, 39, 39, 40, 40, 39), -39, -39, xy(0, 0, 0, 1, 1, 0)},
		// The corners on one side of the box stay valid, the others don't.
		{xy(0, 0, 0, 1, 1, 0), 40, 0, nil},
		{xy(0, 0, 0, 1, 1, 0), 0, 40, nil},
		{xy(40, 40, 39, 40, 40, 39), -40, 0, nil},
		{xy(40, 40, 39, 40, 40, 39), 0, -40, nil},
		{xy(0, 0, 40, 0, 40, 40, 0, 40), 0, 0, xy(0, 0, 40, 0, 40, 40, 0, 40)},
		{xy(0, 0, 40, 0, 40, 40, 0, 40), 1, 0, nil},
		{xy(0, 0, 40, 0, 40, 40, 0, 40), 0, -1, nil},
		{xy(0, 3, 40, 3, 20, 9), 0, -3, xy(0, 0, 40, 0, 20, 6)},
		{xy(0, 3, 40, 3, 20, 9), -1, -3, nil},
		// With straight corners, and with MaxCorners of them.
		{xy(2, 2, 1, 1, 0, 0, 9, 0, 3, 3), 31, 37, xy(33, 39, 32, 38, 31, 37, 40, 37, 34, 40)},
		{xy(0, 0, 8, 0, 8, 5, 7, 1, 6, 5, 5, 1, 4, 5, 3, 1, 2, 5, 0, 1), 32, 1, xy(32, 1, 40, 1, 40, 6, 39, 2, 38, 6, 37, 2, 36, 6, 35, 2, 34, 6, 32, 2)},
	}
	for _, c := range cases {
		if got, ok := impl.ShiftPolygon(c.p, c.x, c.y); !slices.Equal(got, c.want) || ok != (c.want != nil) {
			t.Errorf("ShiftPolygon(%v, %d, %d) = %v, %v, want %v", c.p, c.x, c.y, got, ok, c.want)
		}
	}
}

// farShifts are numbers that lead every polygon out of bounds.
var farShifts = []int{40, -40, 41, -41, 80, -80, 255, 256, 1 << 31, 1 << 32, 1<<32 + 1, -1 << 31, -1 << 32, math.MinInt, math.MinInt + 1, math.MinInt + 40, math.MaxInt - 40, math.MaxInt - 1, math.MaxInt}

func TestShiftPolygonRefuses(t *testing.T) {
	for _, c := range polygons {
		for _, far := range farShifts {
			for _, s := range []impl.Point{pt(far, 0), pt(0, far), pt(far, far), pt(far, -far), pt(-c.low.X, far), pt(far, 40-c.high.Y)} {
				if got, ok := impl.ShiftPolygon(c.p, s.X, s.Y); len(got) != 0 || ok {
					t.Errorf("%s: ShiftPolygon(%v, %d, %d) = %v, %v, want none, false", c.name, c.p, s.X, s.Y, got, ok)
				}
			}
		}
	}
	eachNoPolygon(func(name string, p []impl.Point) {
		for _, s := range []impl.Point{pt(0, 0), pt(1, 1), pt(-1, 0), pt(0, -1), pt(40, -40), pt(math.MinInt, math.MaxInt)} {
			if got, ok := impl.ShiftPolygon(p, s.X, s.Y); len(got) != 0 || ok {
				t.Errorf("%s: ShiftPolygon(%v, %d, %d) = %v, %v, want none, false", name, p, s.X, s.Y, got, ok)
			}
		}
	})
	// A shift into the bounds makes no polygon of a list that has none.
	for _, c := range []struct {
		p    []impl.Point
		x, y int
	}{
		{xy(-1, 0, 4, 0, 0, 4), 1, 0},
		{xy(0, -1, 4, -1, 0, 4), 0, 1},
		{xy(41, 0, 38, 0, 38, 4), -1, 0},
		{xy(0, 41, 4, 38, 0, 38), 0, -1},
	} {
		if got, ok := impl.ShiftPolygon(c.p, c.x, c.y); len(got) != 0 || ok {
			t.Errorf("ShiftPolygon(%v, %d, %d) = %v, %v, want none, false", c.p, c.x, c.y, got, ok)
		}
	}
}

// composed has in row a and column b the motion that does the same as a followed by b.
var composed = [8][8]int{
	{0, 1, 2, 3, 4, 5, 6, 7},
	{1, 2, 3, 0, 7, 4, 5, 6},
	{2, 3, 0, 1, 6, 7, 4, 5},
	{3, 0, 1, 2, 5, 6, 7, 4},
	{4, 5, 6, 7, 0, 1, 2, 3},
	{5, 6, 7, 4, 3, 0, 1, 2},
	{6, 7, 4, 5, 2, 3, 0, 1},
	{7, 4, 5, 6, 1, 2, 3, 0},
}

func TestComposeMotions(t *testing.T) {
	for a, row := range composed {
		for b, want := range row {
			if got := impl.ComposeMotions(a, b); got != want {
				t.Errorf("ComposeMotions(%d, %d) = %d, want %d", a, b, got, want)
			}
		}
	}
	for _, bad := range noMotions {
		for m := range 8 {
			if a, b := impl.ComposeMotions(bad, m), impl.ComposeMotions(m, bad); a != -1 || b != -1 {
				t.Errorf("ComposeMotions of %d and %d = %d, and %d in the other order, want -1", bad, m, a, b)
			}
		}
		for _, other := range noMotions {
			if got := impl.ComposeMotions(bad, other); got != -1 {
				t.Errorf("ComposeMotions(%d, %d) = %d, want -1", bad, other, got)
			}
		}
	}
}

func TestInverseMotion(t *testing.T) {
	for m, want := range []int{0, 3, 2, 1, 4, 5, 6, 7} {
		if got := impl.InverseMotion(m); got != want {
			t.Errorf("InverseMotion(%d) = %d, want %d", m, got, want)
		}
	}
	for _, bad := range noMotions {
		if got := impl.InverseMotion(bad); got != -1 {
			t.Errorf("InverseMotion(%d) = %d, want -1", bad, got)
		}
	}
}
