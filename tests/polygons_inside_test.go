package tests

import (
	"slices"
	"testing"

	"loop.example/g03208/impl"
)

// places are polygons with points inside or on their sides, and points outside.
var places = []struct {
	name        string
	p           []impl.Point
	inside, out []impl.Point
}{
	{
		"triangle", xy(0, 0, 6, 0, 0, 4),
		// Corners, points on sides, points inside.
		xy(0, 0, 6, 0, 0, 4, 3, 0, 1, 0, 0, 1, 3, 2, 1, 1, 4, 1, 1, 3, 2, 2),
		// Points on the line of a side, level with a corner or beside it, and far away.
		xy(7, 0, 40, 0, 0, 5, 0, 40, 9, 0, 6, 4, 5, 1, 4, 2, 2, 3, 1, 4, 40, 4, 40, 40, 6, 1),
	},
	{
		"triangle away from the bounds", xy(10, 10, 16, 10, 10, 14),
		xy(10, 10, 16, 10, 10, 14, 13, 10, 13, 12, 11, 11),
		xy(9, 10, 17, 10, 0, 10, 40, 10, 10, 9, 10, 15, 10, 0, 10, 40, 7, 16, 19, 8, 9, 14, 11, 14, 0, 14, 40, 14, 9, 12, 14, 12, 0, 0),
	},
	{
		"inward corner", xy(0, 0, 4, 0, 4, 4, 2, 2, 0, 4),
		xy(2, 2, 1, 1, 1, 3, 3, 3, 0, 2, 4, 2, 1, 2, 3, 2, 2, 1, 2, 0, 0, 4, 4, 4),
		xy(2, 3, 2, 4, 1, 4, 3, 4, 5, 4, 5, 2, 5, 5, 5, 0, 2, 5, 40, 2),
	},
	{
		"a notch to the left, one to the right", xy(5, 5, 15, 5, 15, 10, 12, 12, 15, 15, 5, 15, 8, 12, 5, 9),
		// Level with the inward corners, too.
		xy(8, 12, 12, 12, 10, 12, 9, 12, 11, 12, 6, 10, 6, 14, 14, 14, 14, 10, 13, 11, 15, 10, 5, 5, 5, 7, 15, 7, 5, 15),
		xy(7, 12, 13, 12, 5, 12, 15, 12, 0, 12, 40, 12, 5, 10, 5, 11, 5, 14, 15, 11, 15, 14, 6, 12, 14, 12, 4, 5, 16, 5, 4, 15, 16, 15, 5, 4, 5, 16),
	},
	{
		"square on a corner", xy(5, 3, 7, 5, 5, 7, 3, 5),
		xy(5, 3, 7, 5, 5, 7, 3, 5, 4, 4, 6, 4, 4, 6, 6, 6, 5, 4, 5, 5, 5, 6, 4, 5, 6, 5),
		xy(3, 3, 4, 3, 6, 3, 7, 3, 3, 7, 4, 7, 6, 7, 7, 7, 2, 5, 8, 5, 0, 5, 40, 5, 5, 2, 5, 8, 3, 4, 7, 4, 3, 6, 7, 6),
	},
	{
		"teeth level with a row of points", xy(0, 0, 12, 0, 12, 6, 10, 2, 8, 6, 6, 2, 4, 6, 2, 2, 0, 6),
		xy(0, 2, 1, 2, 2, 2, 3, 2, 5, 2, 6, 2, 9, 2, 10, 2, 12, 2, 12, 6, 8, 6, 4, 6, 0, 6, 4, 4, 8, 4, 12, 4, 0, 4, 3, 4, 1, 4),
		xy(2, 6, 6, 6, 10, 6, 1, 6, 13, 6, 2, 4, 6, 4, 10, 4, 2, 3, 6, 3, 10, 3, 13, 2, 40, 2, 13, 4, 40, 6, 40, 0),
	},
	{
		"steps level with a row of points", xy(0, 0, 9, 0, 9, 3, 6, 3, 6, 6, 3, 6, 3, 9, 0, 9),
		xy(0, 3, 1, 3, 5, 3, 6, 3, 7, 3, 9, 3, 0, 6, 3, 6, 4, 6, 6, 6, 0, 9, 3, 9, 2, 9, 6, 4, 3, 7, 9, 1),
		xy(10, 3, 40, 3, 7, 6, 9, 6, 40, 6, 4, 9, 9, 9, 40, 9, 7, 4, 4, 7, 10, 0),
	},
	{
		"level sides below, above and between", xy(2, 2, 4, 2, 4, 4, 8, 4, 8, 2, 10, 2, 10, 8, 2, 8),
		xy(2, 2, 3, 2, 4, 2, 4, 3, 8, 2, 9, 2, 10, 2, 4, 4, 6, 4, 8, 4, 3, 4, 9, 4, 2, 4, 10, 4, 6, 5, 6, 8, 2, 8, 10, 8),
		xy(0, 2, 1, 2, 5, 2, 6, 2, 7, 2, 11, 2, 40, 2, 5, 3, 6, 3, 7, 3, 1, 4, 11, 4, 0, 4, 40, 4, 1, 8, 11, 8, 0, 8, 40, 8, 3, 9, 3, 1),
	},
	{
		"straight corners on both ends of a row", xy(2, 0, 4, 0, 4, 3, 4, 6, 2, 6, 0, 6, 0, 3, 0, 0),
		xy(0, 3, 1, 3, 2, 3, 4, 3, 2, 0, 2, 6, 1, 6, 3, 0),
		xy(5, 3, 40, 3, 5, 0, 5, 6, 2, 7, 0, 7),
	},
	{
		"greatest square", xy(0, 0, 40, 0, 40, 40, 0, 40),
		xy(0, 0, 40, 0, 40, 40, 0, 40, 20, 20, 0, 20, 40, 20, 20, 0, 20, 40, 1, 1, 39, 39), nil,
	},
	{
		"long triangle", xy(0, 0, 40, 39, 1, 1),
		xy(0, 0, 40, 39, 1, 1), xy(2, 2, 20, 20, 39, 38, 40, 40, 0, 1, 1, 0, 40, 38),
	},
}

func TestIsInside(t *testing.T) {
	for _, c := range places {
		for k := range c.p {
			p := append(slices.Clone(c.p[k:]), c.p[:k]...)
			checkPlaces(t, c.name, p, c.inside, c.out)
			slices.Reverse(p)
			checkPlaces(t, c.name, p, c.inside, c.out)
		}
	}
}

// checkPlaces fails if a point is not where it is said to be.
func checkPlaces(t *testing.T, name string, p, inside, out []impl.Point) {
	t.Helper()
	for _, x := range inside {
		if !impl.IsInside(p, x) {
			t.Errorf("%s: IsInside(%v, %v) = false", name, p, x)
		}
	}
	for _, x := range out {
		if impl.IsInside(p, x) {
			t.Errorf("%s: IsInside(%v, %v) = true", name, p, x)
		}
	}
}

func TestIsInsideRefuses(t *testing.T) {
	for _, c := range places {
		for _, x := range badPoints() {
			if impl.IsInside(c.p, x) {
				t.Errorf("IsInside(%v, %v) = true", c.p, x)
			}
		}
	}
	eachNoPolygon(func(name string, p []impl.Point) {
		for _, x := range append(slices.Clone(p), pt(0, 0), pt(1, 1), pt(2, 1), pt(3, 0), pt(-1, 0), pt(41, 41)) {
			if impl.IsInside(p, x) {
				t.Errorf("%s: IsInside(%v, %v) = true", name, p, x)
			}
		}
	})
}
