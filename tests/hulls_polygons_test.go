package tests

import (
	"slices"
	"testing"

	"loop.example/g03208/impl"
)

// hulled are polygons, and what is so of them: the corners of the hull, the gap, the number of sides, the widest pair, and whether they are convex and oval.
var hulled = []struct {
	name         string
	p, hull      []impl.Point
	gap, sides   int
	i, k         int
	convex, oval bool
}{
	{"triangle", xy(0, 0, 6, 0, 0, 4), xy(0, 0, 6, 0, 0, 4), 0, 3, 1, 2, true, false},
	{"triangle, clockwise", xy(0, 0, 0, 4, 6, 0), xy(0, 0, 6, 0, 0, 4), 0, 3, 1, 2, true, false},
	{"triangle, from its last corner on", xy(0, 4, 0, 0, 6, 0), xy(0, 0, 6, 0, 0, 4), 0, 3, 0, 2, true, false},
	{"triangle with two widest pairs, first", xy(2, 9, 0, 0, 4, 0), xy(0, 0, 4, 0, 2, 9), 0, 3, 0, 1, true, false},
	{"triangle with two widest pairs, last", xy(0, 0, 4, 0, 2, 9), xy(0, 0, 4, 0, 2, 9), 0, 3, 0, 2, true, false},
	{"triangle with two widest pairs, first and last", xy(4, 0, 2, 9, 0, 0), xy(0, 0, 4, 0, 2, 9), 0, 3, 0, 1, true, false},
	{"triangle with the least area", xy(40, 40, 40, 39, 39, 40), xy(40, 39, 40, 40, 39, 40), 0, 3, 1, 2, true, false},
	{"long triangle with the least area", xy(0, 0, 40, 39, 1, 1), xy(0, 0, 40, 39, 1, 1), 0, 3, 0, 1, true, false},
	{"half of the greatest square", xy(40, 0, 40, 40, 0, 0), xy(0, 0, 40, 0, 40, 40), 0, 3, 1, 2, true, false},

	{"square", xy(0, 0, 4, 0, 4, 4, 0, 4), xy(0, 0, 4, 0, 4, 4, 0, 4), 0, 4, 0, 2, true, true},
	{"square, clockwise", xy(4, 0, 0, 0, 0, 4, 4, 4), xy(0, 0, 4, 0, 4, 4, 0, 4), 0, 4, 0, 2, true, true},
	{"greatest square", xy(40, 40, 0, 40, 0, 0, 40, 0), xy(0, 0, 40, 0, 40, 40, 0, 40), 0, 4, 0, 2, true, true},
	{"square on a corner", xy(5, 3, 7, 5, 5, 7, 3, 5), xy(5, 3, 7, 5, 5, 7, 3, 5), 0, 4, 0, 2, true, true},
	{"rectangle", xy(1, 2, 1, 5, 8, 5, 8, 2), xy(1, 2, 8, 2, 8, 5, 1, 5), 0, 4, 0, 2, true, true},
	{"parallelogram", xy(0, 0, 3, 0, 4, 2, 1, 2), xy(0, 0, 3, 0, 4, 2, 1, 2), 0, 4, 0, 2, true, true},
	{"parallelogram to the left", xy(1, 0, 4, 0, 3, 2, 0, 2), xy(1, 0, 4, 0, 3, 2, 0, 2), 0, 4, 1, 3, true, true},
	{"parallelogram without level sides, clockwise", xy(0, 1, 2, 4, 7, 3, 5, 0), xy(5, 0, 7, 3, 2, 4, 0, 1), 0, 4, 0, 2, true, true},
	{"narrow parallelogram", xy(0, 0, 20, 19, 40, 39, 20, 20), xy(0, 0, 20, 19, 40, 39, 20, 20), 0, 4, 0, 2, true, true},
	{"rhombus", xy(2, 0, 4, 3, 2, 6, 0, 3), xy(2, 0, 4, 3, 2, 6, 0, 3), 0, 4, 0, 2, true, true},
	{"kite", xy(2, 0, 4, 3, 2, 5, 0, 3), xy(2, 0, 4, 3, 2, 5, 0, 3), 0, 4, 0, 2, true, false},
	{"trapezoid with legs of one length", xy(0, 0, 6, 0, 4, 3, 2, 3), xy(0, 0, 6, 0, 4, 3, 2, 3), 0, 4, 0, 1, true, false},
	{"trapezoid with an upright leg", xy(0, 0, 6, 0, 4, 3, 0, 3), xy(0, 0, 6, 0, 4, 3, 0, 3), 0, 4, 1, 3, true, false},
	{"nearly a square", xy(0, 0, 9, 0, 9, 9, 0, 8), xy(0, 0, 9, 0, 9, 9, 0, 8), 0, 4, 0, 2, true, false},
	{"two equal opposite sides that are not parallel", xy(1, 0, 4, 0, 5, 3, 0, 3), xy(1, 0, 4, 0, 5, 3, 0, 3), 0, 4, 0, 2, true, false},

	{"pentagon", xy(0, 3, 4, 0, 8, 3, 7, 8, 1, 8), xy(4, 0, 8, 3, 7, 8, 1, 8, 0, 3), 0, 5, 0, 3, true, false},
	{"hexagon with opposite sides that are equal", xy(1, 0, 3, 0, 4, 2, 3, 4, 1, 4, 0, 2), xy(1, 0, 3, 0, 4, 2, 3, 4, 1, 4, 0, 2), 0, 6, 0, 3, true, true},
	{"hexagon with opposite sides that are equal, clockwise", xy(4, 2, 2, 0, 0, 0, 0, 1, 2, 3, 4, 3), xy(0, 0, 2, 0, 4, 2, 4, 3, 2, 3, 0, 1), 0, 6, 2, 5, true, true},
	{"hexagon with parallel sides of other lengths", xy(1, 0, 3, 0, 3, 1, 1, 3, 0, 3, 0, 1), xy(1, 0, 3, 0, 3, 1, 1, 3, 0, 3, 0, 1), 0, 6, 1, 4, true, false},
	{"octagon", xy(2, 0, 5, 0, 7, 2, 7, 5, 5, 7, 2, 7, 0, 5, 0, 2), xy(2, 0, 5, 0, 7, 2, 7, 5, 5, 7, 2, 7, 0, 5, 0, 2), 0, 8, 0, 4, true, true},
	{"octagon with one pair of parallel sides of other lengths", xy(2, 0, 5, 0, 7, 2, 7, 5, 6, 7, 2, 7, 0, 5, 0, 2), xy(2, 0, 5, 0, 7, 2, 7, 5, 6, 7, 2, 7, 0, 5, 0, 2), 0, 8, 0, 4, true, false},
	{"MaxCorners corners, convex", tenCorners, tenCorners, 0, 10, 0, 6, true, false},
	{"MaxCorners corners with opposite sides that are equal", xy(2, 0, 4, 0, 6, 1, 7, 2, 8, 4, 8, 7, 6, 7, 4, 6, 3, 5, 2, 3), xy(2, 0, 4, 0, 6, 1, 7, 2, 8, 4, 8, 7, 6, 7, 4, 6, 3, 5, 2, 3), 0, 10, 0, 5, true, true},

	{"one straight corner", xy(0, 0, 2, 0, 4, 0, 0, 4), xy(0, 0, 4, 0, 0, 4), 0, 3, 2, 3, true, false},
	{"straight corner first", xy(2, 0, 4, 0, 0, 4, 0, 0), xy(0, 0, 4, 0, 0, 4), 0, 3, 1, 2, true, false},
	{"straight corner last, clockwise", xy(4, 0, 0, 0, 0, 4, 1, 3), xy(0, 0, 4, 0, 0, 4), 0, 3, 0, 2, true, false},
	{"a triangle with seven straight corners", xy(4, 4, 3, 3, 0, 0, 2, 0, 3, 0, 4, 0, 8, 0, 7, 1, 6, 2, 5, 3), xy(0, 0, 8, 0, 4, 4), 0, 3, 2, 6, true, false},
	{"square with one side split", xy(0, 0, 2, 0, 4, 0, 4, 4, 0, 4), xy(0, 0, 4, 0, 4, 4, 0, 4), 0, 4, 0, 3, true, true},
	{"square with one side split first", xy(4, 1, 4, 4, 0, 4, 0, 0, 4, 0), xy(0, 0, 4, 0, 4, 4, 0, 4), 0, 4, 1, 3, true, true},
	{"square with one side split last, clockwise", xy(4, 4, 4, 0, 0, 0, 0, 4, 1, 4), xy(0, 0, 4, 0, 4, 4, 0, 4), 0, 4, 0, 2, true, true},
	{"square with straight corners last and first", xy(2, 4, 1, 4, 0, 4, 0, 0, 4, 0, 4, 4, 3, 4), xy(0, 0, 4, 0, 4, 4, 0, 4), 0, 4, 2, 4, true, true},
	{"parallelogram with opposite sides split in other places", xy(0, 0, 1, 0, 3, 0, 4, 2, 3, 2, 2, 2, 1, 2), xy(0, 0, 3, 0, 4, 2, 1, 2), 0, 4, 0, 3, true, true},
	{"hexagon with long sides split into as long ones as the others", xy(1, 0, 2, 0, 3, 0, 3, 1, 2, 2, 1, 3, 0, 3, 0, 2, 0, 1), xy(1, 0, 3, 0, 3, 1, 1, 3, 0, 3, 0, 1), 0, 6, 2, 6, true, false},
	{"trapezoid with the long side split into as long ones as the other", xy(0, 0, 2, 0, 4, 0, 3, 2, 1, 2), xy(0, 0, 4, 0, 3, 2, 1, 2), 0, 4, 0, 2, true, false},

	{"inward corner", xy(0, 0, 4, 0, 4, 4, 2, 2, 0, 4), xy(0, 0, 4, 0, 4, 4, 0, 4), 8, 5, 0, 2, false, false},
	{"inward corner, clockwise", xy(0, 4, 2, 2, 4, 4, 4, 0, 0, 0), xy(0, 0, 4, 0, 4, 4, 0, 4), 8, 5, 0, 3, false, false},
	{"inward corner first", xy(5, 5, 9, 0, 40, 40, 0, 9), xy(9, 0, 40, 40, 0, 9), 9, 4, 1, 2, false, false},
	{"inward corner last", xy(9, 0, 40, 40, 0, 9, 5, 5), xy(9, 0, 40, 40, 0, 9), 9, 4, 0, 1, false, false},
	{"the least gap", xy(0, 0, 2, 1, 3, 1, 0, 9), xy(0, 0, 3, 1, 0, 9), 1, 4, 0, 3, false, false},
	{"narrow arrow", xy(0, 0, 10, 1, 0, 2, 9, 1), xy(0, 0, 10, 1, 0, 2), 18, 4, 0, 1, false, false},
	{"straight corner beside an inward one", xy(0, 0, 4, 0, 4, 4, 3, 3, 2, 2, 0, 4), xy(0, 0, 4, 0, 4, 4, 0, 4), 8, 5, 0, 2, false, false},
	{"L", xy(2, 1, 6, 1, 6, 3, 4, 3, 4, 5, 2, 5), xy(2, 1, 6, 1, 6, 3, 4, 5, 2, 5), 4, 6, 1, 5, false, false},
	{"each side has one in reverse, but corners are inward", xy(0, 0, 4, 0, 4, 2, 6, 2, 6, 4, 2, 4, 2, 2, 0, 2), xy(0, 0, 4, 0, 6, 2, 6, 4, 2, 4, 0, 2), 8, 8, 0, 4, false, false},
	{"comb with MaxCorners corners", xy(0, 0, 8, 0, 8, 5, 7, 1, 6, 5, 5, 1, 4, 5, 3, 1, 2, 5, 0, 1), xy(0, 0, 8, 0, 8, 5, 2, 5, 0, 1), 24, 10, 0, 2, false, false},
	{"stairs with MaxCorners corners, clockwise", xy(0, 0, 0, 4, 1, 4, 1, 3, 2, 3, 2, 2, 3, 2, 3, 1, 4, 1, 4, 0), xy(0, 0, 4, 0, 4, 1, 1, 4, 0, 4), 3, 10, 1, 9, false, false},
	{"corners on a line, but not in a row", xy(0, 0, 2, 0, 2, 2, 4, 2, 4, 0, 6, 0, 6, 4, 0, 4), xy(0, 0, 6, 0, 6, 4, 0, 4), 8, 8, 0, 6, false, false},
}

func TestIsConvex(t *testing.T) {
	for _, c := range hulled {
		inEveryOrder(c.p, func(p []impl.Point) {
			if got := impl.IsConvex(p); got != c.convex {
				t.Errorf("%s: IsConvex(%v) = %v", c.name, p, got)
			}
		})
	}
	eachNoPolygon(func(name string, p []impl.Point) {
		if impl.IsConvex(p) {
			t.Errorf("%s: IsConvex(%v) = true", name, p)
		}
	})
}

func TestHullGap(t *testing.T) {
	for _, c := range hulled {
		checkHull(t, c.name, c.p, c.hull)
		inEveryOrder(c.p, func(p []impl.Point) {
			if got := impl.HullGap(p); got != c.gap {
				t.Errorf("%s: HullGap(%v) = %d, want %d", c.name, p, got, c.gap)
			}
		})
	}
	// The corners of some of these have a hull.
	eachNoPolygon(func(name string, p []impl.Point) {
		if got := impl.HullGap(p); got != -1 {
			t.Errorf("%s: HullGap(%v) = %d, want -1", name, p, got)
		}
	})
}

func TestSideCount(t *testing.T) {
	for _, c := range hulled {
		inEveryOrder(c.p, func(p []impl.Point) {
			if got := impl.SideCount(p); got != c.sides {
				t.Errorf("%s: SideCount(%v) = %d, want %d", c.name, p, got, c.sides)
			}
		})
	}
	eachNoPolygon(func(name string, p []impl.Point) {
		if got := impl.SideCount(p); got != -1 {
			t.Errorf("%s: SideCount(%v) = %d, want -1", name, p, got)
		}
	})
}

func TestWidestPair(t *testing.T) {
	for _, c := range hulled {
		if i, k := impl.WidestPair(c.p); i != c.i || k != c.k {
			t.Errorf("%s: WidestPair(%v) = %d, %d, want %d, %d", c.name, c.p, i, k, c.i, c.k)
		}
	}
	eachNoPolygon(func(name string, p []impl.Point) {
		if i, k := impl.WidestPair(p); i != -1 || k != -1 {
			t.Errorf("%s: WidestPair(%v) = %d, %d, want -1, -1", name, p, i, k)
		}
	})
}

// TestWidestPairFromAnyCorner turns polygons with one widest pair so that its corners come at all indices.
func TestWidestPairFromAnyCorner(t *testing.T) {
	cases := []struct {
		p    []impl.Point
		a, b impl.Point
	}{
		{xy(0, 0, 6, 0, 0, 4), pt(6, 0), pt(0, 4)},
		{xy(0, 0, 20, 19, 40, 39, 20, 20), pt(0, 0), pt(40, 39)},
		{xy(0, 0, 8, 0, 8, 5, 7, 1, 6, 5, 5, 1, 4, 5, 3, 1, 2, 5, 0, 1), pt(0, 0), pt(8, 5)},
		{xy(0, 0, 1, 0, 2, 0, 7, 0, 8, 0, 3, 5), pt(0, 0), pt(8, 0)},
	}
	for _, c := range cases {
		inEveryOrder(c.p, func(p []impl.Point) {
			i, k := slices.Index(p, c.a), slices.Index(p, c.b)
			if first, second := impl.WidestPair(p); first != min(i, k) || second != max(i, k) {
				t.Errorf("WidestPair(%v) = %d, %d, want %v and %v", p, first, second, c.a, c.b)
			}
		})
	}
}

func TestIsOval(t *testing.T) {
	for _, c := range hulled {
		inEveryOrder(c.p, func(p []impl.Point) {
			if got := impl.IsOval(p); got != c.oval {
				t.Errorf("%s: IsOval(%v) = %v", c.name, p, got)
			}
		})
	}
	eachNoPolygon(func(name string, p []impl.Point) {
		if impl.IsOval(p) {
			t.Errorf("%s: IsOval(%v) = true", name, p)
		}
	})
}
