package tests

import (
	"testing"

	"loop.example/g03208/impl"
)

// lines are polygons, and points through which lines support them or do not.
var lines = []struct {
	name string
	p    []impl.Point
	a, b impl.Point
	want bool
}{
	{"along a side", xy(0, 0, 6, 0, 0, 4), pt(0, 0), pt(6, 0), true},
	{"along a slanting side", xy(0, 0, 6, 0, 0, 4), pt(0, 4), pt(6, 0), true},
	{"along a part of a side", xy(0, 0, 6, 0, 0, 4), pt(2, 0), pt(3, 0), true},
	{"through the middle of a slanting side", xy(0, 0, 6, 0, 0, 4), pt(3, 2), pt(6, 0), true},
	{"on the line of a side, beyond it", xy(0, 0, 6, 0, 0, 4), pt(7, 0), pt(40, 0), true},
	{"on the line of a slanting side, beyond it", xy(3, 2, 6, 4, 0, 9), pt(0, 0), pt(39, 26), true},
	{"along a split side", xy(0, 0, 2, 0, 4, 0, 0, 4), pt(0, 0), pt(2, 0), true},
	{"along the last side", xy(0, 0, 6, 0, 0, 4), pt(0, 1), pt(0, 3), true},

	{"through a corner", xy(0, 1, 6, 1, 3, 4), pt(0, 4), pt(6, 4), true},
	{"through a corner, slanting", xy(0, 0, 6, 0, 0, 4), pt(6, 0), pt(7, 9), true},
	{"through a corner, steeper than the side", xy(0, 0, 6, 0, 0, 4), pt(0, 5), pt(6, 0), true},
	{"through a corner, but less steep than the side", xy(0, 0, 6, 0, 0, 4), pt(0, 3), pt(6, 0), false},
	{"through a corner from a point of another side", xy(0, 0, 6, 0, 0, 4), pt(3, 0), pt(0, 4), false},
	{"through a corner and inside", xy(0, 0, 4, 0, 4, 4, 0, 4), pt(0, 0), pt(2, 1), false},
	{"through a corner, but inside only beyond the points", xy(0, 0, 4, 0, 4, 4, 0, 4), pt(5, 5), pt(8, 8), false},
	{"through two corners", xy(0, 0, 4, 0, 4, 4, 0, 4), pt(0, 0), pt(4, 4), false},
	{"through two corners that no side joins", xy(0, 0, 4, 0, 4, 4, 2, 2, 0, 4), pt(0, 4), pt(4, 4), true},
	{"through a corner of the greatest square", xy(0, 0, 40, 0, 40, 40, 0, 40), pt(40, 0), pt(39, 0), true},

	{"beside", xy(0, 1, 6, 1, 3, 4), pt(0, 0), pt(6, 0), true},
	{"beside, on the left", xy(5, 1, 9, 1, 7, 4), pt(4, 40), pt(4, 0), true},
	{"beside, slanting", xy(0, 0, 4, 0, 0, 4), pt(0, 5), pt(5, 0), true},
	{"far beside", xy(0, 0, 1, 0, 0, 1), pt(40, 39), pt(39, 40), true},

	{"across", xy(0, 0, 4, 0, 4, 4, 0, 4), pt(2, 0), pt(2, 4), false},
	{"across, the points inside", xy(0, 0, 4, 0, 4, 4, 0, 4), pt(1, 2), pt(3, 1), false},
	{"across, the points outside", xy(5, 5, 9, 5, 7, 8), pt(0, 6), pt(40, 7), false},
	{"across only beyond the points", xy(5, 5, 9, 5, 7, 8), pt(0, 6), pt(1, 6), false},
	{"across, only the first corner on the other side", xy(0, 0, 4, 0, 4, 4, 0, 4), pt(0, 1), pt(1, 0), false},
	{"across, only the last corner on the other side", xy(4, 0, 4, 4, 0, 4, 0, 0), pt(0, 1), pt(1, 0), false},
	{"across, only a middle corner on the other side", xy(4, 4, 0, 4, 0, 0, 4, 0), pt(0, 1), pt(1, 0), false},

	{"along a side at an inward corner", xy(0, 0, 4, 0, 4, 4, 2, 2, 0, 4), pt(2, 2), pt(0, 4), false},
	{"along a side at an inward corner, outwards", xy(0, 0, 4, 0, 4, 4, 2, 1, 0, 4), pt(4, 4), pt(2, 1), false},
	{"through an inward corner only", xy(0, 0, 4, 0, 4, 4, 2, 2, 0, 4), pt(2, 2), pt(2, 40), false},
	{"through an inward corner, level", xy(0, 0, 4, 0, 4, 4, 2, 2, 0, 4), pt(0, 2), pt(1, 2), false},
	{"between the teeth of a comb", xy(0, 0, 8, 0, 8, 5, 7, 1, 6, 5, 5, 1, 4, 5, 3, 1, 2, 5, 0, 1), pt(3, 5), pt(3, 4), false},
	{"over the teeth of a comb", xy(0, 0, 8, 0, 8, 5, 7, 1, 6, 5, 5, 1, 4, 5, 3, 1, 2, 5, 0, 1), pt(3, 5), pt(5, 5), true},

	{"equal points at a corner", xy(0, 0, 4, 0, 0, 4), pt(0, 0), pt(0, 0), false},
	{"equal points on a side", xy(0, 0, 4, 0, 0, 4), pt(2, 0), pt(2, 0), false},
	{"equal points outside", xy(0, 0, 4, 0, 0, 4), pt(40, 40), pt(40, 40), false},
}

// checkSupports tries a line with its points in both orders and the corners in every order.
func checkSupports(t *testing.T, name string, p []impl.Point, a, b impl.Point, want bool) {
	t.Helper()
	inEveryOrder(p, func(p []impl.Point) {
		if impl.Supports(p, a, b) != want || impl.Supports(p, b, a) != want {
			t.Errorf("%s: Supports(%v, %v, %v) = %v, and with the points exchanged %v", name, p, a, b, impl.Supports(p, a, b), impl.Supports(p, b, a))
		}
	})
}

func TestSupports(t *testing.T) {
	for _, c := range lines {
		checkSupports(t, c.name, c.p, c.a, c.b, c.want)
	}
}

func TestSupportsRefuses(t *testing.T) {
	square := xy(0, 0, 4, 0, 4, 4, 0, 4)
	for _, bad := range badPoints() {
		for _, fine := range []impl.Point{pt(0, 0), pt(0, 4), pt(40, 40)} {
			checkSupports(t, "with a bad point", square, fine, bad, false)
		}
		checkSupports(t, "with equal bad points", square, bad, bad, false)
		checkSupports(t, "with two bad points", square, bad, pt(-1, 41), false)
	}
	eachNoPolygon(func(name string, p []impl.Point) {
		for _, l := range [][2]impl.Point{{pt(0, 0), pt(40, 0)}, {pt(40, 40), pt(40, 39)}, {pt(0, 4), pt(4, 0)}, {pt(3, 3), pt(3, 3)}} {
			if impl.Supports(p, l[0], l[1]) || impl.Supports(p, l[1], l[0]) {
				t.Errorf("%s: Supports(%v, %v, %v) = true", name, p, l[0], l[1])
			}
		}
	})
}

// TestSupportsAlongSides holds each side of the table's polygons against the hull.
func TestSupportsAlongSides(t *testing.T) {
	for _, c := range hulled {
		outer := 0
		for i, a := range c.p {
			b := c.p[(i+1)%len(c.p)]
			// A side supports exactly if a side of the hull has both its ends.
			want := false
			for k, from := range c.hull {
				to := c.hull[(k+1)%len(c.hull)]
				want = want || liesOn(from, to, a) && liesOn(from, to, b)
			}
			if want {
				outer++
			}
			checkSupports(t, c.name, c.p, a, b, want)
		}
		if (outer == len(c.p)) != c.convex {
			t.Errorf("%s: %d of %d sides support %v", c.name, outer, len(c.p), c.p)
		}
		for k, from := range c.hull {
			checkSupports(t, c.name, c.p, from, c.hull[(k+1)%len(c.hull)], true)
			checkSupports(t, c.name, c.hull, from, c.hull[(k+2)%len(c.hull)], len(c.hull) == 3)
		}
		low, high, _ := impl.BoxOf(c.p)
		for _, l := range [][2]impl.Point{{low, pt(high.X, low.Y)}, {low, pt(low.X, high.Y)}, {high, pt(high.X, low.Y)}, {high, pt(low.X, high.Y)}} {
			checkSupports(t, c.name, c.p, l[0], l[1], true)
		}
	}
}
