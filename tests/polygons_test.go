package tests

import (
	"math"
	"slices"
	"testing"

	"loop.example/g03208/impl"
)

// xy returns the points with these numbers, X and Y in turn.
func xy(numbers ...int) []impl.Point {
	var points []impl.Point
	for i := 0; i < len(numbers); i += 2 {
		points = append(points, pt(numbers[i], numbers[i+1]))
	}
	return points
}

// polygons are lists of corners that are polygons, and what is so of them.
var polygons = []struct {
	name              string
	p                 []impl.Point
	area, rim, inner  int
	bends             []impl.Point
	low, high         impl.Point
	hasStraightCorner bool
}{
	{"triangle", xy(0, 0, 6, 0, 0, 4), 24, 12, 7, nil, pt(0, 0), pt(6, 4), false},
	{"triangle, clockwise", xy(0, 0, 0, 4, 6, 0), -24, 12, 7, nil, pt(0, 0), pt(6, 4), false},
	{"triangle with the least area", xy(0, 0, 1, 0, 0, 1), 1, 3, 0, nil, pt(0, 0), pt(1, 1), false},
	{"triangle with the least area, clockwise", xy(40, 40, 40, 39, 39, 40), -1, 3, 0, nil, pt(39, 39), pt(40, 40), false},
	{"long triangle with the least area", xy(0, 0, 40, 39, 1, 1), 1, 3, 0, nil, pt(0, 0), pt(40, 39), false},
	{"triangle around one point", xy(0, 0, 2, 1, 1, 2), 3, 3, 1, nil, pt(0, 0), pt(2, 2), false},
	{"half of the greatest square", xy(40, 0, 40, 40, 0, 0), 1600, 120, 741, nil, pt(0, 0), pt(40, 40), false},
	{"greatest square", xy(0, 0, 40, 0, 40, 40, 0, 40), 3200, 160, 1521, nil, pt(0, 0), pt(40, 40), false},
	{"greatest square, clockwise", xy(40, 40, 40, 0, 0, 0, 0, 40), -3200, 160, 1521, nil, pt(0, 0), pt(40, 40), false},
	{"least square", xy(7, 9, 8, 9, 8, 10, 7, 10), 2, 4, 0, nil, pt(7, 9), pt(8, 10), false},
	{"square on a corner", xy(5, 3, 7, 5, 5, 7, 3, 5), 16, 8, 5, nil, pt(3, 3), pt(7, 7), false},
	{"inward corner", xy(0, 0, 4, 0, 4, 4, 2, 2, 0, 4), 24, 16, 5, nil, pt(0, 0), pt(4, 4), false},
	{"inward corner, clockwise", xy(0, 4, 2, 2, 4, 4, 4, 0, 0, 0), -24, 16, 5, nil, pt(0, 0), pt(4, 4), false},
	{"inward corner first", xy(5, 5, 9, 0, 40, 40, 0, 9), 630, 4, 314, nil, pt(0, 0), pt(40, 40), false},
	{"narrow arrow", xy(0, 0, 10, 1, 0, 2, 9, 1), 2, 4, 0, nil, pt(0, 0), pt(10, 2), false},
	{"L", xy(2, 1, 6, 1, 6, 3, 4, 3, 4, 5, 2, 5), 24, 16, 5, nil, pt(2, 1), pt(6, 5), false},
	{"comb with MaxCorners corners", xy(0, 0, 8, 0, 8, 5, 7, 1, 6, 5, 5, 1, 4, 5, 3, 1, 2, 5, 0, 1), 48, 22, 14, nil, pt(0, 0), pt(8, 5), false},
	{"stairs with MaxCorners corners, clockwise", xy(0, 0, 0, 4, 1, 4, 1, 3, 2, 3, 2, 2, 3, 2, 3, 1, 4, 1, 4, 0), -20, 16, 3, nil, pt(0, 0), pt(4, 4), false},

	{"one straight corner", xy(0, 0, 2, 0, 4, 0, 0, 4), 16, 12, 3, xy(0, 0, 4, 0, 0, 4), pt(0, 0), pt(4, 4), true},
	{"straight corner first", xy(2, 0, 4, 0, 0, 4, 0, 0), 16, 12, 3, xy(4, 0, 0, 4, 0, 0), pt(0, 0), pt(4, 4), true},
	{"straight corner last", xy(4, 0, 0, 4, 0, 0, 2, 0), 16, 12, 3, xy(4, 0, 0, 4, 0, 0), pt(0, 0), pt(4, 4), true},
	{"straight corner, clockwise", xy(0, 0, 0, 4, 1, 3, 4, 0), -16, 12, 3, xy(0, 0, 0, 4, 4, 0), pt(0, 0), pt(4, 4), true},
	{"several straight corners in a row", xy(0, 0, 1, 0, 2, 0, 7, 0, 8, 0, 3, 5), 40, 14, 14, xy(0, 0, 8, 0, 3, 5), pt(0, 0), pt(8, 5), true},
	{"straight corners last and first", xy(2, 0, 7, 0, 8, 0, 3, 5, 0, 0, 1, 0), 40, 14, 14, xy(8, 0, 3, 5, 0, 0), pt(0, 0), pt(8, 5), true},
	{"two straight corners first", xy(2, 2, 1, 1, 0, 0, 9, 0, 3, 3), 27, 15, 7, xy(0, 0, 9, 0, 3, 3), pt(0, 0), pt(9, 3), true},
	{"two straight corners last", xy(0, 0, 9, 0, 3, 3, 2, 2, 1, 1), 27, 15, 7, xy(0, 0, 9, 0, 3, 3), pt(0, 0), pt(9, 3), true},
	{"a straight corner on each side", xy(20, 0, 40, 0, 40, 5, 40, 40, 39, 40, 0, 40, 0, 1, 0, 0), 3200, 160, 1521, xy(40, 0, 40, 40, 0, 40, 0, 0), pt(0, 0), pt(40, 40), true},
	{"a triangle with seven straight corners", xy(4, 4, 3, 3, 0, 0, 2, 0, 3, 0, 4, 0, 8, 0, 7, 1, 6, 2, 5, 3), 32, 16, 9, xy(4, 4, 0, 0, 8, 0), pt(0, 0), pt(8, 4), true},
	{"straight corner beside an inward one", xy(0, 0, 4, 0, 4, 4, 3, 3, 2, 2, 0, 4), 24, 16, 5, xy(0, 0, 4, 0, 4, 4, 2, 2, 0, 4), pt(0, 0), pt(4, 4), true},
	{"corners on a line, but not in a row", xy(0, 0, 2, 0, 2, 2, 4, 2, 4, 0, 6, 0, 6, 4, 0, 4), 40, 24, 9, nil, pt(0, 0), pt(6, 4), false},
}

// noPolygons are lists of points that are no polygons.
var noPolygons = []struct {
	name string
	p    []impl.Point
}{
	{"nil", nil},
	{"no points", []impl.Point{}},
	{"one point", xy(3, 4)},
	{"two points", xy(0, 0, 4, 0)},
	{"two equal points", xy(4, 4, 4, 4)},
	{"MaxCorners + 1 points", xy(0, 0, 1, 0, 2, 0, 3, 0, 4, 0, 5, 0, 6, 0, 7, 0, 8, 0, 9, 0, 0, 9)},
	{"MaxCorners + 1 points without straight corners", xy(0, 0, 8, 0, 8, 5, 7, 1, 6, 5, 5, 1, 4, 5, 3, 1, 2, 5, 1, 2, 0, 9)},
	{"many points", slices.Repeat(xy(0, 0, 4, 0, 0, 4), 100)},

	{"three equal corners", xy(3, 4, 3, 4, 3, 4)},
	{"equal neighbours in a triangle", xy(0, 0, 0, 0, 4, 0)},
	{"equal neighbours", xy(0, 0, 4, 0, 4, 0, 4, 4, 0, 4)},
	{"the first corner again at the end", xy(0, 0, 4, 0, 4, 4, 0, 4, 0, 0)},
	{"triangle with the first corner again at the end", xy(0, 0, 4, 0, 0, 4, 0, 0)},
	{"a corner twice, an X", xy(0, 0, 4, 0, 2, 2, 4, 4, 0, 4, 2, 2)},
	{"a corner twice, one triangle within the other", xy(0, 0, 9, 0, 0, 9, 0, 0, 2, 3, 3, 2)},
	{"a corner twice, around a pocket", xy(0, 0, 6, 0, 6, 6, 3, 6, 4, 3, 2, 3, 3, 6, 0, 6)},
	{"a triangle passed twice", xy(0, 0, 4, 0, 0, 4, 0, 0, 4, 0, 0, 4)},

	{"three corners on a line", xy(0, 0, 4, 0, 2, 0)},
	{"three corners on a line, in order", xy(0, 0, 2, 0, 4, 0)},
	{"three corners on a slope", xy(0, 0, 6, 4, 3, 2)},
	{"four corners on a line", xy(0, 0, 1, 0, 3, 0, 2, 0)},
	{"a side back along the one before it", xy(0, 0, 4, 0, 2, 0, 2, 2)},
	{"a side back beyond the one before it", xy(2, 0, 4, 0, 0, 0, 2, 2)},
	{"a side back along the one before it, up", xy(0, 0, 4, 0, 4, 4, 4, 2, 0, 2)},
	{"the last side back along the first one", xy(0, 0, 4, 0, 4, 4, 2, 0)},
	{"the last side back along the one before it", xy(1, 0, 0, 4, 4, 0, 0, 0)},
	{"a spike out of a square", xy(0, 0, 4, 0, 4, 4, 6, 4, 4, 4, 0, 4)},
	{"there and back", xy(0, 0, 4, 0, 4, 4, 4, 0)},

	{"sides that cross", xy(0, 0, 4, 4, 4, 0, 0, 4)},
	{"the first side is crossed", xy(0, 2, 4, 2, 4, 4, 2, 0)},
	{"a star", xy(0, 3, 8, 3, 1, 8, 4, 0, 7, 8)},
	{"touching the ground between", xy(0, 0, 8, 0, 8, 4, 6, 4, 6, 0, 4, 4, 0, 4)},
	{"a side through a corner", xy(0, 0, 4, 0, 4, 4, 2, 0, 0, 4)},
	{"a corner on another side", xy(0, 0, 8, 0, 8, 8, 4, 0, 2, 2)},
	{"a corner on another side from outside", xy(0, 0, 10, 0, 10, 2, 2, 2, 2, 4, 5, 2, 6, 6, 0, 6)},
	{"the first corner on another side", xy(4, 0, 8, 8, 8, 0, 0, 0, 0, 8)},
	{"the last corner on another side", xy(8, 8, 8, 0, 0, 0, 0, 8, 4, 0)},
	{"a side along another one", xy(0, 0, 8, 0, 8, 4, 6, 0, 2, 0, 0, 4)},
	{"a side along another one from outside", xy(0, 0, 10, 0, 10, 2, 2, 2, 2, 4, 4, 2, 6, 2, 6, 6, 0, 6)},
	{"the same side twice", xy(0, 0, 4, 0, 2, 3, 4, 0, 0, 0, 2, 5)},

	{"-1 as X", xy(-1, 0, 4, 0, 0, 4)},
	{"-1 as Y", xy(0, 0, 4, -1, 0, 4)},
	{"MaxCoord + 1 as X", xy(0, 0, 41, 0, 0, 4)},
	{"MaxCoord + 1 as Y", xy(0, 0, 4, 0, 0, 41)},
	{"the least int", xy(0, 0, math.MinInt, 0, 0, 4)},
	{"the greatest int", xy(0, 0, 4, 0, 0, math.MaxInt)},
	{"all invalid", xy(50, 50, 60, 50, 50, 60)},
	{"the greatest ints", xy(math.MinInt, math.MinInt, math.MaxInt, math.MinInt, math.MaxInt, math.MaxInt, math.MinInt, math.MaxInt)},
}

// eachNoPolygon calls do with lists that are no polygons: the table's, and polygons with a bad point in place of each corner in turn.
func eachNoPolygon(do func(name string, p []impl.Point)) {
	for _, c := range noPolygons {
		do(c.name, c.p)
	}
	for _, c := range polygons {
		for _, bad := range badPoints() {
			for i := range c.p {
				p := slices.Clone(c.p)
				p[i] = bad
				do(c.name+" with a bad point", p)
			}
		}
	}
}

func TestConstantOfPolygons(t *testing.T) {
	if impl.MaxCorners != 10 {
		t.Error("MaxCorners is not that of the specification")
	}
	// It is untyped: it fits other types of numbers, too.
	const _ uint8 = impl.MaxCorners
}

func TestPolygonOk(t *testing.T) {
	for _, c := range polygons {
		for k := range c.p {
			p := append(slices.Clone(c.p[k:]), c.p[:k]...)
			if !impl.PolygonOk(p) {
				t.Errorf("%s: PolygonOk(%v) = false", c.name, p)
			}
			slices.Reverse(p)
			if !impl.PolygonOk(p) {
				t.Errorf("%s: PolygonOk(%v) = false", c.name, p)
			}
		}
	}
	eachNoPolygon(func(name string, p []impl.Point) {
		if impl.PolygonOk(p) {
			t.Errorf("%s: PolygonOk(%v) = true", name, p)
		}
	})
}

// TestPolygonOkInEveryOrder begins anywhere, in both directions, with lists that are no polygons.
func TestPolygonOkInEveryOrder(t *testing.T) {
	for _, c := range noPolygons {
		for k := range c.p {
			p := append(slices.Clone(c.p[k:]), c.p[:k]...)
			if impl.PolygonOk(p) {
				t.Errorf("%s: PolygonOk(%v) = true", c.name, p)
			}
			slices.Reverse(p)
			if impl.PolygonOk(p) {
				t.Errorf("%s: PolygonOk(%v) = true", c.name, p)
			}
		}
	}
}

func TestCountsOfCorners(t *testing.T) {
	// A row of corners on the ground and one above it: straight corners are allowed, so that only the count decides.
	for n := range 60 {
		p := []impl.Point{pt(0, 1)}
		for x := range n {
			p = append(p, pt(x%41, 0))
		}
		p = p[:n]
		if got := impl.PolygonOk(p); got != (n >= 3 && n <= 10) {
			t.Errorf("PolygonOk of %d corners = %v", n, got)
		}
	}
}

func TestSizes(t *testing.T) {
	for _, c := range polygons {
		if got := impl.TwiceArea(c.p); got != c.area {
			t.Errorf("%s: TwiceArea(%v) = %d, want %d", c.name, c.p, got, c.area)
		}
		if got := impl.RimPoints(c.p); got != c.rim {
			t.Errorf("%s: RimPoints(%v) = %d, want %d", c.name, c.p, got, c.rim)
		}
		if got := impl.InnerPoints(c.p); got != c.inner {
			t.Errorf("%s: InnerPoints(%v) = %d, want %d", c.name, c.p, got, c.inner)
		}
	}
	eachNoPolygon(func(name string, p []impl.Point) {
		if area, rim, inner := impl.TwiceArea(p), impl.RimPoints(p), impl.InnerPoints(p); area != 0 || rim != -1 || inner != -1 {
			t.Errorf("%s: TwiceArea, RimPoints and InnerPoints of %v = %d, %d and %d, want 0, -1 and -1", name, p, area, rim, inner)
		}
	})
}

func TestBoxOf(t *testing.T) {
	for _, c := range polygons {
		if low, high, ok := impl.BoxOf(c.p); low != c.low || high != c.high || !ok {
			t.Errorf("%s: BoxOf(%v) = %v, %v, %v, want %v, %v, true", c.name, c.p, low, high, ok, c.low, c.high)
		}
	}
	// No corner is at a corner of the box.
	if low, high, ok := impl.BoxOf(xy(20, 5, 33, 20, 21, 38, 2, 19)); low != pt(2, 5) || high != pt(33, 38) || !ok {
		t.Errorf("BoxOf = %v, %v, %v", low, high, ok)
	}
	eachNoPolygon(func(name string, p []impl.Point) {
		if low, high, ok := impl.BoxOf(p); low != pt(0, 0) || high != pt(0, 0) || ok {
			t.Errorf("%s: BoxOf(%v) = %v, %v, %v, want zero values and false", name, p, low, high, ok)
		}
	})
}

func TestStraightened(t *testing.T) {
	for _, c := range polygons {
		want := c.bends
		if !c.hasStraightCorner {
			want = c.p
		}
		if got := impl.Straightened(c.p); !slices.Equal(got, want) {
			t.Errorf("%s: Straightened(%v) = %v, want %v", c.name, c.p, got, want)
		}
	}
	eachNoPolygon(func(name string, p []impl.Point) {
		if got := impl.Straightened(p); len(got) != 0 {
			t.Errorf("%s: Straightened(%v) = %v, want none", name, p, got)
		}
	})
}

func TestTurnPolygon(t *testing.T) {
	cases := []struct{ p, want []impl.Point }{
		{xy(0, 0, 6, 0, 0, 4), xy(0, 0, 0, 4, 6, 0)},
		{xy(0, 4, 6, 0, 0, 0), xy(0, 4, 0, 0, 6, 0)},
		{xy(0, 0, 4, 0, 4, 4, 2, 2, 0, 4), xy(0, 0, 0, 4, 2, 2, 4, 4, 4, 0)},
		{xy(40, 40, 40, 0, 0, 0, 0, 40), xy(40, 40, 0, 40, 0, 0, 40, 0)},
		{xy(2, 0, 4, 0, 0, 4, 0, 0), xy(2, 0, 0, 0, 0, 4, 4, 0)},
		{xy(4, 4, 3, 3, 0, 0, 2, 0, 3, 0, 4, 0, 8, 0, 7, 1, 6, 2, 5, 3), xy(4, 4, 5, 3, 6, 2, 7, 1, 8, 0, 4, 0, 3, 0, 2, 0, 0, 0, 3, 3)},
	}
	for _, c := range cases {
		if got := impl.TurnPolygon(c.p); !slices.Equal(got, c.want) {
			t.Errorf("TurnPolygon(%v) = %v, want %v", c.p, got, c.want)
		}
	}
	eachNoPolygon(func(name string, p []impl.Point) {
		if got := impl.TurnPolygon(p); len(got) != 0 {
			t.Errorf("%s: TurnPolygon(%v) = %v, want none", name, p, got)
		}
	})
}

func TestStartAt(t *testing.T) {
	for _, c := range polygons {
		n := len(c.p)
		for k := range n {
			got := impl.StartAt(c.p, k)
			if len(got) != n {
				t.Errorf("%s: StartAt(%v, %d) = %v", c.name, c.p, k, got)
				continue
			}
			for i, corner := range got {
				if corner != c.p[(k+i)%n] {
					t.Errorf("%s: StartAt(%v, %d) = %v", c.name, c.p, k, got)
				}
			}
		}
		for _, k := range []int{-1, n, n + 1, -n, 2 * n, 10, 11, 100, 1 << 32, -1 << 32, math.MinInt, math.MinInt + 1, math.MaxInt - 1, math.MaxInt} {
			if got := impl.StartAt(c.p, k); len(got) != 0 {
				t.Errorf("%s: StartAt(%v, %d) = %v, want none", c.name, c.p, k, got)
			}
		}
	}
	if got := impl.StartAt(xy(0, 0, 4, 0, 4, 4, 2, 2, 0, 4), 3); !slices.Equal(got, xy(2, 2, 0, 4, 0, 0, 4, 0, 4, 4)) {
		t.Errorf("StartAt at 3 = %v", got)
	}
	eachNoPolygon(func(name string, p []impl.Point) {
		for _, k := range []int{0, 1, len(p) - 1, -1, len(p), math.MinInt, math.MaxInt} {
			if got := impl.StartAt(p, k); len(got) != 0 {
				t.Errorf("%s: StartAt(%v, %d) = %v, want none", name, p, k, got)
			}
		}
	})
}
