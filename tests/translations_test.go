package tests

import (
	"math"
	"slices"
	"testing"

	"loop.example/g03208/impl"
)

// noDirections are pairs that are no directions.
var noDirections = [][2]int{
	{0, 0}, {2, 0}, {3, 0}, {-1, 0}, {-2, 0}, {40, 0}, {41, 0}, {-40, 0},
	{0, 2}, {0, 3}, {0, 40}, {2, 2}, {-2, 2}, {4, 2}, {2, 4}, {-2, 4}, {-4, 2}, {6, 9}, {-6, 9}, {40, 40}, {-40, 40}, {39, 26},
	{0, -1}, {1, -1}, {-1, -1}, {2, -1}, {-1, -2}, {3, -2}, {-3, -1}, {-40, -39}, {0, -2}, {2, -2}, {-4, -2},
	{math.MinInt, 0}, {math.MaxInt, 0}, {0, math.MinInt}, {0, math.MaxInt}, {1, math.MinInt}, {-1, math.MinInt}, {-1, -math.MaxInt},
	{math.MinInt, math.MinInt}, {math.MaxInt, math.MaxInt}, {math.MinInt, math.MaxInt - 1}, {math.MaxInt, math.MinInt},
	{math.MinInt, -1}, {math.MaxInt, -1}, {1 << 32, 0}, {1<<32 + 1, 0}, {0, 1 << 32}, {1, -1 << 32},
}

// farDirections are directions along which no side of a polygon can lead.
var farDirections = [][2]int{
	{41, 1}, {-41, 1}, {1, 41}, {-1, 41}, {41, 40}, {-41, 40}, {40, 41}, {1000, 1}, {-1000, 999}, {255, 256}, {257, 1}, {1 << 32, 1}, {1<<32 + 3, 1},
	{math.MinInt, 1}, {math.MaxInt, 1}, {1, math.MaxInt}, {-1, math.MaxInt}, {math.MinInt, math.MaxInt}, {math.MaxInt - 1, math.MaxInt}, {math.MinInt + 1, math.MaxInt - 1},
}

// measured are polygons and their measures.
var measured = []struct {
	name     string
	p        []impl.Point
	measures [][]int
}{
	{"triangle", xy(0, 0, 3, 0, 0, 1), groups(3, 1, 0, 3, -3, 1, 1, 0, 1, -1)},
	{"triangle after a half turn", xy(3, 1, 0, 1, 3, 0), groups(3, 1, 0, -3, -3, 1, -1, 0, 1, 1)},
	{"triangle after a mirroring", xy(3, 0, 0, 0, 3, 1), groups(3, 1, 0, 3, 0, 1, 1, 3, 1, -1)},
	{"larger triangle", xy(0, 0, 6, 0, 0, 4), groups(3, 1, 0, 6, 0, 1, -4, -3, 2, 2)},
	{"triangle with the least area, clockwise", xy(40, 40, 40, 39, 39, 40), groups(3, 1, 0, -1, -1, 1, -1, 0, 1, 1)},
	{"long triangle with the least area", xy(0, 0, 40, 39, 1, 1), groups(3, 1, 1, -1, 39, 38, -1, 40, 39, 1)},
	{"long triangle with the least area, mirrored", xy(40, 0, 0, 39, 39, 1), groups(3, -1, 1, 1, -39, 38, 1, -40, 39, -1)},
	{"steep triangle with the least area", xy(0, 0, 39, 40, 1, 1), groups(3, 1, 1, 1, 38, 39, 1, 39, 40, -1)},
	{"half of the greatest square", xy(40, 0, 40, 40, 0, 0), groups(3, 1, 0, 40, 0, 1, 40, 1, 1, -40)},
	{"other half of the greatest square", xy(0, 40, 40, 0, 40, 40), groups(3, 1, 0, -40, -1, 1, -40, 0, 1, 40)},

	{"least square", xy(7, 9, 8, 9, 8, 10, 7, 10), nil},
	{"greatest square", xy(0, 0, 40, 0, 40, 40, 0, 40), nil},
	{"square on a corner", xy(5, 3, 7, 5, 5, 7, 3, 5), nil},
	{"parallelogram", xy(0, 0, 3, 0, 4, 2, 1, 2), nil},
	{"L", xy(2, 1, 6, 1, 6, 3, 4, 3, 4, 5, 2, 5), nil},
	{"L that leans", xy(0, 0, 6, 0, 8, 2, 6, 2, 8, 4, 4, 4), nil},
	{"star", xy(5, 0, 6, 4, 10, 5, 6, 6, 5, 10, 4, 6, 0, 5, 4, 4), nil},
	{"stairs with MaxCorners corners, clockwise", xy(0, 0, 0, 4, 1, 4, 1, 3, 2, 3, 2, 2, 3, 2, 3, 1, 4, 1, 4, 0), nil},
	{"a straight corner on each side of a square", xy(20, 0, 40, 0, 40, 5, 40, 40, 39, 40, 0, 40, 0, 1, 0, 0), nil},

	// Sides that lead both ways along one direction.
	{"one left over of level sides", xy(0, 0, 6, 0, 4, 2, 0, 2), groups(3, 1, 0, 2, -1, 1, 2, 0, 1, -2)},
	{"upright sides that even out", xy(0, 0, 4, 0, 4, 4, 2, 2, 0, 4), groups(3, 1, 0, 4, -1, 1, 2, 1, 1, -2)},
	{"slanted sides that even out", xy(0, 0, 4, 0, 6, 2, 4, 3, 2, 1), groups(3, 1, 0, 4, -2, 1, 1, 2, 1, -1)},
	{"level and upright sides both ways", xy(0, 0, 2, 0, 2, 2, 4, 2, 4, 0, 6, 0, 6, 4, 2, 4, 0, 2), groups(3, 1, 0, 2, 0, 1, 2, 1, 1, -2)},
	{"comb with MaxCorners corners", xy(0, 0, 8, 0, 8, 5, 7, 1, 6, 5, 5, 1, 4, 5, 3, 1, 2, 5, 0, 1), groups(3, 1, 0, 8, 0, 1, 4, 1, 2, -2, -1, 4, 3, 1, 4, -3)},
	{
		"ten directions", xy(10, 0, 14, 0, 17, 1, 19, 2, 20, 3, 21, 6, 20, 8, 17, 9, 13, 8, 11, 5),
		groups(3, 1, 0, 4, -3, 1, 1, 1, 1, 1, 2, 1, 1, 3, 1, 1, 4, 1, -1, -1, 2, 1, 1, 3, 1, 2, 3, -1, 1, 5, -1),
	},

	{"one straight corner", xy(0, 0, 2, 0, 4, 0, 0, 4), groups(3, 1, 0, 4, -1, 1, 4, 0, 1, -4)},
	{"straight corner, clockwise", xy(0, 0, 0, 4, 1, 3, 4, 0), groups(3, 1, 0, 4, -1, 1, 4, 0, 1, -4)},
	{"several straight corners in a row", xy(0, 0, 1, 0, 2, 0, 7, 0, 8, 0, 3, 5), groups(3, 1, 0, 8, -1, 1, 5, 3, 5, -1)},
	{"a triangle with seven straight corners", xy(4, 4, 3, 3, 0, 0, 2, 0, 3, 0, 4, 0, 8, 0, 7, 1, 6, 2, 5, 3), groups(3, 1, 0, 8, -1, 1, 4, 1, 1, -4)},
	{"straight corner beside an inward one", xy(0, 0, 4, 0, 4, 4, 3, 3, 2, 2, 0, 4), groups(3, 1, 0, 4, -1, 1, 2, 1, 1, -2)},
}

// listed returns the measure that a list has for a direction, and 0 if it has none.
func listed(measures [][]int, x, y int) int {
	for _, m := range measures {
		if m[0] == x && m[1] == y {
			return m[2]
		}
	}
	return 0
}

func TestDirectionOf(t *testing.T) {
	cases := []struct {
		a, b impl.Point
		x, y int
	}{
		{pt(4, 6), pt(0, 0), 2, 3},
		{pt(0, 0), pt(1, 0), 1, 0},
		{pt(0, 0), pt(40, 0), 1, 0},
		{pt(40, 40), pt(0, 40), 1, 0},
		{pt(39, 17), pt(38, 17), 1, 0},
		{pt(0, 0), pt(0, 1), 0, 1},
		{pt(40, 40), pt(40, 0), 0, 1},
		{pt(17, 3), pt(17, 12), 0, 1},
		{pt(0, 0), pt(40, 40), 1, 1},
		{pt(40, 40), pt(0, 0), 1, 1},
		{pt(40, 0), pt(0, 40), -1, 1},
		{pt(0, 40), pt(40, 0), -1, 1},
		{pt(0, 0), pt(40, 39), 40, 39},
		{pt(40, 0), pt(0, 39), -40, 39},
		{pt(40, 39), pt(0, 0), 40, 39},
		{pt(0, 39), pt(40, 0), -40, 39},
		{pt(0, 0), pt(39, 40), 39, 40},
		{pt(39, 0), pt(0, 40), -39, 40},
		{pt(0, 1), pt(40, 0), -40, 1},
		{pt(0, 0), pt(40, 1), 40, 1},
		{pt(1, 0), pt(0, 40), -1, 40},
		{pt(0, 0), pt(36, 24), 3, 2},
		{pt(36, 0), pt(0, 24), -3, 2},
		{pt(10, 20), pt(22, 14), -2, 1},
	}
	for _, c := range cases {
		if got, ok := impl.DirectionOf(c.a, c.b); !slices.Equal(got, []int{c.x, c.y}) || !ok {
			t.Errorf("DirectionOf(%v, %v) = %v, %v, want %d, %d", c.a, c.b, got, ok, c.x, c.y)
		}
	}
}

func TestDirectionOfRefuses(t *testing.T) {
	for _, p := range grid(40) {
		if got, ok := impl.DirectionOf(p, p); len(got) != 0 || ok {
			t.Errorf("DirectionOf(%v, itself) = %v, %v, want none", p, got, ok)
		}
	}
	eachWithBad(2, func(l []impl.Point) {
		if got, ok := impl.DirectionOf(l[0], l[1]); len(got) != 0 || ok {
			t.Errorf("DirectionOf(%v, %v) = %v, %v, want none", l[0], l[1], got, ok)
		}
	})
}

func TestMeasuresOf(t *testing.T) {
	for _, c := range measured {
		if !impl.PolygonOk(c.p) {
			t.Errorf("%s: %v is no polygon", c.name, c.p)
		}
		inEveryOrder(c.p, func(p []impl.Point) {
			if got := impl.MeasuresOf(p); !sameLists(got, c.measures) {
				t.Errorf("%s: MeasuresOf(%v) = %v, want %v", c.name, p, got, c.measures)
			}
			if got := impl.IsBalanced(p); got != (c.measures == nil) {
				t.Errorf("%s: IsBalanced(%v) = %v", c.name, p, got)
			}
		})
	}
}

// TestMeasureFor asks for all pairs around the directions that sides can lead along, so that all that are not in the table have to be 0.
func TestMeasureFor(t *testing.T) {
	for _, c := range measured {
		turned := impl.TurnPolygon(c.p)
		for x := -42; x <= 42; x++ {
			for y := -3; y <= 42; y++ {
				want := listed(c.measures, x, y)
				if got, other := impl.MeasureFor(c.p, x, y), impl.MeasureFor(turned, x, y); got != want || other != want {
					t.Errorf("%s: MeasureFor(%v, %d, %d) = %d, and %d in the other direction, want %d", c.name, c.p, x, y, got, other, want)
				}
			}
		}
	}
}

func TestMeasureForOtherPairs(t *testing.T) {
	for _, c := range measured {
		pairs := slices.Concat(noDirections, farDirections)
		// Those of the table the other way, and twice them.
		for _, m := range c.measures {
			pairs = append(pairs, [2]int{-m[0], -m[1]}, [2]int{2 * m[0], 2 * m[1]}, [2]int{-2 * m[0], -2 * m[1]})
		}
		for _, d := range pairs {
			if got := impl.MeasureFor(c.p, d[0], d[1]); got != 0 {
				t.Errorf("%s: MeasureFor(%v, %d, %d) = %d, want 0", c.name, c.p, d[0], d[1], got)
			}
		}
	}
}

func TestNoPolygonHasMeasures(t *testing.T) {
	square, triangle := xy(0, 0, 4, 0, 4, 4, 0, 4), xy(0, 0, 3, 0, 0, 1)
	eachNoPolygon(func(name string, p []impl.Point) {
		if got := impl.MeasuresOf(p); len(got) != 0 || impl.IsBalanced(p) {
			t.Errorf("%s: MeasuresOf(%v) = %v, IsBalanced = %v, want none and false", name, p, got, impl.IsBalanced(p))
		}
		for _, d := range [][2]int{{1, 0}, {0, 1}, {1, 1}, {-1, 1}, {-3, 1}, {1, 4}, {0, 0}, {2, 0}, {0, -1}, {math.MinInt, 1}, {math.MaxInt, math.MaxInt}} {
			if got := impl.MeasureFor(p, d[0], d[1]); got != 0 {
				t.Errorf("%s: MeasureFor(%v, %d, %d) = %d, want 0", name, p, d[0], d[1], got)
			}
		}
		// The square has no measures either.
		for _, q := range [][]impl.Point{p, square, triangle, nil} {
			if impl.SameMeasures(p, q) || impl.SameMeasures(q, p) {
				t.Errorf("%s: SameMeasures is true for %v and %v", name, p, q)
			}
			if impl.CanExchange(p, q) || impl.CanExchange(q, p) {
				t.Errorf("%s: CanExchange is true for %v and %v", name, p, q)
			}
		}
	})
}

// measuredAlike are lists of polygons with the same measures, each with its twice area without the sign.
var measuredAlike = [][]struct {
	p    []impl.Point
	area int
}{
	{
		{xy(0, 0, 4, 0, 4, 1, 0, 1), 8},
		{xy(0, 0, 2, 0, 2, 2, 0, 2), 8},
		{xy(39, 36, 40, 36, 40, 40, 39, 40), 8},
		{xy(0, 0, 4, 0, 8, 1, 4, 1), 8},
		{xy(2, 0, 3, 0, 4, 2, 2, 4, 1, 4, 0, 2), 20},
		{xy(5, 3, 7, 5, 5, 7, 3, 5), 16},
		{xy(0, 0, 4, 0, 4, 2, 2, 2, 0, 2), 16},
		{xy(2, 1, 6, 1, 6, 3, 4, 3, 4, 5, 2, 5), 24},
		{xy(0, 0, 6, 0, 8, 2, 6, 2, 8, 4, 4, 4), 40},
		{xy(0, 0, 5, 0, 5, 4, 0, 4), 40},
		{xy(0, 0, 4, 0, 4, 3, 0, 3), 24},
		{xy(0, 0, 40, 0, 40, 40, 0, 40), 3200},
		{xy(0, 0, 1, 0, 1, 1, 0, 1), 2},
		{xy(0, 0, 40, 39, 40, 40, 0, 1), 80},
		{xy(0, 0, 40, 0, 40, 1, 0, 1), 80},
	},
	// A triangle, and sums of it and others.
	{
		{xy(0, 0, 3, 0, 0, 1), 3},
		{xy(37, 39, 40, 39, 37, 40), 3},
		{xy(0, 0, 1, 0, 2, 0, 3, 0, 0, 1), 3},
		{xy(0, 0, 3, 0, 3, 1, 0, 2), 9},
		{xy(0, 0, 6, 0, 3, 1, 0, 1), 9},
		{xy(0, 0, 9, 0, 6, 1, 0, 1), 15},
		{xy(0, 0, 3, 0, 4, 1, 1, 2, 0, 1), 11},
	},
	// The same triangle moved in other ways has the same area.
	{{xy(3, 1, 0, 1, 3, 0), 3}, {xy(3, 1, 3, 2, 0, 2, 0, 1, 3, 0), 9}},
	{{xy(0, 0, 3, 0, 3, 1), 3}},
	{{xy(0, 1, 3, 1, 0, 0), 3}},
	{{xy(0, 0, 1, 0, 1, 3), 3}},
	// Twice as large, and the same directions or numbers only.
	{{xy(0, 0, 6, 0, 0, 2), 12}},
	{{xy(0, 0, 1, 0, 0, 3), 3}},
	{{xy(0, 0, 3, 0, 1, 1), 3}},
	{{xy(0, 0, 6, 0, 4, 2, 0, 2), 20}, {xy(0, 0, 2, 0, 0, 2), 4}, {xy(0, 0, 2, 0, 2, 4, 0, 6), 20}, {xy(0, 0, 3, 0, 3, 1, 1, 3, 0, 3), 14}, {xy(1, 1, 4, 1, 4, 0, 6, 0, 4, 2, 4, 3, 1, 3), 16}},
	{{xy(0, 0, 4, 0, 4, 4, 2, 2, 0, 4), 24}, {xy(0, 0, 4, 0, 2, 2), 8}, {xy(0, 2, 4, 2, 4, 4, 2, 6, 0, 4), 24}},
	{{xy(0, 0, 4, 0, 2, 2, 4, 4, 0, 4), 24}},
}

// checkExchange asks for the second polygon in every order, and the other way round.
func checkExchange(t *testing.T, p, q []impl.Point, same, exchange bool) {
	t.Helper()
	inEveryOrder(q, func(q []impl.Point) {
		if a, b := impl.SameMeasures(p, q), impl.SameMeasures(q, p); a != same || b != same {
			t.Errorf("SameMeasures(%v, %v) = %v, and %v in the other order", p, q, a, b)
		}
		if a, b := impl.CanExchange(p, q), impl.CanExchange(q, p); a != exchange || b != exchange {
			t.Errorf("CanExchange(%v, %v) = %v, and %v in the other order", p, q, a, b)
		}
	})
}

func TestSameMeasuresAndCanExchange(t *testing.T) {
	for i, list := range measuredAlike {
		for _, c := range list {
			if area := impl.TwiceArea(c.p); max(area, -area) != c.area {
				t.Errorf("TwiceArea(%v) = %d, want %d without its sign", c.p, area, c.area)
			}
			for j, others := range measuredAlike {
				for _, d := range others {
					checkExchange(t, c.p, d.p, i == j, i == j && c.area == d.area)
				}
			}
		}
	}
}
