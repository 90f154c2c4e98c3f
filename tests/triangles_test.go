package tests

import (
	"math"
	"slices"
	"testing"

	"loop.example/g03208/impl"
)

// groups returns the numbers in lists of n each.
func groups(n int, numbers ...int) [][]int {
	var lists [][]int
	for i := 0; i < len(numbers); i += n {
		lists = append(lists, slices.Clone(numbers[i:i+n]))
	}
	return lists
}

func sameLists(a, b [][]int) bool {
	return slices.EqualFunc(a, b, func(l, m []int) bool { return slices.Equal(l, m) })
}

// cut are polygons, and what is so of their diagonals and triangles.
var cut = []struct {
	name                 string
	p                    []impl.Point
	diagonals, triangles [][]int
	ears                 []int
	count                int
}{
	{"triangle", xy(0, 0, 6, 0, 0, 4), nil, groups(3, 0, 1, 2), []int{0, 1, 2}, 1},
	{"triangle, clockwise", xy(0, 0, 0, 4, 6, 0), nil, groups(3, 0, 1, 2), []int{0, 1, 2}, 1},
	{"triangle with the least area", xy(40, 40, 40, 39, 39, 40), nil, groups(3, 0, 1, 2), []int{0, 1, 2}, 1},
	{"square", xy(0, 0, 4, 0, 4, 4, 0, 4), groups(2, 0, 2, 1, 3), groups(3, 0, 1, 3, 1, 2, 3), []int{0, 1, 2, 3}, 2},
	{"square, clockwise", xy(0, 4, 4, 4, 4, 0, 0, 0), groups(2, 0, 2, 1, 3), groups(3, 0, 1, 3, 1, 2, 3), []int{0, 1, 2, 3}, 2},
	// The middle of its diagonals has no integer coordinates.
	{"least square", xy(39, 39, 40, 39, 40, 40, 39, 40), groups(2, 0, 2, 1, 3), groups(3, 0, 1, 3, 1, 2, 3), []int{0, 1, 2, 3}, 2},
	{"greatest square", xy(0, 0, 40, 0, 40, 40, 0, 40), groups(2, 0, 2, 1, 3), groups(3, 0, 1, 3, 1, 2, 3), []int{0, 1, 2, 3}, 2},

	{"inward corner", xy(0, 0, 4, 0, 4, 4, 2, 2, 0, 4), groups(2, 0, 3, 1, 3), groups(3, 1, 2, 3, 0, 1, 3, 0, 3, 4), []int{2, 4}, 1},
	{"inward corner, clockwise", xy(0, 4, 2, 2, 4, 4, 4, 0, 0, 0), groups(2, 1, 3, 1, 4), groups(3, 0, 1, 4, 1, 2, 3, 1, 3, 4), []int{0, 2}, 1},
	{"inward corner first", xy(5, 5, 9, 0, 40, 40, 0, 9), groups(2, 0, 2), groups(3, 0, 1, 2, 0, 2, 3), []int{1, 3}, 1},
	{"narrow arrow", xy(0, 0, 10, 1, 0, 2, 9, 1), groups(2, 1, 3), groups(3, 0, 1, 3, 1, 2, 3), []int{0, 2}, 1},
	{"L", xy(2, 1, 6, 1, 6, 3, 4, 3, 4, 5, 2, 5), groups(2, 0, 2, 0, 3, 0, 4, 1, 3, 3, 5), groups(3, 0, 1, 2, 0, 2, 3, 0, 3, 5, 3, 4, 5), []int{1, 2, 4, 5}, 4},
	{
		"corners on a line, but not in a row", xy(0, 0, 2, 0, 2, 2, 4, 2, 4, 0, 6, 0, 6, 4, 0, 4),
		groups(2, 0, 2, 1, 7, 2, 6, 2, 7, 3, 5, 3, 6, 3, 7, 4, 6),
		groups(3, 0, 1, 7, 1, 2, 7, 2, 3, 7, 3, 4, 5, 3, 5, 6, 3, 6, 7), []int{0, 1, 4, 5}, 8,
	},
	{
		// The segments from 0 to 3 and from 0 to 5 have a part of a side in them, and are else inside.
		"a side on the way", xy(0, 2, 0, 0, 9, 0, 9, 2, 7, 4, 6, 2, 3, 2, 2, 4),
		groups(2, 0, 2, 0, 6, 1, 3, 1, 5, 1, 6, 1, 7, 2, 4, 2, 5, 2, 6, 3, 5),
		groups(3, 0, 1, 7, 1, 2, 3, 3, 4, 5, 1, 3, 5, 1, 5, 6, 1, 6, 7), []int{0, 1, 2, 3, 4, 7}, 12,
	},
	{
		"Z", xy(0, 0, 6, 0, 6, 4, 8, 4, 8, 6, 2, 6, 2, 2, 0, 2),
		groups(2, 0, 2, 0, 4, 0, 6, 1, 5, 1, 6, 1, 7, 2, 4, 2, 5, 2, 6, 3, 5, 4, 6),
		groups(3, 0, 1, 7, 2, 3, 4, 2, 4, 5, 1, 2, 5, 1, 5, 6, 1, 6, 7), []int{0, 1, 3, 4, 5, 7}, 14,
	},
	{
		"star", xy(5, 0, 6, 4, 10, 5, 6, 6, 5, 10, 4, 6, 0, 5, 4, 4),
		groups(2, 0, 3, 0, 4, 0, 5, 1, 3, 1, 4, 1, 5, 1, 6, 1, 7, 2, 5, 2, 6, 2, 7, 3, 5, 3, 6, 3, 7, 4, 7, 5, 7),
		groups(3, 0, 1, 7, 1, 2, 7, 2, 3, 7, 3, 4, 7, 4, 5, 7, 5, 6, 7), []int{0, 2, 4, 6}, 30,
	},
	{
		"comb with MaxCorners corners", xy(0, 0, 8, 0, 8, 5, 7, 1, 6, 5, 5, 1, 4, 5, 3, 1, 2, 5, 0, 1),
		groups(2, 0, 3, 0, 5, 0, 7, 0, 8, 1, 3, 1, 5, 1, 7, 1, 9, 3, 5, 5, 7, 7, 9),
		groups(3, 0, 1, 9, 1, 2, 3, 3, 4, 5, 1, 3, 5, 5, 6, 7, 1, 5, 7, 1, 7, 9, 7, 8, 9), []int{0, 2, 4, 6, 8, 9}, -1,
	},
	{
		"stairs with MaxCorners corners, clockwise", xy(0, 0, 0, 4, 1, 4, 1, 3, 2, 3, 2, 2, 3, 2, 3, 1, 4, 1, 4, 0),
		groups(2, 0, 2, 0, 3, 0, 4, 0, 5, 0, 6, 0, 7, 0, 8, 1, 3, 3, 5, 5, 7, 7, 9),
		groups(3, 0, 1, 2, 0, 2, 3, 0, 3, 4, 0, 4, 5, 0, 5, 6, 0, 6, 7, 0, 7, 9, 7, 8, 9), []int{1, 2, 4, 6, 8, 9}, -1,
	},

	{"one straight corner", xy(0, 0, 2, 0, 4, 0, 0, 4), groups(2, 1, 3), groups(3, 0, 1, 3, 1, 2, 3), []int{0, 2}, 1},
	{"straight corner first", xy(2, 0, 4, 0, 0, 4, 0, 0), groups(2, 0, 2), groups(3, 0, 1, 2, 0, 2, 3), []int{1, 3}, 1},
	{"straight corner last", xy(4, 0, 0, 4, 0, 0, 2, 0), groups(2, 1, 3), groups(3, 0, 1, 3, 1, 2, 3), []int{0, 2}, 1},
	{"straight corner, clockwise", xy(0, 0, 0, 4, 1, 3, 4, 0), groups(2, 0, 2), groups(3, 0, 1, 2, 0, 2, 3), []int{1, 3}, 1},
	{
		"several straight corners in a row", xy(0, 0, 1, 0, 2, 0, 7, 0, 8, 0, 3, 5),
		groups(2, 1, 5, 2, 5, 3, 5), groups(3, 0, 1, 5, 1, 2, 5, 2, 3, 5, 3, 4, 5), []int{0, 4}, 1,
	},
	{
		"straight corners last and first", xy(2, 0, 7, 0, 8, 0, 3, 5, 0, 0, 1, 0),
		groups(2, 0, 3, 1, 3, 3, 5), groups(3, 1, 2, 3, 0, 1, 3, 0, 3, 5, 3, 4, 5), []int{2, 4}, 1,
	},
	{"two straight corners first", xy(2, 2, 1, 1, 0, 0, 9, 0, 3, 3), groups(2, 0, 3, 1, 3), groups(3, 1, 2, 3, 0, 1, 3, 0, 3, 4), []int{2, 4}, 1},
	{"two straight corners last", xy(0, 0, 9, 0, 3, 3, 2, 2, 1, 1), groups(2, 1, 3, 1, 4), groups(3, 0, 1, 4, 1, 2, 3, 1, 3, 4), []int{0, 2}, 1},
	{
		"a straight corner on each side of a triangle", xy(0, 0, 4, 0, 8, 0, 4, 4, 0, 8, 0, 4),
		groups(2, 0, 3, 1, 3, 1, 4, 1, 5, 2, 5, 3, 5), groups(3, 0, 1, 5, 1, 2, 5, 2, 3, 5, 3, 4, 5), []int{0, 2, 4}, 4,
	},
	{
		"a straight corner on each side", xy(20, 0, 40, 0, 40, 5, 40, 40, 39, 40, 0, 40, 0, 1, 0, 0),
		groups(2, 0, 2, 0, 3, 0, 4, 0, 5, 0, 6, 1, 4, 1, 5, 1, 6, 2, 4, 2, 5, 2, 6, 2, 7, 3, 6, 3, 7, 4, 6, 4, 7),
		groups(3, 0, 1, 2, 0, 2, 7, 2, 3, 7, 3, 4, 7, 4, 5, 6, 4, 6, 7), []int{1, 3, 5, 7}, 30,
	},
	{
		"a triangle with seven straight corners", xy(4, 4, 3, 3, 0, 0, 2, 0, 3, 0, 4, 0, 8, 0, 7, 1, 6, 2, 5, 3),
		groups(2, 0, 3, 0, 4, 0, 5, 1, 3, 1, 4, 1, 5, 1, 6, 1, 7, 1, 8, 1, 9, 2, 7, 2, 8, 2, 9, 3, 7, 3, 8, 3, 9, 4, 7, 4, 8, 4, 9, 5, 7, 5, 8, 5, 9),
		groups(3, 0, 1, 9, 1, 2, 9, 2, 3, 9, 3, 4, 9, 4, 5, 9, 5, 6, 7, 5, 7, 8, 5, 8, 9), []int{0, 2, 6}, -1,
	},
	{
		"straight corner beside an inward one", xy(0, 0, 4, 0, 4, 4, 3, 3, 2, 2, 0, 4),
		groups(2, 0, 4, 1, 3, 1, 4), groups(3, 1, 2, 3, 1, 3, 4, 0, 1, 4, 0, 4, 5), []int{2, 5}, 1,
	},
}

// indicesFor returns the indices of n corners and others around and far from them.
func indicesFor(n int) []int {
	all := []int{math.MinInt, math.MinInt + 1, -1 << 32, -n - 1, -n, -n + 1, -2, -1}
	for i := range 2*n + 2 {
		all = append(all, i)
	}
	return append(all, 10, 100, 1<<32, 1<<32+1, math.MaxInt-1, math.MaxInt)
}

// areJoined tells from a list of diagonals whether one of them joins the two corners.
func areJoined(diagonals [][]int, i, k int) bool {
	d := []int{min(i, k), max(i, k)}
	return slices.ContainsFunc(diagonals, func(e []int) bool { return slices.Equal(d, e) })
}

// TestIsDiagonal tries all indices, so that each segment that is not in the table has to be refused, in both orders.
func TestIsDiagonal(t *testing.T) {
	for _, c := range cut {
		for _, i := range indicesFor(len(c.p)) {
			for _, k := range indicesFor(len(c.p)) {
				want := areJoined(c.diagonals, i, k)
				if got := impl.IsDiagonal(c.p, i, k); got != want {
					t.Errorf("%s: IsDiagonal(%v, %d, %d) = %v", c.name, c.p, i, k, got)
				}
			}
		}
	}
}

// joinings are single pairs of corners, for the reasons why they are diagonals or not.
var joinings = []struct {
	name string
	p    []impl.Point
	i, k int
	want bool
}{
	{"across a square", xy(0, 0, 4, 0, 4, 4, 0, 4), 0, 2, true},
	{"neighbors", xy(0, 0, 4, 0, 4, 4, 0, 4), 1, 2, false},
	{"the last and the first corner", xy(0, 0, 4, 0, 4, 4, 0, 4), 3, 0, false},
	{"the first and the last corner", xy(0, 0, 4, 0, 4, 4, 0, 4), 0, 3, false},
	{"equal indices", xy(0, 0, 4, 0, 4, 4, 0, 4), 2, 2, false},
	{"outside", xy(0, 0, 8, 0, 8, 8, 4, 2, 0, 8), 2, 4, false},
	{"outside, the middle without integer coordinates", xy(0, 0, 7, 0, 7, 8, 4, 2, 0, 7), 2, 4, false},
	{"outside beside the first corner", xy(4, 2, 0, 8, 0, 0, 8, 0, 8, 8), 1, 4, false},
	{"outside at one end, along a side at the other", xy(0, 0, 6, 0, 6, 4, 4, 1, 2, 4, 0, 4), 2, 5, false},
	{"outside in the middle, inside at both ends", xy(0, 0, 9, 0, 9, 5, 6, 6, 6, 2, 3, 2, 3, 6, 0, 5), 2, 7, false},
	{"inside in the middle, outside at both ends", xy(0, 0, 9, 0, 9, 5, 7, 3, 6, 6, 3, 6, 2, 3, 0, 5), 2, 7, false},
	{"inside below the inward corners", xy(0, 0, 9, 0, 9, 4, 6, 5, 3, 5, 0, 4), 2, 5, true},
	{"through an inward corner from below", xy(0, 0, 9, 0, 9, 4, 8, 6, 4, 4, 1, 6, 0, 4), 2, 6, false},
	{"just below an inward corner", xy(0, 0, 9, 0, 9, 4, 8, 6, 4, 5, 1, 6, 0, 4), 2, 6, true},
	{"just through a notch", xy(0, 0, 9, 0, 9, 4, 8, 6, 4, 3, 1, 6, 0, 4), 2, 6, false},
	{"through an inward corner and along the side from it", xy(0, 0, 8, 0, 8, 4, 6, 8, 4, 4, 2, 4, 0, 8), 2, 5, false},
	{"inside, the middle without integer coordinates", xy(0, 0, 3, 0, 5, 2, 1, 3), 0, 2, true},
	{"inside, the middle near a side", xy(0, 0, 40, 39, 39, 39, 1, 1), 1, 3, true},
	{"between two sides of a needle", xy(0, 0, 20, 1, 40, 3, 19, 1), 1, 3, true},
	{"the tips of a needle, outside", xy(0, 0, 20, 1, 40, 3, 19, 1), 0, 2, false},
	{"the tips of a needle, through a corner", xy(0, 0, 20, 1, 40, 2, 19, 1), 0, 2, false},
	{"the tips of a needle, inside", xy(0, 0, 21, 1, 40, 2, 19, 1), 0, 2, true},
	{"along two sides", xy(0, 0, 2, 0, 4, 0, 0, 4), 0, 2, false},
	{"along three sides", xy(0, 0, 1, 0, 3, 0, 4, 0, 0, 4), 0, 3, false},
	{"along the last and the first side", xy(2, 0, 4, 0, 0, 4, 0, 0), 3, 1, false},
	{"along a side and on inside", xy(0, 0, 2, 0, 2, 2, 6, 2, 6, 6, 0, 6, 0, 2), 3, 6, false},
	{"on from a side, inside", xy(0, 0, 2, 0, 2, 2, 6, 2, 6, 6, 0, 6, 0, 2), 2, 6, true},
	{"along sides at both ends, outside between", xy(0, 0, 2, 0, 2, 2, 4, 2, 4, 0, 6, 0, 6, 4, 0, 4), 0, 5, false},
	{"between straight corners", xy(4, 0, 8, 0, 8, 4, 4, 4, 0, 4, 0, 0), 0, 3, true},
	{"to a straight corner across", xy(0, 0, 4, 0, 4, 2, 4, 4), 0, 2, true},
	{"two sides cross it", xy(0, 0, 10, 0, 10, 10, 6, 1, 5, 10, 0, 10), 2, 5, false},
	{"one corner beyond a thin wall", xy(0, 0, 9, 0, 9, 9, 5, 9, 5, 1, 4, 9, 0, 9), 1, 6, false},
	{"from the top of a thin wall", xy(0, 9, 0, 0, 4, 8, 5, 0, 9, 0, 9, 9), 2, 0, true},
}

func TestIsDiagonalForSingleSegments(t *testing.T) {
	for _, c := range joinings {
		if !impl.PolygonOk(c.p) {
			t.Errorf("%s: %v is no polygon", c.name, c.p)
		}
		n := len(c.p)
		for k := range n {
			p := slices.Concat(c.p[k:], c.p[:k])
			i, j := (c.i+n-k)%n, (c.k+n-k)%n
			if a, b := impl.IsDiagonal(p, i, j), impl.IsDiagonal(p, j, i); a != c.want || b != c.want {
				t.Errorf("%s: IsDiagonal(%v, %d, %d) = %v, and %v in the other order", c.name, p, i, j, a, b)
			}
			slices.Reverse(p)
			i, j = n-1-i, n-1-j
			if a, b := impl.IsDiagonal(p, i, j), impl.IsDiagonal(p, j, i); a != c.want || b != c.want {
				t.Errorf("%s: clockwise, IsDiagonal(%v, %d, %d) = %v, and %v in the other order", c.name, p, i, j, a, b)
			}
		}
	}
}

func TestIsEarAndEarsOf(t *testing.T) {
	for _, c := range cut {
		for _, i := range indicesFor(len(c.p)) {
			if got := impl.IsEar(c.p, i); got != slices.Contains(c.ears, i) {
				t.Errorf("%s: IsEar(%v, %d) = %v", c.name, c.p, i, got)
			}
		}
		if got := impl.EarsOf(c.p); !slices.Equal(got, c.ears) {
			t.Errorf("%s: EarsOf(%v) = %v, want %v", c.name, c.p, got, c.ears)
		}
	}
}

func TestDiagonalsOf(t *testing.T) {
	for _, c := range cut {
		if got := impl.DiagonalsOf(c.p); !sameLists(got, c.diagonals) {
			t.Errorf("%s: DiagonalsOf(%v) = %v, want %v", c.name, c.p, got, c.diagonals)
		}
	}
}

func TestTrianglesOfNoPolygon(t *testing.T) {
	eachNoPolygon(func(name string, p []impl.Point) {
		n := len(p)
		if ears, diagonals := impl.EarsOf(p), impl.DiagonalsOf(p); len(ears) != 0 || len(diagonals) != 0 {
			t.Errorf("%s: EarsOf and DiagonalsOf %v = %v and %v, want none", name, p, ears, diagonals)
		}
		if l, ok := impl.Triangulate(p); len(l) != 0 || ok {
			t.Errorf("%s: Triangulate(%v) = %v, %v, want none, false", name, p, l, ok)
		}
		if count := impl.CountTriangulations(p); count != -1 {
			t.Errorf("%s: CountTriangulations(%v) = %d, want -1", name, p, count)
		}
		for _, i := range []int{math.MinInt, -1, 0, 1, 2, n - 1, n, math.MaxInt} {
			if impl.IsEar(p, i) {
				t.Errorf("%s: IsEar(%v, %d) = true", name, p, i)
			}
			for _, k := range []int{math.MinInt, -1, 0, 2, 3, n - 2, n, math.MaxInt} {
				if impl.IsDiagonal(p, i, k) {
					t.Errorf("%s: IsDiagonal(%v, %d, %d) = true", name, p, i, k)
				}
			}
		}
	})
}
