package tests

import (
	"math"
	"slices"
	"testing"

	"loop.example/g03208/impl"
)

func TestTriangulate(t *testing.T) {
	for _, c := range cut {
		if got, ok := impl.Triangulate(c.p); !sameLists(got, c.triangles) || !ok {
			t.Errorf("%s: Triangulate(%v) = %v, %v, want %v, true", c.name, c.p, got, ok, c.triangles)
		}
	}
}

func TestCountTriangulations(t *testing.T) {
	for _, c := range cut {
		if got := impl.CountTriangulations(c.p); got != c.count {
			t.Errorf("%s: CountTriangulations(%v) = %d, want %d", c.name, c.p, got, c.count)
		}
	}
}

// TestTrianglesOfConvexPolygons has polygons all corners of which see each other.
func TestTrianglesOfConvexPolygons(t *testing.T) {
	counts := []int{1, 2, 5, 14, 42, 132, -1, -1}
	for n := 3; n <= 10; n++ {
		p := tenCorners[:n]
		var diagonals, triangles [][]int
		var ears []int
		for i := range n {
			ears = append(ears, i)
			for k := i + 2; k < n && k-i < n-1; k++ {
				diagonals = append(diagonals, []int{i, k})
			}
			if i < n-2 {
				triangles = append(triangles, []int{i, i + 1, n - 1})
			}
		}
		inEveryOrder(p, func(p []impl.Point) {
			if got := impl.CountTriangulations(p); got != counts[n-3] {
				t.Errorf("CountTriangulations(%v) = %d, want %d", p, got, counts[n-3])
			}
			if got := impl.DiagonalsOf(p); !sameLists(got, diagonals) {
				t.Errorf("DiagonalsOf(%v) = %v, want %v", p, got, diagonals)
			}
			if got := impl.EarsOf(p); !slices.Equal(got, ears) {
				t.Errorf("EarsOf(%v) = %v, want %v", p, got, ears)
			}
			if got, ok := impl.Triangulate(p); !sameLists(got, triangles) || !ok {
				t.Errorf("Triangulate(%v) = %v, %v, want %v, true", p, got, ok, triangles)
			}
		})
	}
}

// TestTrianglesOfATriangleWithStraightCorners has straight corners on one side only: the corner across sees them, and no others see each other.
func TestTrianglesOfATriangleWithStraightCorners(t *testing.T) {
	for n := 4; n <= 10; n++ {
		p := append(impl.PointsOn(pt(0, 0), pt(n-2, 0)), pt(3, 40))
		var diagonals, triangles [][]int
		for i := range n - 2 {
			triangles = append(triangles, []int{i, i + 1, n - 1})
			if i > 0 {
				diagonals = append(diagonals, []int{i, n - 1})
			}
		}
		count := 1
		if n > 8 {
			count = -1
		}
		if got := impl.DiagonalsOf(p); !sameLists(got, diagonals) {
			t.Errorf("DiagonalsOf(%v) = %v, want %v", p, got, diagonals)
		}
		if got := impl.EarsOf(p); !slices.Equal(got, []int{0, n - 2}) {
			t.Errorf("EarsOf(%v) = %v", p, got)
		}
		if got, ok := impl.Triangulate(p); !sameLists(got, triangles) || !ok {
			t.Errorf("Triangulate(%v) = %v, %v, want %v, true", p, got, ok, triangles)
		}
		if got := impl.CountTriangulations(p); got != count {
			t.Errorf("CountTriangulations(%v) = %d, want %d", p, got, count)
		}
	}
}

// dissected are polygons, and lists that are triangulations of them or are not.
var dissected = []struct {
	name string
	p    []impl.Point
	l    [][]int
	want bool
}{
	{"triangle", xy(0, 0, 6, 0, 0, 4), groups(3, 0, 1, 2), true},
	{"triangle, clockwise", xy(0, 0, 0, 4, 6, 0), groups(3, 0, 1, 2), true},
	{"one way", xy(0, 0, 4, 0, 4, 4, 0, 4), groups(3, 0, 1, 3, 1, 2, 3), true},
	{"the same in another order", xy(0, 0, 4, 0, 4, 4, 0, 4), groups(3, 1, 2, 3, 0, 1, 3), true},
	{"the other way", xy(0, 0, 4, 0, 4, 4, 0, 4), groups(3, 0, 1, 2, 0, 2, 3), true},
	{"inward corner", xy(0, 0, 4, 0, 4, 4, 2, 2, 0, 4), groups(3, 0, 1, 3, 0, 3, 4, 1, 2, 3), true},
	{"straight corner", xy(0, 0, 2, 0, 4, 0, 0, 4), groups(3, 0, 1, 3, 1, 2, 3), true},
	{"triangle in the middle", xy(2, 0, 4, 0, 6, 2, 4, 4, 2, 4, 0, 2), groups(3, 0, 2, 4, 0, 1, 2, 2, 3, 4, 0, 4, 5), true},
	{"other triangle in the middle", xy(2, 0, 4, 0, 6, 2, 4, 4, 2, 4, 0, 2), groups(3, 0, 1, 5, 1, 2, 3, 3, 4, 5, 1, 3, 5), true},

	{"no list", xy(0, 0, 6, 0, 0, 4), nil, false},
	{"no lists", xy(0, 0, 6, 0, 0, 4), [][]int{}, false},
	{"an empty list", xy(0, 0, 6, 0, 0, 4), [][]int{{}}, false},
	{"nil in the list", xy(0, 0, 6, 0, 0, 4), [][]int{nil}, false},
	{"one index", xy(0, 0, 6, 0, 0, 4), groups(1, 0), false},
	{"two indices", xy(0, 0, 6, 0, 0, 4), groups(2, 0, 1), false},
	{"four indices", xy(0, 0, 6, 0, 0, 4), groups(4, 0, 1, 2, 3), false},
	{"four indices of a square", xy(0, 0, 4, 0, 4, 4, 0, 4), [][]int{{0, 1, 2, 3}, {0, 2, 3}}, false},
	{"more behind the three", xy(0, 0, 4, 0, 4, 4, 0, 4), [][]int{{0, 1, 2}, {0, 2, 3, 4}}, false},
	{"the triangle twice", xy(0, 0, 6, 0, 0, 4), groups(3, 0, 1, 2, 0, 1, 2), false},
	{"a triangle and an empty list", xy(0, 0, 6, 0, 0, 4), [][]int{{0, 1, 2}, nil}, false},
	{"descending", xy(0, 0, 6, 0, 0, 4), groups(3, 2, 1, 0), false},
	{"turned", xy(0, 0, 6, 0, 0, 4), groups(3, 1, 2, 0), false},
	{"the last two descend", xy(0, 0, 6, 0, 0, 4), groups(3, 0, 2, 1), false},
	{"the first two descend", xy(0, 0, 6, 0, 0, 4), groups(3, 1, 0, 2), false},
	{"equal indices", xy(0, 0, 6, 0, 0, 4), groups(3, 0, 0, 1), false},
	{"equal indices at the end", xy(0, 0, 6, 0, 0, 4), groups(3, 0, 2, 2), false},
	{"all indices equal", xy(0, 0, 6, 0, 0, 4), groups(3, 1, 1, 1), false},
	{"the index -1", xy(0, 0, 6, 0, 0, 4), groups(3, -1, 0, 1), false},
	{"an index beyond the corners", xy(0, 0, 6, 0, 0, 4), groups(3, 0, 1, 3), false},
	{"the least and the greatest int", xy(0, 0, 6, 0, 0, 4), groups(3, math.MinInt, 0, math.MaxInt), false},
	{"the greatest ints", xy(0, 0, 6, 0, 0, 4), groups(3, math.MaxInt-2, math.MaxInt-1, math.MaxInt), false},
	{"the least ints", xy(0, 0, 6, 0, 0, 4), groups(3, math.MinInt, math.MinInt+1, math.MinInt+2), false},

	{"half of a square", xy(0, 0, 4, 0, 4, 4, 0, 4), groups(3, 0, 1, 2), false},
	{"half of a square twice", xy(0, 0, 4, 0, 4, 4, 0, 4), groups(3, 0, 1, 2, 0, 1, 2), false},
	{"halves that overlap", xy(0, 0, 4, 0, 4, 4, 0, 4), groups(3, 0, 1, 2, 1, 2, 3), false},
	{"halves and one more", xy(0, 0, 4, 0, 4, 4, 0, 4), groups(3, 0, 1, 2, 0, 2, 3, 0, 1, 3), false},
	// The sides are right here, and only the areas are not.
	{"over the inward corner", xy(0, 0, 10, 1, 0, 2, 9, 1), groups(3, 0, 1, 2, 0, 2, 3), false},
	{"over the inward corner of five", xy(0, 0, 8, 0, 8, 8, 4, 2, 0, 8), groups(3, 0, 1, 2, 0, 2, 4, 2, 3, 4), false},
	// The sides and the areas are right here, but one triangle is none.
	{"without an area", xy(0, 0, 2, 0, 4, 0, 0, 4), groups(3, 0, 1, 2, 0, 2, 3), false},
	{"without an area through an inward corner", xy(0, 0, 4, 0, 4, 4, 2, 2, 0, 4), groups(3, 0, 1, 2, 0, 2, 3, 0, 3, 4), false},
	// The areas and the sides of the polygon are right here, but others are used once or three times.
	{"the middle is another one", xy(2, 0, 4, 0, 6, 2, 4, 4, 2, 4, 0, 2), groups(3, 0, 1, 2, 2, 3, 4, 0, 4, 5, 1, 3, 5), false},
}

func TestIsTriangulation(t *testing.T) {
	for _, c := range dissected {
		if got := impl.IsTriangulation(c.p, c.l); got != c.want {
			t.Errorf("%s: IsTriangulation(%v, %v) = %v", c.name, c.p, c.l, got)
		}
	}
}

// TestIsTriangulationOfTheTable changes each list of the table in one place.
func TestIsTriangulationOfTheTable(t *testing.T) {
	for _, c := range cut {
		is := func(want bool, l ...[]int) {
			t.Helper()
			if got := impl.IsTriangulation(c.p, l); got != want {
				t.Errorf("%s: IsTriangulation(%v, %v) = %v", c.name, c.p, l, got)
			}
		}
		l := c.triangles
		is(true, l...)
		n := len(l)
		for i := range l {
			is(true, slices.Concat(l[i:], l[:i])...)
			is(false, slices.Concat(l[i+1:], l[:i])...)
			is(false, slices.Concat(l, l[i:i+1])...)
			is(false, append(slices.Clone(l), nil)...)
			for k := range n {
				other := slices.Clone(l)
				other[i] = l[k]
				is(i == k, other...)
			}
		}
		is(false)
		for i, three := range l {
			with := func(indices ...int) {
				t.Helper()
				other := slices.Clone(l)
				other[i] = indices
				is(false, other...)
			}
			a, b, d := three[0], three[1], three[2]
			with()
			with(a, b)
			with(b, d)
			with(a, b, d, d+1)
			with(a, b, d, d)
			with(-1, a, b, d)
			with(a, d, b)
			with(b, a, d)
			with(b, d, a)
			with(d, a, b)
			with(d, b, a)
			with(a, a, d)
			with(a, d, d)
			with(a, b, len(c.p))
			with(-1, b, d)
			with(a-len(c.p), b, d)
			with(a, b, d+len(c.p))
			with(a, b, math.MaxInt)
			with(a, len(c.p), d)
			with(a, math.MaxInt, d)
			with(a, -1, d)
			with(a, math.MinInt, d)
			with(len(c.p), b, d)
			with(math.MaxInt, b, d)
			with(math.MinInt, b, d)
			with(a, b, math.MinInt)
		}
	}
}

func TestIsTriangulationOfNoPolygon(t *testing.T) {
	eachNoPolygon(func(name string, p []impl.Point) {
		var fan [][]int
		for i := 1; i+1 < min(len(p), 40); i++ {
			fan = append(fan, []int{0, i, i + 1})
		}
		for _, l := range [][][]int{nil, fan, groups(3, 0, 1, 2), groups(3, 0, 1, 2, 0, 2, 3)} {
			if impl.IsTriangulation(p, l) {
				t.Errorf("%s: IsTriangulation(%v, %v) = true", name, p, l)
			}
		}
	})
}
