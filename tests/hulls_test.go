package tests

import (
	"math"
	"slices"
	"testing"

	"loop.example/g03208/impl"
)

// tenCorners and elevenCorners are hulls, each corner of which turns left; ten is the greatest number that is allowed.
var (
	tenCorners    = xy(2, 0, 4, 0, 6, 1, 7, 3, 7, 5, 6, 7, 4, 8, 1, 7, 0, 5, 0, 2)
	elevenCorners = xy(2, 0, 4, 0, 6, 1, 7, 3, 7, 5, 6, 7, 4, 8, 2, 8, 1, 7, 0, 5, 0, 2)
)

// hulls are lists of points and the corners of their hulls, or none if there is no hull.
var hulls = []struct {
	name    string
	l, hull []impl.Point
}{
	{"triangle", xy(0, 0, 6, 0, 0, 4), xy(0, 0, 6, 0, 0, 4)},
	{"triangle, clockwise", xy(0, 0, 0, 4, 6, 0), xy(0, 0, 6, 0, 0, 4)},
	{"triangle on a corner", xy(3, 5, 0, 3, 4, 1), xy(4, 1, 3, 5, 0, 3)},
	{"triangle with the least area", xy(40, 40, 40, 39, 39, 40), xy(40, 39, 40, 40, 39, 40)},
	{"nearly on a line", xy(0, 0, 1, 1, 40, 39), xy(0, 0, 40, 39, 1, 1)},
	{"nearly on a line, on the other side", xy(0, 0, 40, 39, 39, 38), xy(0, 0, 39, 38, 40, 39)},
	{"nearly on a level line", slices.Concat(xy(20, 6), impl.PointsOn(pt(6, 5), pt(34, 5))), xy(6, 5, 34, 5, 20, 6)},
	{"nearly on an upright line", slices.Concat(xy(6, 20), impl.PointsOn(pt(5, 34), pt(5, 6))), xy(5, 6, 6, 20, 5, 34)},
	{"square", xy(4, 4, 0, 0, 4, 0, 0, 4), xy(0, 0, 4, 0, 4, 4, 0, 4)},
	{"greatest square", xy(0, 40, 40, 0, 40, 40, 0, 0), xy(0, 0, 40, 0, 40, 40, 0, 40)},
	{"square on a corner", xy(3, 5, 5, 3, 7, 5, 5, 7), xy(5, 3, 7, 5, 5, 7, 3, 5)},
	{"the lowest point is not the leftmost one", xy(0, 1, 9, 2, 6, 0, 3, 7), xy(6, 0, 9, 2, 3, 7, 0, 1)},
	{"three lowest points", xy(5, 2, 3, 2, 8, 2, 4, 9, 3, 9), xy(3, 2, 8, 2, 4, 9, 3, 9)},
	{"three uppermost points", xy(5, 9, 3, 9, 8, 9, 4, 2), xy(4, 2, 8, 9, 3, 9)},

	{"points in the middle of all sides", xy(0, 0, 2, 0, 4, 0, 4, 1, 4, 4, 3, 4, 0, 4, 0, 2), xy(0, 0, 4, 0, 4, 4, 0, 4)},
	{"points on slanting sides", xy(4, 0, 6, 2, 5, 1, 7, 3, 8, 4, 6, 6, 4, 8, 2, 6, 0, 4, 1, 3, 2, 2), xy(4, 0, 8, 4, 4, 8, 0, 4)},
	{"several points on each side of a triangle", xy(9, 0, 6, 0, 3, 0, 0, 0, 3, 3, 6, 6, 9, 9, 9, 6, 9, 3), xy(0, 0, 9, 0, 9, 9)},
	{"one point inside", xy(1, 1, 0, 0, 6, 0, 0, 4), xy(0, 0, 6, 0, 0, 4)},
	{"points inside and on the sides", xy(2, 2, 0, 4, 2, 1, 4, 4, 1, 2, 0, 0, 2, 0, 3, 3, 4, 0), xy(0, 0, 4, 0, 4, 4, 0, 4)},
	{"an inward corner", xy(0, 0, 4, 0, 4, 4, 2, 2, 0, 4), xy(0, 0, 4, 0, 4, 4, 0, 4)},
	{"a star", xy(0, 3, 8, 3, 1, 8, 4, 0, 7, 8), xy(4, 0, 8, 3, 7, 8, 1, 8, 0, 3)},

	{"each corner twice", xy(0, 0, 0, 0, 6, 0, 6, 0, 0, 4, 0, 4), xy(0, 0, 6, 0, 0, 4)},
	{"the corners again", xy(0, 0, 6, 0, 0, 4, 0, 0, 6, 0, 0, 4), xy(0, 0, 6, 0, 0, 4)},
	{"equal points inside and on a side", xy(1, 1, 0, 0, 3, 0, 6, 0, 3, 0, 0, 4, 1, 1, 1, 1), xy(0, 0, 6, 0, 0, 4)},
	{"30 points, each corner ten times", slices.Repeat(xy(0, 0, 0, 4, 6, 0), 10), xy(0, 0, 6, 0, 0, 4)},
	{"30 points, all but two equal", slices.Concat(slices.Repeat(xy(7, 7), 28), xy(0, 0, 6, 0)), xy(0, 0, 6, 0, 7, 7)},
	{"30 points of a grid", grid(5)[6:], xy(0, 1, 5, 1, 5, 5, 0, 5)},
	{"25 points of a grid", grid(4), xy(0, 0, 4, 0, 4, 4, 0, 4)},

	{"MaxCorners - 1 corners", tenCorners[:9], tenCorners[:9]},
	{"MaxCorners corners", tenCorners, tenCorners},
	{"MaxCorners corners and 20 points on sides and inside", slices.Concat(tenCorners, xy(3, 0, 7, 4, 0, 3, 0, 4, 5, 1, 3, 3), impl.PointsOn(pt(1, 2), pt(6, 2)), impl.PointsOn(pt(0, 5), pt(7, 5))), tenCorners},
	{"30 points, each of MaxCorners corners three times", slices.Repeat(tenCorners, 3), tenCorners},
	{"MaxCorners + 1 corners", elevenCorners, nil},
	{"MaxCorners + 1 corners and others", slices.Concat(grid(3)[5:12], elevenCorners, xy(3, 0, 7, 4)), nil},
	{"22 points, each of MaxCorners + 1 corners twice", slices.Repeat(elevenCorners, 2), nil},
	{"MaxCorners + 1 points, of which one is straight", slices.Concat(tenCorners, xy(3, 0)), tenCorners},

	{"nil", nil, nil},
	{"no points", []impl.Point{}, nil},
	{"one point", xy(3, 4), nil},
	{"two points", xy(0, 0, 4, 0), nil},
	{"two equal points", xy(4, 4, 4, 4), nil},
	{"three equal points", xy(3, 4, 3, 4, 3, 4), nil},
	{"30 equal points", slices.Repeat(xy(0, 40), 30), nil},
	{"two points, several times", slices.Repeat(xy(0, 0, 4, 3), 15), nil},
	{"on a level line", xy(4, 2, 0, 2, 9, 2, 5, 2), nil},
	{"on the upper bound", impl.PointsOn(pt(0, 40), pt(29, 40)), nil},
	{"on an upright line", xy(3, 9, 3, 0, 3, 40), nil},
	{"on the left bound", impl.PointsOn(pt(0, 40), pt(0, 11)), nil},
	{"on a rising line", xy(0, 0, 1, 1, 2, 2), nil},
	{"on a flat line", xy(40, 20, 0, 0, 20, 10, 2, 1), nil},
	{"on a falling line", xy(0, 40, 40, 0, 20, 20, 39, 1), nil},
	{"on a line, some equal", xy(3, 2, 9, 6, 3, 2, 0, 0, 9, 6, 6, 4), nil},

	{"31 points", slices.Concat(xy(0, 0), slices.Repeat(xy(0, 0, 6, 0, 0, 4), 10)), nil},
	{"31 points of a grid", grid(5)[5:], nil},
	{"32 points", grid(5)[4:], nil},
	{"60 points", slices.Repeat(xy(0, 0, 6, 0, 0, 4), 20), nil},
	{"many points", slices.Repeat(xy(0, 0, 6, 0, 0, 4), 1000), nil},
	{"31 equal points", slices.Repeat(xy(4, 4), 31), nil},

	{"-1 as X", xy(-1, 0, 4, 0, 0, 4), nil},
	{"-1 as Y", xy(0, 0, 4, -1, 0, 4), nil},
	{"MaxCoord + 1 as X", xy(0, 0, 41, 0, 0, 4), nil},
	{"MaxCoord + 1 as Y", xy(0, 0, 4, 0, 0, 41), nil},
	{"the least int", xy(0, 0, math.MinInt, 0, 0, 4), nil},
	{"the greatest int", xy(0, 0, 4, 0, 0, math.MaxInt), nil},
	{"the greatest ints", xy(math.MinInt, math.MinInt, math.MaxInt, math.MinInt, math.MaxInt, math.MaxInt, math.MinInt, math.MaxInt), nil},
	{"one point, not valid", xy(0, 41), nil},
	{"31 points, one not valid", slices.Concat(xy(0, -1), slices.Repeat(xy(0, 0, 6, 0, 0, 4), 10)), nil},
}

// checkHull fails if HullOf does not return these corners, or fails although there are some.
func checkHull(t *testing.T, name string, l, want []impl.Point) {
	t.Helper()
	if got, ok := impl.HullOf(l); !slices.Equal(got, want) || ok != (len(want) > 0) {
		t.Errorf("%s: HullOf(%v) = %v, %v, want %v, %v", name, l, got, ok, want, len(want) > 0)
	}
}

func TestHullOf(t *testing.T) {
	for _, c := range hulls {
		checkHull(t, c.name, c.l, c.hull)
	}
}

// TestHullOfInEveryOrder begins anywhere, in both directions, and mixes the points.
func TestHullOfInEveryOrder(t *testing.T) {
	for _, c := range hulls {
		if len(c.l) > 60 {
			continue
		}
		inEveryOrder(c.l, func(l []impl.Point) { checkHull(t, c.name, l, c.hull) })
		for _, step := range []int{7, 11, 13} {
			checkHull(t, c.name, mixed(c.l, step), c.hull)
		}
	}
}

// mixed returns the elements at the multiples of step first, then those after them, and so on.
func mixed(l []impl.Point, step int) []impl.Point {
	var all []impl.Point
	for first := range step {
		for i := first; i < len(l); i += step {
			all = append(all, l[i])
		}
	}
	return all
}

func TestHullOfRefusesEachBadPoint(t *testing.T) {
	for _, bad := range badPoints() {
		for _, fine := range [][]impl.Point{xy(0, 0, 6, 0, 0, 4), xy(40, 40, 0, 40, 20, 20, 40, 0), tenCorners, grid(5)[6:]} {
			for i := range fine {
				l := slices.Clone(fine)
				l[i] = bad
				checkHull(t, "with a bad point", l, nil)
			}
			checkHull(t, "with one more bad point", append(slices.Clone(fine), bad), nil)
		}
		checkHull(t, "all bad", slices.Repeat([]impl.Point{bad}, 3), nil)
	}
}

// ring returns the 32 corners of a polygon that turns left at each of them.
func ring() []impl.Point {
	var steps []impl.Point
	for y := -3; y <= 3; y++ {
		for x := -3; x <= 3; x++ {
			if n := impl.StepsOf(pt(0, 0), pt(max(x, -x), max(y, -y))); n == 1 {
				steps = append(steps, pt(x, y))
			}
		}
	}
	angle := func(p impl.Point) float64 {
		// From the direction to the right on, so that the lowest side comes first.
		return math.Mod(math.Atan2(float64(p.Y), float64(p.X))+2*math.Pi, 2*math.Pi)
	}
	slices.SortFunc(steps, func(p, q impl.Point) int {
		if angle(p) < angle(q) {
			return -1
		}
		return 1
	})
	at := pt(20, 7)
	var corners []impl.Point
	for _, s := range steps {
		corners = append(corners, at)
		at = pt(at.X+s.X, at.Y+s.Y)
	}
	return corners
}

// TestHullOfCountsCorners takes as many points as there are, all of which are corners.
func TestHullOfCountsCorners(t *testing.T) {
	all := ring()
	if len(all) != 32 || !impl.BeforePoint(all[0], all[31]) {
		t.Fatalf("the ring is %v", all)
	}
	for n := range 33 {
		var l []impl.Point
		for i := range n {
			l = append(l, all[i*32/n])
		}
		var want []impl.Point
		if n >= 3 && n <= 10 {
			want = l
		}
		for _, step := range []int{1, 2, 3, 5} {
			checkHull(t, "a part of the ring", mixed(l, step), want)
		}
		checkHull(t, "the first ones of the ring", mixed(all[:n], 4), all[:len(want)])
	}
}

// TestHullOfCountsPoints takes as many points as there are, three of which are corners.
func TestHullOfCountsPoints(t *testing.T) {
	for n := range 70 {
		for _, more := range [][]impl.Point{xy(1, 1), xy(3, 0), xy(0, 0), xy(40, 0)} {
			corners := xy(0, 0, 40, 0, 0, 40)
			l := slices.Concat(corners, slices.Repeat(more, n))
			var want []impl.Point
			if len(l) <= 30 {
				want = corners
			}
			checkHull(t, "with as many points", l, want)
			slices.Reverse(l)
			checkHull(t, "with as many points in reverse", l, want)
		}
	}
}

// TestHullOfLines has lists of any length that are on one line, and the same with one point beside it.
func TestHullOfLines(t *testing.T) {
	ends := [][2]impl.Point{{pt(0, 0), pt(29, 0)}, {pt(40, 40), pt(40, 11)}, {pt(0, 0), pt(29, 29)}, {pt(3, 40), pt(32, 11)}, {pt(0, 1), pt(38, 20)}, {pt(7, 0), pt(19, 36)}}
	for _, e := range ends {
		on := impl.PointsOn(e[0], e[1])
		for n := range len(on) + 1 {
			checkHull(t, "on a line", on[:n], nil)
			checkHull(t, "on a line, mixed", mixed(on[:n], 3), nil)
			if n < 2 || n == 30 {
				continue
			}
			beside := pt(20, 21)
			got, ok := impl.HullOf(append(slices.Clone(on[:n]), beside))
			if len(got) != 3 || !ok || !slices.Contains(got, on[0]) || !slices.Contains(got, on[n-1]) || !slices.Contains(got, beside) {
				t.Errorf("HullOf %v and %v = %v, %v", on[:n], beside, got, ok)
			}
		}
	}
}
