package tests

import (
	"slices"
	"testing"

	"loop.example/g03208/impl"
)

// grid returns the points with numbers from 0 to n.
func grid(n int) []impl.Point {
	var points []impl.Point
	for y := range n + 1 {
		for x := range n + 1 {
			points = append(points, pt(x, y))
		}
	}
	return points
}

// someBounds are points at the bounds and within them, for pairs with all others.
func someBounds() []impl.Point {
	return []impl.Point{pt(0, 0), pt(40, 40), pt(40, 0), pt(0, 40), pt(20, 20), pt(7, 12), pt(31, 5)}
}

// eachDrawn calls do with lists of n points that a fixed rule draws from all valid ones.
func eachDrawn(lists, n int, do func(l []impl.Point)) {
	state := uint64(1)
	draw := func(n int) int {
		state = state*6364136223846793005 + 1442695040888963407
		return int(state>>33) % n
	}
	for range lists {
		l := make([]impl.Point, n)
		for i := range l {
			l[i] = pt(draw(41), draw(41))
		}
		do(l)
	}
}

// liesOn tells by the signs of dot products whether p is on the segment from a to b.
func liesOn(a, b, p impl.Point) bool {
	if (b.X-a.X)*(p.Y-a.Y) != (p.X-a.X)*(b.Y-a.Y) {
		return false
	}
	return (a.X-p.X)*(b.X-p.X)+(a.Y-p.Y)*(b.Y-p.Y) <= 0
}

// meets solves a + t (b - a) = c + u (d - c) for two segments with different ends.
func meets(a, b, c, d impl.Point) int {
	rx, ry, sx, sy, qx, qy := b.X-a.X, b.Y-a.Y, d.X-c.X, d.Y-c.Y, c.X-a.X, c.Y-a.Y
	det, t, u := rx*sy-ry*sx, qx*sy-qy*sx, qx*ry-qy*rx
	if det == 0 {
		if u != 0 {
			return impl.MtNone
		}
		// On one line: where c and d are, with a at 0 and b at whole.
		whole, from, to := rx*rx+ry*ry, qx*rx+qy*ry, (d.X-a.X)*rx+(d.Y-a.Y)*ry
		low, high := max(0, min(from, to)), min(whole, max(from, to))
		switch {
		case low < high:
			return impl.MtAlong
		case low == high:
			return impl.MtTouch
		}
		return impl.MtNone
	}
	if det < 0 {
		det, t, u = -det, -t, -u
	}
	switch {
	case t < 0 || t > det || u < 0 || u > det:
		return impl.MtNone
	case t == 0 || t == det || u == 0 || u == det:
		return impl.MtTouch
	}
	return impl.MtCross
}

func TestPointOkBounds(t *testing.T) {
	for x := -50; x <= 90; x++ {
		for y := -50; y <= 90; y++ {
			if got := impl.PointOk(pt(x, y)); got != (x >= 0 && x <= 40 && y >= 0 && y <= 40) {
				t.Errorf("PointOk(%d, %d) = %v", x, y, got)
			}
		}
	}
}

func TestCrossOfChangesSign(t *testing.T) {
	check := func(l []impl.Point) {
		a, b, p := l[0], l[1], l[2]
		cross, side := impl.CrossOf(a, b, p), impl.SideOf(a, b, p)
		// The same number as a sum over the sides of the triangle.
		if want := a.X*b.Y - a.Y*b.X + b.X*p.Y - b.Y*p.X + p.X*a.Y - p.Y*a.X; cross != want {
			t.Fatalf("CrossOf(%v, %v, %v) = %d, want %d", a, b, p, cross, want)
		}
		if cross > 0 != (side == 1) || cross < 0 != (side == -1) || cross == 0 != (side == 0) {
			t.Fatalf("SideOf(%v, %v, %v) = %d, but CrossOf %d", a, b, p, side, cross)
		}
		for _, q := range [][3]impl.Point{{b, p, a}, {p, a, b}} {
			if impl.CrossOf(q[0], q[1], q[2]) != cross || impl.SideOf(q[0], q[1], q[2]) != side {
				t.Fatalf("CrossOf or SideOf of %v changes when the points are taken round", l)
			}
		}
		for _, q := range [][3]impl.Point{{b, a, p}, {a, p, b}, {p, b, a}} {
			if impl.CrossOf(q[0], q[1], q[2]) != -cross || impl.SideOf(q[0], q[1], q[2]) != -side {
				t.Fatalf("CrossOf or SideOf of %v does not change its sign when two points change places", l)
			}
		}
	}
	eachDrawn(20000, 3, check)
	points := grid(4)
	for _, a := range points {
		for _, b := range points {
			for _, p := range points {
				check([]impl.Point{a, b, p})
			}
		}
	}
}

func TestSegmentsHaveTheirPoints(t *testing.T) {
	all := grid(40)
	for _, a := range someBounds() {
		for _, b := range all {
			var on []impl.Point
			for _, p := range all {
				want := liesOn(a, b, p)
				if got := impl.IsOn(a, b, p); got != want {
					t.Fatalf("IsOn(%v, %v, %v) = %v", a, b, p, got)
				}
				if want {
					on = append(on, p)
				}
			}
			slices.SortFunc(on, func(p, q impl.Point) int { return impl.SquareOf(a, p) - impl.SquareOf(a, q) })
			if got := impl.PointsOn(a, b); !slices.Equal(got, on) {
				t.Fatalf("PointsOn(%v, %v) = %v, want %v", a, b, got, on)
			}
			slices.Reverse(on)
			if got := impl.PointsOn(b, a); !slices.Equal(got, on) {
				t.Fatalf("PointsOn(%v, %v) = %v, want %v", b, a, got, on)
			}
			if impl.StepsOf(a, b) != len(on)-1 || impl.StepsOf(b, a) != len(on)-1 {
				t.Fatalf("StepsOf(%v, %v) = %d, and back %d, want %d", a, b, impl.StepsOf(a, b), impl.StepsOf(b, a), len(on)-1)
			}
		}
	}
}

func TestStepsAreEqual(t *testing.T) {
	all := grid(40)
	for _, a := range someBounds() {
		for _, b := range all {
			points := impl.PointsOn(a, b)
			if points[0] != a || points[len(points)-1] != b {
				t.Fatalf("PointsOn(%v, %v) = %v", a, b, points)
			}
			for i := 1; i < len(points); i++ {
				if impl.StepsOf(points[i-1], points[i]) != 1 || impl.SquareOf(points[i-1], points[i])*(len(points)-1)*(len(points)-1) != impl.SquareOf(a, b) {
					t.Fatalf("PointsOn(%v, %v) = %v has unequal steps", a, b, points)
				}
			}
		}
	}
}

func TestSquareOfIsADistance(t *testing.T) {
	all := grid(40)
	for _, a := range someBounds() {
		for _, b := range all {
			got := impl.SquareOf(a, b)
			if got != impl.SquareOf(b, a) || got == 0 != (a == b) {
				t.Errorf("SquareOf(%v, %v) = %d, and back %d", a, b, got, impl.SquareOf(b, a))
			}
			// By way of the corner at a right angle.
			if corner := pt(a.X, b.Y); got != impl.SquareOf(a, corner)+impl.SquareOf(corner, b) {
				t.Errorf("SquareOf(%v, %v) = %d is not the sum of the squares of its parts", a, b, got)
			}
		}
	}
	for n := range 41 {
		if impl.SquareOf(pt(0, 3), pt(n, 3)) != n*n || impl.SquareOf(pt(3, n), pt(3, 0)) != n*n {
			t.Errorf("SquareOf of a distance of %d is not %d", n, n*n)
		}
	}
}

func TestHowMeetAgreesWithEquations(t *testing.T) {
	points := grid(4)
	// Small segments, close to 0 and close to the bound, and stretched ones.
	for _, place := range []struct{ factor, shift int }{{1, 0}, {1, 36}, {10, 0}} {
		moved := make([]impl.Point, len(points))
		for i, p := range points {
			moved[i] = pt(p.X*place.factor+place.shift, p.Y*place.factor+place.shift)
		}
		for i, a := range moved {
			for _, b := range moved[i+1:] {
				for _, c := range moved {
					for _, d := range moved {
						want := impl.MtNone
						if c != d {
							want = meets(a, b, c, d)
						}
						if got := impl.HowMeet(a, b, c, d); got != want {
							t.Fatalf("HowMeet(%v, %v, %v, %v) = %d, want %d", a, b, c, d, got, want)
						}
					}
				}
			}
		}
	}
}

func TestHowMeetInEveryOrder(t *testing.T) {
	met := map[int]int{}
	check := func(l []impl.Point) {
		a, b, c, d := l[0], l[1], l[2], l[3]
		w := impl.MtNone
		if a != b && c != d {
			w = meets(a, b, c, d)
		}
		met[w]++
		if got := orders(a, b, c, d); got != [8]int{w, w, w, w, w, w, w, w} {
			t.Fatalf("HowMeet(%v, %v, %v, %v), in every order, = %v, want %d", a, b, c, d, got, w)
		}
	}
	eachDrawn(20000, 4, check)
	// Points of one segment taken from the other one, so that they touch or lie along each other.
	eachDrawn(5000, 4, func(l []impl.Point) {
		on := impl.PointsOn(l[0], l[1])
		middle := on[len(on)/2]
		check([]impl.Point{l[0], l[1], middle, l[2]})
		check([]impl.Point{l[0], middle, l[1], l[2]})
		check([]impl.Point{l[0], middle, l[1], on[len(on)/3]})
		check([]impl.Point{l[0], l[1], l[1], l[3]})
	})
	for w := impl.MtNone; w <= impl.MtAlong; w++ {
		if met[w] < 100 {
			t.Errorf("only %d of the segments meet as %d", met[w], w)
		}
	}
}

func TestHowMeetAgreesWithIsOn(t *testing.T) {
	eachDrawn(5000, 3, func(l []impl.Point) {
		a, b, p := l[0], l[1], l[2]
		if a == b || a == p {
			return
		}
		for _, q := range impl.PointsOn(a, b) {
			if q != p && impl.HowMeet(a, b, q, p) == impl.MtNone {
				t.Fatalf("HowMeet(%v, %v, %v, %v) = %d, but %v is on the first segment", a, b, q, p, impl.MtNone, q)
			}
		}
		along := impl.SideOf(a, b, p) == 0 && !impl.IsOn(b, p, a)
		if got := impl.HowMeet(a, b, a, p); got == impl.MtAlong != along || got == impl.MtTouch == along {
			t.Fatalf("HowMeet(%v, %v, %v, %v) = %d", a, b, a, p, got)
		}
	})
}

func TestBeforePointIsAnOrder(t *testing.T) {
	all := grid(40)
	for i, a := range all {
		for j, b := range all {
			// grid lists the points in this order, row by row.
			if got := impl.BeforePoint(a, b); got != (i < j) {
				t.Errorf("BeforePoint(%v, %v) = %v", a, b, got)
			}
		}
	}
}
