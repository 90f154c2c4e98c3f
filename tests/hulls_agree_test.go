package tests

import (
	"math"
	"slices"
	"testing"

	"loop.example/g03208/impl"
)

// turn tells the side by its own equation; the points need not be valid.
func turn(a, b, p impl.Point) int {
	n := (b.X-a.X)*(p.Y-a.Y) - (b.Y-a.Y)*(p.X-a.X)
	switch {
	case n > 0:
		return 1
	case n < 0:
		return -1
	}
	return 0
}

// isBetween tells whether p is in the triangle of three points, which may be a segment or a point.
func isBetween(a, b, c, p impl.Point) bool {
	if turn(a, b, c) == 0 {
		return liesOn(a, b, p) || liesOn(b, c, p) || liesOn(c, a, p)
	}
	s, t, u := turn(a, b, p), turn(b, c, p), turn(c, a, p)
	return min(s, t, u) >= 0 || max(s, t, u) <= 0
}

// outermost returns the points that are in no triangle of the others, each once, in order around the middle of all, from the first one by BeforePoint on: the corners of the hull, however many.
func outermost(l []impl.Point) []impl.Point {
	var each, outer []impl.Point
	for _, p := range l {
		if !slices.Contains(each, p) {
			each = append(each, p)
		}
	}
	for _, p := range each {
		if !isAmongOthers(each, p) {
			outer = append(outer, p)
		}
	}
	x, y := 0.0, 0.0
	for _, p := range outer {
		x, y = x+float64(p.X)/float64(len(outer)), y+float64(p.Y)/float64(len(outer))
	}
	angle := func(p impl.Point) float64 { return math.Atan2(float64(p.Y)-y, float64(p.X)-x) }
	slices.SortFunc(outer, func(p, q impl.Point) int {
		if angle(p) < angle(q) {
			return -1
		}
		return 1
	})
	first := 0
	for i, p := range outer {
		if p.Y < outer[first].Y || p.Y == outer[first].Y && p.X < outer[first].X {
			first = i
		}
	}
	return slices.Concat(outer[first:], outer[:first])
}

// isAmongOthers tells whether p is in a triangle of other points.
func isAmongOthers(each []impl.Point, p impl.Point) bool {
	for i, a := range each {
		for j, b := range each[:i+1] {
			for _, c := range each[:j+1] {
				if a != p && b != p && c != p && isBetween(a, b, c, p) {
					return true
				}
			}
		}
	}
	return false
}

// eachPointList calls do with lists of valid points: all short ones of a small grid at both bounds, and drawn ones of all lengths, near each other, in a ring, and anywhere.
func eachPointList(do func(l []impl.Point)) {
	moved := func(shift int) func(l []impl.Point) {
		return func(l []impl.Point) {
			var other []impl.Point
			for _, p := range l {
				other = append(other, pt(p.X+shift, p.Y+shift))
			}
			do(other)
		}
	}
	eachList(grid(2), 2, do)
	eachList(grid(3), 3, moved(37))
	eachList(grid(2), 4, moved(38))
	eachList(grid(1), 6, do)
	around := ring()
	for n := range 34 {
		eachDrawn(12, n, do)
		eachDrawn(12, n, func(l []impl.Point) {
			for i, p := range l {
				l[i] = around[(p.X*41+p.Y)%32]
			}
			do(l)
		})
		for _, size := range []int{2, 3, 7, 12} {
			eachDrawn(12, n, func(l []impl.Point) {
				for i, p := range l {
					l[i] = pt(40-p.X%size, p.Y/5%size)
				}
				do(l)
			})
		}
	}
}

func TestHullOfAgreesWithTriangles(t *testing.T) {
	found, flat, many := 0, 0, 0
	eachPointList(func(l []impl.Point) {
		want := outermost(l)
		switch {
		case len(l) > 30:
			want = nil
		case len(want) < 3:
			want = nil
			flat++
		case len(want) > 10:
			want = nil
			many++
		default:
			found++
		}
		got, ok := impl.HullOf(l)
		if !slices.Equal(got, want) || ok != (len(want) > 0) {
			t.Fatalf("HullOf(%v) = %v, %v, want %v", l, got, ok, want)
		}
	})
	if found < 5000 || flat < 500 || many < 20 {
		t.Errorf("only %d lists with a hull, %d on a line and %d with too many corners were tried", found, flat, many)
	}
}

// checkHullProperties holds a hull against what the chapter says of it.
func checkHullProperties(t *testing.T, l, hull []impl.Point) {
	t.Helper()
	n := len(hull)
	if !impl.PolygonOk(hull) || !impl.IsConvex(hull) || impl.HullGap(hull) != 0 || impl.TwiceArea(hull) <= 0 || impl.SideCount(hull) != n {
		t.Fatalf("HullOf(%v) = %v, which is not convex, clockwise, or has straight corners", l, hull)
	}
	if again, ok := impl.HullOf(hull); !slices.Equal(again, hull) || !ok {
		t.Fatalf("HullOf(%v) = %v, %v", hull, again, ok)
	}
	for i, a := range hull {
		b := hull[(i+1)%n]
		if !slices.Contains(l, a) || i > 0 && !impl.BeforePoint(hull[0], a) || impl.SideOf(a, b, hull[(i+2)%n]) != 1 || !impl.Supports(hull, a, b) {
			t.Fatalf("HullOf(%v) = %v, wrong from %v to %v", l, hull, a, b)
		}
		for _, p := range l {
			if impl.SideOf(a, b, p) < 0 {
				t.Fatalf("HullOf(%v) = %v, but %v is on the right from %v to %v", l, hull, p, a, b)
			}
		}
	}
	for _, p := range l {
		if impl.BeforePoint(p, hull[0]) || !impl.IsInside(hull, p) {
			t.Fatalf("HullOf(%v) = %v, but %v is outside or before", l, hull, p)
		}
	}
}

// checkHullOfMore adds points that change nothing.
func checkHullOfMore(t *testing.T, l, hull []impl.Point) {
	t.Helper()
	same := func(l []impl.Point) {
		t.Helper()
		if got, ok := impl.HullOf(l); len(l) <= 30 && (!slices.Equal(got, hull) || !ok) {
			t.Fatalf("HullOf(%v) = %v, %v, want %v", l, got, ok, hull)
		}
	}
	reversed := slices.Clone(l)
	slices.Reverse(reversed)
	same(reversed)
	for _, step := range []int{2, 3, 5} {
		same(mixed(l, step))
	}
	for i, a := range hull {
		b := hull[(i+1)%len(hull)]
		same(slices.Concat(impl.PointsOn(a, b), l))
		same(slices.Concat(l, impl.PointsOn(a, hull[(i+2)%len(hull)])))
		same(slices.Concat(hull[i:], l))
	}
	// Without the points that are no corners, and without a corner.
	same(mixed(hull, 2))
	for i := range hull {
		less, ok := impl.HullOf(slices.Delete(slices.Clone(hull), i, i+1))
		if ok != (len(hull) > 3) || ok && impl.TwiceArea(less) >= impl.TwiceArea(hull) || slices.Contains(less, hull[i]) {
			t.Fatalf("HullOf %v without %v = %v, %v", hull, hull[i], less, ok)
		}
	}
}

func TestHullsHaveTheirProperties(t *testing.T) {
	eachPointList(func(l []impl.Point) {
		if hull, ok := impl.HullOf(l); ok {
			checkHullProperties(t, l, hull)
			checkHullOfMore(t, l, hull)
		}
	})
}

// checkConvexity holds the answers about a polygon and its hull against each other.
func checkConvexity(t *testing.T, p []impl.Point) bool {
	t.Helper()
	hull, ok := impl.HullOf(p)
	if !ok {
		t.Fatalf("HullOf(%v) fails", p)
	}
	checkHullProperties(t, p, hull)
	bends, area, n := impl.Straightened(p), impl.TwiceArea(p), len(p)
	gap, convex := impl.HullGap(p), impl.IsConvex(p)
	if gap != impl.TwiceArea(hull)-max(area, -area) || gap < 0 || convex != (gap == 0) || convex != impl.SamePolygon(p, hull) || convex != (len(bends) == len(outermost(p))) {
		t.Fatalf("IsConvex(%v) = %v, HullGap %d, but the hull is %v", p, convex, gap, hull)
	}
	if impl.SideCount(p) != len(bends) || impl.SideCount(p) < len(hull) {
		t.Fatalf("SideCount(%v) = %d, but without straight corners it is %v, and the hull %v", p, impl.SideCount(p), bends, hull)
	}
	all := true
	for i, a := range p {
		all = all && impl.Supports(p, a, p[(i+1)%n])
		if !impl.Supports(p, hull[i%len(hull)], hull[(i+1)%len(hull)]) {
			t.Fatalf("a side of HullOf(%v) = %v does not support it", p, hull)
		}
	}
	if all != convex {
		t.Fatalf("IsConvex(%v) = %v, but that all sides support it is %v", p, convex, all)
	}
	// A convex polygon has the middle of each two corners inside.
	for i, a := range p {
		for _, b := range p[:i] {
			if (a.X+b.X)%2 == 0 && (a.Y+b.Y)%2 == 0 && convex && !impl.IsInside(p, pt((a.X+b.X)/2, (a.Y+b.Y)/2)) {
				t.Fatalf("IsConvex(%v) = true, but the middle of %v and %v is outside", p, a, b)
			}
		}
	}
	return convex
}

func TestConvexityAgrees(t *testing.T) {
	convex, bent := 0, 0
	eachTriedPolygon(func(p []impl.Point) {
		if checkConvexity(t, p) {
			convex++
		} else {
			bent++
		}
	})
	if convex < 2000 || bent < 1000 {
		t.Errorf("only %d convex polygons and %d others were tried", convex, bent)
	}
}

// isSymmetric tells whether a half turn around the middle of the box leads the corners to themselves.
func isSymmetric(p []impl.Point) bool {
	low, high, _ := impl.BoxOf(p)
	bends := impl.Straightened(p)
	for _, c := range bends {
		if !slices.Contains(bends, pt(low.X+high.X-c.X, low.Y+high.Y-c.Y)) {
			return false
		}
	}
	return true
}

// eachOval calls do with polygons whose sides have others in reverse: sums of drawn vectors and the same ones back.
func eachOval(do func(p []impl.Point)) {
	for half := 2; half <= 5; half++ {
		eachDrawn(400, half, func(l []impl.Point) {
			for i, v := range l {
				l[i] = pt(v.X%8-3, v.Y%4)
				// Upwards or level to the right, so that the angles have an order.
				if l[i].Y == 0 {
					l[i].X = v.X%4 + 1
				}
			}
			slices.SortFunc(l, func(v, w impl.Point) int { return -turn(pt(0, 0), v, w) })
			at := pt(20, 2)
			var p []impl.Point
			for _, v := range l {
				p = append(p, at)
				at = pt(at.X+v.X, at.Y+v.Y)
			}
			for _, v := range l {
				p = append(p, at)
				at = pt(at.X-v.X, at.Y-v.Y)
			}
			if impl.PolygonOk(p) {
				do(p)
			}
		})
	}
}

func TestOvalsAreConvexAndSymmetric(t *testing.T) {
	ovals, others := 0, 0
	check := func(p []impl.Point) {
		want := impl.IsConvex(p) && isSymmetric(p)
		if want {
			ovals++
		} else {
			others++
		}
		if impl.IsOval(p) != want || impl.IsOval(impl.TurnPolygon(p)) != want || impl.IsOval(impl.Straightened(p)) != want || want && impl.SideCount(p)%2 != 0 {
			t.Fatalf("IsOval(%v) = %v", p, impl.IsOval(p))
		}
	}
	eachTriedPolygon(check)
	eachOval(func(p []impl.Point) {
		if !impl.IsOval(p) {
			t.Fatalf("IsOval(%v) = false", p)
		}
		check(p)
		for i := range p {
			q := slices.Clone(p)
			q[i].X++
			if impl.PolygonOk(q) {
				check(q)
			}
		}
	})
	if ovals < 500 || others < 5000 {
		t.Errorf("only %d ovals and %d others were tried", ovals, others)
	}
}

func TestWidestPairAgreesWithDistances(t *testing.T) {
	eachTriedPolygon(func(p []impl.Point) {
		i, k := impl.WidestPair(p)
		if i < 0 || k <= i || k >= len(p) {
			t.Fatalf("WidestPair(%v) = %d, %d", p, i, k)
		}
		widest := impl.SquareOf(p[i], p[k])
		for a := range p {
			for b := range p[:a] {
				if n := impl.SquareOf(p[a], p[b]); n > widest || n == widest && (b < i || b == i && a < k) {
					t.Fatalf("WidestPair(%v) = %d, %d, but %d and %d are %d apart", p, i, k, b, a, n)
				}
			}
		}
		hull, _ := impl.HullOf(p)
		a, b := impl.WidestPair(hull)
		if !slices.Contains(hull, p[i]) || !slices.Contains(hull, p[k]) || impl.SquareOf(hull[a], hull[b]) != widest {
			t.Fatalf("WidestPair(%v) = %d, %d, but in its hull %v %d, %d", p, i, k, hull, a, b)
		}
	})
}

func TestSupportsAgreesWithEquations(t *testing.T) {
	yes, no := 0, 0
	check := func(p []impl.Point, a, b impl.Point) {
		left, right := false, false
		for _, c := range p {
			left, right = left || turn(a, b, c) > 0, right || turn(a, b, c) < 0
		}
		want := a != b && !(left && right)
		if want {
			yes++
		} else {
			no++
		}
		hull, _ := impl.HullOf(p)
		if impl.Supports(p, a, b) != want || impl.Supports(p, b, a) != want || impl.Supports(hull, a, b) != want {
			t.Fatalf("Supports(%v, %v, %v) = %v", p, a, b, impl.Supports(p, a, b))
		}
	}
	eachDrawnPolygon(func(p []impl.Point) {
		for i, a := range p {
			for _, b := range p[:i+1] {
				check(p, a, b)
			}
		}
		eachDrawn(30, 2, func(l []impl.Point) { check(p, l[0], l[1]) })
	})
	for _, p := range slices.Concat(smallPolygons(2, 3, 0), smallPolygons(2, 4, 0)) {
		eachList(grid(3), 2, func(l []impl.Point) { check(p, l[0], l[1]) })
	}
	if yes < 5000 || no < 5000 {
		t.Errorf("only %d lines that support and %d others were tried", yes, no)
	}
}

// TestHullAnswersInOtherOrders takes the corners from any one on and in reverse.
func TestHullAnswersInOtherOrders(t *testing.T) {
	eachDrawnPolygon(func(p []impl.Point) {
		convex, gap, sides, oval := impl.IsConvex(p), impl.HullGap(p), impl.SideCount(p), impl.IsOval(p)
		hull, _ := impl.HullOf(p)
		i, k := impl.WidestPair(p)
		widest := impl.SquareOf(p[i], p[k])
		inEveryOrder(p, func(q []impl.Point) {
			other, ok := impl.HullOf(q)
			a, b := impl.WidestPair(q)
			if impl.IsConvex(q) != convex || impl.HullGap(q) != gap || impl.SideCount(q) != sides || impl.IsOval(q) != oval || !slices.Equal(other, hull) || !ok || impl.SquareOf(q[a], q[b]) != widest {
				t.Fatalf("the answers about %v and %v differ", p, q)
			}
		})
	})
}

// TestHullAnswersWithMoreCorners puts straight corners onto each side.
func TestHullAnswersWithMoreCorners(t *testing.T) {
	check := func(p []impl.Point) {
		convex, gap, sides, oval := impl.IsConvex(p), impl.HullGap(p), impl.SideCount(p), impl.IsOval(p)
		hull, _ := impl.HullOf(p)
		for i := range p {
			on := impl.PointsOn(p[i], p[(i+1)%len(p)])
			q := slices.Insert(slices.Clone(p), i+1, on[1:len(on)-1]...)
			if !impl.PolygonOk(q) {
				continue
			}
			other, ok := impl.HullOf(q)
			if impl.IsConvex(q) != convex || impl.HullGap(q) != gap || impl.SideCount(q) != sides || impl.IsOval(q) != oval || !slices.Equal(other, hull) || !ok {
				t.Fatalf("the answers about %v and %v differ", p, q)
			}
		}
	}
	eachTriedPolygon(check)
	eachOval(check)
}
