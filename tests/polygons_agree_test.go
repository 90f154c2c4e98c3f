package tests

import (
	"math"
	"slices"
	"testing"

	"loop.example/g03208/impl"
)

// isSimple tells by the equations of meets whether sides have in common what sides of a polygon have.
func isSimple(p []impl.Point) bool {
	n := len(p)
	if n < 3 || n > 10 {
		return false
	}
	for i := range n {
		if p[i] == p[(i+1)%n] {
			return false
		}
	}
	for i := range n {
		for k := range i {
			want := impl.MtNone
			if k == i-1 || k == 0 && i == n-1 {
				want = impl.MtTouch
			}
			if meets(p[i], p[(i+1)%n], p[k], p[k+1]) != want {
				return false
			}
		}
	}
	return true
}

// surrounds tells whether x is inside or on a side, by the sides that a ray with a slope meets: it is so flat that it meets no other point with integer coordinates up to 40.
func surrounds(p []impl.Point, x impl.Point) bool {
	const dx, dy = 101, 1
	beside := func(q impl.Point) int { return dx*(q.Y-x.Y) - dy*(q.X-x.X) }
	inside := false
	for i, a := range p {
		b := p[(i+1)%len(p)]
		if liesOn(a, b, x) {
			return true
		}
		if (beside(a) > 0) == (beside(b) > 0) {
			continue
		}
		// Where the ray's line meets the side, along the ray, times a positive number.
		along := (a.X-x.X)*beside(b) - (b.X-x.X)*beside(a)
		if (along > 0) == (beside(b) > beside(a)) {
			inside = !inside
		}
	}
	return inside
}

// steps returns the single steps on the sides, each with its ends in a fixed order.
func steps(p []impl.Point) map[[2]impl.Point]bool {
	all := map[[2]impl.Point]bool{}
	for i, a := range p {
		on := impl.PointsOn(a, p[(i+1)%len(p)])
		for k := 1; k < len(on); k++ {
			s := [2]impl.Point{on[k-1], on[k]}
			if impl.BeforePoint(s[1], s[0]) {
				s[0], s[1] = s[1], s[0]
			}
			all[s] = true
		}
	}
	return all
}

// eachList calls do with every list of n of the points.
func eachList(points []impl.Point, n int, do func(l []impl.Point)) {
	l := make([]impl.Point, 0, n)
	var add func()
	add = func() {
		if len(l) == n {
			do(l)
			return
		}
		for _, p := range points {
			l = append(l, p)
			add()
			l = l[:len(l)-1]
		}
	}
	add()
}

// smallPolygons returns all polygons of n corners with numbers from 0 to size, moved by shift.
func smallPolygons(size, n, shift int) [][]impl.Point {
	var points []impl.Point
	for _, p := range grid(size) {
		points = append(points, pt(p.X+shift, p.Y+shift))
	}
	var found [][]impl.Point
	eachList(points, n, func(l []impl.Point) {
		if isSimple(l) {
			found = append(found, slices.Clone(l))
		}
	})
	return found
}

// eachDrawnPolygon calls do with polygons around points that are drawn: the corners are in the order of their directions from the middle of the first two.
func eachDrawnPolygon(do func(p []impl.Point)) {
	for n := 3; n <= 10; n++ {
		eachDrawn(60, n, func(l []impl.Point) {
			x, y := float64(l[0].X+l[1].X)/2, float64(l[0].Y+l[1].Y)/2
			angle := func(p impl.Point) float64 { return math.Atan2(float64(p.Y)-y, float64(p.X)-x) }
			slices.SortFunc(l, func(p, q impl.Point) int {
				switch {
				case angle(p) < angle(q):
					return -1
				case angle(p) > angle(q):
					return 1
				}
				return 0
			})
			if isSimple(l) {
				do(l)
			}
		})
	}
}

// eachTriedPolygon calls do with small polygons at both bounds, those of the table, and drawn ones.
func eachTriedPolygon(do func(p []impl.Point)) {
	small := slices.Concat(smallPolygons(2, 3, 0), smallPolygons(3, 3, 37), smallPolygons(2, 4, 38), smallPolygons(3, 4, 0), smallPolygons(2, 5, 38))
	for _, p := range small {
		do(p)
	}
	for _, c := range polygons {
		do(c.p)
	}
	eachDrawnPolygon(do)
}

func TestPolygonOkAgreesWithEquations(t *testing.T) {
	fine, wrong := 0, 0
	check := func(p []impl.Point) {
		want := isSimple(p)
		if want {
			fine++
		} else {
			wrong++
		}
		if got := impl.PolygonOk(p); got != want {
			t.Fatalf("PolygonOk(%v) = %v", p, got)
		}
	}
	eachList(grid(3), 3, check)
	eachList(grid(3), 4, check)
	eachList(grid(2), 5, check)
	eachList(grid(1), 6, check)
	for n := 3; n <= 10; n++ {
		eachDrawn(2000, n, check)
	}
	eachDrawnPolygon(check)
	if fine < 5000 || wrong < 5000 {
		t.Errorf("only %d polygons and %d others were tried", fine, wrong)
	}
}

// checkSizes counts the points one by one.
func checkSizes(t *testing.T, p []impl.Point) {
	t.Helper()
	low, high, ok := impl.BoxOf(p)
	if !ok || !slices.ContainsFunc(p, func(c impl.Point) bool { return c.X == low.X }) || !slices.ContainsFunc(p, func(c impl.Point) bool { return c.Y == low.Y }) ||
		!slices.ContainsFunc(p, func(c impl.Point) bool { return c.X == high.X }) || !slices.ContainsFunc(p, func(c impl.Point) bool { return c.Y == high.Y }) {
		t.Fatalf("BoxOf(%v) = %v, %v, %v", p, low, high, ok)
	}
	rim, within := 0, 0
	for y := max(low.Y-1, 0); y <= min(high.Y+1, 40); y++ {
		for x := max(low.X-1, 0); x <= min(high.X+1, 40); x++ {
			q := pt(x, y)
			inside := impl.IsInside(p, q)
			if inside != surrounds(p, q) || inside && (x < low.X || x > high.X || y < low.Y || y > high.Y) {
				t.Fatalf("IsInside(%v, %v) = %v", p, q, inside)
			}
			on := false
			for i, a := range p {
				on = on || liesOn(a, p[(i+1)%len(p)], q)
			}
			if on {
				rim++
			} else if inside {
				within++
			}
		}
	}
	if impl.RimPoints(p) != rim || impl.InnerPoints(p) != within {
		t.Fatalf("RimPoints and InnerPoints of %v = %d and %d, counted %d and %d", p, impl.RimPoints(p), impl.InnerPoints(p), rim, within)
	}
	area := impl.TwiceArea(p)
	if max(area, -area) != rim+2*within-2 || rim != len(steps(p)) {
		t.Fatalf("TwiceArea(%v) = %d, but there are %d points on the rim and %d inside", p, area, rim, within)
	}
	// The same number as a sum over the triangles from the first corner.
	sum := 0
	for i := 2; i < len(p); i++ {
		sum += impl.CrossOf(p[0], p[i-1], p[i])
	}
	if area != sum {
		t.Fatalf("TwiceArea(%v) = %d, want %d", p, area, sum)
	}
}

func TestSizesAgree(t *testing.T) {
	eachTriedPolygon(func(p []impl.Point) { checkSizes(t, p) })
}

// checkDirection tells the side that the inside is on from the lowest corner that is furthest to the left: its turn is that of the whole.
func checkDirection(t *testing.T, p []impl.Point) {
	t.Helper()
	bends := impl.Straightened(p)
	n, first := len(bends), 0
	for i, corner := range bends {
		if impl.BeforePoint(corner, bends[first]) {
			first = i
		}
	}
	turn := impl.SideOf(bends[(first+n-1)%n], bends[first], bends[(first+1)%n])
	if area := impl.TwiceArea(p); area == 0 || turn == 0 || area > 0 != (turn > 0) {
		t.Fatalf("TwiceArea(%v) = %d, but the turn at %v is %d", p, area, bends[first], turn)
	}
}

// checkOrders takes the corners in other orders.
func checkOrders(t *testing.T, p []impl.Point) {
	t.Helper()
	n, area, rim, inner := len(p), impl.TwiceArea(p), impl.RimPoints(p), impl.InnerPoints(p)
	low, high, _ := impl.BoxOf(p)
	for k := range n {
		q := impl.StartAt(p, k)
		turned := impl.TurnPolygon(q)
		if !slices.Equal(impl.StartAt(q, (n-k)%n), p) || !slices.Equal(impl.TurnPolygon(turned), q) || turned[0] != p[k] || turned[1] != p[(k+n-1)%n] {
			t.Fatalf("StartAt(%v, %d) = %v, and turned %v", p, k, q, turned)
		}
		if impl.TwiceArea(q) != area || impl.TwiceArea(turned) != -area || !impl.SamePolygon(p, q) || !impl.SamePolygon(turned, p) {
			t.Fatalf("%v is another polygon than %v, or of another area, or so is %v", q, p, turned)
		}
		for _, l := range [][]impl.Point{q, turned} {
			a, b, ok := impl.BoxOf(l)
			if !impl.PolygonOk(l) || impl.RimPoints(l) != rim || impl.InnerPoints(l) != inner || a != low || b != high || !ok {
				t.Fatalf("the sizes of %v and %v differ", p, l)
			}
		}
	}
}

// checkBends removes the straight corners.
func checkBends(t *testing.T, p []impl.Point) {
	t.Helper()
	n := len(p)
	var want []impl.Point
	for i, corner := range p {
		if impl.SideOf(p[(i+n-1)%n], corner, p[(i+1)%n]) != 0 {
			want = append(want, corner)
		}
	}
	bends := impl.Straightened(p)
	if !slices.Equal(bends, want) || !slices.Equal(impl.Straightened(bends), bends) {
		t.Fatalf("Straightened(%v) = %v, and again %v, want %v", p, bends, impl.Straightened(bends), want)
	}
	if !impl.PolygonOk(bends) || impl.TwiceArea(bends) != impl.TwiceArea(p) || impl.RimPoints(bends) != impl.RimPoints(p) || impl.InnerPoints(bends) != impl.InnerPoints(p) || !impl.SamePolygon(p, bends) {
		t.Fatalf("Straightened(%v) = %v is another polygon", p, bends)
	}
}

// checkMoreCorners puts straight corners onto each side.
func checkMoreCorners(t *testing.T, p []impl.Point) {
	t.Helper()
	bends := impl.Straightened(p)
	for i := range p {
		on := impl.PointsOn(p[i], p[(i+1)%len(p)])
		more := on[1 : len(on)-1]
		q := slices.Insert(slices.Clone(p), i+1, more...)
		if fits := len(q) <= 10; impl.PolygonOk(q) != fits || impl.SamePolygon(p, q) != fits {
			t.Fatalf("PolygonOk(%v) = %v, SamePolygon as %v = %v", q, impl.PolygonOk(q), p, impl.SamePolygon(p, q))
		}
		if len(q) <= 10 && !slices.Equal(impl.Straightened(q), bends) {
			t.Fatalf("Straightened(%v) = %v, want %v", q, impl.Straightened(q), bends)
		}
	}
}

func TestPolygonsInOtherOrders(t *testing.T) {
	eachTriedPolygon(func(p []impl.Point) {
		checkDirection(t, p)
		checkOrders(t, p)
		checkBends(t, p)
		checkMoreCorners(t, p)
	})
}

func TestSamePolygonAgreesWithSteps(t *testing.T) {
	type known struct {
		p     []impl.Point
		steps map[[2]impl.Point]bool
	}
	var all []known
	for n := 3; n <= 5; n++ {
		for _, p := range smallPolygons(2, n, 0) {
			all = append(all, known{p, steps(p)})
		}
	}
	same := 0
	for i, a := range all {
		// Every polygon with one in forty: a full table takes too long.
		for k := i % 40; k < len(all); k += 40 {
			b := all[k]
			want := len(a.steps) == len(b.steps)
			for s := range a.steps {
				want = want && b.steps[s]
			}
			if want {
				same++
			}
			if got := impl.SamePolygon(a.p, b.p); got != want {
				t.Fatalf("SamePolygon(%v, %v) = %v", a.p, b.p, got)
			}
		}
	}
	if same < 1000 {
		t.Errorf("only %d pairs are the same", same)
	}
}

func TestSamePolygonWithAMovedCorner(t *testing.T) {
	eachDrawnPolygon(func(p []impl.Point) {
		for i := range p {
			q := slices.Clone(p)
			q[i].X += 1 - 2*(q[i].X%2)
			if !impl.PolygonOk(q) {
				continue
			}
			want := slices.Equal(impl.Straightened(p), impl.Straightened(q))
			if impl.SamePolygon(p, q) != want || impl.SamePolygon(q, p) != want {
				t.Fatalf("SamePolygon(%v, %v) = %v", p, q, impl.SamePolygon(p, q))
			}
		}
	})
}
