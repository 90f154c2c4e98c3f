package tests

import (
	"slices"
	"testing"

	"loop.example/g03208/impl"
)

// alongSide returns how many steps a side leads in a direction, negative the other way, by trying all numbers of steps.
func alongSide(a, b impl.Point, x, y int) int {
	for n := -40; n <= 40; n++ {
		if b.X-a.X == n*x && b.Y-a.Y == n*y {
			return n
		}
	}
	return 0
}

// isLeftward tells by the lowest of the leftmost corners, at which a polygon never bends inward, whether its inside is on the left of the sides.
func isLeftward(p []impl.Point) bool {
	bends := impl.Straightened(p)
	n, k := len(bends), 0
	for i, c := range bends {
		if c.X < bends[k].X || c.X == bends[k].X && c.Y < bends[k].Y {
			k = i
		}
	}
	return turn(bends[(k+n-1)%n], bends[k], bends[(k+1)%n]) > 0
}

// sumAlong is the measure of a polygon for a direction, side by side.
func sumAlong(p []impl.Point, x, y int) int {
	sum := 0
	for i, a := range p {
		sum += alongSide(a, p[(i+1)%len(p)], x, y)
	}
	if !isLeftward(p) {
		sum = -sum
	}
	return sum
}

// turnedUp returns a vector, or its opposite if that is the one that can be a direction, and whether it is the opposite.
func turnedUp(x, y int) (int, int, bool) {
	if y < 0 || y == 0 && x < 0 {
		return -x, -y, true
	}
	return x, y, false
}

// eachMeasured calls do with the polygons of the tables of this chapter.
func eachMeasured(do func(p []impl.Point)) {
	for _, c := range measured {
		do(c.p)
	}
	for _, list := range measuredAlike {
		for _, c := range list {
			do(c.p)
		}
	}
}

func TestDirectionsAgree(t *testing.T) {
	for _, a := range someBounds() {
		for _, b := range grid(40) {
			if a == b {
				continue
			}
			d, ok := impl.DirectionOf(a, b)
			back, okToo := impl.DirectionOf(b, a)
			if !ok || !okToo || len(d) != 2 || !slices.Equal(d, back) {
				t.Fatalf("DirectionOf(%v, %v) = %v, %v, and %v, %v in the other order", a, b, d, ok, back, okToo)
			}
			if !isMeasureList([][]int{{d[0], d[1], 1}}) || !impl.MeasureListOk([][]int{{d[0], d[1], 1}}) {
				t.Fatalf("DirectionOf(%v, %v) = %v, which is no direction", a, b, d)
			}
			if n := alongSide(a, b, d[0], d[1]); max(n, -n) != impl.StepsOf(a, b) || (n > 0) != impl.BeforePoint(a, b) {
				t.Fatalf("DirectionOf(%v, %v) = %v, which leads %d steps along it", a, b, d, n)
			}
		}
	}
}

// checkMeasures compares the measures of a polygon with sums over its sides.
func checkMeasures(t *testing.T, p []impl.Point) {
	t.Helper()
	measures := impl.MeasuresOf(p)
	if !impl.MeasureListOk(measures) || !isMeasureList(measures) || len(measures) > len(p) {
		t.Fatalf("MeasuresOf(%v) = %v, which is no list of measures", p, measures)
	}
	if impl.IsBalanced(p) != (len(measures) == 0) {
		t.Fatalf("IsBalanced(%v) = %v, but MeasuresOf = %v", p, impl.IsBalanced(p), measures)
	}
	// What leads along the sides leads back to where it began.
	x, y := 0, 0
	for _, m := range measures {
		x, y = x+m[0]*m[2], y+m[1]*m[2]
		if want := sumAlong(p, m[0], m[1]); m[2] != want {
			t.Fatalf("MeasuresOf(%v) = %v, want %d for %d, %d", p, measures, want, m[0], m[1])
		}
	}
	if x != 0 || y != 0 {
		t.Fatalf("MeasuresOf(%v) = %v, which lead to %d, %d", p, measures, x, y)
	}
	// The direction of each side, and with it two pairs that are no directions.
	for i, a := range p {
		d, _ := impl.DirectionOf(a, p[(i+1)%len(p)])
		x, y := d[0], d[1]
		if got, want := impl.MeasureFor(p, x, y), sumAlong(p, x, y); got != want || got != listed(measures, x, y) {
			t.Fatalf("MeasureFor(%v, %d, %d) = %d, want %d", p, x, y, got, want)
		}
		if impl.MeasureFor(p, -x, -y) != 0 || impl.MeasureFor(p, 2*x, 2*y) != 0 {
			t.Fatalf("%v has a measure for %d, %d the other way or doubled", p, x, y)
		}
	}
	for _, d := range [][2]int{{1, 0}, {0, 1}, {1, 1}, {-1, 1}, {2, 1}, {-1, 2}} {
		if got, want := impl.MeasureFor(p, d[0], d[1]), sumAlong(p, d[0], d[1]); got != want || got != listed(measures, d[0], d[1]) {
			t.Fatalf("MeasureFor(%v, %d, %d) = %d, want %d", p, d[0], d[1], got, want)
		}
	}
}

func TestMeasuresAgree(t *testing.T) {
	eachMeasured(func(p []impl.Point) { checkMeasures(t, p) })
	eachMoving(func(p []impl.Point) { checkMeasures(t, p) })
	eachTriedPolygon(func(p []impl.Point) { checkMeasures(t, p) })
}

// TestMeasuresForAllDirectionsAgree asks for each direction that a side can have.
func TestMeasuresForAllDirectionsAgree(t *testing.T) {
	eachSome(500, func(p []impl.Point) {
		measures := impl.MeasuresOf(p)
		found := 0
		for x := -40; x <= 40; x++ {
			for y := range 41 {
				got := impl.MeasureFor(p, x, y)
				if got != listed(measures, x, y) {
					t.Fatalf("MeasureFor(%v, %d, %d) = %d, but MeasuresOf = %v", p, x, y, got, measures)
				}
				if got != 0 {
					found++
				}
			}
		}
		if found != len(measures) {
			t.Fatalf("MeasuresOf(%v) = %v, but %d directions have a measure", p, measures, found)
		}
	})
}

// checkSameMeasures holds that two polygons have the same measures.
func checkSameMeasures(t *testing.T, p, q []impl.Point) {
	t.Helper()
	if a, b := impl.MeasuresOf(p), impl.MeasuresOf(q); !sameLists(a, b) {
		t.Fatalf("MeasuresOf(%v) = %v, but %v for %v", p, a, b, q)
	}
	if !impl.SameMeasures(p, q) || !impl.CanExchange(p, q) || impl.IsBalanced(p) != impl.IsBalanced(q) {
		t.Fatalf("%v and %v have other measures", p, q)
	}
}

func TestMeasuresStay(t *testing.T) {
	check := func(p []impl.Point) {
		inEveryOrder(p, func(q []impl.Point) { checkSameMeasures(t, p, q) })
		checkSameMeasures(t, p, impl.TurnPolygon(p))
		checkSameMeasures(t, p, impl.Straightened(p))
		checkSameMeasures(t, p, impl.MovePolygon(p, 0))
		for k := range p {
			checkSameMeasures(t, p, impl.StartAt(p, k))
		}
	}
	eachMeasured(check)
	eachMoving(check)
	eachSome(10, check)
}

// TestMeasuresStayAfterShifts tries all shifts of some polygons.
func TestMeasuresStayAfterShifts(t *testing.T) {
	shifts := 0
	check := func(p []impl.Point) {
		low, high, _ := impl.BoxOf(p)
		for x := -low.X; x <= 40-high.X; x++ {
			for y := -low.Y; y <= 40-high.Y; y++ {
				q, ok := impl.ShiftPolygon(p, x, y)
				if !ok {
					t.Fatalf("ShiftPolygon(%v, %d, %d) fails", p, x, y)
				}
				checkSameMeasures(t, p, q)
				shifts++
			}
		}
	}
	for i, c := range measured {
		if i%3 == 0 {
			check(c.p)
		}
	}
	eachSome(700, check)
	if shifts < 10000 {
		t.Errorf("only %d shifts were tried", shifts)
	}
}

// TestMeasuresOfMovedPolygons leads the directions along with the polygon. A mirroring turns the polygon around, and with it all measures.
func TestMeasuresOfMovedPolygons(t *testing.T) {
	check := func(p []impl.Point) {
		for m := range 8 {
			var want [][]int
			for _, one := range impl.MeasuresOf(p) {
				x, y, n := one[0], one[1], one[2]
				if m >= 4 {
					x, n = -x, -n
				}
				for range m % 4 {
					x, y = -y, x
				}
				x, y, opposite := turnedUp(x, y)
				if opposite {
					n = -n
				}
				want = append(want, []int{x, y, n})
			}
			slices.SortFunc(want, func(a, b []int) int {
				if a[1] != b[1] {
					return a[1] - b[1]
				}
				return a[0] - b[0]
			})
			if got := impl.MeasuresOf(impl.MovePolygon(p, m)); !sameLists(got, want) {
				t.Fatalf("MeasuresOf %v, moved by %d, = %v, want %v", p, m, got, want)
			}
		}
	}
	eachMeasured(check)
	eachMoving(check)
	eachSome(10, check)
}

// TestMeasuresWithMoreCorners puts straight corners onto each side.
func TestMeasuresWithMoreCorners(t *testing.T) {
	eachSome(10, func(p []impl.Point) {
		for i := range p {
			on := impl.PointsOn(p[i], p[(i+1)%len(p)])
			q := slices.Insert(slices.Clone(p), i+1, on[1:len(on)-1]...)
			if impl.PolygonOk(q) {
				checkSameMeasures(t, p, q)
			}
		}
	})
	straightPolygons(func(p []impl.Point) { checkSameMeasures(t, p, impl.Straightened(p)) })
}

// checkParts cuts a polygon along each of its diagonals, and adds the measures of the two parts.
func checkParts(t *testing.T, p []impl.Point) int {
	t.Helper()
	measures := impl.MeasuresOf(p)
	diagonals := impl.DiagonalsOf(p)
	for _, d := range diagonals {
		first, second := slices.Clone(p[d[0]:d[1]+1]), slices.Concat(p[d[1]:], p[:d[0]+1])
		if !impl.PolygonOk(first) || !impl.PolygonOk(second) || impl.TwiceArea(first)+impl.TwiceArea(second) != impl.TwiceArea(p) {
			t.Fatalf("%v and %v are no parts of %v", first, second, p)
		}
		// It does not matter which way the corners of a part go round.
		second = impl.TurnPolygon(second)
		a, b := impl.MeasuresOf(first), impl.MeasuresOf(second)
		sum, ok := impl.AddMeasures(a, b)
		other, okToo := impl.AddMeasures(b, a)
		if !ok || !okToo || !sameLists(sum, measures) || !sameLists(other, measures) {
			t.Fatalf("the measures %v of %v and %v of %v have the sum %v, want %v", a, first, b, second, sum, measures)
		}
	}
	return len(diagonals)
}

func TestMeasuresOfPartsAgree(t *testing.T) {
	cuts := 0
	check := func(p []impl.Point) { cuts += checkParts(t, p) }
	eachMeasured(check)
	eachCutPolygon(check)
	if cuts < 10000 {
		t.Errorf("only %d cuts were tried", cuts)
	}
}

// TestMeasuresOfTrianglesAgree adds the measures of all triangles that polygons are cut into.
func TestMeasuresOfTrianglesAgree(t *testing.T) {
	check := func(p []impl.Point) {
		triangles, ok := impl.Triangulate(p)
		var sum [][]int
		for _, l := range triangles {
			more, added := impl.AddMeasures(sum, impl.MeasuresOf([]impl.Point{p[l[0]], p[l[1]], p[l[2]]}))
			sum, ok = more, ok && added
		}
		if !ok || !sameLists(sum, impl.MeasuresOf(p)) {
			t.Fatalf("the triangles of %v have the measures %v, want %v", p, sum, impl.MeasuresOf(p))
		}
	}
	eachMeasured(check)
	eachCutPolygon(check)
}

// checkMeasuredPair holds the answers about two polygons against MeasuresOf and TwiceArea; it returns what SameMeasures and CanExchange have to tell.
func checkMeasuredPair(t *testing.T, p, q []impl.Point) (bool, bool) {
	t.Helper()
	same := sameLists(impl.MeasuresOf(p), impl.MeasuresOf(q))
	a, b := impl.TwiceArea(p), impl.TwiceArea(q)
	exchange := same && (a == b || a == -b)
	if impl.SameMeasures(p, q) != same || impl.SameMeasures(q, p) != same {
		t.Fatalf("SameMeasures(%v, %v) = %v, and %v in the other order", p, q, impl.SameMeasures(p, q), impl.SameMeasures(q, p))
	}
	if impl.CanExchange(p, q) != exchange || impl.CanExchange(q, p) != exchange {
		t.Fatalf("CanExchange(%v, %v) = %v, and %v in the other order", p, q, impl.CanExchange(p, q), impl.CanExchange(q, p))
	}
	return same, exchange
}

func TestMeasuredPairsAgree(t *testing.T) {
	var all [][]impl.Point
	for n := 3; n <= 5; n++ {
		all = append(all, smallPolygons(2, n, 0)...)
	}
	eachMeasured(func(p []impl.Point) { all = append(all, p) })
	exchanges, onlySame, others := 0, 0, 0
	for i, p := range all {
		// Every polygon with one in a thousand: a full table takes too long.
		for k := i % 1000; k < len(all); k += 1000 {
			same, exchange := checkMeasuredPair(t, p, all[k])
			switch {
			case exchange:
				exchanges++
			case same:
				onlySame++
			default:
				others++
			}
		}
	}
	if exchanges < 300 || onlySame < 100 || others < 5000 {
		t.Errorf("only %d pairs that can be exchanged, %d with the same measures and %d others were tried", exchanges, onlySame, others)
	}
}

// eachRightAngled calls do with polygons of six corners whose sides are level and upright in turn.
func eachRightAngled(do func(p []impl.Point)) {
	eachDrawn(20000, 3, func(l []impl.Point) {
		a, b, c := l[0], l[1], l[2]
		p := []impl.Point{a, pt(b.X, a.Y), b, pt(c.X, b.Y), c, pt(a.X, c.Y)}
		if isSimple(p) {
			do(p)
		}
	})
}

func TestOvalsAreBalanced(t *testing.T) {
	ovals, others := 0, 0
	check := func(p []impl.Point) {
		switch {
		case impl.IsOval(p):
			ovals++
			if !impl.IsBalanced(p) || len(impl.MeasuresOf(p)) != 0 {
				t.Fatalf("%v is oval, but has the measures %v", p, impl.MeasuresOf(p))
			}
		case impl.IsBalanced(p):
			others++
			if impl.IsConvex(p) {
				t.Fatalf("%v is balanced and convex, but not oval", p)
			}
		}
	}
	eachOval(check)
	eachMeasured(check)
	eachTriedPolygon(check)
	eachRightAngled(check)
	if ovals < 1000 || others < 1000 {
		t.Errorf("only %d ovals and %d other balanced polygons were tried", ovals, others)
	}
}

// TestRightAnglesAreBalanced has sides that lead as far back as forth.
func TestRightAnglesAreBalanced(t *testing.T) {
	eachRightAngled(func(p []impl.Point) {
		if !impl.IsBalanced(p) || !impl.SameMeasures(p, xy(0, 0, 1, 0, 1, 1, 0, 1)) {
			t.Fatalf("MeasuresOf(%v) = %v", p, impl.MeasuresOf(p))
		}
	})
}
