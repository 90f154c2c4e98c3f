package tests

import (
	"maps"
	"slices"
	"testing"

	"loop.example/g03208/impl"
)

// led leads a list by a motion as the chapter says it: the mirroring, then one quarter turn after the other, then the shift to 0, 0.
func led(l []impl.Point, m int) []impl.Point {
	moved := slices.Clone(l)
	for i, c := range moved {
		if m >= 4 {
			c.X = -c.X
		}
		for range m % 4 {
			c.X, c.Y = -c.Y, c.X
		}
		moved[i] = c
	}
	x, y := moved[0].X, moved[0].Y
	for _, c := range moved {
		x, y = min(x, c.X), min(y, c.Y)
	}
	for i, c := range moved {
		moved[i] = pt(c.X-x, c.Y-y)
	}
	return moved
}

// isFirst tells whether one of two lists of as many points comes before the other one, by its own comparison.
func isFirst(a, b []impl.Point) bool {
	for i := range a {
		if a[i].Y != b[i].Y {
			return a[i].Y < b[i].Y
		}
		if a[i].X != b[i].X {
			return a[i].X < b[i].X
		}
	}
	return false
}

// firstOfAll tries all lists of the corners.
func firstOfAll(p []impl.Point) []impl.Point {
	bends := impl.Straightened(p)
	first := bends
	begun := false
	for m := range 8 {
		inEveryOrder(led(bends, m), func(l []impl.Point) {
			if !begun || isFirst(l, first) {
				first, begun = slices.Clone(l), true
			}
		})
	}
	return first
}

// fits tells by the single steps of their sides which motions make the first polygon the second one.
func fits(p, q []impl.Point) []int {
	var motions []int
	other := steps(led(q, 0))
	for m := range 8 {
		if maps.Equal(steps(led(p, m)), other) {
			motions = append(motions, m)
		}
	}
	return motions
}

// eachSome calls do with one in so many of the polygons that are tried, for checks that take long.
func eachSome(every int, do func(p []impl.Point)) {
	i := 0
	eachTriedPolygon(func(p []impl.Point) {
		if i%every == 0 {
			do(p)
		}
		i++
	})
}

// eachMoving calls do with the polygons of the tables of this chapter.
func eachMoving(do func(p []impl.Point)) {
	for _, c := range moves {
		do(c.p)
	}
	for _, c := range shapes {
		do(c.p)
	}
	for _, c := range symmetric {
		do(c.p)
	}
	for _, c := range turnings {
		do(c.p)
		do(c.q)
	}
}

// TestMotionsAreAGroup leaves the table of compositions aside.
func TestMotionsAreAGroup(t *testing.T) {
	for a := range 8 {
		if impl.ComposeMotions(a, 0) != a || impl.ComposeMotions(0, a) != a {
			t.Errorf("ComposeMotions of %d and 0 is another motion", a)
		}
		inverse := impl.InverseMotion(a)
		if impl.ComposeMotions(a, inverse) != 0 || impl.ComposeMotions(inverse, a) != 0 || impl.InverseMotion(inverse) != a {
			t.Errorf("InverseMotion(%d) = %d, which does not undo it", a, inverse)
		}
		var row, column []int
		for b := range 8 {
			ab := impl.ComposeMotions(a, b)
			row, column = append(row, ab), append(column, impl.ComposeMotions(b, a))
			if impl.InverseMotion(ab) != impl.ComposeMotions(impl.InverseMotion(b), inverse) {
				t.Errorf("InverseMotion(%d), of %d and then %d, undoes them in another order", ab, a, b)
			}
			for c := range 8 {
				left, right := impl.ComposeMotions(ab, c), impl.ComposeMotions(a, impl.ComposeMotions(b, c))
				if left != right {
					t.Errorf("%d, %d and %d are composed to %d and to %d", a, b, c, left, right)
				}
			}
		}
		slices.Sort(row)
		slices.Sort(column)
		if all := []int{0, 1, 2, 3, 4, 5, 6, 7}; !slices.Equal(row, all) || !slices.Equal(column, all) {
			t.Errorf("the compositions with %d are %v and %v, not all motions", a, row, column)
		}
	}
}

// TestMotionsAreTurnsAndMirrors makes all motions of a quarter turn and a mirroring.
func TestMotionsAreTurnsAndMirrors(t *testing.T) {
	for m := range 8 {
		made := 0
		if m >= 4 {
			made = 4
		}
		for range m % 4 {
			made = impl.ComposeMotions(made, 1)
		}
		if made != m {
			t.Errorf("the mirroring and the turns of motion %d are composed to %d", m, made)
		}
	}
}

// checkMoved compares what the motions make of a polygon with what they do to its corners one by one. What they make is within the bounds of PolygonOk for each polygon, as its box is moved to 0, 0 and is at most MaxCoord wide and high.
func checkMoved(t *testing.T, p []impl.Point) {
	t.Helper()
	low, high, _ := impl.BoxOf(p)
	area, rim, inner := impl.TwiceArea(p), impl.RimPoints(p), impl.InnerPoints(p)
	for m := range 8 {
		moved := impl.MovePolygon(p, m)
		if !slices.Equal(moved, led(p, m)) {
			t.Fatalf("MovePolygon(%v, %d) = %v, want %v", p, m, moved, led(p, m))
		}
		from, to, ok := impl.BoxOf(moved)
		far := pt(high.X-low.X, high.Y-low.Y)
		if m%2 == 1 {
			far.X, far.Y = far.Y, far.X
		}
		if !ok || from != pt(0, 0) || to != far {
			t.Fatalf("BoxOf %v, moved by %d, = %v, %v, %v, want 0, 0 and %v", p, m, from, to, ok, far)
		}
		// A mirroring turns the direction around.
		turned := area
		if m >= 4 {
			turned = -area
		}
		if impl.TwiceArea(moved) != turned || impl.RimPoints(moved) != rim || impl.InnerPoints(moved) != inner {
			t.Fatalf("TwiceArea, RimPoints and InnerPoints of %v, moved by %d, = %d, %d and %d, want %d, %d and %d", p, m, impl.TwiceArea(moved), impl.RimPoints(moved), impl.InnerPoints(moved), turned, rim, inner)
		}
		if !slices.Equal(impl.Straightened(moved), impl.MovePolygon(impl.Straightened(p), m)) {
			t.Fatalf("Straightened of %v, moved by %d, = %v", p, m, impl.Straightened(moved))
		}
	}
}

func TestMovedPolygonsAgree(t *testing.T) {
	eachMoving(func(p []impl.Point) { checkMoved(t, p) })
	eachTriedPolygon(func(p []impl.Point) { checkMoved(t, p) })
}

// checkComposed moves a polygon twice.
func checkComposed(t *testing.T, p []impl.Point) {
	t.Helper()
	still := impl.MovePolygon(p, 0)
	for a := range 8 {
		once := impl.MovePolygon(p, a)
		for b := range 8 {
			if got, want := impl.MovePolygon(once, b), impl.MovePolygon(p, impl.ComposeMotions(a, b)); !slices.Equal(got, want) {
				t.Fatalf("%v, moved by %d and then by %d, is %v, want %v", p, a, b, got, want)
			}
		}
		back, forth := impl.MovePolygon(once, impl.InverseMotion(a)), impl.MovePolygon(impl.MovePolygon(p, impl.InverseMotion(a)), a)
		if !slices.Equal(back, still) || !slices.Equal(forth, still) {
			t.Fatalf("%v, moved by %d and back, is %v, and %v in the other order, want %v", p, a, back, forth, still)
		}
		for k := range p {
			if got, want := impl.MovePolygon(impl.StartAt(p, k), a), impl.StartAt(once, k); !slices.Equal(got, want) {
				t.Fatalf("%v from corner %d on, moved by %d, is %v, want %v", p, k, a, got, want)
			}
		}
		if got, want := impl.MovePolygon(impl.TurnPolygon(p), a), impl.TurnPolygon(once); !slices.Equal(got, want) {
			t.Fatalf("%v in reverse, moved by %d, is %v, want %v", p, a, got, want)
		}
	}
}

func TestComposedMotionsAgree(t *testing.T) {
	eachMoving(func(p []impl.Point) { checkComposed(t, p) })
	eachSome(5, func(p []impl.Point) { checkComposed(t, p) })
}

// TestInsideIsMoved moves points along with a polygon.
func TestInsideIsMoved(t *testing.T) {
	check := func(p []impl.Point) {
		low, high, _ := impl.BoxOf(p)
		for m := range 8 {
			moved := impl.MovePolygon(p, m)
			for y := low.Y; y <= high.Y; y += 1 + (high.Y-low.Y)/9 {
				for x := low.X; x <= high.X; x += 1 + (high.X-low.X)/9 {
					// Led along with the corners of the box, a point within it does not change where 0, 0 is.
					to := led([]impl.Point{pt(x, y), low, high}, m)[0]
					if impl.IsInside(p, pt(x, y)) != impl.IsInside(moved, to) {
						t.Fatalf("%v inside of %v and %v inside of it moved by %d differ", pt(x, y), p, to, m)
					}
				}
			}
		}
	}
	eachMoving(check)
	eachSome(20, check)
}

// checkShifts tries the shifts around the bounds, and holds the results against the polygon.
func checkShifts(t *testing.T, p []impl.Point) {
	t.Helper()
	low, high, _ := impl.BoxOf(p)
	area, rim, inner := impl.TwiceArea(p), impl.RimPoints(p), impl.InnerPoints(p)
	for _, x := range []int{-42, -41, -40, -low.X - 1, -low.X, -1, 0, 1, 40 - high.X, 41 - high.X, 40, 41, 42} {
		for _, y := range []int{-42, -41, -40, -low.Y - 1, -low.Y, -1, 0, 1, 40 - high.Y, 41 - high.Y, 40, 41, 42} {
			var want []impl.Point
			if low.X+x >= 0 && low.Y+y >= 0 && high.X+x <= 40 && high.Y+y <= 40 {
				for _, c := range p {
					want = append(want, pt(c.X+x, c.Y+y))
				}
			}
			got, ok := impl.ShiftPolygon(p, x, y)
			if !slices.Equal(got, want) || ok != (want != nil) {
				t.Fatalf("ShiftPolygon(%v, %d, %d) = %v, %v, want %v", p, x, y, got, ok, want)
			}
			if !ok {
				continue
			}
			if impl.TwiceArea(got) != area || impl.RimPoints(got) != rim || impl.InnerPoints(got) != inner || !impl.IsTurned(p, got, 0) {
				t.Fatalf("%v and %v, shifted by %d, %d, are not the same", p, got, x, y)
			}
			if back, ok := impl.ShiftPolygon(got, -x, -y); !slices.Equal(back, p) || !ok {
				t.Fatalf("%v, shifted by %d, %d and back, is %v", p, x, y, back)
			}
			if x == -low.X && y == -low.Y && !slices.Equal(got, impl.MovePolygon(p, 0)) {
				t.Fatalf("%v, shifted to 0, 0, is %v, but moved %v", p, got, impl.MovePolygon(p, 0))
			}
		}
	}
}

func TestShiftsAgree(t *testing.T) {
	eachMoving(func(p []impl.Point) { checkShifts(t, p) })
	eachSome(10, func(p []impl.Point) { checkShifts(t, p) })
}

// TestAllShifts tries each shift of some polygons, those beyond the bounds included.
func TestAllShifts(t *testing.T) {
	for _, p := range [][]impl.Point{xy(0, 0, 3, 0, 0, 1), xy(40, 40, 40, 39, 39, 40), xy(20, 1, 9, 4, 22, 30, 25, 3), xy(0, 0, 40, 0, 40, 40, 0, 40)} {
		low, high, _ := impl.BoxOf(p)
		for x := -43; x <= 43; x++ {
			for y := -43; y <= 43; y++ {
				within := low.X+x >= 0 && low.Y+y >= 0 && high.X+x <= 40 && high.Y+y <= 40
				if got, ok := impl.ShiftPolygon(p, x, y); ok != within || (len(got) > 0) != within {
					t.Errorf("ShiftPolygon(%v, %d, %d) = %v, %v", p, x, y, got, ok)
				}
			}
		}
	}
}

func TestShapeOfAgreesWithAllLists(t *testing.T) {
	check := func(p []impl.Point) {
		got, want := impl.ShapeOf(p), firstOfAll(p)
		if !slices.Equal(got, want) {
			t.Fatalf("ShapeOf(%v) = %v, want %v", p, got, want)
		}
		if !impl.PolygonOk(got) || !slices.Equal(impl.ShapeOf(got), got) || !impl.IsCongruent(p, got) || len(got) != impl.SideCount(p) {
			t.Fatalf("ShapeOf(%v) = %v, which is another shape", p, got)
		}
	}
	eachMoving(check)
	eachTriedPolygon(check)
}

// checkShape takes the shape of a polygon after motions and shifts, from all corners and in both directions.
func checkShape(t *testing.T, p []impl.Point) {
	t.Helper()
	shape := impl.ShapeOf(p)
	for m := range 8 {
		moved := impl.MovePolygon(p, m)
		_, high, _ := impl.BoxOf(moved)
		far, _ := impl.ShiftPolygon(moved, 40-high.X, 40-high.Y)
		inEveryOrder(far, func(q []impl.Point) {
			if got := impl.ShapeOf(q); !slices.Equal(got, shape) {
				t.Fatalf("ShapeOf(%v) = %v, but %v for %v", p, shape, got, q)
			}
		})
		if !slices.Equal(impl.ShapeOf(moved), shape) || !impl.IsCongruent(p, far) || !impl.IsTurned(p, far, m) {
			t.Fatalf("%v and %v, moved by %d, have other shapes", p, moved, m)
		}
	}
}

func TestShapesStay(t *testing.T) {
	eachMoving(func(p []impl.Point) { checkShape(t, p) })
	eachSome(100, func(p []impl.Point) { checkShape(t, p) })
}

// TestShapesWithMoreCorners puts straight corners onto each side.
func TestShapesWithMoreCorners(t *testing.T) {
	eachSome(10, func(p []impl.Point) {
		shape, symmetries := impl.ShapeOf(p), impl.SymmetriesOf(p)
		for i := range p {
			on := impl.PointsOn(p[i], p[(i+1)%len(p)])
			q := slices.Insert(slices.Clone(p), i+1, on[1:len(on)-1]...)
			if !impl.PolygonOk(q) {
				continue
			}
			if !slices.Equal(impl.ShapeOf(q), shape) || !slices.Equal(impl.SymmetriesOf(q), symmetries) || !impl.IsCongruent(p, q) || !impl.IsTurned(p, q, 0) {
				t.Fatalf("the shapes or the symmetries of %v and %v differ", p, q)
			}
		}
	})
}

// TestSymmetriesAgree also counts the sets that are met: there are ten that hold, with two motions, their composition.
func TestSymmetriesAgree(t *testing.T) {
	met := map[string]int{}
	check := func(p []impl.Point) {
		symmetries := impl.SymmetriesOf(p)
		name := ""
		for _, m := range symmetries {
			name += impl.FormatInt(m)
		}
		met[name]++
		if want := fits(p, p); !slices.Equal(symmetries, want) {
			t.Fatalf("SymmetriesOf(%v) = %v, want %v", p, symmetries, want)
		}
		if !slices.Contains(symmetries, 0) || 8%len(symmetries) != 0 {
			t.Fatalf("SymmetriesOf(%v) = %v", p, symmetries)
		}
		for _, a := range symmetries {
			for _, b := range symmetries {
				if !slices.Contains(symmetries, impl.ComposeMotions(a, b)) || !slices.Contains(symmetries, impl.InverseMotion(a)) {
					t.Fatalf("SymmetriesOf(%v) = %v, without the composition of %d and %d", p, symmetries, a, b)
				}
			}
		}
	}
	eachMoving(check)
	eachTriedPolygon(check)
	if len(met) != 10 {
		t.Errorf("these sets of symmetries were met: %v", met)
	}
}

// TestSymmetriesOfMovedPolygons leads the symmetries along with a polygon: to undo the motion, do the symmetry and move again is one of what it makes.
func TestSymmetriesOfMovedPolygons(t *testing.T) {
	eachMoving(func(p []impl.Point) {
		symmetries := impl.SymmetriesOf(p)
		for m := range 8 {
			var want []int
			for _, s := range symmetries {
				want = append(want, impl.ComposeMotions(impl.ComposeMotions(impl.InverseMotion(m), s), m))
			}
			slices.Sort(want)
			if got := impl.SymmetriesOf(impl.MovePolygon(p, m)); !slices.Equal(got, want) {
				t.Errorf("SymmetriesOf %v, moved by %d, = %v, want %v", p, m, got, want)
			}
		}
	})
}

// checkPair holds the answers about two polygons against each other; it returns the motions that make the first one the second one.
func checkPair(t *testing.T, p, q []impl.Point) []int {
	t.Helper()
	motions := fits(p, q)
	for m := range 8 {
		if got := impl.IsTurned(p, q, m); got != slices.Contains(motions, m) {
			t.Fatalf("IsTurned(%v, %v, %d) = %v", p, q, m, got)
		}
	}
	same := len(motions) > 0
	if impl.IsCongruent(p, q) != same || slices.Equal(firstOfAll(p), firstOfAll(q)) != same {
		t.Fatalf("IsCongruent(%v, %v) = %v", p, q, impl.IsCongruent(p, q))
	}
	// All of them are one of them after the symmetries of the first polygon.
	var want []int
	if same {
		for _, s := range impl.SymmetriesOf(p) {
			want = append(want, impl.ComposeMotions(s, motions[0]))
		}
	}
	slices.Sort(want)
	if !slices.Equal(motions, want) {
		t.Fatalf("%v becomes %v by %v, want %v", p, q, motions, want)
	}
	return motions
}

func TestPairsAgree(t *testing.T) {
	var all [][]impl.Point
	for n := 3; n <= 5; n++ {
		all = append(all, smallPolygons(2, n, 0)...)
	}
	turns, mirrors, both, none := 0, 0, 0, 0
	for i, p := range all {
		// Every polygon with one in a thousand: a full table takes too long.
		for k := i % 1000; k < len(all); k += 1000 {
			motions := checkPair(t, p, all[k])
			switch {
			case len(motions) == 0:
				none++
			case motions[len(motions)-1] < 4:
				turns++
			case motions[0] >= 4:
				mirrors++
			default:
				both++
			}
		}
	}
	if turns < 1000 || mirrors < 50 || both < 500 || none < 5000 {
		t.Errorf("only %d pairs that turns make the same, %d that mirrors do, %d that both do and %d others were tried", turns, mirrors, both, none)
	}
}

// TestMovedPairsAgree has large polygons, with a corner moved by one as well.
func TestMovedPairsAgree(t *testing.T) {
	i := 0
	eachDrawnPolygon(func(p []impl.Point) {
		m := i % 8
		i++
		q := impl.MovePolygon(p, m)
		if !slices.Contains(checkPair(t, p, q), m) {
			t.Fatalf("%v, moved by %d, is %v", p, m, q)
		}
		k := i % len(q)
		q[k].Y += 1 - 2*(q[k].Y%2)
		if impl.PolygonOk(q) {
			checkPair(t, p, q)
		}
	})
}
