package tests

import (
	"slices"
	"testing"

	"loop.example/g03208/impl"
)

// walkedCut goes along the cut as the chapter says it: to the right by a, down by b, and so on until the side is reached.
func walkedCut(n, a, b int) []impl.Point {
	at := pt(0, n*b)
	walk := []impl.Point{at}
	for {
		at.X += a
		walk = append(walk, at)
		if at.X == n*a {
			return walk
		}
		at.Y -= b
		walk = append(walk, at)
	}
}

// liesOnLine tells whether both points are on one segment of a line of points.
func liesOnLine(line []impl.Point, a, b impl.Point) bool {
	for i := 1; i < len(line); i++ {
		if liesOn(line[i-1], line[i], a) && liesOn(line[i-1], line[i], b) {
			return true
		}
	}
	return false
}

// closed returns the line along the corners back to the first one.
func closed(p []impl.Point) []impl.Point { return append(slices.Clone(p), p[0]) }

// liesOnRim tells whether a point is on a side.
func liesOnRim(p []impl.Point, x impl.Point) bool { return liesOnLine(closed(p), x, x) }

// bothRectangles returns the rectangle that is cut and the one that the pieces make.
func bothRectangles(n, a, b int) (first, second []impl.Point) {
	w, h, v, u := n*a, (n+1)*b, (n+1)*a, n*b
	return xy(0, 0, w, 0, w, h, 0, h), xy(0, 0, v, 0, v, u, 0, u)
}

// TestCornersOfPieces tells which corners both pieces have in common, and where they begin.
func TestCornersOfPieces(t *testing.T) {
	eachSteps(func(n, a, b int) {
		cut := walkedCut(n, a, b)
		lower, upper := slices.Clone(cut), slices.Clone(cut)
		slices.Reverse(lower)
		lower = append(xy(0, 0, n*a, 0), lower...)
		upper = append(upper, pt(n*a, (n+1)*b), pt(0, (n+1)*b))
		if got := impl.LowerPiece(n, a, b); !slices.Equal(got, lower) {
			t.Errorf("LowerPiece(%d, %d, %d) = %v, want %v", n, a, b, got, lower)
		}
		if got := impl.UpperPiece(n, a, b); !slices.Equal(got, upper) {
			t.Errorf("UpperPiece(%d, %d, %d) = %v, want %v", n, a, b, got, upper)
		}
		for i := range upper {
			upper[i] = pt(upper[i].X+a, upper[i].Y-b)
		}
		if got := impl.MovedUpper(n, a, b); !slices.Equal(got, upper) {
			t.Errorf("MovedUpper(%d, %d, %d) = %v, want %v", n, a, b, got, upper)
		}
		if shifted, ok := impl.ShiftPolygon(impl.UpperPiece(n, a, b), a, -b); !slices.Equal(shifted, upper) || !ok {
			t.Errorf("the upper piece for %d, %d, %d is shifted to %v, %v, want %v", n, a, b, shifted, ok, upper)
		}
	})
}

// TestPiecesArePolygons has both pieces as polygons that turn to the left, without straight corners, and alike.
func TestPiecesArePolygons(t *testing.T) {
	eachSteps(func(n, a, b int) {
		lower, upper, moved := impl.LowerPiece(n, a, b), impl.UpperPiece(n, a, b), impl.MovedUpper(n, a, b)
		first, second := bothRectangles(n, a, b)
		for _, p := range [][]impl.Point{lower, upper, moved} {
			if !impl.PolygonOk(p) || !isSimple(p) || impl.SideCount(p) != 2*n+2 || impl.IsConvex(p) != (n == 1) {
				t.Errorf("a piece for %d, %d, %d is %v", n, a, b, p)
			}
			if triangles, ok := impl.Triangulate(p); !ok || !impl.IsTriangulation(p, triangles) {
				t.Errorf("a piece for %d, %d, %d has the triangles %v, %v", n, a, b, triangles, ok)
			}
			if impl.TwiceArea(p) != n*(n+1)*a*b || 2*impl.TwiceArea(p) != impl.TwiceArea(first) {
				t.Errorf("a piece for %d, %d, %d has the twice area %d", n, a, b, impl.TwiceArea(p))
			}
		}
		if sum := impl.TwiceArea(lower) + impl.TwiceArea(upper); sum != impl.TwiceArea(first) || sum != impl.TwiceArea(second) {
			t.Errorf("the pieces for %d, %d, %d have the sum %d of their twice areas, the rectangles %d and %d", n, a, b, sum, impl.TwiceArea(first), impl.TwiceArea(second))
		}
		// The whole rim of both is that of the rectangle and the cut twice.
		cut := n*a + (n-1)*b
		if sum := impl.RimPoints(lower) + impl.RimPoints(upper); sum != impl.RimPoints(first)+2*cut {
			t.Errorf("the pieces for %d, %d, %d have the sum %d of their rims, the rectangle has %d and the cut %d", n, a, b, sum, impl.RimPoints(first), cut)
		}
		if !impl.IsTurned(lower, upper, 2) || !impl.IsTurned(upper, moved, 0) || !impl.IsCongruent(lower, moved) {
			t.Errorf("the pieces for %d, %d, %d are not the same by a half turn", n, a, b)
		}
	})
}

// TestMeasuresOfSteps has pieces that are exchanged by translations alone.
func TestMeasuresOfSteps(t *testing.T) {
	eachSteps(func(n, a, b int) {
		lower, upper, moved := impl.LowerPiece(n, a, b), impl.UpperPiece(n, a, b), impl.MovedUpper(n, a, b)
		first, second := bothRectangles(n, a, b)
		if !impl.CanExchange(first, second) || !impl.CanExchange(upper, moved) {
			t.Errorf("the rectangles or the upper pieces for %d, %d, %d can't be exchanged", n, a, b)
		}
		if sum, ok := impl.AddMeasures(impl.MeasuresOf(lower), impl.MeasuresOf(upper)); !ok || !sameLists(sum, impl.MeasuresOf(first)) {
			t.Errorf("the measures of the pieces for %d, %d, %d have the sum %v, %v", n, a, b, sum, ok)
		}
	})
}

// TestSidesOfPieces has each side of a piece on a side of one of the rectangles or on the cut.
func TestSidesOfPieces(t *testing.T) {
	eachSteps(func(n, a, b int) {
		first, second := bothRectangles(n, a, b)
		cut := walkedCut(n, a, b)
		for i, p := range [][]impl.Point{impl.LowerPiece(n, a, b), impl.UpperPiece(n, a, b), impl.MovedUpper(n, a, b)} {
			line, onCut := closed(p), 0
			for k := 1; k < len(line); k++ {
				from, to := line[k-1], line[k]
				onRim := liesOnLine(closed(first), from, to) || i == 2 && liesOnLine(closed(second), from, to)
				if liesOnLine(cut, from, to) {
					onCut++
				} else if !onRim {
					t.Errorf("the side from %v to %v of %v for %d, %d, %d is on no rim and not on the cut", from, to, p, n, a, b)
				}
			}
			// The moved piece has its left side on the cut, and its two last ones along the cut on rims.
			want := 2*n - 1
			if i == 2 && n == 1 {
				want = 0
			} else if i == 2 {
				want = 2*n - 2
			}
			if onCut != want {
				t.Errorf("%d sides of %v for %d, %d, %d are on the cut, want %d", onCut, p, n, a, b, want)
			}
		}
	})
}

// checkCover fails unless two pieces fill a rectangle and have only points of their rims in common.
func checkCover(t *testing.T, rectangle, one, other []impl.Point) {
	t.Helper()
	_, high, _ := impl.BoxOf(rectangle)
	for y := 0; y <= min(high.Y+1, impl.MaxCoord); y++ {
		for x := 0; x <= min(high.X+1, impl.MaxCoord); x++ {
			at := pt(x, y)
			inOne, inOther := impl.IsInside(one, at), impl.IsInside(other, at)
			if (inOne || inOther) != (x <= high.X && y <= high.Y) {
				t.Errorf("%v is in one of %v and %v: %v, but the rectangle ends at %v", at, one, other, inOne || inOther, high)
			}
			if inOne && inOther && !(liesOnRim(one, at) && liesOnRim(other, at)) {
				t.Errorf("%v is within %v and %v", at, one, other)
			}
		}
	}
}

func TestPointsOfPieces(t *testing.T) {
	eachSteps(func(n, a, b int) {
		first, second := bothRectangles(n, a, b)
		lower := impl.LowerPiece(n, a, b)
		checkCover(t, first, lower, impl.UpperPiece(n, a, b))
		checkCover(t, second, lower, impl.MovedUpper(n, a, b))
	})
}

// cellsUnderCut returns the masks, in a table of six columns, of the cells of the first rectangle below the cut, of those above it, and of these after the move.
func cellsUnderCut(n, a, b int) (lower, upper, moved int) {
	for y := range (n + 1) * b {
		for x := range n * a {
			if y < (n-x/a)*b {
				lower |= 1 << (6*y + x)
			} else {
				upper |= 1 << (6*y + x)
				moved |= 1 << (6*(y-b) + x + a)
			}
		}
	}
	return lower, upper, moved
}

// TestStepsOfCells has the pieces as shapes of cells, whose cuts dissect both rectangles.
func TestStepsOfCells(t *testing.T) {
	tried := 0
	eachSteps(func(n, a, b int) {
		if (n+1)*a > 6 || (n+1)*b > 6 {
			return
		}
		tried++
		first, second := bothRectangles(n, a, b)
		lower, upper, moved := cellsUnderCut(n, a, b)
		for _, c := range []struct {
			p    []impl.Point
			mask int
		}{{impl.LowerPiece(n, a, b), lower}, {impl.UpperPiece(n, a, b), upper}, {impl.MovedUpper(n, a, b), moved}, {first, lower | upper}, {second, lower | moved}} {
			if got := coveredBy(c.p); got != c.mask {
				t.Errorf("%v for %d, %d, %d has the cells %s, want %s", c.p, n, a, b, impl.FormatShape(6, 6, got), impl.FormatShape(6, 6, c.mask))
			}
		}
		if !impl.SamePiece(6, 6, lower, upper) || !impl.SamePiece(6, 6, upper, moved) || lower&upper != 0 || lower&moved != 0 {
			t.Errorf("the pieces for %d, %d, %d have the cells %d, %d and %d", n, a, b, lower, upper, moved)
		}
		checkDissectedBySteps(t, lower, upper, moved)
	})
	if tried != 14 {
		t.Errorf("%d steps fit into the greatest table", tried)
	}
}

// checkDissectedBySteps fails unless the cuts of the two rectangles dissect them, if there are not too many cells for cuts.
func checkDissectedBySteps(t *testing.T, lower, upper, moved int) {
	t.Helper()
	cells := impl.CellCount(6, 6, lower|upper)
	if cells > 9 {
		return
	}
	cutA, okA := impl.CutOf(6, 6, lower|upper, []int{lower, upper})
	cutB, okB := impl.CutOf(6, 6, lower|moved, []int{lower, moved})
	if !okA || !okB || !impl.IsDissection(6, 6, lower|upper, lower|moved, cutA, cutB) {
		t.Errorf("the cuts %v and %v are no dissection", cutA, cutB)
	}
	if cells <= 7 && impl.FewestPieces(6, 6, lower|upper, lower|moved) > 2 {
		t.Errorf("FewestPieces of %d and %d is greater than 2", lower|upper, lower|moved)
	}
}

// ledBySteps returns, for the sides w, h, v, u of two rectangles, the steps that lead from the first to the second one, for all of them.
func ledBySteps() map[[4]int][3]int {
	all := map[[4]int][3]int{}
	eachSteps(func(n, a, b int) {
		all[[4]int{n * a, (n + 1) * b, (n + 1) * a, n * b}] = [3]int{n, a, b}
	})
	return all
}

// TestStepsBetweenAllRectangles goes through all pairs of rectangles with sides up to MaxCoord, and no sides or greater ones beside them.
func TestStepsBetweenAllRectangles(t *testing.T) {
	all := ledBySteps()
	// No two steps lead from one rectangle to the same one, so that the least n is the only one.
	if len(all) != 300 {
		t.Errorf("the steps lead between %d pairs of rectangles, want 300", len(all))
	}
	led := 0
	for w := range 42 {
		for h := range 42 {
			for v := range 42 {
				for u := range 42 {
					want, wantOk := all[[4]int{w, h, v, u}]
					n, a, b, ok := impl.StepsBetween(w, h, v, u)
					if ok != wantOk || n != want[0] || a != want[1] || b != want[2] {
						t.Fatalf("StepsBetween(%d, %d, %d, %d) = %d, %d, %d, %v, want %v, %v", w, h, v, u, n, a, b, ok, want, wantOk)
					}
					if ok {
						led++
						checkLed(t, w, h, v, u)
					}
				}
			}
		}
	}
	if led != len(all) {
		t.Errorf("%d pairs of rectangles have steps, want %d", led, len(all))
	}
}

// checkLed fails unless the pieces that StepsBetween tells make both rectangles.
func checkLed(t *testing.T, w, h, v, u int) {
	t.Helper()
	n, a, b, _ := impl.StepsBetween(w, h, v, u)
	lower, upper, moved := impl.LowerPiece(n, a, b), impl.UpperPiece(n, a, b), impl.MovedUpper(n, a, b)
	for _, c := range []struct {
		p    []impl.Point
		w, h int
	}{{upper, w, h}, {moved, v, u}} {
		_, high, ok := impl.BoxOf(c.p)
		if high != pt(c.w, c.h) || !ok || impl.TwiceArea(lower)+impl.TwiceArea(c.p) != impl.TwiceArea(impl.RectangleOf(c.w, c.h)) {
			t.Errorf("%v and %v don't make the rectangle %d, %d", lower, c.p, c.w, c.h)
		}
	}
}

// TestLeastStepsByCounting counts n, a and b one by one for all pairs of small rectangles.
func TestLeastStepsByCounting(t *testing.T) {
	count := func(w, h, v, u int) [3]int {
		for n := 1; n <= 3; n++ {
			for a := 1; n*a <= w; a++ {
				for b := 1; n*b <= u; b++ {
					if n*a == w && (n+1)*b == h && (n+1)*a == v && n*b == u {
						return [3]int{n, a, b}
					}
				}
			}
		}
		return [3]int{}
	}
	for _, w := range grid(11) {
		for _, v := range grid(11) {
			n, a, b, ok := impl.StepsBetween(w.X, w.Y, v.X, v.Y)
			if want := count(w.X, w.Y, v.X, v.Y); [3]int{n, a, b} != want || ok != (want[0] > 0) {
				t.Errorf("StepsBetween of %v and %v is %d, %d, %d, %v, want %v", w, v, n, a, b, ok, want)
			}
		}
	}
}

// rectanglesWithArea returns the sides of all rectangles of an area.
func rectanglesWithArea(area int) []impl.Point {
	var all []impl.Point
	for w := 1; w <= impl.MaxCoord; w++ {
		if area%w == 0 && area/w <= impl.MaxCoord {
			all = append(all, pt(w, area/w))
		}
	}
	return all
}

// far stands for no way at all in distances.
const far = 1000

// distancesBySteps returns how many times steps are applied from each of some rectangles to each other one, by ways over more and more of them.
func distancesBySteps(all []impl.Point) map[[2]impl.Point]int {
	led := ledBySteps()
	distances := map[[2]impl.Point]int{}
	for _, r := range all {
		for _, s := range all {
			_, there := led[[4]int{r.X, r.Y, s.X, s.Y}]
			_, back := led[[4]int{s.X, s.Y, r.X, r.Y}]
			switch {
			case r == s:
				distances[[2]impl.Point{r, s}] = 0
			case there || back:
				distances[[2]impl.Point{r, s}] = 1
			default:
				distances[[2]impl.Point{r, s}] = far
			}
		}
	}
	for _, over := range all {
		for _, r := range all {
			for _, s := range all {
				way := distances[[2]impl.Point{r, over}] + distances[[2]impl.Point{over, s}]
				distances[[2]impl.Point{r, s}] = min(distances[[2]impl.Point{r, s}], way)
			}
		}
	}
	return distances
}

// TestChainsAgreeWithSearch has all rectangles and all squares.
func TestChainsAgreeWithSearch(t *testing.T) {
	counts := map[int]int{}
	for square := 1; square <= impl.MaxCoord; square++ {
		distances := distancesBySteps(rectanglesWithArea(square * square))
		for w := 1; w <= impl.MaxCoord; w++ {
			for h := 1; h <= impl.MaxCoord; h++ {
				want, sameArea := distances[[2]impl.Point{pt(w, h), pt(square, square)}]
				if !sameArea || want == far {
					want = -1
				}
				if got := impl.ChainOfSteps(w, h, square); got != want {
					t.Errorf("ChainOfSteps(%d, %d, %d) = %d, want %d", w, h, square, got, want)
				}
				if sameArea {
					counts[want]++
				}
			}
		}
	}
	if counts[0] != 40 || counts[1] != 20 || counts[2] != 8 || counts[-1] != 28 || len(counts) != 4 {
		t.Errorf("the rectangles with each number of times are so many: %v", counts)
	}
}

// TestPropertiesOfChains has the numbers 0 and 1, rectangles that are turned, and ways over any rectangle between.
func TestPropertiesOfChains(t *testing.T) {
	for square := 1; square <= impl.MaxCoord; square++ {
		all := rectanglesWithArea(square * square)
		distances := distancesBySteps(all)
		for _, r := range all {
			chain := impl.ChainOfSteps(r.X, r.Y, square)
			if (chain == 0) != (r == pt(square, square)) {
				t.Errorf("ChainOfSteps(%d, %d, %d) = %d", r.X, r.Y, square, chain)
			}
			_, _, _, there := impl.StepsBetween(r.X, r.Y, square, square)
			_, _, _, back := impl.StepsBetween(square, square, r.X, r.Y)
			if (chain == 1) != (there || back) {
				t.Errorf("ChainOfSteps(%d, %d, %d) = %d, but there are steps: %v, %v", r.X, r.Y, square, chain, there, back)
			}
			// A step of a rectangle that is turned leads back.
			if turned := impl.ChainOfSteps(r.Y, r.X, square); turned != chain {
				t.Errorf("ChainOfSteps of %d, %d and %d is %d, turned %d", r.X, r.Y, square, chain, turned)
			}
			for _, between := range all {
				way, rest := distances[[2]impl.Point{r, between}], impl.ChainOfSteps(between.X, between.Y, square)
				if way < far && rest >= 0 && (chain < 0 || chain > way+rest) {
					t.Errorf("ChainOfSteps(%d, %d, %d) = %d, but over %v it is %d and %d", r.X, r.Y, square, chain, between, way, rest)
				}
				if way < far && (rest < 0) != (chain < 0) {
					t.Errorf("ChainOfSteps(%d, %d, %d) = %d, but %d from %v", r.X, r.Y, square, chain, rest, between)
				}
			}
		}
	}
}

// TestSameRectangleOfRectangles has pairs of small and great ones, and of ones with the same area.
func TestSameRectangleOfRectangles(t *testing.T) {
	sides := []int{1, 2, 3, 4, 6, 9, 10, 12, 20, 39, 40}
	for _, w := range sides {
		for _, h := range sides {
			for _, v := range sides {
				for _, u := range sides {
					if got := impl.SameRectangle(impl.RectangleOf(v, u), w, h); got != (v == w && u == h) {
						t.Errorf("SameRectangle(RectangleOf(%d, %d), %d, %d) = %v", v, u, w, h, got)
					}
				}
			}
		}
	}
	for area := 1; area <= impl.MaxCoord*impl.MaxCoord; area++ {
		all := rectanglesWithArea(area)
		for _, r := range all {
			for _, s := range all {
				if got := impl.SameRectangle(impl.RectangleOf(r.X, r.Y), s.X, s.Y); got != (r == s) {
					t.Errorf("SameRectangle(RectangleOf(%d, %d), %d, %d) = %v", r.X, r.Y, s.X, s.Y, got)
				}
			}
		}
	}
}

// TestSameRectangleOfPolygons tells rectangles by their boxes and areas.
func TestSameRectangleOfPolygons(t *testing.T) {
	are, others := 0, 0
	check := func(p []impl.Point) {
		low, high, _ := impl.BoxOf(p)
		area := impl.TwiceArea(p)
		want := low == pt(0, 0) && max(area, -area) == 2*high.X*high.Y
		if want {
			are++
		} else {
			others++
		}
		if got := impl.SameRectangle(p, high.X, high.Y); got != want {
			t.Errorf("SameRectangle(%v, %d, %d) = %v", p, high.X, high.Y, got)
		}
		// No other box fits, nor does another rectangle of the area.
		for _, s := range [][2]int{{high.X + 1, high.Y}, {high.X, high.Y + 1}, {high.X - 1, high.Y}, {high.X, high.Y - 1}, {high.X - low.X, high.Y - low.Y}, {high.Y, high.X}} {
			if impl.SameRectangle(p, s[0], s[1]) && (s != [2]int{high.X, high.Y} || !want) {
				t.Errorf("SameRectangle(%v, %d, %d) = true", p, s[0], s[1])
			}
		}
		for _, r := range rectanglesWithArea(max(area, -area) / 2) {
			if impl.SameRectangle(p, r.X, r.Y) && (r != high || !want) {
				t.Errorf("SameRectangle(%v, %d, %d) = true", p, r.X, r.Y)
			}
		}
	}
	eachSome(3, check)
	eachMoving(check)
	for _, list := range alike {
		for _, p := range list {
			inEveryOrder(p, check)
		}
	}
	for _, p := range smallPolygons(3, 4, 0) {
		check(p)
	}
	eachSteps(func(n, a, b int) {
		check(impl.LowerPiece(n, a, b))
		check(impl.UpperPiece(n, a, b))
		check(impl.MovedUpper(n, a, b))
	})
	if are < 200 || others < 3000 {
		t.Errorf("only %d rectangles and %d other polygons were tried", are, others)
	}
}
