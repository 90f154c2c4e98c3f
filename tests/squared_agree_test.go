package tests

import (
	"slices"
	"testing"

	"loop.example/g03208/impl"
)

// filledByCells lays each square where the least empty cell is, and marks its cells.
func filledByCells(w, h int, sides []int) ([]impl.Point, bool) {
	if min(w, h) < 1 || max(w, h) > 40 || len(sides) > 40 {
		return nil, false
	}
	var marked [40][40]bool
	var corners []impl.Point
	for _, side := range sides {
		at, ok := leastEmpty(&marked, w, h)
		if !ok || side < 1 || at.X+side > w || at.Y+side > h {
			return nil, false
		}
		for y := at.Y; y < at.Y+side; y++ {
			for x := at.X; x < at.X+side; x++ {
				if marked[y][x] {
					return nil, false
				}
				marked[y][x] = true
			}
		}
		corners = append(corners, at)
	}
	if _, ok := leastEmpty(&marked, w, h); ok {
		return nil, false
	}
	return corners, true
}

// leastEmpty returns the first cell that is not marked, the rows from below being gone through from the left.
func leastEmpty(marked *[40][40]bool, w, h int) (impl.Point, bool) {
	for y := range h {
		for x := range w {
			if !marked[y][x] {
				return pt(x, y), true
			}
		}
	}
	return impl.Point{}, false
}

// checkByCells fails unless the functions tell of sides what filledByCells tells.
func checkByCells(t *testing.T, w, h int, sides []int) bool {
	t.Helper()
	want, filled := filledByCells(w, h, sides)
	if got, ok := impl.CornersOf(w, h, sides); !slices.Equal(got, want) || ok != filled {
		t.Fatalf("CornersOf(%d, %d, %v) = %v, %v, want %v, %v", w, h, sides, got, ok, want, filled)
	}
	if got := impl.IsSquared(w, h, sides); got != filled {
		t.Fatalf("IsSquared(%d, %d, %v) = %v", w, h, sides, got)
	}
	if got := impl.IsPerfect(w, h, sides); got != (filled && areDifferent(sides)) {
		t.Fatalf("IsPerfect(%d, %d, %v) = %v", w, h, sides, got)
	}
	return filled
}

func areDifferent(list []int) bool {
	for i, n := range list {
		if slices.Contains(list[:i], n) {
			return false
		}
	}
	return true
}

// sidesOf returns the sides of squares.
func sidesOf(l []laidSquare) []int {
	var sides []int
	for _, s := range l {
		sides = append(sides, s.side)
	}
	return sides
}

// cornersOfSquares returns the least corners of squares.
func cornersOfSquares(l []laidSquare) []impl.Point {
	var corners []impl.Point
	for _, s := range l {
		corners = append(corners, pt(s.x, s.y))
	}
	return corners
}

// checkFilling fails unless the squares of CornersOf fill a rectangle.
func checkFilling(t *testing.T, w, h int, sides []int) {
	t.Helper()
	corners, ok := impl.CornersOf(w, h, sides)
	if !ok || !impl.IsSquared(w, h, sides) || len(corners) != len(sides) {
		t.Fatalf("CornersOf(%d, %d, %v) = %v, %v, IsSquared %v", w, h, sides, corners, ok, impl.IsSquared(w, h, sides))
	}
	if sum := impl.SumOfSquares(sides); sum != w*h {
		t.Errorf("%v fill %d, %d, but the sum of their squares is %d", sides, w, h, sum)
	}
	for i, c := range corners {
		if !impl.PointOk(c) || c.X+sides[i] > w || c.Y+sides[i] > h {
			t.Errorf("the square %d of %v at %v is not in %d, %d", i, sides, c, w, h)
		}
		if i > 0 && !impl.BeforePoint(corners[i-1], c) {
			t.Errorf("the squares %v are laid at %v, not from below and from the left", sides, corners)
		}
		for k, d := range corners[:i] {
			if c.X < d.X+sides[k] && d.X < c.X+sides[i] && c.Y < d.Y+sides[k] && d.Y < c.Y+sides[i] {
				t.Errorf("the squares %d and %d of %v at %v overlap", k, i, sides, corners)
			}
		}
	}
	checkMirrored(t, w, h, laidAt(corners, sides))
}

// checkMirrored fails unless the squares fill the rectangle mirrored and turned, too.
func checkMirrored(t *testing.T, w, h int, l []laidSquare) {
	t.Helper()
	for m := range 8 {
		v, u := w, h
		moved := slices.Clone(l)
		for i, s := range moved {
			if m&1 != 0 {
				s.x = w - s.x - s.side
			}
			if m&2 != 0 {
				s.y = h - s.y - s.side
			}
			if m&4 != 0 {
				s.x, s.y = s.y, s.x
				v, u = h, w
			}
			moved[i] = s
		}
		slices.SortFunc(moved, func(a, b laidSquare) int { return (a.y-b.y)*100 + a.x - b.x })
		if got, ok := impl.CornersOf(v, u, sidesOf(moved)); !slices.Equal(got, cornersOfSquares(moved)) || !ok {
			t.Errorf("CornersOf(%d, %d, %v) = %v, %v, want %v", v, u, sidesOf(moved), got, ok, cornersOfSquares(moved))
		}
	}
}

// checkFewestOf fails if squares that come apart by cuts from edge to edge are fewer than FewestSquares.
func checkFewestOf(t *testing.T, w, h int, l []laidSquare) {
	t.Helper()
	if fewest := impl.FewestSquares(w, h); len(l) < fewest && isCutFromEdgeToEdge(l, 0, 0, w, h) {
		t.Errorf("FewestSquares(%d, %d) = %d, but it is cut into %v", w, h, fewest, l)
	}
}

// TestAllFillings has all ways to fill small rectangles. Squares of cells have 1, 2, 6, 40, 472 and 10668 of them.
func TestAllFillings(t *testing.T) {
	counts := map[int]int{}
	for w := 1; w <= 6; w++ {
		for h := 1; h <= 6; h++ {
			eachTiling(w, h, func(l []laidSquare) {
				sides := sidesOf(l)
				if got, ok := impl.CornersOf(w, h, sides); !slices.Equal(got, cornersOfSquares(l)) || !ok {
					t.Fatalf("CornersOf(%d, %d, %v) = %v, %v, want %v", w, h, sides, got, ok, cornersOfSquares(l))
				}
				if w < 6 || h < 6 {
					checkFilling(t, w, h, sides)
				}
				checkFewestOf(t, w, h, l)
				if w == h {
					counts[w]++
				}
			})
		}
	}
	for side, want := range map[int]int{1: 1, 2: 2, 3: 6, 4: 40, 5: 472, 6: 10668} {
		if counts[side] != want {
			t.Errorf("there are %d ways to fill %d, %d, want %d", counts[side], side, side, want)
		}
	}
}

// TestAllListsOfSides tries all lists of up to seven sides, of which few fill a rectangle.
func TestAllListsOfSides(t *testing.T) {
	filled, others := 0, 0
	for n := range 8 {
		eachNumbers(n, 0, 4, func(l []int) {
			for w := 1; w <= 5; w++ {
				for h := 1; h <= 4; h++ {
					if checkByCells(t, w, h, l) {
						filled++
					} else {
						others++
					}
				}
			}
		})
	}
	if filled < 70 || others < 500000 {
		t.Errorf("only %d lists that fill a rectangle and %d others were tried", filled, others)
	}
}

// eachDrawnFilling calls do with fillings of rectangles that a fixed rule draws.
func eachDrawnFilling(n int, do func(w, h int, sides []int)) {
	state := uint64(7)
	draw := func(n int) int {
		state = state*6364136223846793005 + 1442695040888963407
		return int(state>>33) % n
	}
	for range n {
		w, h := 1+draw(40), 1+draw(40)
		heights := make([]int, w)
		var sides []int
		for {
			x := slices.Index(heights, slices.Min(heights))
			greatest := 0
			for fitsOver(heights, h, x, greatest+1) {
				greatest++
			}
			if greatest == 0 {
				break
			}
			// The greatest one mostly, or there are too many squares.
			side := greatest
			if draw(2) == 0 {
				side = 1 + draw(greatest)
			}
			sides = append(sides, side)
			for i := range side {
				heights[x+i] += side
			}
		}
		do(w, h, sides)
	}
}

// spoiledSides calls do with sides of which some are exchanged, changed, added or left out.
func spoiledSides(sides []int, do func(sides []int)) {
	for i := range sides {
		for _, side := range []int{sides[i] - 1, sides[i] + 1, 0, 40, 41, -sides[i]} {
			changed := slices.Clone(sides)
			changed[i] = side
			do(changed)
		}
		if i > 0 {
			exchanged := slices.Clone(sides)
			exchanged[i-1], exchanged[i] = exchanged[i], exchanged[i-1]
			do(exchanged)
		}
		do(slices.Delete(slices.Clone(sides), i, i+1))
		do(slices.Insert(slices.Clone(sides), i, sides[i]))
		do(slices.Insert(slices.Clone(sides), i, 1))
	}
	do(append(slices.Clone(sides), 1))
	reversed := slices.Clone(sides)
	slices.Reverse(reversed)
	do(reversed)
}

// TestDrawnFillings has rectangles of all sizes, with few squares and many.
func TestDrawnFillings(t *testing.T) {
	filled, many, just, stillFilled := 0, 0, 0, 0
	eachDrawnFilling(6000, func(w, h int, sides []int) {
		if got := checkByCells(t, w, h, sides); got != (len(sides) <= 40) {
			t.Errorf("IsSquared(%d, %d, %v) = %v", w, h, sides, got)
		}
		if len(sides) == 40 || len(sides) == 41 {
			just++
		}
		if len(sides) > 40 {
			many++
			return
		}
		filled++
		checkFilling(t, w, h, sides)
		corners, _ := impl.CornersOf(w, h, sides)
		checkFewestOf(t, w, h, laidAt(corners, sides))
		if filled%20 == 0 {
			spoiledSides(sides, func(spoiled []int) {
				if checkByCells(t, w, h, spoiled) {
					stillFilled++
				}
			})
		}
	})
	if filled < 1000 || many < 400 || just < 20 || stillFilled < 20 {
		t.Errorf("only %d fillings, %d of too many squares, %d of 40 or 41 and %d spoiled ones were tried", filled, many, just, stillFilled)
	}
}

// TestFillingsOfTables has the properties for the rectangles of the tables.
func TestFillingsOfTables(t *testing.T) {
	for _, c := range squaredRectangles {
		checkFilling(t, c.w, c.h, c.sides)
		checkByCells(t, c.w, c.h, c.sides)
		spoiledSides(c.sides, func(spoiled []int) { checkByCells(t, c.w, c.h, spoiled) })
	}
	for _, c := range notSquared {
		checkByCells(t, c.w, c.h, c.sides)
	}
}

// TestPerfectFillings has rectangles filled with different squares: below 41 only squares alone and one other rectangle.
func TestPerfectFillings(t *testing.T) {
	for side := 1; side <= 40; side++ {
		for other := 1; other <= 40; other++ {
			if got := impl.IsPerfect(side, other, []int{side}); got != (side == other) {
				t.Errorf("IsPerfect(%d, %d, [%d]) = %v", side, other, side, got)
			}
		}
	}
	perfect := 0
	eachOrder([]int{18, 15, 7, 8, 14, 4, 10, 1, 9}, func(l []int) {
		if impl.IsPerfect(32, 33, l) {
			perfect++
			checkFilling(t, 32, 33, l)
		}
	})
	if perfect != 4 {
		t.Errorf("the perfect rectangle is filled in %d orders, want 4", perfect)
	}
	eachDrawnFilling(3000, func(w, h int, sides []int) {
		if impl.IsPerfect(w, h, sides) && len(sides) > 1 {
			t.Errorf("IsPerfect(%d, %d, %v) = true", w, h, sides)
		}
	})
}

// maskOfSquare returns the cells of a square in a table of w columns.
func maskOfSquare(w int, s laidSquare) int {
	mask := 0
	for y := s.y; y < s.y+s.side; y++ {
		for x := s.x; x < s.x+s.side; x++ {
			mask |= 1 << (y*w + x)
		}
	}
	return mask
}

// TestSquaresAsShapes has the squares as shapes of cells and, if there are few cells, as the pieces of a cut.
func TestSquaresAsShapes(t *testing.T) {
	cuts := 0
	for w := 1; w <= 5; w++ {
		for h := 1; h <= 6; h++ {
			all := 1<<(w*h) - 1
			eachTiling(w, h, func(l []laidSquare) {
				corners, _ := impl.CornersOf(w, h, sidesOf(l))
				var masks []int
				covered := 0
				for _, s := range laidAt(corners, sidesOf(l)) {
					mask := maskOfSquare(w, s)
					if covered&mask != 0 || impl.CellCount(w, h, mask) != s.side*s.side || impl.RimOf(w, h, mask) != 4*s.side || !impl.SamePiece(w, h, mask, maskOfSquare(w, laidSquare{0, 0, s.side})) {
						t.Fatalf("the square %v of %v in %d, %d has the cells %d", s, l, w, h, mask)
					}
					covered |= mask
					masks = append(masks, mask)
				}
				if covered != all {
					t.Errorf("%v cover %d of the cells of %d, %d", l, covered, w, h)
				}
				if w*h > 9 {
					return
				}
				cuts++
				if cut, ok := impl.CutOf(w, h, all, masks); !ok || !slices.Equal(impl.PiecesOf(w, h, all, cut), masks) {
					t.Errorf("%v is no cut of %d, %d", l, w, h)
				}
			})
		}
	}
	if cuts < 30 {
		t.Errorf("only %d cuts were tried", cuts)
	}
}

// TestSquaresAsPolygons has the areas of polygons, and squares without any measure.
func TestSquaresAsPolygons(t *testing.T) {
	for _, c := range squaredRectangles {
		corners, _ := impl.CornersOf(c.w, c.h, c.sides)
		area := 0
		for i, at := range corners {
			square, ok := impl.ShiftPolygon(impl.RectangleOf(c.sides[i], c.sides[i]), at.X, at.Y)
			if !ok || len(impl.SymmetriesOf(square)) != 8 || !impl.IsBalanced(square) {
				t.Errorf("%s: the square of %d at %v is %v, %v", c.name, c.sides[i], at, square, ok)
			}
			area += impl.TwiceArea(square)
		}
		if area != impl.TwiceArea(impl.RectangleOf(c.w, c.h)) {
			t.Errorf("%s: the squares have the twice area %d, the rectangle %d", c.name, area, impl.TwiceArea(impl.RectangleOf(c.w, c.h)))
		}
	}
}
