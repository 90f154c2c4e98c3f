package tests

import (
	"math"
	"slices"
	"testing"

	"loop.example/g03208/impl"
)

// shapes are polygons and their shapes.
var shapes = []struct {
	name     string
	p, shape []impl.Point
}{
	{"triangle", xy(0, 0, 3, 0, 0, 1), xy(0, 0, 1, 0, 0, 3)},
	{"triangle, mirrored", xy(17, 9, 17, 6, 16, 6), xy(0, 0, 1, 0, 0, 3)},
	{"triangle with the least area", xy(40, 40, 40, 39, 39, 40), xy(0, 0, 1, 0, 0, 1)},
	{"triangle between the bounds", xy(0, 0, 40, 39, 1, 1), xy(0, 0, 1, 1, 40, 39)},
	{"half of the greatest square", xy(40, 0, 40, 40, 0, 0), xy(0, 0, 40, 0, 0, 40)},
	{"square", xy(4, 4, 0, 4, 0, 0, 4, 0), xy(0, 0, 4, 0, 4, 4, 0, 4)},
	{"greatest square", xy(40, 40, 40, 0, 0, 0, 0, 40), xy(0, 0, 40, 0, 40, 40, 0, 40)},
	{"rectangle", xy(1, 2, 9, 2, 9, 5, 1, 5), xy(0, 0, 3, 0, 3, 8, 0, 8)},
	// No corner is at 0, 0, and the first list goes to the left.
	{"square on a corner", xy(5, 3, 7, 5, 5, 7, 3, 5), xy(2, 0, 0, 2, 2, 4, 4, 2)},
	{"square on no axis", xy(2, 0, 3, 2, 1, 3, 0, 1), xy(1, 0, 3, 1, 2, 3, 0, 2)},
	{"parallelogram", xy(0, 0, 3, 0, 4, 2, 1, 2), xy(0, 0, 3, 0, 4, 2, 1, 2)},
	{"parallelogram without level sides", xy(0, 1, 2, 4, 7, 3, 5, 0), xy(1, 0, 4, 2, 3, 7, 0, 5)},
	{"inward corner", xy(0, 0, 4, 0, 4, 4, 2, 2, 0, 4), xy(0, 0, 4, 0, 2, 2, 4, 4, 0, 4)},
	{"L", xy(2, 1, 6, 1, 6, 3, 4, 3, 4, 5, 2, 5), xy(0, 0, 2, 0, 2, 2, 4, 2, 4, 4, 0, 4)},
	{"comb with MaxCorners corners", xy(0, 0, 8, 0, 8, 5, 7, 1, 6, 5, 5, 1, 4, 5, 3, 1, 2, 5, 0, 1), xy(0, 0, 1, 0, 5, 2, 1, 3, 5, 4, 1, 5, 5, 6, 1, 7, 5, 8, 0, 8)},
	{"one straight corner", xy(0, 0, 2, 0, 4, 0, 0, 4), xy(0, 0, 4, 0, 0, 4)},
	{"straight corner first", xy(3, 5, 9, 5, 3, 7, 3, 6), xy(0, 0, 2, 0, 0, 6)},
	{"a straight corner on each side", xy(20, 0, 40, 0, 40, 5, 40, 40, 39, 40, 0, 40, 0, 1, 0, 0), xy(0, 0, 40, 0, 40, 40, 0, 40)},
	{"a triangle with seven straight corners", xy(4, 4, 3, 3, 0, 0, 2, 0, 3, 0, 4, 0, 8, 0, 7, 1, 6, 2, 5, 3), xy(0, 0, 8, 0, 4, 4)},
	{"straight corner beside an inward one", xy(0, 0, 4, 0, 4, 4, 3, 3, 2, 2, 0, 4), xy(0, 0, 4, 0, 2, 2, 4, 4, 0, 4)},
}

func TestShapeOf(t *testing.T) {
	for _, c := range shapes {
		inEveryOrder(c.p, func(p []impl.Point) {
			if got := impl.ShapeOf(p); !slices.Equal(got, c.shape) {
				t.Errorf("%s: ShapeOf(%v) = %v, want %v", c.name, p, got, c.shape)
			}
		})
	}
	eachNoPolygon(func(name string, p []impl.Point) {
		if got := impl.ShapeOf(p); len(got) != 0 {
			t.Errorf("%s: ShapeOf(%v) = %v, want none", name, p, got)
		}
	})
}

// symmetric are polygons with each set of symmetries that there is.
var symmetric = []struct {
	name       string
	p          []impl.Point
	symmetries []int
}{
	{"triangle", xy(0, 0, 3, 0, 0, 1), []int{0}},
	{"triangle between the bounds", xy(0, 0, 40, 39, 1, 1), []int{0}},
	{"comb with MaxCorners corners", xy(0, 0, 8, 0, 8, 5, 7, 1, 6, 5, 5, 1, 4, 5, 3, 1, 2, 5, 0, 1), []int{0}},
	// It has an axis, but no motion is a mirror at it.
	{"triangle with two equal sides", xy(2, 0, 5, 4, 0, 4), []int{0}},
	{"parallelogram", xy(0, 0, 3, 0, 4, 2, 1, 2), []int{0, 2}},
	{"Z", xy(0, 0, 6, 0, 6, 4, 8, 4, 8, 6, 2, 6, 2, 2, 0, 2), []int{0, 2}},
	{"upright triangle", xy(5, 5, 9, 5, 7, 8), []int{0, 4}},
	{"M with MaxCorners corners", xy(0, 0, 1, 0, 3, 3, 5, 0, 6, 0, 6, 9, 5, 9, 3, 7, 1, 9, 0, 9), []int{0, 4}},
	{"triangle to the right", xy(0, 0, 3, 2, 0, 4), []int{0, 6}},
	{"arrow to the right", xy(0, 0, 10, 1, 0, 2, 9, 1), []int{0, 6}},
	{"inward corner", xy(0, 0, 4, 0, 4, 4, 2, 2, 0, 4), []int{0, 4}},
	{"half of a square, below the rising diagonal", xy(0, 0, 4, 0, 4, 4), []int{0, 5}},
	{"half of the greatest square, below the falling diagonal", xy(0, 0, 40, 0, 0, 40), []int{0, 7}},
	{"triangle along the rising diagonal", xy(0, 0, 3, 1, 1, 3), []int{0, 7}},
	{"L", xy(2, 1, 6, 1, 6, 3, 4, 3, 4, 5, 2, 5), []int{0, 7}},
	{"square on no axis", xy(1, 0, 3, 1, 2, 3, 0, 2), []int{0, 1, 2, 3}},
	{"star", xy(0, 0, 3, 1, 6, 0, 5, 3, 6, 6, 3, 5, 0, 6, 1, 3), []int{0, 1, 2, 3, 4, 5, 6, 7}},
	{"windmill with bent sails", xy(1, 0, 3, 2, 6, 1, 4, 3, 5, 6, 3, 4, 0, 5, 2, 3), []int{0, 1, 2, 3}},
	{"rectangle", xy(1, 2, 9, 2, 9, 5, 1, 5), []int{0, 2, 4, 6}},
	{"kite, clockwise", xy(0, 20, 20, 40, 40, 20, 20, 1), []int{0, 4}},
	{"rhombus", xy(0, 2, 3, 4, 6, 2, 3, 0), []int{0, 2, 4, 6}},
	{"rhombus along the rising diagonal", xy(0, 0, 2, 1, 3, 3, 1, 2), []int{0, 2, 5, 7}},
	{"rhombus along the falling diagonal", xy(3, 0, 2, 2, 0, 3, 1, 1), []int{0, 2, 5, 7}},
	{"square", xy(4, 4, 0, 4, 0, 0, 4, 0), []int{0, 1, 2, 3, 4, 5, 6, 7}},
	{"greatest square", xy(0, 0, 40, 0, 40, 40, 0, 40), []int{0, 1, 2, 3, 4, 5, 6, 7}},
	{"square on a corner", xy(5, 3, 7, 5, 5, 7, 3, 5), []int{0, 1, 2, 3, 4, 5, 6, 7}},
	// Straight corners change nothing, wherever they are.
	{"square with a straight corner", xy(0, 0, 1, 0, 4, 0, 4, 4, 0, 4), []int{0, 1, 2, 3, 4, 5, 6, 7}},
	{"half of a square with seven straight corners", xy(4, 4, 3, 3, 0, 0, 2, 0, 3, 0, 4, 0, 8, 0, 7, 1, 6, 2, 5, 3), []int{0, 4}},
	{"triangle with straight corners that make it look upright", xy(0, 0, 3, 0, 6, 0, 2, 2, 1, 1), []int{0}},
}

func TestSymmetriesOf(t *testing.T) {
	for _, c := range symmetric {
		inEveryOrder(c.p, func(p []impl.Point) {
			if got := impl.SymmetriesOf(p); !slices.Equal(got, c.symmetries) {
				t.Errorf("%s: SymmetriesOf(%v) = %v, want %v", c.name, p, got, c.symmetries)
			}
		})
	}
	eachNoPolygon(func(name string, p []impl.Point) {
		if got := impl.SymmetriesOf(p); len(got) != 0 {
			t.Errorf("%s: SymmetriesOf(%v) = %v, want none", name, p, got)
		}
	})
}

// TestSymmetriesOfTheTable holds the table against itself: there are ten sets that hold, with two motions, their composition.
func TestSymmetriesOfTheTable(t *testing.T) {
	var sets [][]int
	for _, c := range symmetric {
		if !slices.ContainsFunc(sets, func(s []int) bool { return slices.Equal(s, c.symmetries) }) {
			sets = append(sets, c.symmetries)
		}
	}
	if len(sets) != 10 {
		t.Errorf("the table has %d sets of symmetries: %v", len(sets), sets)
	}
}

// turnings are pairs of polygons, and the motions that make the first one the second one.
var turnings = []struct {
	name    string
	p, q    []impl.Point
	motions []int
}{
	{"the same polygon", xy(0, 0, 3, 0, 0, 1), xy(0, 0, 3, 0, 0, 1), []int{0}},
	{"a shift", xy(0, 0, 3, 0, 0, 1), xy(37, 39, 40, 39, 37, 40), []int{0}},
	{"a shift, in the other direction", xy(0, 0, 3, 0, 0, 1), xy(5, 8, 8, 7, 5, 7), []int{0}},

	{"a quarter turn only", xy(0, 0, 3, 0, 0, 1), xy(4, 5, 5, 5, 5, 8), []int{1}},
	{"a half turn only", xy(0, 0, 3, 0, 0, 1), xy(0, 1, 3, 0, 3, 1), []int{2}},
	{"three quarter turns only", xy(0, 0, 3, 0, 0, 1), xy(0, 0, 1, 3, 0, 3), []int{3}},
	{"turns of a parallelogram", xy(0, 0, 3, 0, 4, 2, 1, 2), xy(2, 0, 2, 3, 0, 4, 0, 1), []int{1, 3}},
	{"turns of a windmill", xy(1, 0, 3, 2, 6, 1, 4, 3, 5, 6, 3, 4, 0, 5, 2, 3), xy(5, 6, 3, 4, 0, 5, 2, 3, 1, 0, 3, 2, 6, 1, 4, 3), []int{0, 1, 2, 3}},

	{"a mirror at an upright line only", xy(0, 0, 3, 0, 0, 1), xy(0, 0, 3, 0, 3, 1), []int{4}},
	{"a mirror at the falling diagonal only", xy(0, 0, 3, 0, 0, 1), xy(1, 0, 1, 3, 0, 3), []int{5}},
	{"a mirror at a level line only", xy(0, 0, 3, 0, 0, 1), xy(0, 0, 3, 1, 0, 1), []int{6}},
	{"a mirror at the rising diagonal only", xy(0, 0, 3, 0, 0, 1), xy(1, 0, 0, 3, 0, 0), []int{7}},
	{"mirrors of a parallelogram", xy(0, 0, 3, 0, 4, 2, 1, 2), xy(1, 0, 4, 0, 3, 2, 0, 2), []int{4, 6}},
	{"mirrors of a parallelogram at the diagonals", xy(0, 0, 3, 0, 4, 2, 1, 2), xy(0, 0, 0, 3, 2, 4, 2, 1), []int{5, 7}},
	{"mirrors of a square on no axis", xy(1, 0, 3, 1, 2, 3, 0, 2), xy(2, 0, 3, 2, 1, 3, 0, 1), []int{4, 5, 6, 7}},

	{"a turn and a mirror of an upright triangle", xy(0, 0, 4, 0, 2, 3), xy(3, 0, 3, 4, 0, 2), []int{1, 5}},
	{"turns and mirrors of half a square", xy(0, 0, 4, 0, 4, 4), xy(9, 9, 9, 5, 5, 9), []int{1, 6}},
	{"turns and mirrors of a rectangle", xy(0, 0, 8, 0, 8, 3, 0, 3), xy(7, 9, 7, 17, 10, 17, 10, 9), []int{1, 3, 5, 7}},
	{"turns and mirrors of a rhombus", xy(0, 0, 2, 1, 3, 3, 1, 2), xy(3, 0, 2, 2, 0, 3, 1, 1), []int{1, 3, 4, 6}},
	{"all motions of a square", xy(0, 0, 4, 0, 4, 4, 0, 4), xy(40, 36, 36, 36, 36, 40, 40, 40), []int{0, 1, 2, 3, 4, 5, 6, 7}},

	{"a straight corner more", xy(0, 0, 3, 0, 0, 1), xy(0, 0, 2, 0, 3, 0, 0, 1), []int{0}},
	{"a straight corner more, turned", xy(0, 0, 3, 0, 0, 1), xy(4, 5, 5, 5, 5, 7, 5, 8), []int{1}},
	{"straight corners at other places", xy(0, 0, 1, 0, 3, 0, 0, 1), xy(0, 0, 1, 0, 2, 0, 3, 0, 3, 1), []int{4}},
	{"a square with straight corners", xy(0, 0, 1, 0, 4, 0, 4, 4, 0, 4), xy(0, 0, 4, 0, 4, 4, 2, 4, 0, 4, 0, 1), []int{0, 1, 2, 3, 4, 5, 6, 7}},

	{"another size", xy(0, 0, 3, 0, 0, 1), xy(0, 0, 2, 0, 0, 1), nil},
	{"twice as large", xy(0, 0, 3, 0, 0, 1), xy(0, 0, 6, 0, 0, 2), nil},
	{"the same area", xy(0, 0, 3, 0, 0, 2), xy(0, 0, 6, 0, 0, 1), nil},
	{"the same area and box", xy(0, 0, 3, 0, 0, 2), xy(0, 0, 3, 0, 1, 2), nil},
	{"the same box, rim and area", xy(0, 0, 5, 0, 1, 2), xy(0, 0, 5, 0, 3, 2), nil},
	{"a part of the other one", xy(0, 0, 4, 0, 4, 4, 0, 4), xy(0, 0, 4, 0, 4, 4, 2, 2, 0, 4), nil},
	{"a corner more", xy(0, 0, 4, 0, 4, 4), xy(0, 0, 4, 0, 4, 4, 0, 4), nil},
	{"the same corners in another order", xy(0, 0, 2, 2, 4, 0, 4, 4, 0, 4), xy(0, 0, 4, 0, 2, 2, 4, 4, 0, 4), []int{1, 5}},
	{"the same corners, but other sides", xy(0, 0, 8, 0, 8, 6, 4, 3, 3, 2, 0, 6), xy(0, 0, 8, 0, 8, 6, 3, 2, 4, 3, 0, 6), nil},
	{"a turn that is no motion", xy(0, 0, 5, 0, 5, 5, 0, 5), xy(3, 0, 7, 3, 4, 7, 0, 4), nil},
	{"an eighth of a turn", xy(0, 0, 2, 0, 2, 2, 0, 2), xy(1, 0, 2, 1, 1, 2, 0, 1), nil},
	{"a corner moved by one", xy(0, 0, 40, 0, 40, 40, 0, 40), xy(0, 0, 40, 0, 40, 40, 0, 39), nil},
}

func TestIsTurnedAndIsCongruent(t *testing.T) {
	for _, c := range turnings {
		if !impl.PolygonOk(c.p) || !impl.PolygonOk(c.q) {
			t.Errorf("%s: %v or %v is no polygon", c.name, c.p, c.q)
		}
		inEveryOrder(c.q, func(q []impl.Point) {
			for m := range 8 {
				want := slices.Contains(c.motions, m)
				if got := impl.IsTurned(c.p, q, m); got != want {
					t.Errorf("%s: IsTurned(%v, %v, %d) = %v", c.name, c.p, q, m, got)
				}
				back := impl.InverseMotion(m)
				if got := impl.IsTurned(q, c.p, back); got != want {
					t.Errorf("%s: IsTurned(%v, %v, %d) = %v", c.name, q, c.p, back, got)
				}
			}
			want := len(c.motions) > 0
			if a, b := impl.IsCongruent(c.p, q), impl.IsCongruent(q, c.p); a != want || b != want {
				t.Errorf("%s: IsCongruent(%v, %v) = %v, and %v in the other order", c.name, c.p, q, a, b)
			}
		})
	}
}

func TestIsTurnedRefusesOtherNumbers(t *testing.T) {
	for _, c := range symmetric {
		for _, m := range noMotions {
			if impl.IsTurned(c.p, c.p, m) {
				t.Errorf("%s: IsTurned(%v, itself, %d) = true", c.name, c.p, m)
			}
		}
	}
}

func TestNoPolygonIsTurnedOrCongruent(t *testing.T) {
	fine := xy(0, 0, 4, 0, 4, 4, 0, 4)
	eachNoPolygon(func(name string, p []impl.Point) {
		if impl.IsCongruent(p, p) || impl.IsCongruent(p, fine) || impl.IsCongruent(fine, p) || impl.IsCongruent(p, nil) || impl.IsCongruent(nil, p) {
			t.Errorf("%s: IsCongruent is true for %v", name, p)
		}
		for _, m := range []int{0, 1, 4, 7, -1, 8, math.MinInt, math.MaxInt} {
			if impl.IsTurned(p, p, m) || impl.IsTurned(p, fine, m) || impl.IsTurned(fine, p, m) || impl.IsTurned(p, nil, m) || impl.IsTurned(nil, p, m) {
				t.Errorf("%s: IsTurned by %d is true for %v", name, m, p)
			}
		}
	})
}
