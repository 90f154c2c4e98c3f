package tests

import (
	"slices"
	"testing"

	"loop.example/g03208/impl"
)

// inEveryOrder calls do with the list beginning anywhere, in both directions.
func inEveryOrder(p []impl.Point, do func(p []impl.Point)) {
	for k := range p {
		l := append(slices.Clone(p[k:]), p[:k]...)
		do(l)
		slices.Reverse(l)
		do(l)
	}
}

// alike are lists of polygons that are all the same.
var alike = [][][]impl.Point{
	{
		xy(0, 0, 4, 0, 0, 4), xy(0, 4, 0, 0, 4, 0), xy(4, 0, 0, 0, 0, 4),
		xy(0, 0, 2, 0, 4, 0, 0, 4), xy(2, 0, 4, 0, 0, 4, 0, 0), xy(0, 3, 0, 4, 3, 1, 4, 0, 0, 0),
		xy(0, 0, 1, 0, 2, 0, 3, 0, 4, 0, 3, 1, 2, 2, 1, 3, 0, 4, 0, 2),
	},
	// The same numbers of corners, and others.
	{xy(0, 0, 4, 0, 4, 4, 0, 4), xy(4, 4, 4, 0, 0, 0, 0, 4), xy(0, 0, 4, 0, 4, 4, 2, 4, 0, 4), xy(0, 2, 0, 0, 2, 0, 4, 0, 4, 1, 4, 4, 3, 4, 2, 4, 1, 4, 0, 4)},
	{xy(0, 0, 4, 0, 4, 4, 2, 2, 0, 4), xy(2, 2, 0, 4, 0, 0, 4, 0, 4, 4), xy(0, 4, 1, 3, 2, 2, 4, 4, 4, 0, 0, 0)},
	// The same corners as the one before in another order.
	{xy(0, 0, 2, 2, 4, 0, 4, 4, 0, 4), xy(2, 2, 0, 0, 0, 4, 4, 4, 4, 0)},
	{xy(0, 0, 2, 2, 0, 4, 4, 4, 4, 0), xy(3, 4, 0, 4, 2, 2, 1, 1, 0, 0, 4, 0, 4, 4)},
	{xy(0, 0, 4, 0, 2, 2, 4, 4, 0, 4)},
	// Moved, mirrored, larger and smaller ones.
	{xy(1, 0, 5, 0, 1, 4)},
	{xy(0, 1, 4, 1, 0, 5)},
	{xy(0, 0, 4, 0, 4, 4)},
	{xy(0, 0, 5, 0, 0, 4), xy(0, 0, 5, 0, 0, 4, 0, 1)},
	{xy(0, 0, 3, 0, 0, 4)},
	{xy(0, 0, 4, 0, 4, 5, 0, 5)},
	{xy(0, 0, 4, 0, 4, 4, 0, 3)},
	// A corner that is nearly straight.
	{xy(0, 0, 2, 1, 4, 0, 4, 4, 0, 4)},
	{xy(0, 0, 4, 0, 4, 4, 0, 4, 1, 2)},
	{xy(40, 40, 40, 0, 0, 40), xy(40, 20, 40, 0, 20, 20, 0, 40, 40, 40)},
	{xy(0, 0, 8, 0, 8, 5, 7, 1, 6, 5, 5, 1, 4, 5, 3, 1, 2, 5, 0, 1)},
	{xy(0, 0, 8, 0, 8, 5, 7, 1, 6, 5, 5, 1, 4, 5, 3, 1, 2, 5, 1, 3)},
}

func TestSamePolygon(t *testing.T) {
	for i, list := range alike {
		for j, others := range alike {
			for _, p := range list {
				for _, other := range others {
					inEveryOrder(other, func(q []impl.Point) {
						if got := impl.SamePolygon(p, q); got != (i == j) {
							t.Errorf("SamePolygon(%v, %v) = %v", p, q, got)
						}
					})
				}
			}
		}
	}
}

func TestSamePolygonRefuses(t *testing.T) {
	fine := xy(0, 0, 4, 0, 0, 4)
	eachNoPolygon(func(name string, p []impl.Point) {
		if impl.SamePolygon(p, p) || impl.SamePolygon(p, fine) || impl.SamePolygon(fine, p) || impl.SamePolygon(p, nil) || impl.SamePolygon(nil, p) {
			t.Errorf("%s: SamePolygon is true for %v", name, p)
		}
	})
	// Lists that differ from a polygon by a corner that is no bend of it, but are no polygons.
	for _, p := range [][]impl.Point{xy(0, 0, 4, 0, 4, 0, 0, 4), xy(0, 0, 4, 0, 0, 4, 0, 0), xy(0, 0, 5, 0, 4, 0, 0, 4), xy(0, 0, 3, 0, 2, 0, 4, 0, 0, 4)} {
		if impl.SamePolygon(p, fine) || impl.SamePolygon(fine, p) {
			t.Errorf("SamePolygon is true for %v", p)
		}
	}
	eleven := xy(0, 0, 1, 0, 2, 0, 3, 0, 4, 0, 3, 1, 2, 2, 1, 3, 0, 4, 0, 2, 0, 1)
	if impl.SamePolygon(eleven, fine) || impl.SamePolygon(fine, eleven) || !impl.SamePolygon(eleven[:10], fine) {
		t.Error("SamePolygon does not count the corners")
	}
}
