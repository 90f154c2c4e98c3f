package tests

import (
	"math"
	"slices"
	"testing"

	"loop.example/g03208/impl"
)

// squareAnswers returns what the functions tell of a list, without the corners.
func squareAnswers(w, h int, l []int) []int {
	fromW, fromH, ok := impl.RectangleFrom(l, w)
	_, filled := impl.CornersOf(w, h, l)
	answers := []int{fromW, fromH, impl.SumOfSquares(l)}
	for i, is := range []bool{ok, filled, impl.IsSquared(w, h, l), impl.IsPerfect(w, h, l)} {
		if is {
			answers = append(answers, i)
		}
	}
	return answers
}

// eachSquareList calls do with lists that are fine for some of the functions, in many orders, and with others.
func eachSquareList(do func(w, h int, l []int)) {
	for _, c := range squaredRectangles {
		do(c.w, c.h, c.sides)
	}
	for _, c := range notSquared {
		do(c.w, c.h, c.sides)
	}
	for _, c := range greedyCuts {
		do(c.sides[len(c.sides)-1], c.h, c.times)
		do(c.w, c.h, repeated(c.sides, c.times))
	}
	for _, c := range greedyRectangles {
		do(c.unit, 1, c.quotients)
	}
	for _, c := range noQuotients {
		do(1, 1, c.quotients)
	}
	for _, c := range squareSums {
		do(5, 3, c.sides)
	}
	do(math.MinInt, math.MaxInt, []int{math.MaxInt, math.MinInt})
	eachOrder([]int{3, 2, 1, 1}, func(l []int) { do(5, 3, l) })
}

func TestSquareArgumentsAreUnchanged(t *testing.T) {
	eachSquareList(func(w, h int, l []int) {
		list, memory := roomyInts(l)
		before := slices.Clone(memory)
		corners, _ := impl.CornersOf(w, h, list)
		answers := squareAnswers(w, h, list)
		if !slices.Equal(memory, before) {
			t.Errorf("the memory of a list was changed from %v to %v", before, memory)
		}
		// Answers are the same when the calls come again, after others, and do not depend on the capacity.
		squareAnswers(3, 2, []int{2, 1, 1})
		squareAnswers(40, 40, nil)
		clipped := slices.Clip(slices.Clone(l))
		again, _ := impl.CornersOf(w, h, clipped)
		if answersAgain := squareAnswers(w, h, clipped); !slices.Equal(corners, again) || !slices.Equal(answers, answersAgain) {
			t.Errorf("the answers about %d, %d, %v change from %v, %v to %v, %v", w, h, l, corners, answers, again, answersAgain)
		}
	})
}

func TestNilAndEmptySquaresAreTheSame(t *testing.T) {
	for _, n := range [][2]int{{1, 1}, {3, 2}, {40, 40}, {0, 0}, {-1, 5}, {41, 41}, {1000, 1000}} {
		if nils, empties := squareAnswers(n[0], n[1], nil), squareAnswers(n[0], n[1], []int{}); !slices.Equal(nils, empties) {
			t.Errorf("the answers about %v are %v for nil and %v for an empty list", n, nils, empties)
		}
	}
}

func TestCornersShareNoMemory(t *testing.T) {
	eachSquareList(func(w, h int, l []int) {
		first, _ := impl.CornersOf(w, h, l)
		second, _ := impl.CornersOf(w, h, l)
		checkPointsApart(t, nil, [][]impl.Point{first, second})
		want := slices.Clone(first)
		for i := range first {
			first[i] = pt(-1, -1)
		}
		_ = append(first, pt(-2, -2))
		if third, _ := impl.CornersOf(w, h, l); !slices.Equal(second, want) || !slices.Equal(third, want) {
			t.Errorf("CornersOf(%d, %d, %v) = %v and %v after an earlier result was changed, want %v", w, h, l, second, third, want)
		}
	})
}

func TestGreedyListsShareNoMemory(t *testing.T) {
	lists := func(w, h int) [][]int { return [][]int{impl.GreedySquares(w, h), impl.QuotientsOf(w, h)} }
	check := func(w, h int) {
		first, second := lists(w, h), lists(w, h)
		checkListsApart(t, nil, first, second)
		var want [][]int
		for _, l := range first {
			want = append(want, slices.Clone(l))
		}
		spoil(first)
		if third := lists(w, h); !sameLists(second, want) || !sameLists(third, want) {
			t.Errorf("the squares and quotients for %d, %d are %v and %v after earlier ones were changed, want %v", w, h, second, third, want)
		}
	}
	for _, c := range greedyCuts {
		check(c.w, c.h)
		check(c.h, c.w)
		check(c.w, 0)
		check(c.h, 1001)
	}
	for w := 1; w <= 60; w++ {
		for h := 1; h <= 60; h++ {
			check(w, h)
		}
	}
}

// TestSquareListsAreNotKept changes a list after it was seen.
func TestSquareListsAreNotKept(t *testing.T) {
	l := []int{2, 1, 1}
	corners, ok := impl.CornersOf(3, 2, l)
	if !ok || impl.SumOfSquares(l) != 6 {
		t.Errorf("CornersOf(3, 2, %v) = %v, %v, SumOfSquares %d", l, corners, ok, impl.SumOfSquares(l))
	}
	l[0], l[2] = 1, 2
	if impl.IsSquared(3, 2, l) || impl.SumOfSquares(l) != 6 || !slices.Equal(corners, xy(0, 0, 2, 0, 2, 1)) {
		t.Errorf("IsSquared(3, 2, %v) = %v, SumOfSquares %d, the corners before are %v", l, impl.IsSquared(3, 2, l), impl.SumOfSquares(l), corners)
	}
	if w, h, ok := impl.RectangleFrom(l, 1); w != 5 || h != 3 || !ok {
		t.Errorf("RectangleFrom(%v, 1) = %d, %d, %v, want 5, 3", l, w, h, ok)
	}
	l[2] = 1
	if w, h, ok := impl.RectangleFrom(l, 1); w != 0 || h != 0 || ok {
		t.Errorf("RectangleFrom(%v, 1) = %d, %d, %v, want none", l, w, h, ok)
	}
}
