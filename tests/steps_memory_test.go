package tests

import (
	"math"
	"runtime"
	"slices"
	"sync"
	"testing"

	"loop.example/g03208/impl"
)

// stepLists returns the lists that the functions make of three numbers.
func stepLists(n, a, b int) [][]impl.Point {
	return [][]impl.Point{impl.LowerPiece(n, a, b), impl.UpperPiece(n, a, b), impl.MovedUpper(n, a, b), impl.RectangleOf(a, b), impl.RectangleOf(n, a)}
}

func TestResultsOfStepsShareNoMemory(t *testing.T) {
	eachSteps(func(n, a, b int) {
		want := stepLists(n, a, b)
		made := append(stepLists(n, a, b), stepLists(n, a, b)...)
		checkPointsApart(t, nil, append(made, want...))
		for i := range want {
			want[i] = slices.Clone(want[i])
		}
		for _, l := range made {
			for i := range l {
				l[i] = pt(-1, -1)
			}
			_ = append(l, pt(-2, -2))
		}
		if got := stepLists(n, a, b); !sameMade(got, want) {
			t.Errorf("the lists for %d, %d, %d are %v after earlier ones were changed, want %v", n, a, b, got, want)
		}
	})
}

// eachMaybeRectangle calls do with rectangles, other polygons and lists that are none.
func eachMaybeRectangle(do func(p []impl.Point, w, h int)) {
	for _, c := range likeRectangles {
		do(c.p, c.w, c.h)
	}
	for _, c := range unlikeRectangles {
		do(c.p, c.w, c.h)
	}
	eachPolygonOrNot(func(p []impl.Point) { do(p, 6, 4) })
	do(xy(0, 0, 4, 0, 4, 6, 0, 6), 0, 41)
	do(nil, 0, 0)
	do(nil, math.MinInt, math.MaxInt)
}

func TestArgumentsOfSameRectangleAreUnchanged(t *testing.T) {
	eachMaybeRectangle(func(p []impl.Point, w, h int) {
		list, memory := roomyPoints(p)
		before := slices.Clone(memory)
		got := impl.SameRectangle(list, w, h)
		if !slices.Equal(memory, before) {
			t.Errorf("the memory of a list was changed from %v to %v", before, memory)
		}
		// The answer is the same when the call comes again, after others, and does not depend on the capacity.
		impl.SameRectangle(impl.RectangleOf(4, 6), 4, 6)
		impl.SameRectangle(nil, 4, 6)
		if again := impl.SameRectangle(slices.Clip(slices.Clone(p)), w, h); got != again {
			t.Errorf("SameRectangle(%v, %d, %d) changes from %v to %v", p, w, h, got, again)
		}
	})
}

func TestNilAndEmptyListsAreNoRectangle(t *testing.T) {
	for _, s := range [][2]int{{4, 6}, {1, 1}, {0, 0}, {41, 41}, {-1, -1}} {
		if impl.SameRectangle(nil, s[0], s[1]) || impl.SameRectangle([]impl.Point{}, s[0], s[1]) {
			t.Errorf("SameRectangle of no points, %d and %d is true", s[0], s[1])
		}
	}
}

// chainAnswers returns ChainOfSteps for rectangles with areas of squares, and for others.
func chainAnswers() []int {
	var answers []int
	for square := -1; square <= 41; square++ {
		for w := -1; w <= 41; w++ {
			h := 0
			if w != 0 {
				h = square * square / w
			}
			answers = append(answers, impl.ChainOfSteps(w, h, square))
		}
	}
	return answers
}

// TestChainsAtOnce asks from many sides at the same time, which changes no answer.
func TestChainsAtOnce(t *testing.T) {
	want := chainAnswers()
	var group sync.WaitGroup
	answers := make([][]int, 16)
	for i := range answers {
		group.Go(func() { answers[i] = chainAnswers() })
	}
	group.Wait()
	for _, got := range answers {
		if !slices.Equal(got, want) {
			t.Errorf("the chains are %v if many are asked for at once, want %v", got, want)
		}
	}
}

// TestChainsLeaveNothingRunning has what a call starts come to its end, whether the square is found early, late or never.
func TestChainsLeaveNothingRunning(t *testing.T) {
	before := runtime.NumGoroutine()
	for range 3 {
		chainAnswers()
	}
	// What has sent all may still be on its way out.
	for range 1000000 {
		if runtime.NumGoroutine() <= before {
			return
		}
		runtime.Gosched()
	}
	t.Errorf("%d goroutines are running, %d were before", runtime.NumGoroutine(), before)
}
