package tests

import (
	"slices"
	"testing"

	"loop.example/g03208/impl"
)

// roomyPoints returns a list with these points and spare capacity behind them, and the whole memory of it.
func roomyPoints(points []impl.Point) (list, memory []impl.Point) {
	memory = append(slices.Clone(points), pt(-7, -7), pt(3, 3), pt(77, 77))
	return memory[:len(points)], memory
}

func sameMade(a, b [][]impl.Point) bool {
	return slices.EqualFunc(a, b, func(p, q []impl.Point) bool { return slices.Equal(p, q) })
}

// checkPointsApart fails if a result has memory in common with the argument or with another result.
func checkPointsApart(t *testing.T, argument []impl.Point, results [][]impl.Point) {
	t.Helper()
	for i, r := range results {
		if pointsOverlap(r, argument) {
			t.Errorf("a result %v shares memory with the argument", r)
		}
		for _, other := range results[:i] {
			if pointsOverlap(r, other) {
				t.Errorf("the results %v and %v share memory", r, other)
			}
		}
	}
}

// ordersOf returns the polygons that the functions make of a polygon.
func ordersOf(p []impl.Point) [][]impl.Point {
	made := [][]impl.Point{impl.TurnPolygon(p), impl.Straightened(p)}
	for k := -1; k <= len(p); k++ {
		made = append(made, impl.StartAt(p, k))
	}
	return made
}

// polygonAnswers returns the other answers about a polygon.
func polygonAnswers(p []impl.Point) []int {
	low, high, ok := impl.BoxOf(p)
	answers := []int{impl.TwiceArea(p), impl.RimPoints(p), impl.InnerPoints(p), low.X, low.Y, high.X, high.Y}
	for _, is := range []bool{ok, impl.PolygonOk(p), impl.IsInside(p, pt(1, 1)), impl.SamePolygon(p, p), impl.SamePolygon(p, xy(0, 0, 6, 0, 0, 4))} {
		n := 0
		if is {
			n = 1
		}
		answers = append(answers, n)
	}
	return answers
}

// eachPolygonOrNot calls do with the lists of both tables.
func eachPolygonOrNot(do func(p []impl.Point)) {
	for _, c := range polygons {
		do(c.p)
	}
	for _, c := range noPolygons {
		do(c.p)
	}
}

func TestPolygonArgumentsAreUnchanged(t *testing.T) {
	eachPolygonOrNot(func(p []impl.Point) {
		list, memory := roomyPoints(p)
		before := slices.Clone(memory)
		answers, made := polygonAnswers(list), ordersOf(list)
		if !slices.Equal(memory, before) {
			t.Errorf("the memory of a list was changed from %v to %v", before, memory)
		}
		// Answers are the same when the calls come again, and do not depend on the capacity.
		again, madeAgain := polygonAnswers(slices.Clip(slices.Clone(p))), ordersOf(slices.Clip(slices.Clone(p)))
		if !slices.Equal(answers, again) || !sameMade(made, madeAgain) {
			t.Errorf("the answers about %v change from %v, %v to %v, %v", p, answers, made, again, madeAgain)
		}
	})
}

func TestPolygonResultsShareNoMemory(t *testing.T) {
	eachPolygonOrNot(func(p []impl.Point) {
		list, memory := roomyPoints(p)
		checkPointsApart(t, memory, append(ordersOf(list), ordersOf(list)...))
	})
}

func TestPolygonResultsAreNew(t *testing.T) {
	for _, c := range polygons {
		list, memory := roomyPoints(c.p)
		before := slices.Clone(memory)
		want := ordersOf(list)
		for _, r := range ordersOf(list) {
			for i := range r {
				r[i] = pt(-1, -1)
			}
			_ = append(r, pt(-2, -2))
		}
		if got := ordersOf(list); !slices.Equal(memory, before) || !sameMade(got, want) {
			t.Errorf("after changes to earlier results the list is %v and the results are %v, want %v", list, got, want)
		}
	}
}
