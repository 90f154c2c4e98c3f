package tests

import (
	"slices"
	"testing"

	"loop.example/g03208/impl"
)

// movedLists returns the polygons that the functions make of a polygon by motions and shifts.
func movedLists(p []impl.Point) [][]impl.Point {
	made := [][]impl.Point{impl.ShapeOf(p)}
	for m := -1; m <= 8; m++ {
		made = append(made, impl.MovePolygon(p, m))
	}
	for _, s := range [][2]int{{0, 0}, {1, 0}, {0, 1}, {-1, -1}, {32, 35}, {41, 0}} {
		shifted, _ := impl.ShiftPolygon(p, s[0], s[1])
		made = append(made, shifted)
	}
	return made
}

// motionAnswers returns the other answers about two lists.
func motionAnswers(p, q []impl.Point) []int {
	_, ok := impl.ShiftPolygon(p, 1, 1)
	truths := []bool{ok, impl.IsCongruent(p, q), impl.IsCongruent(q, p), impl.IsCongruent(p, p)}
	for m := -1; m <= 8; m++ {
		truths = append(truths, impl.IsTurned(p, q, m), impl.IsTurned(q, p, m), impl.IsTurned(p, p, m))
	}
	answers := impl.SymmetriesOf(p)
	for i, is := range truths {
		if is {
			answers = append(answers, i)
		}
	}
	return answers
}

// eachMotionList calls do with polygons and other lists.
func eachMotionList(do func(p []impl.Point)) {
	eachPolygonOrNot(do)
	eachMoving(do)
}

func TestMotionArgumentsAreUnchanged(t *testing.T) {
	eachMotionList(func(p []impl.Point) {
		list, memory := roomyPoints(p)
		other, otherMemory := roomyPoints(slices.Concat(p[min(1, len(p)):], p[:min(1, len(p))]))
		before, otherBefore := slices.Clone(memory), slices.Clone(otherMemory)
		made, answers := movedLists(list), motionAnswers(list, other)
		if !slices.Equal(memory, before) || !slices.Equal(otherMemory, otherBefore) {
			t.Errorf("the memory of a list was changed from %v and %v to %v and %v", before, otherBefore, memory, otherMemory)
		}
		// Answers are the same when the calls come again, and do not depend on the capacity.
		clipped, otherClipped := slices.Clip(slices.Clone(p)), slices.Clip(slices.Clone(other))
		if again, answersAgain := movedLists(clipped), motionAnswers(clipped, otherClipped); !sameMade(made, again) || !slices.Equal(answers, answersAgain) {
			t.Errorf("the answers about %v change from %v, %v to %v, %v", p, made, answers, again, answersAgain)
		}
	})
}

func TestMotionResultsShareNoMemory(t *testing.T) {
	eachMotionList(func(p []impl.Point) {
		list, memory := roomyPoints(p)
		checkPointsApart(t, memory, append(movedLists(list), movedLists(list)...))
		if intsOverlap(impl.SymmetriesOf(list), impl.SymmetriesOf(list)) {
			t.Errorf("two results of SymmetriesOf(%v) share memory", p)
		}
	})
}

// TestMotionResultsOfResults gives what one function made to the others, which leave it as it is where it already is what they make.
func TestMotionResultsOfResults(t *testing.T) {
	eachMoving(func(p []impl.Point) {
		for _, first := range [][]impl.Point{impl.ShapeOf(p), impl.MovePolygon(p, 0)} {
			shape, moved := impl.ShapeOf(first), impl.MovePolygon(first, 0)
			shifted, _ := impl.ShiftPolygon(first, 0, 0)
			if pointsOverlap(shape, first) || pointsOverlap(moved, first) || pointsOverlap(shifted, first) {
				t.Errorf("a result for %v shares memory with it", first)
			}
			if !slices.Equal(moved, first) || !slices.Equal(shifted, first) {
				t.Errorf("%v, moved and shifted by nothing, is %v and %v", first, moved, shifted)
			}
		}
	})
}

func TestMotionResultsAreNew(t *testing.T) {
	eachMotionList(func(p []impl.Point) {
		list, memory := roomyPoints(p)
		before := slices.Clone(memory)
		want, symmetries := movedLists(list), slices.Clone(impl.SymmetriesOf(list))
		for _, r := range movedLists(list) {
			for i := range r {
				r[i] = pt(-1, -1)
			}
			_ = append(r, pt(-2, -2))
		}
		s := impl.SymmetriesOf(list)
		for i := range s {
			s[i] = -1
		}
		_ = append(s, -2)
		if got := movedLists(list); !slices.Equal(memory, before) || !sameMade(got, want) || !slices.Equal(impl.SymmetriesOf(list), symmetries) {
			t.Errorf("after changes to earlier results the list is %v and the results are %v, %v, want %v, %v", list, got, impl.SymmetriesOf(list), want, symmetries)
		}
	})
}
