package tests

import (
	"slices"
	"testing"

	"loop.example/g03208/impl"
)

// hullAnswers returns the numbers that the functions give for a list of points.
func hullAnswers(p []impl.Point) []int {
	i, k := impl.WidestPair(p)
	answers := []int{i, k, impl.HullGap(p), impl.SideCount(p)}
	_, found := impl.HullOf(p)
	for _, is := range []bool{found, impl.IsConvex(p), impl.IsOval(p), impl.Supports(p, pt(0, 0), pt(4, 0)), impl.Supports(p, pt(1, 1), pt(2, 3))} {
		n := 0
		if is {
			n = 1
		}
		answers = append(answers, n)
	}
	return answers
}

// eachHullList calls do with the lists of all tables.
func eachHullList(do func(l []impl.Point)) {
	eachPolygonOrNot(do)
	for _, c := range hulls {
		do(c.l)
	}
	for _, c := range hulled {
		do(c.p)
	}
}

func TestHullArgumentsAreUnchanged(t *testing.T) {
	eachHullList(func(l []impl.Point) {
		for _, room := range []int{0, 3, 100} {
			memory := slices.Concat(l, slices.Repeat(xy(0, 0, 40, 40, -7, 77), room))
			list, before := memory[:len(l)], slices.Clone(memory)
			answers := hullAnswers(list)
			hull, ok := impl.HullOf(list)
			if !slices.Equal(memory, before) {
				t.Errorf("the memory of a list was changed from %v to %v", before, memory)
			}
			// Answers are the same when the calls come again, and do not depend on the capacity.
			clipped := slices.Clip(slices.Clone(l))
			again, still := impl.HullOf(clipped)
			if !slices.Equal(hullAnswers(clipped), answers) || !slices.Equal(again, hull) || still != ok {
				t.Errorf("the answers about %v change from %v, %v to %v, %v", l, answers, hull, hullAnswers(clipped), again)
			}
		}
	})
}

func TestHullsShareNoMemory(t *testing.T) {
	eachHullList(func(l []impl.Point) {
		list, memory := roomyPoints(l)
		first, _ := impl.HullOf(list)
		second, _ := impl.HullOf(list)
		third, _ := impl.HullOf(first)
		if pointsOverlap(first, memory) || pointsOverlap(second, memory) || pointsOverlap(first, second) || pointsOverlap(third, first) {
			t.Errorf("a result of HullOf(%v) shares memory", l)
		}
	})
}

func TestHullsAreNew(t *testing.T) {
	eachHullList(func(l []impl.Point) {
		list, memory := roomyPoints(l)
		before := slices.Clone(memory)
		first, _ := impl.HullOf(list)
		want := slices.Clone(first)
		second, _ := impl.HullOf(list)
		for i := range first {
			first[i] = pt(-1, -1)
		}
		_ = append(first, pt(-2, -2))
		if third, ok := impl.HullOf(list); !slices.Equal(memory, before) || !slices.Equal(second, want) || !slices.Equal(third, want) || ok != (len(want) > 0) {
			t.Errorf("after a change to an earlier result the list is %v and HullOf gives %v and %v, want %v", list, second, third, want)
		}
	})
}
