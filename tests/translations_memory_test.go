package tests

import (
	"slices"
	"testing"
	"unsafe"

	"loop.example/g03208/impl"
)

// listsOverlap reports whether two lists of lists have memory in common, that of the lists in them included.
func listsOverlap(a, b [][]int) bool {
	if cap(a) > 0 && cap(b) > 0 {
		x, y := uintptr(unsafe.Pointer(unsafe.SliceData(a))), uintptr(unsafe.Pointer(unsafe.SliceData(b)))
		size := unsafe.Sizeof([]int{})
		if x < y+uintptr(cap(b))*size && y < x+uintptr(cap(a))*size {
			return true
		}
	}
	return slices.ContainsFunc(a, func(l []int) bool {
		return slices.ContainsFunc(b, func(m []int) bool { return intsOverlap(l, m) })
	})
}

// overlapWithin reports whether two of the lists in one list have memory in common.
func overlapWithin(a [][]int) bool {
	for i, l := range a {
		for _, m := range a[:i] {
			if intsOverlap(l, m) {
				return true
			}
		}
	}
	return false
}

func TestListsOverlapSeesSharing(t *testing.T) {
	l := groups(3, 1, 0, 3, 0, 1, 2)
	copied := groups(3, 1, 0, 3, 0, 1, 2)
	if !listsOverlap(l, l) || !listsOverlap(l[:1], l[1:]) || !listsOverlap(l, slices.Clone(l)) || listsOverlap(l, copied) || listsOverlap(nil, l) || listsOverlap(l[:1:1], l[1:]) {
		t.Error("listsOverlap does not tell shared memory")
	}
	if overlapWithin(l) || !overlapWithin([][]int{l[0], l[1], l[0]}) || !overlapWithin([][]int{l[0][:1], l[0][1:]}) {
		t.Error("overlapWithin does not tell shared memory")
	}
}

// checkListsApart fails if a result has memory in common with an argument, with another result or within itself.
func checkListsApart(t *testing.T, arguments [][][]int, results ...[][]int) {
	t.Helper()
	for i, r := range results {
		if overlapWithin(r) {
			t.Errorf("two lists of the result %v share memory", r)
		}
		for _, other := range slices.Concat(arguments, results[:i]) {
			if listsOverlap(r, other) {
				t.Errorf("the result %v shares memory with %v", r, other)
			}
		}
	}
}

// spoil changes all numbers of a result, the room behind them, and the result itself.
func spoil(lists [][]int) {
	for i, l := range lists {
		for k := range l {
			l[k] = -77
		}
		_ = append(l, -78)
		lists[i] = nil
	}
	_ = append(lists, []int{-79})
}

// measureAnswers returns the other answers of this chapter about two lists of points.
func measureAnswers(p, q []impl.Point) []int {
	var answers []int
	for _, d := range [][2]int{{1, 0}, {0, 1}, {1, 1}, {-1, 1}, {-3, 1}, {1, 4}, {0, 0}, {2, 2}} {
		answers = append(answers, impl.MeasureFor(p, d[0], d[1]))
	}
	for i, is := range []bool{impl.IsBalanced(p), impl.IsBalanced(q), impl.SameMeasures(p, q), impl.SameMeasures(q, p), impl.CanExchange(p, q), impl.CanExchange(q, p), impl.CanExchange(p, p)} {
		if is {
			answers = append(answers, i)
		}
	}
	return answers
}

// eachMeasuredOrNot calls do with polygons and other lists.
func eachMeasuredOrNot(do func(p []impl.Point)) {
	eachPolygonOrNot(do)
	eachMeasured(do)
}

func TestMeasuredPolygonsAreUnchanged(t *testing.T) {
	eachMeasuredOrNot(func(p []impl.Point) {
		list, memory := roomyPoints(p)
		other, otherMemory := roomyPoints(slices.Concat(p[min(1, len(p)):], p[:min(1, len(p))]))
		before, otherBefore := slices.Clone(memory), slices.Clone(otherMemory)
		measures, answers := impl.MeasuresOf(list), measureAnswers(list, other)
		if !slices.Equal(memory, before) || !slices.Equal(otherMemory, otherBefore) {
			t.Errorf("the memory of a list was changed from %v and %v to %v and %v", before, otherBefore, memory, otherMemory)
		}
		// The order in which a map is ranged over differs from call to call, and the capacity does not matter.
		clipped, otherClipped := slices.Clip(slices.Clone(p)), slices.Clip(slices.Clone(other))
		for range 20 {
			if again, answersAgain := impl.MeasuresOf(clipped), measureAnswers(clipped, otherClipped); !sameLists(measures, again) || !slices.Equal(answers, answersAgain) {
				t.Errorf("the answers about %v change from %v, %v to %v, %v", p, measures, answers, again, answersAgain)
			}
		}
	})
}

func TestMeasuresShareNoMemory(t *testing.T) {
	eachMeasuredOrNot(func(p []impl.Point) {
		first, second := impl.MeasuresOf(p), impl.MeasuresOf(p)
		checkListsApart(t, nil, first, second)
		want := make([][]int, len(first))
		for i, m := range first {
			want[i] = slices.Clone(m)
		}
		spoil(first)
		if third := impl.MeasuresOf(p); !sameLists(second, want) || !sameLists(third, want) {
			t.Errorf("MeasuresOf(%v) = %v and %v after an earlier result was changed, want %v", p, second, third, want)
		}
	})
}

func TestDirectionOfIsNewEachTime(t *testing.T) {
	for _, s := range [][2]impl.Point{{pt(0, 0), pt(6, 4)}, {pt(0, 0), pt(1, 0)}, {pt(40, 40), pt(40, 0)}, {pt(7, 3), pt(2, 8)}} {
		first, _ := impl.DirectionOf(s[0], s[1])
		want := slices.Clone(first)
		second, _ := impl.DirectionOf(s[0], s[1])
		back, _ := impl.DirectionOf(s[1], s[0])
		if intsOverlap(first, second) || intsOverlap(first, back) {
			t.Errorf("two results of DirectionOf(%v, %v) share memory", s[0], s[1])
		}
		for i := range first {
			first[i] = -77
		}
		_ = append(first, -78)
		if third, _ := impl.DirectionOf(s[0], s[1]); !slices.Equal(second, want) || !slices.Equal(back, want) || !slices.Equal(third, want) {
			t.Errorf("DirectionOf(%v, %v) = %v, %v and %v after an earlier result was changed", s[0], s[1], second, back, third)
		}
	}
}

// eachPairOfMeasureLists calls do with pairs of lists of which both, one or none are accepted, each list with itself among them.
func eachPairOfMeasureLists(do func(a, b [][]int)) {
	for _, c := range measureSums {
		do(c.a, c.b)
	}
	for _, c := range measureLists {
		do(c.a, c.a)
		do(c.a, nil)
		do(nil, c.a)
	}
	for _, c := range noMeasureLists {
		do(c.a, c.a)
		do(c.a, groups(3, 1, 0, 3))
		do(groups(3, 1, 0, 3), c.a)
	}
}

func TestMeasureListsAreUnchanged(t *testing.T) {
	eachPairOfMeasureLists(func(a, b [][]int) {
		list, outer, inner := roomyLists(a)
		other, otherOuter, otherInner := roomyLists(b)
		var before [][][]int
		for _, memory := range [][][]int{outer, inner, otherOuter, otherInner} {
			var copied [][]int
			for _, l := range memory {
				copied = append(copied, slices.Clone(l))
			}
			before = append(before, copied)
		}
		sum, ok := impl.AddMeasures(list, other)
		fine, otherFine := impl.MeasureListOk(list), impl.MeasureListOk(other)
		for i, memory := range [][][]int{outer, inner, otherOuter, otherInner} {
			if !sameLists(memory, before[i]) {
				t.Errorf("the memory of %v and %v was changed from %v to %v", a, b, before[i], memory)
			}
		}
		if ok != (fine && otherFine) {
			t.Errorf("AddMeasures(%v, %v) tells %v, but MeasureListOk %v and %v", a, b, ok, fine, otherFine)
		}
		for range 20 {
			again, okAgain := impl.AddMeasures(slices.Clip(slices.Clone(a)), slices.Clip(slices.Clone(b)))
			if !sameLists(sum, again) || ok != okAgain || fine != impl.MeasureListOk(a) || otherFine != impl.MeasureListOk(b) {
				t.Errorf("the answers about %v and %v change from %v, %v to %v, %v", a, b, sum, ok, again, okAgain)
			}
		}
	})
}

func TestSumsShareNoMemory(t *testing.T) {
	eachPairOfMeasureLists(func(a, b [][]int) {
		list, outer, inner := roomyLists(a)
		other, otherOuter, otherInner := roomyLists(b)
		want, _ := impl.AddMeasures(a, b)
		first, _ := impl.AddMeasures(list, other)
		second, _ := impl.AddMeasures(list, other)
		back, _ := impl.AddMeasures(other, list)
		twice, _ := impl.AddMeasures(list, list)
		checkListsApart(t, [][][]int{outer, inner, otherOuter, otherInner}, first, second, back, twice)
		spoil(first)
		spoil(twice)
		if third, _ := impl.AddMeasures(list, other); !sameLists(second, want) || !sameLists(back, want) || !sameLists(third, want) {
			t.Errorf("AddMeasures(%v, %v) = %v, %v and %v after earlier results were changed, want %v", a, b, second, back, third, want)
		}
		if !sameLists(list, a) || !sameLists(other, b) {
			t.Errorf("changes to results changed %v and %v to %v and %v", a, b, list, other)
		}
	})
}

// TestMeasureListsAreNotKept changes a list after it was seen.
func TestMeasureListsAreNotKept(t *testing.T) {
	a, b := groups(3, 1, 0, 3, 0, 1, 2), groups(3, 1, 0, 4)
	if got, ok := impl.AddMeasures(a, b); !sameLists(got, groups(3, 1, 0, 7, 0, 1, 2)) || !ok {
		t.Errorf("AddMeasures(%v, %v) = %v, %v", a, b, got, ok)
	}
	a[0][2] = -4
	if got, ok := impl.AddMeasures(a, b); !sameLists(got, groups(3, 0, 1, 2)) || !ok || !impl.MeasureListOk(a) {
		t.Errorf("AddMeasures(%v, %v) = %v, %v after a change", a, b, got, ok)
	}
	a[0][0] = 2
	if got, ok := impl.AddMeasures(a, b); len(got) != 0 || ok || impl.MeasureListOk(a) {
		t.Errorf("AddMeasures(%v, %v) = %v, %v after a change to no direction", a, b, got, ok)
	}
}
