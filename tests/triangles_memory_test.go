package tests

import (
	"slices"
	"testing"
	"unsafe"

	"loop.example/g03208/impl"
)

// intsOverlap reports whether two lists have memory in common, the spare capacity behind them included.
func intsOverlap(a, b []int) bool {
	if cap(a) == 0 || cap(b) == 0 {
		return false
	}
	x, y := uintptr(unsafe.Pointer(unsafe.SliceData(a))), uintptr(unsafe.Pointer(unsafe.SliceData(b)))
	size := unsafe.Sizeof(0)
	return x < y+uintptr(cap(b))*size && y < x+uintptr(cap(a))*size
}

func TestIntsOverlapSeesSharing(t *testing.T) {
	l := []int{1, 2, 3, 4}
	if !intsOverlap(l, l) || !intsOverlap(l[1:3], l[2:4]) || !intsOverlap(l[:1], l[3:]) || intsOverlap(l[:1:1], l[1:]) || intsOverlap(l, slices.Clone(l)) || intsOverlap(nil, l) {
		t.Error("intsOverlap does not tell shared memory")
	}
}

// listsOfInts returns all lists of indices that the functions make of a polygon.
func listsOfInts(p []impl.Point) [][]int {
	triangles, _ := impl.Triangulate(p)
	return slices.Concat([][]int{impl.EarsOf(p)}, triangles, impl.DiagonalsOf(p))
}

// triangleAnswers returns the other answers about a polygon and a list of triangles.
func triangleAnswers(p []impl.Point, l [][]int) []int {
	_, ok := impl.Triangulate(p)
	truths := []bool{ok, impl.IsTriangulation(p, l), impl.IsTriangulation(p, groups(3, 0, 1, 2))}
	for i := -1; i <= len(p); i++ {
		truths = append(truths, impl.IsEar(p, i))
		for k := -1; k <= len(p); k++ {
			truths = append(truths, impl.IsDiagonal(p, i, k))
		}
	}
	answers := []int{impl.CountTriangulations(p)}
	for i, is := range truths {
		if is {
			answers = append(answers, i)
		}
	}
	return answers
}

// roomyLists returns lists with spare capacity behind each of them and behind the whole, and their whole memory.
func roomyLists(l [][]int) (lists, memory [][]int, memories [][]int) {
	for _, one := range l {
		all := append(slices.Clone(one), -5, 1, 77)
		memories = append(memories, all)
		memory = append(memory, all[:len(one)])
	}
	memory = append(memory, []int{0, 1, 2}, nil)
	return memory[:len(l)], memory, memories
}

func TestTriangleArgumentsAreUnchanged(t *testing.T) {
	eachPolygonOrNot(func(p []impl.Point) {
		if len(p) > 20 {
			p = p[:20]
		}
		list, memory := roomyPoints(p)
		before := slices.Clone(memory)
		l, _ := impl.Triangulate(p)
		lists, outer, inner := roomyLists(l)
		outerBefore, innerBefore := slices.Clone(outer), [][]int{}
		for _, one := range inner {
			innerBefore = append(innerBefore, slices.Clone(one))
		}
		made, answers := listsOfInts(list), triangleAnswers(list, lists)
		if !slices.Equal(memory, before) || !sameLists(outer, outerBefore) || !sameLists(inner, innerBefore) {
			t.Errorf("the memory of %v or %v was changed", p, l)
		}
		// The order in which a map is ranged over differs from call to call.
		for range 20 {
			again, answersAgain := listsOfInts(slices.Clip(slices.Clone(p))), triangleAnswers(list, l)
			if !sameLists(made, again) || !slices.Equal(answers, answersAgain) {
				t.Errorf("the answers about %v change from %v, %v to %v, %v", p, made, answers, again, answersAgain)
			}
		}
	})
}

func TestListsOfIntsShareNoMemory(t *testing.T) {
	for _, c := range cut {
		results := append(listsOfInts(c.p), listsOfInts(c.p)...)
		for i, r := range results {
			for _, other := range results[:i] {
				if intsOverlap(r, other) {
					t.Errorf("%s: the results %v and %v share memory", c.name, r, other)
				}
			}
		}
	}
}

func TestListsOfIntsAreNew(t *testing.T) {
	for _, c := range cut {
		list, memory := roomyPoints(c.p)
		before := slices.Clone(memory)
		for _, r := range listsOfInts(list) {
			for i := range r {
				r[i] = -1
			}
			_ = append(r, -2)
		}
		want := slices.Concat([][]int{c.ears}, c.triangles, c.diagonals)
		if got := listsOfInts(list); !slices.Equal(memory, before) || !sameLists(got, want) {
			t.Errorf("%s: after changes to earlier results they are %v, want %v", c.name, got, want)
		}
	}
}

// TestTriangulationsAreNotKept changes the lists after IsTriangulation has seen them.
func TestTriangulationsAreNotKept(t *testing.T) {
	for _, c := range cut {
		l, _ := impl.Triangulate(c.p)
		first := impl.IsTriangulation(c.p, l)
		kept := l[0][1]
		l[0][1] = -1
		second := impl.IsTriangulation(c.p, l)
		l[0][1] = kept
		if third := impl.IsTriangulation(c.p, l); !first || second || !third {
			t.Errorf("%s: IsTriangulation = %v, with a changed index %v, and then %v", c.name, first, second, third)
		}
	}
}
