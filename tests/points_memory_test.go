package tests

import (
	"slices"
	"testing"
	"unsafe"

	"loop.example/g03208/impl"
)

// pointsOverlap reports whether two lists have memory in common, the spare capacity behind them included.
func pointsOverlap(a, b []impl.Point) bool {
	if cap(a) == 0 || cap(b) == 0 {
		return false
	}
	size := unsafe.Sizeof(impl.Point{})
	x := uintptr(unsafe.Pointer(unsafe.SliceData(a)))
	y := uintptr(unsafe.Pointer(unsafe.SliceData(b)))
	return x < y+uintptr(cap(b))*size && y < x+uintptr(cap(a))*size
}

func TestPointsOverlapSeesSharing(t *testing.T) {
	l := make([]impl.Point, 6, 8)
	if !pointsOverlap(l, l) || !pointsOverlap(l[1:3], l[2:5]) || !pointsOverlap(l[:2], l[4:]) || pointsOverlap(l[:2:2], l[2:]) || pointsOverlap(l, slices.Clone(l)) || pointsOverlap(nil, l) {
		t.Error("pointsOverlap does not tell shared memory")
	}
}

func TestPointsOnIsNewEachTime(t *testing.T) {
	for _, s := range [][2]impl.Point{{pt(0, 0), pt(6, 4)}, {pt(7, 3), pt(7, 3)}, {pt(40, 40), pt(0, 0)}, {pt(5, 2), pt(5, 3)}} {
		first := impl.PointsOn(s[0], s[1])
		want := slices.Clone(first)
		second := impl.PointsOn(s[0], s[1])
		if pointsOverlap(first, second) {
			t.Errorf("two results of PointsOn(%v, %v) share memory", s[0], s[1])
		}
		for i := range first {
			first[i] = pt(-1, -1)
		}
		first = append(first, pt(-2, -2))
		if third := impl.PointsOn(s[0], s[1]); !slices.Equal(second, want) || !slices.Equal(third, want) {
			t.Errorf("PointsOn(%v, %v) = %v and %v after its earlier result was changed to %v", s[0], s[1], second, third, first)
		}
	}
}

// TestPointArgumentsAreUnchanged also holds that an answer is the same when the call comes again.
func TestPointArgumentsAreUnchanged(t *testing.T) {
	for _, l := range [][4]impl.Point{{pt(0, 0), pt(6, 4), pt(3, 2), pt(9, 6)}, {pt(40, 0), pt(0, 39), pt(0, 0), pt(40, 40)}, {pt(41, 0), pt(6, 4), pt(0, -1), pt(6, 4)}} {
		a, b, c, d := l[0], l[1], l[2], l[3]
		answers := func() []int {
			return []int{impl.CrossOf(a, b, c), impl.SideOf(a, b, c), impl.SquareOf(a, b), impl.StepsOf(a, b), len(impl.PointsOn(a, b)), impl.HowMeet(a, b, c, d)}
		}
		truths := func() []bool { return []bool{impl.PointOk(a), impl.IsOn(a, b, c), impl.BeforePoint(a, b)} }
		n, is := answers(), truths()
		if got := [4]impl.Point{a, b, c, d}; got != l {
			t.Errorf("the points %v were changed to %v", l, got)
		}
		if again, still := answers(), truths(); !slices.Equal(n, again) || !slices.Equal(is, still) {
			t.Errorf("the answers about %v change from %v, %v to %v, %v", l, n, is, again, still)
		}
	}
}
