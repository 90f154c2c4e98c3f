package tests

import (
	"testing"

	"loop.example/g03208/impl"
)

// segments are two segments, as the numbers of four points, and how they meet.
var segments = []struct {
	n    [8]int
	want int
}{
	// One inner point of both, with integer coordinates or not.
	{[8]int{0, 0, 6, 4, 0, 4, 6, 0}, impl.MtCross},
	{[8]int{0, 0, 3, 3, 0, 3, 3, 0}, impl.MtCross},
	{[8]int{0, 0, 40, 40, 0, 40, 40, 0}, impl.MtCross},
	{[8]int{5, 0, 5, 9, 2, 4, 8, 4}, impl.MtCross},
	{[8]int{5, 0, 5, 9, 4, 8, 6, 8}, impl.MtCross},
	{[8]int{5, 0, 5, 9, 2, 1, 6, 9}, impl.MtCross},
	{[8]int{0, 5, 9, 5, 2, 1, 6, 9}, impl.MtCross},
	{[8]int{0, 0, 40, 39, 39, 38, 1, 1}, impl.MtCross},
	{[8]int{0, 0, 40, 39, 40, 40, 1, 0}, impl.MtCross},
	// An end of one is an inner point of the other.
	{[8]int{0, 0, 6, 4, 3, 2, 3, 9}, impl.MtTouch},
	{[8]int{0, 0, 6, 4, 3, 2, 3, 0}, impl.MtTouch},
	{[8]int{5, 0, 5, 9, 5, 4, 8, 4}, impl.MtTouch},
	{[8]int{5, 0, 5, 9, 5, 4, 2, 4}, impl.MtTouch},
	{[8]int{0, 5, 9, 5, 4, 5, 4, 8}, impl.MtTouch},
	{[8]int{0, 5, 9, 5, 4, 5, 3, 1}, impl.MtTouch},
	{[8]int{0, 40, 40, 0, 20, 20, 40, 40}, impl.MtTouch},
	// An end of both, at an angle or straight on.
	{[8]int{0, 0, 6, 4, 6, 4, 6, 9}, impl.MtTouch},
	{[8]int{0, 0, 6, 4, 0, 0, 4, 6}, impl.MtTouch},
	{[8]int{0, 0, 6, 4, 0, 0, 1, 1}, impl.MtTouch},
	{[8]int{0, 0, 40, 40, 40, 40, 39, 40}, impl.MtTouch},
	{[8]int{0, 0, 6, 4, 6, 4, 9, 6}, impl.MtTouch},
	{[8]int{5, 0, 5, 4, 5, 4, 5, 9}, impl.MtTouch},
	{[8]int{0, 5, 4, 5, 4, 5, 9, 5}, impl.MtTouch},
	{[8]int{2, 2, 5, 2, 5, 2, 5, 5}, impl.MtTouch},
	// More than one point: overlapping, one in the other, with an end in common, the same.
	{[8]int{0, 0, 6, 4, 3, 2, 9, 6}, impl.MtAlong},
	{[8]int{0, 0, 9, 6, 3, 2, 6, 4}, impl.MtAlong},
	{[8]int{0, 0, 9, 6, 0, 0, 6, 4}, impl.MtAlong},
	{[8]int{0, 0, 9, 6, 3, 2, 9, 6}, impl.MtAlong},
	{[8]int{0, 0, 6, 4, 0, 0, 6, 4}, impl.MtAlong},
	{[8]int{5, 0, 5, 6, 5, 4, 5, 9}, impl.MtAlong},
	{[8]int{5, 0, 5, 9, 5, 4, 5, 5}, impl.MtAlong},
	{[8]int{5, 0, 5, 9, 5, 0, 5, 1}, impl.MtAlong},
	{[8]int{5, 0, 5, 9, 5, 0, 5, 9}, impl.MtAlong},
	{[8]int{0, 5, 6, 5, 4, 5, 9, 5}, impl.MtAlong},
	{[8]int{0, 5, 9, 5, 4, 5, 5, 5}, impl.MtAlong},
	{[8]int{0, 5, 9, 5, 8, 5, 9, 5}, impl.MtAlong},
	{[8]int{0, 40, 40, 0, 39, 1, 20, 20}, impl.MtAlong},
	// No integer coordinates between the ends.
	{[8]int{0, 0, 1, 0, 0, 0, 1, 0}, impl.MtAlong},
	{[8]int{0, 0, 40, 39, 0, 0, 40, 39}, impl.MtAlong},
	// Parallel.
	{[8]int{0, 0, 6, 4, 0, 1, 6, 5}, impl.MtNone},
	{[8]int{0, 0, 6, 4, 1, 0, 7, 4}, impl.MtNone},
	{[8]int{5, 0, 5, 9, 6, 0, 6, 9}, impl.MtNone},
	{[8]int{0, 5, 9, 5, 0, 6, 9, 6}, impl.MtNone},
	{[8]int{0, 0, 40, 39, 0, 1, 40, 40}, impl.MtNone},
	// On one line, but apart.
	{[8]int{0, 0, 3, 2, 6, 4, 9, 6}, impl.MtNone},
	{[8]int{5, 0, 5, 4, 5, 5, 5, 9}, impl.MtNone},
	{[8]int{0, 5, 4, 5, 5, 5, 9, 5}, impl.MtNone},
	{[8]int{0, 40, 19, 21, 20, 20, 40, 0}, impl.MtNone},
	// The line through one of them meets the other segment, or the lines meet elsewhere.
	{[8]int{0, 0, 6, 4, 9, 6, 9, 9}, impl.MtNone},
	{[8]int{0, 0, 6, 4, 9, 0, 9, 9}, impl.MtNone},
	{[8]int{0, 0, 6, 4, 3, 3, 3, 9}, impl.MtNone},
	{[8]int{0, 0, 6, 4, 0, 1, 5, 9}, impl.MtNone},
	{[8]int{5, 0, 5, 4, 2, 5, 8, 5}, impl.MtNone},
	{[8]int{0, 0, 5, 5, 6, 5, 40, 0}, impl.MtNone},
	{[8]int{0, 0, 1, 0, 40, 40, 40, 39}, impl.MtNone},
	// Equal ends, even on the other segment or at its end.
	{[8]int{3, 2, 3, 2, 0, 0, 6, 4}, impl.MtNone},
	{[8]int{0, 0, 0, 0, 0, 0, 6, 4}, impl.MtNone},
	{[8]int{6, 4, 6, 4, 0, 0, 6, 4}, impl.MtNone},
	{[8]int{9, 9, 9, 9, 0, 0, 6, 4}, impl.MtNone},
	{[8]int{3, 2, 3, 2, 3, 2, 3, 2}, impl.MtNone},
	{[8]int{3, 2, 3, 2, 6, 4, 6, 4}, impl.MtNone},
	{[8]int{0, 0, 0, 0, 0, 0, 0, 0}, impl.MtNone},
}

// orders returns the eight answers of HowMeet with the segments and their ends in every order.
func orders(a, b, c, d impl.Point) [8]int {
	return [8]int{
		impl.HowMeet(a, b, c, d), impl.HowMeet(b, a, c, d), impl.HowMeet(a, b, d, c), impl.HowMeet(b, a, d, c),
		impl.HowMeet(c, d, a, b), impl.HowMeet(d, c, a, b), impl.HowMeet(c, d, b, a), impl.HowMeet(d, c, b, a),
	}
}

func TestHowMeet(t *testing.T) {
	for _, s := range segments {
		a, b, c, d := pt(s.n[0], s.n[1]), pt(s.n[2], s.n[3]), pt(s.n[4], s.n[5]), pt(s.n[6], s.n[7])
		w := s.want
		if got := orders(a, b, c, d); got != [8]int{w, w, w, w, w, w, w, w} {
			t.Errorf("HowMeet(%v, %v, %v, %v), in every order, = %v, want %d", a, b, c, d, got, w)
		}
	}
}

func TestHowMeetRefuses(t *testing.T) {
	eachWithBad(4, func(l []impl.Point) {
		if got := impl.HowMeet(l[0], l[1], l[2], l[3]); got != impl.MtNone {
			t.Errorf("HowMeet(%v) = %d, want %d", l, got, impl.MtNone)
		}
	})
}
