package tests

import (
	"slices"
	"strings"
	"testing"

	"loop.example/g03208/impl"
)

// greatestDivisor tries all divisors, the greatest ones first.
func greatestDivisor(w, h int) int {
	divisor := min(w, h)
	for w%divisor != 0 || h%divisor != 0 {
		divisor--
	}
	return divisor
}

// cutOneByOne takes squares away from a rectangle one at a time, without dividing.
func cutOneByOne(w, h int) []int {
	var sides []int
	for w > 0 && h > 0 {
		if w >= h {
			sides = append(sides, h)
			w -= h
		} else {
			sides = append(sides, w)
			h -= w
		}
	}
	return sides
}

// runsOf returns how often each number comes in a row.
func runsOf(list []int) []int {
	var runs []int
	for i, n := range list {
		if i == 0 || n != list[i-1] {
			runs = append(runs, 0)
		}
		runs[len(runs)-1]++
	}
	return runs
}

// eachGreedyRectangle calls do with all rectangles up to 250, and some up to 1000.
func eachGreedyRectangle(do func(w, h int)) {
	for w := 1; w <= 250; w++ {
		for h := 1; h <= 250; h++ {
			do(w, h)
		}
	}
	for w := 1; w <= 1000; w++ {
		for _, h := range []int{1, 2, 251, 377, 500, 610, 618, 750, 864, 960, 997, 998, 999, 1000} {
			do(w, h)
			do(h, w)
		}
		do(w, w)
		do(w, 1001-w)
	}
}

func TestGreedySquaresAgree(t *testing.T) {
	eachGreedyRectangle(func(w, h int) {
		squares, quotients := impl.GreedySquares(w, h), impl.QuotientsOf(w, h)
		if want := cutOneByOne(w, h); !slices.Equal(squares, want) {
			t.Fatalf("GreedySquares(%d, %d) = %v, want %v", w, h, squares, want)
		}
		if got := impl.SumOfSquares(squares); got != w*h {
			t.Errorf("the sum of the squares for %d, %d is %d, want %d", w, h, got, w*h)
		}
		if !slices.IsSortedFunc(squares, func(a, b int) int { return b - a }) {
			t.Errorf("GreedySquares(%d, %d) = %v does not fall", w, h, squares)
		}
		if want := runsOf(squares); !slices.Equal(quotients, want) {
			t.Errorf("QuotientsOf(%d, %d) = %v, want %v", w, h, quotients, want)
		}
		last := squares[len(squares)-1]
		if last != greatestDivisor(w, h) {
			t.Errorf("the last one of GreedySquares(%d, %d) is %d, want %d", w, h, last, greatestDivisor(w, h))
		}
		if slices.Min(quotients) < 1 || (w == h) != slices.Equal(quotients, []int{1}) || w != h && quotients[len(quotients)-1] == 1 {
			t.Errorf("QuotientsOf(%d, %d) = %v", w, h, quotients)
		}
		if gotW, gotH, ok := impl.RectangleFrom(quotients, last); gotW != max(w, h) || gotH != min(w, h) || !ok {
			t.Errorf("RectangleFrom(%v, %d) = %d, %d, %v, want %d and %d", quotients, last, gotW, gotH, ok, w, h)
		}
		if other := impl.GreedySquares(h, w); !slices.Equal(squares, other) || !slices.Equal(quotients, impl.QuotientsOf(h, w)) {
			t.Errorf("the squares for %d, %d are %v, but %v in the other order", w, h, squares, other)
		}
	})
}

// TestGreedyMultiplesAgree has rectangles of the same shape, with the same quotients and the unit that many times as great.
func TestGreedyMultiplesAgree(t *testing.T) {
	for w := 1; w <= 40; w++ {
		for h := 1; h <= 40; h++ {
			quotients, unit := impl.QuotientsOf(w, h), greatestDivisor(w, h)
			for times := 1; times <= 30; times++ {
				inBounds := times*max(w, h) <= 1000
				if got := impl.QuotientsOf(times*w, times*h); inBounds != slices.Equal(got, quotients) || !inBounds && len(got) != 0 {
					t.Errorf("QuotientsOf(%d, %d) = %v, but %v for %d, %d", times*w, times*h, got, quotients, w, h)
				}
				if gotW, gotH, ok := impl.RectangleFrom(quotients, times*unit); ok != inBounds || ok && (gotW != times*max(w, h) || gotH != times*min(w, h)) || !ok && (gotW != 0 || gotH != 0) {
					t.Errorf("RectangleFrom(%v, %d) = %d, %d, %v", quotients, times*unit, gotW, gotH, ok)
				}
			}
		}
	}
}

// TestGreedySquaresFill has the greedy squares fill the rectangle in their order. There are never more than 40.
func TestGreedySquaresFill(t *testing.T) {
	for w := 1; w <= 40; w++ {
		for h := 1; h <= 40; h++ {
			squares := impl.GreedySquares(w, h)
			if !impl.IsSquared(w, h, squares) {
				t.Errorf("IsSquared(%d, %d, %v) = false", w, h, squares)
			}
			// The last side is cut at least twice, except from a square.
			if got := impl.IsPerfect(w, h, squares); got != (w == h) {
				t.Errorf("IsPerfect(%d, %d, %v) = %v", w, h, squares, got)
			}
		}
	}
}

// codeOf returns quotients and a unit as a text.
func codeOf(quotients []int, unit int) string {
	var words []string
	for _, n := range append(slices.Clone(quotients), unit) {
		words = append(words, impl.FormatInt(n))
	}
	return strings.Join(words, " ")
}

// rectanglesByCodes returns all rectangles with w not less than h by their quotients and last sides, cut one by one.
func rectanglesByCodes() map[string][2]int {
	rectangles := map[string][2]int{}
	for w := 1; w <= 1000; w++ {
		for h := 1; h <= w; h++ {
			squares := cutOneByOne(w, h)
			rectangles[codeOf(runsOf(squares), squares[len(squares)-1])] = [2]int{w, h}
		}
	}
	return rectangles
}

// eachCode calls do with quotients and units of which many, but not all, are of rectangles.
func eachCode(do func(quotients []int, unit int)) {
	for n := range 6 {
		eachNumbers(n, -1, 4, func(l []int) {
			for _, unit := range []int{-1, 0, 1, 2, 5, 9, 10, 11, 200, 1000} {
				do(l, unit)
			}
		})
	}
	for first := -2; first <= 1002; first++ {
		for _, unit := range []int{1, 2, 3, 7, 499, 500, 501, 999, 1000, 1001} {
			do([]int{first}, unit)
			do([]int{1, first}, unit)
			do([]int{first, 2}, unit)
			do([]int{3, first, 1}, unit)
			do([]int{2, first, 3}, unit)
		}
	}
	for n := range 20 {
		for last := range 5 {
			do(append(slices.Repeat([]int{1}, n), last), 1)
			do(append(slices.Repeat([]int{2}, n), last), 1)
			do(append([]int{last}, slices.Repeat([]int{1}, n)...), 1)
		}
	}
}

// TestRectangleFromAgrees looks quotients up among those of all rectangles.
func TestRectangleFromAgrees(t *testing.T) {
	rectangles := rectanglesByCodes()
	if len(rectangles) != 500500 {
		t.Errorf("there are %d different codes, want 500500", len(rectangles))
	}
	found, refused := 0, 0
	eachCode(func(quotients []int, unit int) {
		want, isCode := rectangles[codeOf(quotients, unit)]
		if isCode {
			found++
		} else {
			refused++
		}
		if w, h, ok := impl.RectangleFrom(quotients, unit); w != want[0] || h != want[1] || ok != isCode {
			t.Fatalf("RectangleFrom(%v, %d) = %d, %d, %v, want %v, %v", quotients, unit, w, h, ok, want, isCode)
		}
	})
	if found < 3000 || refused < 50000 {
		t.Errorf("only %d codes of rectangles and %d others were tried", found, refused)
	}
}

// TestSumsOfSquaresAgree adds lists, cuts them apart, and mixes them.
func TestSumsOfSquaresAgree(t *testing.T) {
	for n := range 5 {
		eachNumbers(n, -1, 4, func(l []int) {
			want := 0
			for _, side := range l {
				// As often as there are cells in its square.
				for range side * side {
					want++
				}
			}
			if slices.Contains(l, -1) {
				want = -1
			}
			if got := impl.SumOfSquares(l); got != want {
				t.Fatalf("SumOfSquares(%v) = %d, want %d", l, got, want)
			}
		})
	}
	for n := 0; n <= 1010; n++ {
		list := slices.Repeat([]int{7, 1000, 0}, n)[:n]
		want := -1
		if n <= 1000 {
			want = (n+2)/3*49 + (n+1)/3*1000000
		}
		if got := impl.SumOfSquares(list); got != want {
			t.Errorf("SumOfSquares of %d numbers is %d, want %d", n, got, want)
		}
	}
}
