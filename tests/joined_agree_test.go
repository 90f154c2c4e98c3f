package tests

import (
	"math/bits"
	"slices"
	"testing"

	"loop.example/g03208/impl"
)

// joinedByNeighbors joins the neighbors that are in the same piece of both cuts.
func joinedByNeighbors(w, h, mask int, a, b []int) []int {
	pairs := neighborPairs(w, h, mask)
	first := joinedCells(pairs, func(j int) bool {
		i, k := pairs[j][0], pairs[j][1]
		return a[i] == a[k] && b[i] == b[k]
	})
	return numbered(first[:len(a)])
}

// isFinerByCells tells by pairs of cells whether all that are in the same piece of one cut are in the same piece of the other one.
func isFinerByCells(a, b []int) bool {
	for i := range a {
		for k := range i {
			if a[i] == a[k] && b[i] != b[k] {
				return false
			}
		}
	}
	return true
}

// checkJoined fails unless JoinedCut and IsFiner tell of two cuts what is so, and returns what they are joined to.
func checkJoined(t *testing.T, w, h, mask int, a, b []int) []int {
	t.Helper()
	want := joinedByNeighbors(w, h, mask, a, b)
	joined, ok := impl.JoinedCut(w, h, mask, a, b)
	back, okBack := impl.JoinedCut(w, h, mask, b, a)
	if !ok || !okBack || !slices.Equal(joined, want) || !slices.Equal(back, want) {
		t.Fatalf("JoinedCut(%d, %d, %d, ..) of %v and %v = %v, %v and %v, %v from the other side, want %v", w, h, mask, a, b, joined, ok, back, okBack, want)
	}
	if !impl.CutOk(w, h, mask, joined) || !impl.IsFiner(w, h, mask, joined, a) || !impl.IsFiner(w, h, mask, joined, b) {
		t.Fatalf("JoinedCut(%d, %d, %d, %v, %v) = %v, which is no cut, or not finer", w, h, mask, a, b, joined)
	}
	finer, coarser := isFinerByCells(a, b), isFinerByCells(b, a)
	if got, back := impl.IsFiner(w, h, mask, a, b), impl.IsFiner(w, h, mask, b, a); got != finer || back != coarser {
		t.Fatalf("IsFiner(%d, %d, %d, ..) of %v and %v = %v and %v from the other side, want %v and %v", w, h, mask, a, b, got, back, finer, coarser)
	}
	if finer != slices.Equal(joined, a) || coarser != slices.Equal(joined, b) || finer && coarser && !slices.Equal(a, b) {
		t.Fatalf("JoinedCut(%d, %d, %d, %v, %v) = %v, and IsFiner is %v, and %v from the other side", w, h, mask, a, b, joined, finer, coarser)
	}
	return joined
}

// eachPairOfCuts calls do with so many pairs of cuts of shapes, or with all of them if there are fewer.
func eachPairOfCuts(most int, do func(w, h, mask int, a, b []int)) {
	eachCutShape(func(w, h, mask int) {
		cuts := cutsByJoins(w, h, mask)
		pairs := len(cuts) * len(cuts)
		every := max(1, pairs/most)
		for k := mask % every; k < pairs; k += every {
			do(w, h, mask, cuts[k/len(cuts)], cuts[k%len(cuts)])
		}
	})
}

func TestJoinedCutsAgree(t *testing.T) {
	finer, several := 0, 0
	eachPairOfCuts(60, func(w, h, mask int, a, b []int) {
		joined := checkJoined(t, w, h, mask, a, b)
		if slices.Equal(joined, a) {
			finer++
		}
		// Common cells of two pieces in several parts.
		common := map[[2]int]bool{}
		for i := range a {
			common[[2]int{a[i], b[i]}] = true
		}
		if slices.Max(joined)+1 > len(common) {
			several++
		}
	})
	if finer < 1000 || several < 100 {
		t.Errorf("only %d cuts that are finer, and %d with common cells in several parts, were tried", finer, several)
	}
}

// TestAllJoinedCutsAgree has all pairs of cuts of some shapes.
func TestAllJoinedCutsAgree(t *testing.T) {
	for _, text := range []string{"#", "##/##", "###/###", "##/##/##", "###/#.#", "##.#/##.#", "######", "#.#.#./.#.#.#", "##/.#/##"} {
		w, h, mask := drawn(text)
		cuts := cutsByJoins(w, h, mask)
		for _, a := range cuts {
			for _, b := range cuts {
				joined := checkJoined(t, w, h, mask, a, b)
				// No cut that is finer than both has pieces that are not within those of the joined one.
				for _, c := range cuts {
					if impl.IsFiner(w, h, mask, c, a) && impl.IsFiner(w, h, mask, c, b) != impl.IsFiner(w, h, mask, c, joined) {
						t.Fatalf("JoinedCut(%d, %d, %d, %v, %v) = %v, and %v is finer than just one of both", w, h, mask, a, b, joined, c)
					}
				}
			}
		}
	}
}

// TestSpecialCutsAgree joins each cut with itself, with the one into single cells and with the one into the parts of the shape, which is one piece if it is whole.
func TestSpecialCutsAgree(t *testing.T) {
	whole := 0
	eachCutShape(func(w, h, mask int) {
		cells := bits.OnesCount(uint(mask))
		var single []int
		for i := range cells {
			single = append(single, i)
		}
		parts, _ := impl.CutOf(w, h, mask, impl.PartsOf(w, h, mask))
		if impl.CutOk(w, h, mask, make([]int, cells)) {
			whole++
			parts = make([]int, cells)
		}
		for k, cut := range cutsByJoins(w, h, mask) {
			// Some of the cuts of the shapes with many.
			if k > 20 && k%11 > 0 {
				continue
			}
			for _, pair := range []struct{ other, want []int }{{cut, cut}, {single, single}, {parts, cut}} {
				if got := checkJoined(t, w, h, mask, cut, pair.other); !slices.Equal(got, pair.want) {
					t.Fatalf("JoinedCut(%d, %d, %d, %v, %v) = %v, want %v", w, h, mask, cut, pair.other, got, pair.want)
				}
			}
			if !impl.IsFiner(w, h, mask, cut, cut) || !impl.IsFiner(w, h, mask, single, cut) || !impl.IsFiner(w, h, mask, cut, parts) {
				t.Fatalf("IsFiner(%d, %d, %d, ..) does not tell what is finer of %v, %v and %v", w, h, mask, single, cut, parts)
			}
		}
	})
	if whole < 500 {
		t.Errorf("only %d whole shapes were tried", whole)
	}
}

// TestJoinedCutsOfThree joins three cuts in both orders.
func TestJoinedCutsOfThree(t *testing.T) {
	eachPairOfCuts(15, func(w, h, mask int, a, b []int) {
		for pieces := range 5 {
			c, ok := impl.FirstCut(w, h, mask, pieces)
			if !ok {
				continue
			}
			ab, _ := impl.JoinedCut(w, h, mask, a, b)
			bc, _ := impl.JoinedCut(w, h, mask, b, c)
			left, okLeft := impl.JoinedCut(w, h, mask, ab, c)
			right, okRight := impl.JoinedCut(w, h, mask, a, bc)
			if !okLeft || !okRight || !slices.Equal(left, right) {
				t.Fatalf("%v, %v and %v, cuts of %d in the table %d, %d, are joined to %v and, in the other order, to %v", a, b, c, mask, w, h, left, right)
			}
		}
	})
}

// checkAllPairsOfNumbers fails unless JoinedCut and IsFiner refuse just the pairs of lists that are not both cuts.
func checkAllPairsOfNumbers(t *testing.T, w, h, mask int, lists [][]int) {
	t.Helper()
	for _, a := range lists {
		for _, b := range lists {
			if impl.CutOk(w, h, mask, a) && impl.CutOk(w, h, mask, b) {
				checkJoined(t, w, h, mask, a, b)
			} else {
				checkUnjoined(t, "not both cuts", w, h, mask, a, b)
			}
		}
	}
}

// TestAllNumbersToJoin has all lists of numbers for shapes of few cells.
func TestAllNumbersToJoin(t *testing.T) {
	for _, text := range []string{"...", "#..", "##.", "#.#", "###", "##/.#", "#./.#"} {
		w, h, mask := drawn(text)
		var lists [][]int
		for n := range 5 {
			eachNumbers(n, -1, min(3, bits.OnesCount(uint(mask))), func(l []int) { lists = append(lists, l) })
		}
		checkAllPairsOfNumbers(t, w, h, mask, lists)
	}
}

// TestDissectionsOverAnother goes from one shape over another one to a third one: the joined cut of the one between is a dissection of the others.
func TestDissectionsOverAnother(t *testing.T) {
	tried, shorter := 0, 0
	eachPairToDissect(func(w, h, a, b int) {
		through := impl.FewestPieces(w, h, a, b)
		c := 1<<bits.OnesCount(uint(b)) - 1
		if through < 0 || (a+b)%3 > 0 {
			return
		}
		_, cutB, _ := impl.Dissect(w, h, a, b, through)
		on := impl.FewestPieces(w, h, b, c)
		otherB, _, _ := impl.Dissect(w, h, b, c, on)
		joined, ok := impl.JoinedCut(w, h, b, cutB, otherB)
		pieces := len(impl.PiecesOf(w, h, b, joined))
		direct := impl.FewestPieces(w, h, a, c)
		if !ok || direct < 0 || direct > pieces {
			t.Fatalf("%d, %d and %d in the table %d, %d: %d pieces, but %d by the joined cut %v", a, b, c, w, h, direct, pieces, joined)
		}
		if _, _, ok := impl.Dissect(w, h, a, c, pieces); !ok {
			t.Fatalf("Dissect(%d, %d, %d, %d, %d) fails, but there is the joined cut %v of %d", w, h, a, c, pieces, joined, b)
		}
		tried++
		if direct < pieces {
			shorter++
		}
	})
	if tried < 500 || shorter < 50 || shorter > tried-50 {
		t.Errorf("only %d ways over another shape were tried, %d of them with more pieces than needed", tried, shorter)
	}
}
