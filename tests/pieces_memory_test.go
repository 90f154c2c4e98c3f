package tests

import (
	"slices"
	"testing"

	"loop.example/g03208/impl"
)

// roomyInts returns a list with these numbers and spare capacity behind them, and the whole memory of it.
func roomyInts(numbers []int) (list, memory []int) {
	memory = append(slices.Clone(numbers), -5, 1, 77)
	return memory[:len(numbers)], memory
}

// cutLists returns the lists that the functions make of a shape with a cut and with pieces.
func cutLists(w, h, mask int, cut, pieces []int) [][]int {
	cutOf, _ := impl.CutOf(w, h, mask, pieces)
	halves, _ := impl.BestHalves(w, h, mask)
	lists := [][]int{impl.PiecesOf(w, h, mask, cut), impl.SizesOf(w, h, mask, cut), cutOf, halves}
	for _, n := range []int{-1, 0, 1, 2, 3, 9, 10} {
		first, _ := impl.FirstCut(w, h, mask, n)
		lists = append(lists, first)
	}
	return lists
}

// cutAnswers returns the other answers.
func cutAnswers(w, h, mask int, cut, pieces []int) []int {
	_, made := impl.CutOf(w, h, mask, pieces)
	_, first := impl.FirstCut(w, h, mask, 3)
	_, halved := impl.BestHalves(w, h, mask)
	answers := []int{impl.CutLength(w, h, mask, cut), impl.CountCuts(w, h, mask, 2), impl.CountCuts(w, h, mask, 8), impl.CountCuts(w, h, mask, -1)}
	for i, is := range []bool{impl.CutOk(w, h, mask, cut), made, first, halved} {
		if is {
			answers = append(answers, i)
		}
	}
	return answers
}

// eachCutOrNot calls do with shapes with cuts and pieces of them, and with others.
func eachCutOrNot(do func(w, h, mask int, cut, pieces []int)) {
	for _, c := range cellCuts {
		w, h, mask, cut := drawnCut(c.text)
		pieces := masksOf(c.pieces...)
		do(w, h, mask, cut, pieces)
		// In another order, and spoiled.
		slices.Reverse(pieces)
		do(w, h, mask, cut, pieces)
		do(w, h, mask, cut[1:], pieces[1:])
		do(w, h, mask-1<<(w*h), cut, pieces)
	}
	for _, c := range noCuts {
		w, h, mask := drawn(c.text)
		do(w, h, mask, c.cut, []int{mask})
	}
	for _, c := range noPieces {
		w, h, mask := drawn(c.text)
		do(w, h, mask, []int{0, 0, 1, 1}, c.pieces)
	}
	do(0, 7, 15, []int{0, 0, 1, 1}, []int{3, 12})
}

func TestCutArgumentsAreUnchanged(t *testing.T) {
	eachCutOrNot(func(w, h, mask int, cut, pieces []int) {
		list, memory := roomyInts(cut)
		other, otherMemory := roomyInts(pieces)
		before, otherBefore := slices.Clone(memory), slices.Clone(otherMemory)
		lists, answers := cutLists(w, h, mask, list, other), cutAnswers(w, h, mask, list, other)
		if !slices.Equal(memory, before) || !slices.Equal(otherMemory, otherBefore) {
			t.Errorf("the memory of a list was changed from %v and %v to %v and %v", before, otherBefore, memory, otherMemory)
		}
		// Answers are the same when the calls come again, after others, and do not depend on the capacity.
		cutLists(3, 3, 511, []int{0, 1, 2, 3, 4, 5, 6, 7, 8}, []int{511})
		clipped, otherClipped := slices.Clip(slices.Clone(cut)), slices.Clip(slices.Clone(pieces))
		if again, answersAgain := cutLists(w, h, mask, clipped, otherClipped), cutAnswers(w, h, mask, clipped, otherClipped); !sameLists(lists, again) || !slices.Equal(answers, answersAgain) {
			t.Errorf("the answers about %d, %d, %d, %v and %v change from %v, %v to %v, %v", w, h, mask, cut, pieces, lists, answers, again, answersAgain)
		}
	})
}

func TestNilAndEmptyCutsAreTheSame(t *testing.T) {
	for _, mask := range []int{0, 1, 3, 15, -1} {
		if nils, empties := cutLists(2, 2, mask, nil, nil), cutLists(2, 2, mask, []int{}, []int{}); !sameLists(nils, empties) {
			t.Errorf("the answers about 2, 2, %d are %v for nil lists and %v for empty ones", mask, nils, empties)
		}
		if nils, empties := cutAnswers(2, 2, mask, nil, nil), cutAnswers(2, 2, mask, []int{}, []int{}); !slices.Equal(nils, empties) {
			t.Errorf("the answers about 2, 2, %d are %v for nil lists and %v for empty ones", mask, nils, empties)
		}
	}
}

func TestCutsShareNoMemory(t *testing.T) {
	eachCutOrNot(func(w, h, mask int, cut, pieces []int) {
		list, memory := roomyInts(cut)
		other, otherMemory := roomyInts(pieces)
		first, second := cutLists(w, h, mask, list, other), cutLists(w, h, mask, list, other)
		checkListsApart(t, [][][]int{{memory}, {otherMemory}}, first, second)
		var want [][]int
		for _, l := range first {
			want = append(want, slices.Clone(l))
		}
		spoil(first)
		if third := cutLists(w, h, mask, list, other); !sameLists(second, want) || !sameLists(third, want) {
			t.Errorf("the answers about %d, %d, %d, %v and %v are %v and %v after earlier ones were changed, want %v", w, h, mask, cut, pieces, second, third, want)
		}
	})
}
