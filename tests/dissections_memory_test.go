package tests

import (
	"math"
	"slices"
	"testing"

	"loop.example/g03208/impl"
)

// dissectionCase is what the functions of dissections are asked with: two shapes of a table, or what is none, and a list of numbers for each, as a cut of it or as pieces.
type dissectionCase struct {
	w, h, a, b   int
	cutA, cutB   []int
	listA, listB []int
}

// lists returns the lists that the functions make.
func (c dissectionCase) lists() [][]int {
	matched, _ := impl.MatchPieces(c.w, c.h, c.listA, c.listB)
	joined, _ := impl.JoinedCut(c.w, c.h, c.a, c.cutA, c.cutB)
	twice, _ := impl.JoinedCut(c.w, c.h, c.b, c.cutB, c.cutB)
	lists := [][]int{matched, joined, twice}
	for _, pieces := range []int{-1, 0, 1, 2, 3, 7, 8} {
		first, second, _ := impl.Dissect(c.w, c.h, c.a, c.b, pieces)
		itself, again, _ := impl.Dissect(c.w, c.h, c.a, c.a, pieces)
		lists = append(lists, first, second, itself, again)
	}
	return lists
}

// answers returns the other answers.
func (c dissectionCase) answers() []int {
	_, matched := impl.MatchPieces(c.w, c.h, c.listA, c.listB)
	_, joined := impl.JoinedCut(c.w, c.h, c.a, c.cutA, c.cutB)
	_, _, dissected := impl.Dissect(c.w, c.h, c.a, c.b, 3)
	answers := []int{impl.FewestPieces(c.w, c.h, c.a, c.b), impl.FewestPieces(c.w, c.h, c.b, c.a)}
	for i, is := range []bool{
		matched, joined, dissected, impl.SamePiece(c.w, c.h, c.a, c.b), impl.IsDissection(c.w, c.h, c.a, c.b, c.cutA, c.cutB),
		impl.IsFiner(c.w, c.h, c.a, c.cutA, c.cutB), impl.IsFiner(c.w, c.h, c.b, c.cutB, c.cutB),
	} {
		if is {
			answers = append(answers, -7-i)
		}
	}
	return answers
}

// roomy returns the same with spare capacity behind the lists, and the whole memory of each.
func (c dissectionCase) roomy() (dissectionCase, [][]int) {
	memories := make([][]int, 4)
	c.cutA, memories[0] = roomyInts(c.cutA)
	c.cutB, memories[1] = roomyInts(c.cutB)
	c.listA, memories[2] = roomyInts(c.listA)
	c.listB, memories[3] = roomyInts(c.listB)
	return c, memories
}

// clipped returns the same in other memory without spare capacity.
func (c dissectionCase) clipped() dissectionCase {
	for _, l := range []*[]int{&c.cutA, &c.cutB, &c.listA, &c.listB} {
		*l = slices.Clip(slices.Clone(*l))
	}
	return c
}

// eachDissectionCase calls do with shapes that are dissected, cuts that are joined, pieces that are matched, and others.
func eachDissectionCase(do func(c dissectionCase)) {
	for _, d := range dissections {
		w, h, a, cutA := drawnCut(d.a)
		_, _, b, cutB := drawnCut(d.b)
		c := dissectionCase{w, h, a, b, cutA, cutB, impl.PiecesOf(w, h, a, cutA), impl.PiecesOf(w, h, b, cutB)}
		do(c)
		do(dissectionCase{w, h, a - 1<<(w*h), b, cutA, cutB, c.listA, c.listB[1:]})
		do(dissectionCase{w, 7, a, b, cutA, cutB, c.listA, c.listB})
		do(dissectionCase{w, h, a, math.MaxInt, cutA[1:], nil, nil, nil})
	}
	for _, j := range joinedCuts {
		w, h, mask, a := drawnCut(j.a)
		b := cutOnly(j.b)
		do(dissectionCase{w, h, mask, mask, a, b, a, b})
	}
	for _, m := range matchedPieces {
		w, h, _ := drawn(m.a[0])
		a, b := masksOf(m.a...), masksOf(m.b...)
		do(dissectionCase{w, h, a[0], b[0], []int{0}, []int{0, 1}, a, b})
	}
}

func TestDissectionArgumentsAreUnchanged(t *testing.T) {
	eachDissectionCase(func(c dissectionCase) {
		given, memories := c.roomy()
		_, before := c.roomy()
		lists, answers := given.lists(), given.answers()
		if !sameLists(memories, before) {
			t.Errorf("the memory of the lists of %v was changed from %v to %v", c, before, memories)
		}
		// Answers are the same when the calls come again, after others, and do not depend on the capacity.
		other := dissectionCase{3, 3, 127, 508, []int{0, 1, 2, 3, 4, 5, 6}, []int{0, 0, 0, 0, 0, 0, 0}, []int{1, 6}, []int{3, 8}}
		other.lists()
		other.answers()
		again := c.clipped()
		if !sameLists(lists, again.lists()) || !slices.Equal(answers, again.answers()) {
			t.Errorf("the answers about %v change from %v, %v to %v, %v", c, lists, answers, again.lists(), again.answers())
		}
	})
}

func TestDissectionsShareNoMemory(t *testing.T) {
	eachDissectionCase(func(c dissectionCase) {
		given, memories := c.roomy()
		first, second := given.lists(), given.lists()
		checkListsApart(t, [][][]int{memories}, first, second)
		var want [][]int
		for _, l := range first {
			want = append(want, slices.Clone(l))
		}
		spoil(first)
		if third := given.lists(); !sameLists(second, want) || !sameLists(third, want) {
			t.Errorf("the answers about %v are %v and %v after earlier ones were changed, want %v", c, second, third, want)
		}
	})
}

func TestNilAndEmptyListsForDissectionsAreTheSame(t *testing.T) {
	for _, a := range []int{0, 1, 3, 15, -1, 16} {
		for _, b := range []int{0, 8, 12, -1} {
			nils := dissectionCase{2, 2, a, b, nil, nil, nil, nil}
			empties := dissectionCase{2, 2, a, b, []int{}, []int{}, []int{}, []int{}}
			if !sameLists(nils.lists(), empties.lists()) || !slices.Equal(nils.answers(), empties.answers()) {
				t.Errorf("the answers about 2, 2, %d, %d are %v, %v for nil lists and %v, %v for empty ones", a, b, nils.lists(), nils.answers(), empties.lists(), empties.answers())
			}
		}
	}
}

// TestOneListForBoth gives the same memory as both lists, which is not changed either.
func TestOneListForBoth(t *testing.T) {
	eachDissectionCase(func(c dissectionCase) {
		c.b, c.cutB, c.listB = c.a, c.cutA, c.listA
		given, memories := c.roomy()
		given.cutB, given.listB = given.cutA, given.listA
		_, before := c.roomy()
		if apart := c.clipped(); !sameLists(given.lists(), apart.lists()) || !slices.Equal(given.answers(), apart.answers()) {
			t.Errorf("the answers about %v change if both lists are one", c)
		}
		if !sameLists(memories, before) {
			t.Errorf("the memory of the lists of %v was changed from %v to %v", c, before, memories)
		}
	})
}
