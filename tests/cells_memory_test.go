package tests

import (
	"slices"
	"strings"
	"testing"

	"loop.example/g03208/impl"
)

// shapeAnswers returns the numbers that the functions tell of a shape, or of what is none.
func shapeAnswers(w, h, mask int) []int {
	answers := []int{impl.CellCount(w, h, mask), impl.CornerOf(w, h, mask), impl.NameOfShape(w, h, mask), impl.RimOf(w, h, mask)}
	for m := -1; m <= 8; m++ {
		moved, ok := impl.MovedShape(w, h, mask, m)
		answers = append(answers, moved)
		if ok {
			answers = append(answers, -7)
		}
	}
	for i, is := range []bool{impl.ShapeOk(w, h, mask), impl.IsWhole(w, h, mask)} {
		if is {
			answers = append(answers, -8-i)
		}
	}
	return answers
}

// eachShapeOrNot calls do with shapes and with numbers that are none.
func eachShapeOrNot(do func(w, h, mask int)) {
	eachNoShape(do)
	eachGreatShape(do)
}

func TestShapesAnswerTheSameAgain(t *testing.T) {
	eachShapeOrNot(func(w, h, mask int) {
		answers, parts, text := shapeAnswers(w, h, mask), impl.PartsOf(w, h, mask), impl.FormatShape(w, h, mask)
		// Nothing is kept of another shape in between.
		shapeAnswers(6, 6, 1<<36-1)
		shapeAnswers(h, w, mask)
		if again := shapeAnswers(w, h, mask); !slices.Equal(answers, again) {
			t.Errorf("the answers about %d, %d, %d change from %v to %v", w, h, mask, answers, again)
		}
		if again := impl.PartsOf(w, h, mask); !slices.Equal(parts, again) {
			t.Errorf("PartsOf(%d, %d, %d) changes from %v to %v", w, h, mask, parts, again)
		}
		if again := impl.FormatShape(w, h, mask); text != again {
			t.Errorf("FormatShape(%d, %d, %d) changes from %q to %q", w, h, mask, text, again)
		}
	})
}

func TestPartsShareNoMemory(t *testing.T) {
	eachShapeOrNot(func(w, h, mask int) {
		first, second := impl.PartsOf(w, h, mask), impl.PartsOf(w, h, mask)
		if intsOverlap(first, second) {
			t.Errorf("two results of PartsOf(%d, %d, %d) share memory", w, h, mask)
		}
		want := slices.Clone(first)
		for i := range first {
			first[i] = -77
		}
		_ = append(first, -78)
		if third := impl.PartsOf(w, h, mask); !slices.Equal(second, want) || !slices.Equal(third, want) {
			t.Errorf("PartsOf(%d, %d, %d) = %v and %v after an earlier result was changed, want %v", w, h, mask, second, third, want)
		}
	})
}

func TestTextsOfShapesShareNoMemory(t *testing.T) {
	eachGreatShape(func(w, h, mask int) {
		checkApart(t, "FormatShape", impl.FormatShape(w, h, mask), impl.FormatShape(w, h, mask))
	})
	eachTable(func(w, h int) {
		first := impl.FormatShape(w, h, 0)
		checkApart(t, "FormatShape", impl.FormatShape(w, h, 0), first)
		checkApart(t, "FormatShape", impl.FormatShape(h, w, 1), first)
	})
}

func TestParseShapeLeavesItsTextAlone(t *testing.T) {
	for _, text := range []string{"#", "##./#..", "##/#", "##./#..\n", textOf("#.#.#.", 6), textOf("#######", 7), "\xff/#", "", "/"} {
		given := strings.Clone(text)
		w, h, mask, ok := impl.ParseShape(given)
		if given != text {
			t.Errorf("ParseShape changes its text from %q to %q", text, given)
		}
		checkApart(t, "FormatShape", impl.FormatShape(w, h, mask), given)
		impl.ParseShape("###/###")
		if gotW, gotH, got, okAgain := impl.ParseShape(given); gotW != w || gotH != h || got != mask || okAgain != ok {
			t.Errorf("ParseShape(%q) = %d, %d, %d, %v and then %d, %d, %d, %v", text, w, h, mask, ok, gotW, gotH, got, okAgain)
		}
	}
}
