package tests

import (
	"math"
	"slices"
	"testing"

	"loop.example/g03208/impl"
)

// fan returns n lists of measures in order: from, 1; from + 1, 1; and so on, each with that measure.
func fan(n, from, measure int) [][]int {
	var lists [][]int
	for i := range n {
		lists = append(lists, []int{from + i, 1, measure})
	}
	return lists
}

// measureLists are lists that MeasureListOk accepts.
var measureLists = []struct {
	name string
	a    [][]int
}{
	{"nil", nil},
	{"none", [][]int{}},
	{"level", groups(3, 1, 0, 1)},
	{"upright", groups(3, 0, 1, 1)},
	{"falling", groups(3, -1, 1, 1)},
	{"negative", groups(3, 0, 1, -1)},
	{"1000 as the measure", groups(3, 1, 0, 1000)},
	{"-1000 as the measure", groups(3, 1, 0, -1000)},
	{"1000 as x", groups(3, 1000, 1, 7)},
	{"-1000 as x", groups(3, -1000, 1, 7)},
	{"1000 as y", groups(3, 1, 1000, 7)},
	{"1000 as y, falling", groups(3, -1, 1000, 7)},
	{"1000 and 999", groups(3, 1000, 999, -1000)},
	{"999 and 1000", groups(3, -999, 1000, 1000)},
	{"the same x", groups(3, 1, 0, 3, 1, 1, 3, 1, 2, 3, 1, 1000, 3)},
	{"the same y", groups(3, -1000, 3, 2, -2, 3, 2, -1, 3, 2, 1, 3, 2, 1000, 3, 2)},
	{"x that gets less with y", groups(3, 1, 0, 1, 0, 1, 1, -1, 2, 1, -2, 3, 1)},
	{"opposite x", groups(3, -3, 1, 1, 3, 1, 1)},
	{"exchanged x and y", groups(3, 3, 2, 5, 2, 3, 5)},
	{"of a triangle", groups(3, 1, 0, 3, -3, 1, 1, 0, 1, -1)},
	{"24", fan(24, -12, 1000)},
	{"24 at the end", fan(24, 977, -1000)},
	{"24 at the beginning", fan(24, -1000, 5)},
}

// noMeasureLists are lists that it does not accept.
var noMeasureLists = []struct {
	name string
	a    [][]int
}{
	{"25", fan(25, -12, 1)},
	{"25 with nil at the end", append(fan(24, -12, 1), nil)},
	{"many", fan(1000, -500, 1)},
	{"many nil", make([][]int, 1000)},

	{"nil in it", [][]int{nil}},
	{"an empty list in it", [][]int{{}}},
	{"one number", groups(1, 1)},
	{"two numbers", groups(2, 1, 0)},
	{"four numbers", groups(4, 1, 0, 3, 0)},
	{"two measures in one list", groups(6, 1, 0, 3, 0, 1, 3)},
	{"many numbers", [][]int{slices.Repeat([]int{1}, 300)}},
	{"nil after a measure", [][]int{{1, 0, 3}, nil}},
	{"nil before a measure", [][]int{nil, {1, 0, 3}}},
	{"nil between measures", [][]int{{1, 0, 3}, nil, {0, 1, 3}}},
	{"two numbers after a measure", [][]int{{1, 0, 3}, {0, 1}}},
	{"four numbers after a measure", [][]int{{1, 0, 3}, {0, 1, 3, 3}}},

	{"0 as the measure", groups(3, 0, 1, 0)},
	{"0 as a later measure", groups(3, 1, 0, 1, 0, 1, 0)},
	{"1001 as the measure", groups(3, 1, 0, 1001)},
	{"-1001 as the measure", groups(3, 1, 0, -1001)},
	{"1001 as x", groups(3, 1001, 1, 1)},
	{"-1001 as x", groups(3, -1001, 1, 1)},
	{"1001 as y", groups(3, 1, 1001, 1)},
	{"1001 as y, upright", groups(3, 0, 1001, 1)},
	{"1001 later", groups(3, 1, 0, 1, 1001, 1, 1)},
	{"the greatest int as x", groups(3, math.MaxInt, 1, 1)},
	{"the greatest int as y", groups(3, 1, math.MaxInt, 1)},
	{"the greatest int as the measure", groups(3, 1, 0, math.MaxInt)},
	{"the least int as x", groups(3, math.MinInt, 1, 1)},
	{"the least int as y", groups(3, 1, math.MinInt, 1)},
	{"the least int as the measure", groups(3, 1, 0, math.MinInt)},
	{"ints that wrap around to good ones", groups(3, 1<<32+1, 1<<32, 1<<32+3)},
	{"all the least ints", groups(3, math.MinInt, math.MinInt, math.MinInt)},
	{"all the greatest ints", groups(3, math.MaxInt, math.MaxInt, math.MaxInt)},

	{"a direction twice", groups(3, 1, 0, 3, 1, 0, 3)},
	{"a direction twice with other measures", groups(3, 1, 0, 3, 1, 0, -3)},
	{"a direction twice later", groups(3, 1, 0, 3, 0, 1, 2, 0, 1, 4)},
	{"a direction twice, not in a row", groups(3, 0, 1, 2, 1, 1, 2, 0, 1, 4)},
	{"y out of order", groups(3, 0, 1, 1, 1, 0, 1)},
	{"x out of order", groups(3, 1, 2, 1, -1, 2, 1)},
	{"x in order, but not y", groups(3, -1, 3, 1, 0, 1, 1)},
	{"measures in order, but not the directions", groups(3, 1, 1, 1, 0, 1, 2)},
	{"out of order at the end", groups(3, 1, 0, 1, 0, 1, 1, 1, 1, 1, -1, 1, 1)},
	{"in reverse", groups(3, 0, 1, -1, -3, 1, 1, 1, 0, 3)},
}

// eachNoMeasureList calls do with the lists of the table, and with pairs that are no directions, alone and after others.
func eachNoMeasureList(do func(name string, a [][]int)) {
	for _, c := range noMeasureLists {
		do(c.name, c.a)
	}
	for _, d := range noDirections {
		m := []int{d[0], d[1], 5}
		do("no direction", [][]int{m})
		do("no direction after another one", [][]int{{1, 0, 5}, m})
		do("no direction before another one", [][]int{m, {1, 1000, 5}})
	}
}

func TestMeasureListOk(t *testing.T) {
	for _, c := range measureLists {
		if !impl.MeasureListOk(c.a) {
			t.Errorf("%s: MeasureListOk(%v) = false", c.name, c.a)
		}
	}
	eachNoMeasureList(func(name string, a [][]int) {
		if impl.MeasureListOk(a) {
			t.Errorf("%s: MeasureListOk(%v) = true", name, a)
		}
	})
}

var measureSums = []struct {
	name      string
	a, b, sum [][]int
}{
	{"one left out", groups(3, 1, 0, 3), groups(3, 1, 0, -3, 0, 1, 2), groups(3, 0, 1, 2)},
	{"nothing", nil, nil, nil},
	{"nothing and empty", nil, [][]int{}, nil},
	{"nothing and one", nil, groups(3, 1, 0, 3), groups(3, 1, 0, 3)},
	{"the same", groups(3, 1, 0, 3), groups(3, 1, 0, 3), groups(3, 1, 0, 6)},
	{"all left out", groups(3, 1, 0, 3, -3, 1, 1, 0, 1, -1), groups(3, 1, 0, -3, -3, 1, -1, 0, 1, 1), nil},
	{"the middle one left out", groups(3, 1, 0, 3, -3, 1, 1, 0, 1, -1), groups(3, -3, 1, -1), groups(3, 1, 0, 3, 0, 1, -1)},
	{"the first and the last one left out", groups(3, 1, 0, 3, -3, 1, 1, 0, 1, -1), groups(3, 1, 0, -3, 0, 1, 1), groups(3, -3, 1, 1)},
	{"different signs", groups(3, 1, 0, 3, 0, 1, -5), groups(3, 1, 0, -5, 0, 1, 3), groups(3, 1, 0, -2, 0, 1, -2)},
	{"all of one first", groups(3, 1, 0, 1, 0, 1, 2), groups(3, 0, 1, 3, 1, 1, 4, -1, 2, 5), groups(3, 1, 0, 1, 0, 1, 5, 1, 1, 4, -1, 2, 5)},
	{"in turn", groups(3, -2, 1, 1, 0, 1, 2, 2, 1, 3), groups(3, 1, 0, 4, -1, 1, 5, 1, 1, 6, -1, 2, 7), groups(3, 1, 0, 4, -2, 1, 1, -1, 1, 5, 0, 1, 2, 1, 1, 6, 2, 1, 3, -1, 2, 7)},
	{"ordered by y and not by x", groups(3, 1000, 1, 1), groups(3, -1000, 3, 1), groups(3, 1000, 1, 1, -1000, 3, 1)},
	{"beyond 1000", groups(3, 1, 0, 1000), groups(3, 1, 0, 1000), groups(3, 1, 0, 2000)},
	{"beyond 1000 by one", groups(3, 1, 0, 1, 1, 1, 7), groups(3, 1, 0, 1000), groups(3, 1, 0, 1001, 1, 1, 7)},
	{"beyond -1000", groups(3, 1000, 999, -1000), groups(3, 1000, 999, -1000), groups(3, 1000, 999, -2000)},
	{"from both ends to 0", groups(3, 1, 1000, -1000), groups(3, 1, 1000, 1000), nil},
	{"24 and 24", fan(24, 0, 1), fan(24, 0, 1), fan(24, 0, 2)},
	{"24 and 24 others", fan(24, -24, 1000), fan(24, 0, 1000), fan(48, -24, 1000)},
	{"24 and 24 against them", fan(24, 0, 1000), fan(24, 0, -1000), nil},
	{"24 and 24, some of them the same", fan(24, 0, 1), fan(24, 12, -1), append(fan(12, 0, 1), fan(12, 24, -1)...)},
}

func TestAddMeasures(t *testing.T) {
	for _, c := range measureSums {
		if got, ok := impl.AddMeasures(c.a, c.b); !sameLists(got, c.sum) || !ok {
			t.Errorf("%s: AddMeasures(%v, %v) = %v, %v, want %v, true", c.name, c.a, c.b, got, ok, c.sum)
		}
		if got, ok := impl.AddMeasures(c.b, c.a); !sameLists(got, c.sum) || !ok {
			t.Errorf("%s: AddMeasures(%v, %v) = %v, %v, want %v, true", c.name, c.b, c.a, got, ok, c.sum)
		}
	}
	for _, c := range measureLists {
		if got, ok := impl.AddMeasures(c.a, nil); !sameLists(got, c.a) || !ok {
			t.Errorf("%s: AddMeasures(%v, nil) = %v, %v", c.name, c.a, got, ok)
		}
	}
}

func TestAddMeasuresRefuses(t *testing.T) {
	fine := [][][]int{nil, groups(3, 1, 0, 3), groups(3, 1, 0, -3, 0, 1, 2), fan(24, -12, -1)}
	eachNoMeasureList(func(name string, a [][]int) {
		for _, b := range append(fine, a) {
			if got, ok := impl.AddMeasures(a, b); len(got) != 0 || ok {
				t.Errorf("%s: AddMeasures(%v, %v) = %v, %v, want none, false", name, a, b, got, ok)
			}
			if got, ok := impl.AddMeasures(b, a); len(got) != 0 || ok {
				t.Errorf("%s: AddMeasures(%v, %v) = %v, %v, want none, false", name, b, a, got, ok)
			}
		}
	})
}

// isMeasureList tells what the chapter says of a list, with directions found by trying all divisors.
func isMeasureList(a [][]int) bool {
	if len(a) > 24 {
		return false
	}
	for i, m := range a {
		if len(m) != 3 || min(m[0], m[1], m[2]) < -1000 || max(m[0], m[1], m[2]) > 1000 || m[2] == 0 {
			return false
		}
		x, y := m[0], m[1]
		if y < 0 || y == 0 && x != 1 {
			return false
		}
		for divisor := 2; divisor <= y; divisor++ {
			if x%divisor == 0 && y%divisor == 0 {
				return false
			}
		}
		// x is never so great that it outweighs y.
		if i > 0 && a[i-1][1]*10000+a[i-1][0] >= y*10000+x {
			return false
		}
	}
	return true
}

// summed adds in a table of all directions with small numbers.
func summed(a, b [][]int) [][]int {
	const far = 5
	var table [far + 1][2*far + 1]int
	for _, m := range slices.Concat(a, b) {
		table[m[1]][m[0]+far] += m[2]
	}
	var sums [][]int
	for y, row := range table {
		for i, n := range row {
			if n != 0 {
				sums = append(sums, []int{i - far, y, n})
			}
		}
	}
	return sums
}

func TestMeasureListsAgree(t *testing.T) {
	var rows [][]int
	for y := -1; y <= 2; y++ {
		for x := -2; x <= 2; x++ {
			for n := -1; n <= 1; n++ {
				rows = append(rows, []int{x, y, n})
			}
		}
	}
	check := func(a [][]int) {
		if got := impl.MeasureListOk(a); got != isMeasureList(a) {
			t.Fatalf("MeasureListOk(%v) = %v", a, got)
		}
	}
	for _, m := range rows {
		for _, n := range rows {
			check([][]int{m, n})
			for _, o := range rows {
				check([][]int{m, n, o})
			}
		}
	}
	for x := -1003; x <= 1003; x++ {
		for _, y := range []int{-1, 0, 1, 2, 3, 6, 30, 210, 499, 500, 997, 998, 999, 1000, 1001} {
			check([][]int{{x, y, 1}})
			check([][]int{{1, 0, 1}, {x, y, -7}})
			check([][]int{{y, x, 1000}})
			check([][]int{{1, 0, x}})
		}
	}
}

// TestSumsOfMeasuresAgree adds all lists of at most two of a few measures.
func TestSumsOfMeasuresAgree(t *testing.T) {
	lists := [][][]int{nil}
	var rows [][]int
	for _, d := range [][2]int{{1, 0}, {-2, 1}, {0, 1}, {5, 1}, {-1, 2}, {4, 5}} {
		for _, n := range []int{-1000, -2, -1, 1, 2, 1000} {
			rows = append(rows, []int{d[0], d[1], n})
		}
	}
	for i, m := range rows {
		lists = append(lists, [][]int{m})
		for _, n := range rows[i+1:] {
			if n[0] != m[0] || n[1] != m[1] {
				lists = append(lists, [][]int{m, n})
			}
		}
	}
	for i, a := range lists {
		for _, b := range lists[:i+1] {
			ab, ok := impl.AddMeasures(a, b)
			ba, okToo := impl.AddMeasures(b, a)
			if want := summed(a, b); !ok || !okToo || !sameLists(ab, want) || !sameLists(ba, want) {
				t.Fatalf("AddMeasures(%v, %v) = %v, %v, and %v, %v in the other order, want %v", a, b, ab, ok, ba, okToo, want)
			}
		}
	}
}

// TestSumsOfSumsAgree adds three lists in both ways, and takes one off again.
func TestSumsOfSumsAgree(t *testing.T) {
	lists := [][][]int{nil, groups(3, 1, 0, 3), groups(3, 0, 1, -4), groups(3, 1, 0, -3, 0, 1, 2), groups(3, -2, 1, 1, 0, 1, 2, 1, 1, 1), groups(3, -2, 1, -1, 1, 1, -1), fan(10, -5, 2), fan(12, -4, -2)}
	for _, a := range lists {
		var against [][]int
		for _, m := range a {
			against = append(against, []int{m[0], m[1], -m[2]})
		}
		for _, b := range lists {
			ab, _ := impl.AddMeasures(a, b)
			if got, ok := impl.AddMeasures(against, ab); !sameLists(got, b) || !ok {
				t.Errorf("%v, with %v added and taken off, is %v, %v", b, a, got, ok)
			}
			for _, c := range lists {
				bc, _ := impl.AddMeasures(b, c)
				left, ok := impl.AddMeasures(ab, c)
				right, okToo := impl.AddMeasures(a, bc)
				if !ok || !okToo || !sameLists(left, right) {
					t.Errorf("%v, %v and %v have the sums %v and %v", a, b, c, left, right)
				}
			}
		}
	}
}
