package tests

import (
	"math/bits"
	"slices"
	"testing"

	"loop.example/g03208/impl"
)

// neighborPairs returns the pairs of indices of cells, among those of the shape by rows, that have a side in common.
func neighborPairs(w, h, mask int) [][2]int {
	cells := listedCells(w, h, mask)
	var pairs [][2]int
	for k, b := range cells {
		for i, a := range cells[:k] {
			if (a.X-b.X)*(a.X-b.X)+(a.Y-b.Y)*(a.Y-b.Y) == 1 {
				pairs = append(pairs, [2]int{i, k})
			}
		}
	}
	return pairs
}

// cutsByJoins joins each set of pairs of neighbors, and returns the cuts that this makes, each once, in lexicographic order.
func cutsByJoins(w, h, mask int) [][]int {
	cells := len(listedCells(w, h, mask))
	pairs := neighborPairs(w, h, mask)
	seen := map[[9]int]bool{}
	var cuts [][]int
	for set := range 1 << len(pairs) {
		first := joinedCells(pairs, func(j int) bool { return set&(1<<j) != 0 })
		if !seen[first] {
			seen[first] = true
			cuts = append(cuts, numbered(first[:cells]))
		}
	}
	slices.SortFunc(cuts, slices.Compare[[]int])
	return cuts
}

// joinedCells joins some pairs of at most nine cells, and returns, for each cell, the first one with which it is joined then.
func joinedCells(pairs [][2]int, isJoined func(j int) bool) [9]int {
	first := [9]int{0, 1, 2, 3, 4, 5, 6, 7, 8}
	for j, pair := range pairs {
		if !isJoined(j) {
			continue
		}
		low, high := min(first[pair[0]], first[pair[1]]), max(first[pair[0]], first[pair[1]])
		for i := range first {
			if first[i] == high {
				first[i] = low
			}
		}
	}
	return first
}

// numbered gives the numbers from 0 on to the different numbers of a list, in the order in which they occur.
func numbered(list []int) []int {
	var seen, l []int
	for _, n := range list {
		if !slices.Contains(seen, n) {
			seen = append(seen, n)
		}
		l = append(l, slices.Index(seen, n))
	}
	return l
}

// partedNeighbors counts the pairs of neighbors with different numbers.
func partedNeighbors(w, h, mask int, cut []int) int {
	parted := 0
	for _, pair := range neighborPairs(w, h, mask) {
		if cut[pair[0]] != cut[pair[1]] {
			parted++
		}
	}
	return parted
}

// eachSmallCutShape calls do with all shapes of the tables with at most 9 cells, but the empty ones.
func eachSmallCutShape(do func(w, h, mask int)) {
	eachSmallShape(func(w, h, mask int) {
		if w*h <= 9 && mask != 0 {
			do(w, h, mask)
		}
	})
}

// eachGrownShape calls do with shapes of 1 to 9 cells in tables with more cells: they grow by drawn neighbors from a drawn cell, or are drawn cell by cell.
func eachGrownShape(do func(w, h, mask int)) {
	state := uint64(11)
	draw := func(n int) int {
		state = state*6364136223846793005 + 1442695040888963407
		return int(state>>33) % n
	}
	eachTable(func(w, h int) {
		if w*h <= 9 {
			return
		}
		for cells := 1; cells <= 9; cells++ {
			for _, apart := range []int{0, 0, 1, 3} {
				mask := 1 << draw(w*h)
				for bits.OnesCount(uint(mask)) < cells {
					cell := draw(w * h)
					grown := mask | 1<<cell
					if draw(9) < apart || len(partsByGrowth(w, h, grown)) == len(partsByGrowth(w, h, mask)) {
						mask = grown
					}
				}
				do(w, h, mask)
			}
		}
	})
}

// eachCutShape calls do with shapes that can be cut, small and great ones.
func eachCutShape(do func(w, h, mask int)) {
	eachSmallCutShape(do)
	eachGrownShape(do)
	for _, c := range cutCounts {
		do(drawn(c.text))
	}
}

// intoSoMany returns those of the cuts that have so many pieces.
func intoSoMany(cuts [][]int, pieces int) [][]int {
	var l [][]int
	for _, cut := range cuts {
		if slices.Max(cut)+1 == pieces {
			l = append(l, cut)
		}
	}
	return l
}

func TestCountsOfCutsAgree(t *testing.T) {
	whole, nine := 0, 0
	eachCutShape(func(w, h, mask int) {
		cuts := cutsByJoins(w, h, mask)
		cells := bits.OnesCount(uint(mask))
		sum := 0
		for pieces := -1; pieces <= cells+2; pieces++ {
			want := intoSoMany(cuts, pieces)
			count := impl.CountCuts(w, h, mask, pieces)
			if count != len(want) {
				t.Fatalf("CountCuts(%d, %d, %d, %d) = %d, want %d", w, h, mask, pieces, count, len(want))
			}
			first, ok := impl.FirstCut(w, h, mask, pieces)
			if ok != (count > 0) || ok && !slices.Equal(first, want[0]) || !ok && len(first) != 0 {
				t.Fatalf("FirstCut(%d, %d, %d, %d) = %v, %v, want the first one of %v", w, h, mask, pieces, first, ok, want)
			}
			sum += count
		}
		if sum != len(cuts) || sum != sumOfCounts(w, h, mask) {
			t.Fatalf("CountCuts(%d, %d, %d, ..) have the sum %d, want %d", w, h, mask, sum, len(cuts))
		}
		// There is a cut from as many pieces on as there are parts, up to single cells, of which there is one.
		parts := len(partsByGrowth(w, h, mask))
		for pieces := range 11 {
			if got := impl.CountCuts(w, h, mask, pieces); (got > 0) != (pieces >= parts && pieces <= cells) || (pieces == parts || pieces == cells) && got != 1 {
				t.Fatalf("CountCuts(%d, %d, %d, %d) = %d for %d cells in %d parts", w, h, mask, pieces, got, cells, parts)
			}
		}
		if parts == 1 {
			whole++
		}
		if cells == 9 {
			nine++
		}
	})
	if whole < 500 || nine < 50 {
		t.Errorf("only %d whole shapes and %d with nine cells were tried", whole, nine)
	}
}

func TestCutsAgree(t *testing.T) {
	uncut := 0
	eachCutShape(func(w, h, mask int) {
		cells := listedCells(w, h, mask)
		parts := partsByGrowth(w, h, mask)
		for _, cut := range cutsByJoins(w, h, mask) {
			if !impl.CutOk(w, h, mask, cut) {
				t.Fatalf("CutOk(%d, %d, %d, %v) = false", w, h, mask, cut)
			}
			pieces, sizes := make([]int, slices.Max(cut)+1), make([]int, slices.Max(cut)+1)
			for i, c := range cells {
				pieces[cut[i]] |= 1 << (c.Y*w + c.X)
				sizes[cut[i]]++
			}
			if got := impl.PiecesOf(w, h, mask, cut); !slices.Equal(got, pieces) {
				t.Fatalf("PiecesOf(%d, %d, %d, %v) = %v, want %v", w, h, mask, cut, got, pieces)
			}
			if got := impl.SizesOf(w, h, mask, cut); !slices.Equal(got, sizes) {
				t.Fatalf("SizesOf(%d, %d, %d, %v) = %v, want %v", w, h, mask, cut, got, sizes)
			}
			length := impl.CutLength(w, h, mask, cut)
			if want := partedNeighbors(w, h, mask, cut); length != want {
				t.Fatalf("CutLength(%d, %d, %d, %v) = %d, want %d", w, h, mask, cut, length, want)
			}
			if (length == 0) != slices.Equal(pieces, parts) {
				t.Fatalf("CutLength(%d, %d, %d, %v) = %d, and the shape has the parts %v", w, h, mask, cut, length, parts)
			}
			if length == 0 {
				uncut++
			}
		}
	})
	if uncut < 500 {
		t.Errorf("only %d cuts that part no neighbors were tried", uncut)
	}
}

func TestPiecesOfCutsAgree(t *testing.T) {
	eachCutShape(func(w, h, mask int) {
		for _, cut := range cutsByJoins(w, h, mask) {
			pieces := impl.PiecesOf(w, h, mask, cut)
			cells, before := 0, 0
			for i, piece := range pieces {
				first := piece & -piece
				if !impl.IsWhole(w, h, piece) || cells&piece != 0 || first <= before {
					t.Fatalf("PiecesOf(%d, %d, %d, %v) = %v with %d, which is not whole, not apart or not in order", w, h, mask, cut, pieces, piece)
				}
				cells, before = cells|piece, first
				if size := impl.SizesOf(w, h, mask, cut)[i]; size != impl.CellCount(w, h, piece) {
					t.Fatalf("SizesOf(%d, %d, %d, %v) tells %d for %d", w, h, mask, cut, size, piece)
				}
			}
			if cells != mask {
				t.Fatalf("PiecesOf(%d, %d, %d, %v) = %v make up %d", w, h, mask, cut, pieces, cells)
			}
			check := func(l []int) {
				if got, ok := impl.CutOf(w, h, mask, l); !slices.Equal(got, cut) || !ok {
					t.Fatalf("CutOf(%d, %d, %d, %v) = %v, %v, want %v", w, h, mask, l, got, ok, cut)
				}
			}
			if len(pieces) <= 4 && len(cut) <= 6 {
				eachOrder(pieces, check)
				continue
			}
			// All orders of more pieces take too long.
			for i := range pieces {
				l := slices.Concat(pieces[i:], pieces[:i])
				check(l)
				slices.Reverse(l)
				check(l)
			}
		}
	})
}

func TestEveryOrderOfManyPieces(t *testing.T) {
	for _, text := range []string{"012/34./5.6", "0/1/2/3/4/5", "012/345/666", "001/233/456", "0.1.2./....../3.4.5./....../6....."} {
		w, h, mask, cut := drawnCut(text)
		eachOrder(impl.PiecesOf(w, h, mask, cut), func(l []int) {
			if got, ok := impl.CutOf(w, h, mask, l); !slices.Equal(got, cut) || !ok {
				t.Fatalf("CutOf(%d, %d, %d, %v) = %v, %v, want %v", w, h, mask, l, got, ok, cut)
			}
		})
	}
}

// eachNumbers calls do with all lists of n numbers from least to greatest.
func eachNumbers(n, least, greatest int, do func(l []int)) {
	l := make([]int, n)
	var fill func(i int)
	fill = func(i int) {
		if i == n {
			do(slices.Clone(l))
			return
		}
		for number := least; number <= greatest; number++ {
			l[i] = number
			fill(i + 1)
		}
	}
	fill(0)
}

// checkAllNumbers fails unless CutOk accepts just the cuts among the lists of so many numbers.
func checkAllNumbers(t *testing.T, w, h, mask int, cuts [][]int, n int) {
	t.Helper()
	accepted := 0
	eachNumbers(n, -1, bits.OnesCount(uint(mask)), func(l []int) {
		_, isCut := slices.BinarySearchFunc(cuts, l, slices.Compare[[]int])
		if got := impl.CutOk(w, h, mask, l); got != isCut {
			t.Fatalf("CutOk(%d, %d, %d, %v) = %v", w, h, mask, l, got)
		}
		if isCut {
			accepted++
		} else {
			checkNoCut(t, "not among all cuts", w, h, mask, l)
		}
	})
	if sum := sumOfCounts(w, h, mask); n == bits.OnesCount(uint(mask)) && accepted != sum {
		t.Fatalf("CutOk(%d, %d, %d, ..) accepts %d cuts, but CountCuts tells %d", w, h, mask, accepted, sum)
	}
}

// TestAllNumbersForCuts has all lists of numbers for shapes of few cells.
func TestAllNumbersForCuts(t *testing.T) {
	eachCutShape(func(w, h, mask int) {
		cells := bits.OnesCount(uint(mask))
		if cells > 4 {
			return
		}
		cuts := cutsByJoins(w, h, mask)
		for n := range cells + 2 {
			checkAllNumbers(t, w, h, mask, cuts, n)
		}
	})
	for _, text := range []string{"###/##.", "#####", "##./.##/..#", "###/###", "##./#../###"} {
		w, h, mask := drawn(text)
		checkAllNumbers(t, w, h, mask, cutsByJoins(w, h, mask), bits.OnesCount(uint(mask)))
	}
}

// TestAllNumberingsForCuts has all lists that are numbered in order for shapes of more cells.
func TestAllNumberingsForCuts(t *testing.T) {
	for _, text := range []string{"###/###/#..", "####/####", "###/#.#/###", "###/###/###", "#.#/###/#.#", "##..#/#..##", "###.../..#.../..##../...#../...##./......"} {
		w, h, mask := drawn(text)
		cuts := cutsByJoins(w, h, mask)
		var try func(l []int, begun int)
		try = func(l []int, begun int) {
			if len(l) < bits.OnesCount(uint(mask)) {
				for number := range begun + 1 {
					try(append(l, number), max(begun, number+1))
				}
				return
			}
			_, isCut := slices.BinarySearchFunc(cuts, l, slices.Compare[[]int])
			if got := impl.CutOk(w, h, mask, l); got != isCut {
				t.Fatalf("CutOk(%d, %d, %d, %v) = %v", w, h, mask, l, got)
			}
		}
		try(nil, 0)
	}
}

// TestAllPiecesForCuts has all lists of at most three masks for small tables.
func TestAllPiecesForCuts(t *testing.T) {
	for _, table := range [][2]int{{1, 1}, {2, 1}, {1, 3}, {3, 1}, {2, 2}} {
		w, h := table[0], table[1]
		for mask := range 1 << (w * h) {
			made := map[[4]int]bool{}
			for n := range 4 {
				eachNumbers(n, -1, 1<<(w*h), func(pieces []int) {
					whole, sum, all := true, 0, 0
					for _, piece := range pieces {
						whole = whole && piece >= 0 && piece < 1<<(w*h) && len(partsByGrowth(w, h, piece)) == 1
						sum, all = sum+piece, all|piece
					}
					cut, ok := impl.CutOf(w, h, mask, pieces)
					if want := whole && sum == mask && all == mask && mask != 0; ok != want {
						t.Fatalf("CutOf(%d, %d, %d, %v) = %v, %v", w, h, mask, pieces, cut, ok)
					}
					if !ok {
						checkNoCutOf(t, "no pieces", w, h, mask, pieces)
						return
					}
					slices.Sort(pieces)
					ordered := impl.PiecesOf(w, h, mask, cut)
					slices.Sort(ordered)
					if !slices.Equal(pieces, ordered) {
						t.Fatalf("CutOf(%d, %d, %d, %v) = %v", w, h, mask, pieces, cut)
					}
					made[[4]int(slices.Concat(cut, make([]int, 4))[:4])] = true
				})
			}
			want := impl.CountCuts(w, h, mask, 1) + impl.CountCuts(w, h, mask, 2) + impl.CountCuts(w, h, mask, 3)
			if mask == 0 {
				want = 0
			}
			if len(made) != want {
				t.Fatalf("CutOf(%d, %d, %d, ..) makes %d cuts into at most three pieces, want %d", w, h, mask, len(made), want)
			}
		}
	}
}

func TestBestHalvesAgree(t *testing.T) {
	halved, unhalved, notFirst := 0, 0, 0
	eachCutShape(func(w, h, mask int) {
		var halves [][]int
		for _, cut := range intoSoMany(cutsByJoins(w, h, mask), 2) {
			ones := 0
			for _, number := range cut {
				ones += number
			}
			if 2*ones == len(cut) {
				halves = append(halves, cut)
			}
		}
		best, ok := impl.BestHalves(w, h, mask)
		if ok != (len(halves) > 0) || !ok && len(best) != 0 {
			t.Fatalf("BestHalves(%d, %d, %d) = %v, %v, but the halves are %v", w, h, mask, best, ok, halves)
		}
		if !ok {
			unhalved++
			return
		}
		halved++
		want := halves[0]
		for _, cut := range halves {
			if partedNeighbors(w, h, mask, cut) < partedNeighbors(w, h, mask, want) {
				want = cut
			}
		}
		if !slices.Equal(best, want) {
			t.Fatalf("BestHalves(%d, %d, %d) = %v, want %v", w, h, mask, best, want)
		}
		if !slices.Equal(best, halves[0]) {
			notFirst++
		}
		if sizes := impl.SizesOf(w, h, mask, best); !impl.CutOk(w, h, mask, best) || len(sizes) != 2 || sizes[0] != sizes[1] {
			t.Fatalf("BestHalves(%d, %d, %d) = %v with the sizes %v", w, h, mask, best, sizes)
		}
	})
	if halved < 100 || unhalved < 100 || notFirst < 10 {
		t.Errorf("only %d shapes with halves, %d others and %d whose first halves are not the best were tried", halved, unhalved, notFirst)
	}
}

// TestMovedCutsAgree moves shapes by motions and shifts: they have as many cuts, and halves that are as long.
func TestMovedCutsAgree(t *testing.T) {
	eachCutShape(func(w, h, mask int) {
		halves, ok := impl.BestHalves(w, h, mask)
		length := impl.CutLength(w, h, mask, halves)
		for m := range 8 {
			moved, fits := impl.MovedShape(w, h, mask, m)
			if !fits {
				continue
			}
			movedHalves, okMoved := impl.BestHalves(w, h, moved)
			if okMoved != ok || impl.CutLength(w, h, moved, movedHalves) != length {
				t.Fatalf("BestHalves(%d, %d, ..) are %v for %d and %v for %d, which it becomes", w, h, halves, mask, movedHalves, moved)
			}
			for _, pieces := range []int{1, 2, bits.OnesCount(uint(mask)) - 1} {
				if a, b := impl.CountCuts(w, h, mask, pieces), impl.CountCuts(w, h, moved, pieces); a != b {
					t.Fatalf("CountCuts(%d, %d, .., %d) is %d for %d and %d for %d, which it becomes", w, h, pieces, a, mask, b, moved)
				}
			}
		}
	})
}

// TestCutsAreTheSameInOtherTables lays shapes into greater tables, where the same lists are their cuts.
func TestCutsAreTheSameInOtherTables(t *testing.T) {
	eachSmallCutShape(func(w, h, mask int) {
		for _, table := range [][2]int{{6, 6}, {w, 6}, {6, h}} {
			v, u := table[0], table[1]
			same, _ := maskOfCells(v, u, listedCells(w, h, mask))
			first, ok := impl.FirstCut(w, h, mask, 3)
			there, okThere := impl.FirstCut(v, u, same, 3)
			halves, okHalves := impl.BestHalves(w, h, mask)
			halvesThere, okHalvesThere := impl.BestHalves(v, u, same)
			if !slices.Equal(first, there) || ok != okThere || !slices.Equal(halves, halvesThere) || okHalves != okHalvesThere || impl.CountCuts(w, h, mask, 3) != impl.CountCuts(v, u, same, 3) {
				t.Fatalf("%d in the table %d, %d and %d in the table %d, %d do not have the same cuts", mask, w, h, same, v, u)
			}
			if impl.CutOk(v, u, same, first) != ok || impl.CutLength(w, h, mask, first) != impl.CutLength(v, u, same, first) || !slices.Equal(impl.SizesOf(w, h, mask, first), impl.SizesOf(v, u, same, first)) {
				t.Fatalf("%v is not the same for %d in the table %d, %d and %d in the table %d, %d", first, mask, w, h, same, v, u)
			}
		}
	})
}
