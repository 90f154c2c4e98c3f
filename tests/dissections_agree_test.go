package tests

import (
	"math/bits"
	"slices"
	"testing"

	"loop.example/g03208/impl"
)

// turnedName returns the least mask, in the greatest table, of what motions make of a shape, so that all motions fit; -1 for what is no shape of its table.
func turnedName(w, h, mask int) int {
	if mask < 0 || mask >= 1<<(w*h) {
		return -1
	}
	if mask == 0 {
		return 0
	}
	name := 1 << 36
	for m := range 8 {
		turned, _ := maskOfCells(6, 6, led(listedCells(w, h, mask), m))
		name = min(name, turned)
	}
	return name
}

// turnedNames returns the names of all shapes of a table with few cells.
func turnedNames(w, h int) []int {
	var names []int
	for mask := range 1 << (w * h) {
		names = append(names, turnedName(w, h, mask))
	}
	return names
}

// checkSame fails unless SamePiece tells from both sides whether two shapes are the same.
func checkSame(t *testing.T, w, h, a, b int, want bool) {
	t.Helper()
	if got, back := impl.SamePiece(w, h, a, b), impl.SamePiece(w, h, b, a); got != want || back != want {
		t.Fatalf("SamePiece(%d, %d, ..) of %d and %d = %v and %v from the other side, want %v", w, h, a, b, got, back, want)
	}
}

// TestSamePiecesAgree has all pairs of shapes of small tables, and a part of them for those with more cells.
func TestSamePiecesAgree(t *testing.T) {
	same := 0
	eachTable(func(w, h int) {
		if w*h > 9 {
			return
		}
		names := turnedNames(w, h)
		for a, name := range names {
			checkSame(t, w, h, a, a, true)
			for b, other := range names[:a] {
				if w*h > 6 && (5*a+b)%7 > 0 && name != other {
					continue
				}
				checkSame(t, w, h, a, b, name == other)
				if name == other {
					same++
				}
			}
		}
	})
	if same < 3000 {
		t.Errorf("only %d pairs of different shapes that are the same were tried", same)
	}
}

// shiftedShapes returns what a shape becomes by shifts within the table.
func shiftedShapes(w, h, mask int) []int {
	var masks []int
	for y := -h + 1; y < h; y++ {
		for x := -w + 1; x < w; x++ {
			var cells []impl.Point
			for _, c := range listedCells(w, h, mask) {
				cells = append(cells, pt(c.X+x, c.Y+y))
			}
			if shifted, ok := maskOfCells(w, h, cells); ok {
				masks = append(masks, shifted)
			}
		}
	}
	return masks
}

// TestGreatPiecesAgree moves and shifts shapes of great tables, and holds each against the one before it and against itself with another cell.
func TestGreatPiecesAgree(t *testing.T) {
	before := map[[2]int]int{}
	i, shifts := 0, 0
	eachGreatShape(func(w, h, mask int) {
		// Some of them: all take too long.
		if i++; i%4 > 0 {
			return
		}
		name := turnedName(w, h, mask)
		other := before[[2]int{w, h}]
		checkSame(t, w, h, mask, other, name == turnedName(w, h, other))
		changed := mask ^ 1<<(i%(w*h))
		checkSame(t, w, h, mask, changed, false)
		before[[2]int{w, h}] = mask
		for m := range 8 {
			moved, fits := ledShape(w, h, mask, m)
			if !fits {
				continue
			}
			for _, shifted := range shiftedShapes(w, h, moved) {
				shifts++
				checkSame(t, w, h, mask, shifted, true)
			}
		}
	})
	if shifts < 5000 {
		t.Errorf("only %d shifts were tried", shifts)
	}
}

// TestPiecesAreTheSameInOtherTables lays pairs into the greatest table, where more motions fit.
func TestPiecesAreTheSameInOtherTables(t *testing.T) {
	for _, table := range [][2]int{{2, 2}, {3, 2}, {2, 3}, {5, 1}, {1, 6}, {4, 2}} {
		w, h := table[0], table[1]
		for a := range 1 << (w * h) {
			for b := a % 3; b < 1<<(w*h); b += 3 {
				a6, _ := maskOfCells(6, 6, listedCells(w, h, a))
				b6, _ := maskOfCells(6, 6, listedCells(w, h, b))
				checkSame(t, 6, 6, a6, b6, impl.SamePiece(w, h, a, b))
			}
		}
	}
}

// matchedByCounting matches the first, second .. piece of each name in one list with that in the other one.
func matchedByCounting(w, h int, a, b []int) ([]int, bool) {
	if len(a) != len(b) {
		return nil, false
	}
	var indices []int
	for i, piece := range a {
		name := turnedName(w, h, piece)
		before := 0
		for _, other := range a[:i] {
			if turnedName(w, h, other) == name {
				before++
			}
		}
		index := -1
		for k, other := range b {
			if turnedName(w, h, other) != name || name < 0 {
				continue
			}
			if before == 0 {
				index = k
				break
			}
			before--
		}
		if index < 0 {
			return nil, false
		}
		indices = append(indices, index)
	}
	return indices, true
}

// checkMatch fails unless MatchPieces matches two lists in the one way in which it should, and tells whether it does.
func checkMatch(t *testing.T, w, h int, a, b []int) bool {
	t.Helper()
	want, wantOk := matchedByCounting(w, h, a, b)
	got, ok := impl.MatchPieces(w, h, a, b)
	if ok != wantOk || !slices.Equal(got, want) {
		t.Fatalf("MatchPieces(%d, %d, %v, %v) = %v, %v, want %v, %v", w, h, a, b, got, ok, want, wantOk)
	}
	if !ok {
		return false
	}
	for i, index := range got {
		if !impl.SamePiece(w, h, a[i], b[index]) || slices.Contains(got[:i], index) {
			t.Fatalf("MatchPieces(%d, %d, %v, %v) = %v with a piece that is not the same, or twice", w, h, a, b, got)
		}
		for k := range index {
			if impl.SamePiece(w, h, a[i], b[k]) && !slices.Contains(got[:i], k) {
				t.Fatalf("MatchPieces(%d, %d, %v, %v) = %v, but the index %d was left for the piece %d", w, h, a, b, got, k, i)
			}
		}
	}
	if _, ok := impl.MatchPieces(w, h, b, a); !ok {
		t.Fatalf("MatchPieces(%d, %d, %v, %v) tells that there is no match from the other side", w, h, b, a)
	}
	return true
}

// TestMatchesAgree has all lists of at most two masks of a small table, and what is none, and some of three.
func TestMatchesAgree(t *testing.T) {
	var lists, threes [][]int
	for n := range 3 {
		eachNumbers(n, -1, 16, func(l []int) { lists = append(lists, l) })
	}
	some := []int{0, 1, 3, 6, 11, 16}
	eachNumbers(3, 0, len(some)-1, func(l []int) { threes = append(threes, []int{some[l[0]], some[l[1]], some[l[2]]}) })
	matches := 0
	for _, all := range [][][]int{lists, threes} {
		for _, a := range all {
			for _, b := range all {
				if checkMatch(t, 2, 2, a, b) {
					matches++
				}
			}
		}
	}
	if matches < 1000 {
		t.Errorf("only %d matches were tried", matches)
	}
}

// TestGreatMatchesAgree matches lists of shapes of great tables with those that motions and shifts make of them, in another order.
func TestGreatMatchesAgree(t *testing.T) {
	lists := map[[2]int][]int{}
	i := 0
	eachGreatShape(func(w, h, mask int) {
		if i++; i%9 == 0 {
			lists[[2]int{w, h}] = append(lists[[2]int{w, h}], mask, mask&(1<<w-1))
		}
	})
	matches := 0
	for table, l := range lists {
		w, h := table[0], table[1]
		for k := 0; k+6 <= len(l); k += 6 {
			a := l[k : k+6]
			var b []int
			for i := range a {
				mask := a[(5*i+k)%6]
				moved, fits := ledShape(w, h, mask, (i+k)%8)
				if !fits {
					moved = mask
				}
				shifted := shiftedShapes(w, h, moved)
				b = append(b, shifted[(7*i+k)%len(shifted)])
			}
			if !checkMatch(t, w, h, a, b) {
				t.Fatalf("MatchPieces(%d, %d, %v, %v) tells that there is no match", w, h, a, b)
			}
			matches++
			b[k%6] ^= 1
			checkMatch(t, w, h, a, b)
		}
	}
	if matches < 100 {
		t.Errorf("only %d matches were tried", matches)
	}
}

// namedCut is a cut with the names of its pieces, in ascending order: two of them make a dissection if the names are equal.
type namedCut struct {
	cut   []int
	names [9]int
}

func namedCuts(w, h, mask int) []namedCut {
	var cuts []namedCut
	for _, cut := range cutsByJoins(w, h, mask) {
		cuts = append(cuts, namedCut{cut, namesOfCut(w, h, mask, cut)})
	}
	return cuts
}

func namesOfCut(w, h, mask int, cut []int) [9]int {
	var pieces, names [9]int
	for i, c := range listedCells(w, h, mask) {
		pieces[cut[i]] |= 1 << (c.Y*w + c.X)
	}
	for i, piece := range pieces {
		names[i] = turnedName(w, h, piece)
	}
	slices.Sort(names[:])
	return names
}

// firstByPairs goes through the pairs of cuts of two shapes of 1 to 7 cells, and returns the first one that is a dissection into so many pieces.
func firstByPairs(a, b []namedCut, pieces int) ([]int, []int, bool) {
	for _, cutA := range a {
		if slices.Max(cutA.cut)+1 != pieces {
			continue
		}
		for _, cutB := range b {
			if cutA.names == cutB.names {
				return cutA.cut, cutB.cut, true
			}
		}
	}
	return nil, nil, false
}

// checkDissections fails unless Dissect and FewestPieces tell of two shapes of 1 to 7 cells, whose cuts are given, what is so.
func checkDissections(t *testing.T, w, h, a, b int, cutsA, cutsB []namedCut) {
	t.Helper()
	fewest := -1
	cells, otherCells := bits.OnesCount(uint(a)), bits.OnesCount(uint(b))
	for pieces := -1; pieces <= 9; pieces++ {
		wantA, wantB, want := firstByPairs(cutsA, cutsB, pieces)
		cutA, cutB, ok := impl.Dissect(w, h, a, b, pieces)
		if ok != want || !slices.Equal(cutA, wantA) || !slices.Equal(cutB, wantB) {
			t.Fatalf("Dissect(%d, %d, %d, %d, %d) = %v, %v, %v, want %v, %v, %v", w, h, a, b, pieces, cutA, cutB, ok, wantA, wantB, want)
		}
		if _, _, back := impl.Dissect(w, h, b, a, pieces); back != ok {
			t.Fatalf("Dissect(%d, %d, .., %d) of %d and %d = %v, and %v from the other side", w, h, pieces, a, b, ok, back)
		}
		if ok && fewest < 0 {
			fewest = pieces
		}
		// What can be cut into some pieces can be cut into more, up to single cells.
		if ok != (fewest > 0 && pieces >= fewest && pieces <= cells) {
			t.Fatalf("Dissect(%d, %d, %d, %d, %d) = %v, with %d as the least number of pieces for %d cells", w, h, a, b, pieces, ok, fewest, cells)
		}
		if ok && (!impl.IsDissection(w, h, a, b, cutA, cutB) || !impl.IsDissection(w, h, b, a, cutB, cutA) || len(impl.PiecesOf(w, h, a, cutA)) != pieces || len(impl.PiecesOf(w, h, b, cutB)) != pieces) {
			t.Fatalf("Dissect(%d, %d, %d, %d, %d) = %v, %v, which is no dissection, or not into so many pieces", w, h, a, b, pieces, cutA, cutB)
		}
	}
	if got, back := impl.FewestPieces(w, h, a, b), impl.FewestPieces(w, h, b, a); got != fewest || back != fewest {
		t.Fatalf("FewestPieces(%d, %d, ..) of %d and %d = %d and %d from the other side, want %d", w, h, a, b, got, back, fewest)
	}
	if (fewest > 0) != (cells == otherCells) || fewest > cells {
		t.Fatalf("FewestPieces(%d, %d, %d, %d) = %d for %d and %d cells", w, h, a, b, fewest, cells, otherCells)
	}
	checkFewest(t, w, h, a, b, fewest)
}

// checkFewest holds the least number of pieces against the names and the parts of the shapes: one piece is whole.
func checkFewest(t *testing.T, w, h, a, b, fewest int) {
	t.Helper()
	partsA, partsB := impl.PartsOf(w, h, a), impl.PartsOf(w, h, b)
	isOneName := impl.NameOfShape(w, h, a) == impl.NameOfShape(w, h, b)
	if (fewest == 1) != (isOneName && impl.IsWhole(w, h, a) && impl.IsWhole(w, h, b)) {
		t.Fatalf("FewestPieces(%d, %d, %d, %d) = %d, and the shapes with the parts %v and %v have one name: %v", w, h, a, b, fewest, partsA, partsB, isOneName)
	}
	if fewest > 0 && fewest < max(len(partsA), len(partsB)) || isOneName && fewest != len(partsA) {
		t.Fatalf("FewestPieces(%d, %d, %d, %d) = %d for the parts %v and %v", w, h, a, b, fewest, partsA, partsB)
	}
}

// TestDissectionsAgree has all pairs of shapes of the tables with at most six cells, but the empty ones.
func TestDissectionsAgree(t *testing.T) {
	eachTable(func(w, h int) {
		if w*h > 6 {
			return
		}
		cuts := [][]namedCut{nil}
		for a := 1; a < 1<<(w*h); a++ {
			cuts = append(cuts, namedCuts(w, h, a))
			for b := 1; b <= a; b++ {
				checkDissections(t, w, h, a, b, cuts[a], cuts[b])
			}
			checkDissections(t, w, h, 1, a, cuts[1], cuts[a])
			for _, pieces := range somePieces {
				checkUndissected(t, "no cells", w, h, a, 0, pieces)
				checkUndissected(t, "no cells", w, h, 0, a, pieces)
			}
		}
	})
}

// eachPairToDissect calls do with pairs of shapes of 1 to 7 cells of greater tables: for all shapes of the tables with at most nine cells, some others, mostly with as many cells, the grown ones of the other tables, and cells that are apart.
func eachPairToDissect(do func(w, h, a, b int)) {
	eachTable(func(w, h int) {
		if w*h < 7 || w*h > 9 {
			return
		}
		var withCells [10][]int
		for mask := range 1 << (w * h) {
			n := bits.OnesCount(uint(mask))
			withCells[n] = append(withCells[n], mask)
		}
		for n := 1; n <= 7; n++ {
			for i, a := range withCells[n] {
				for k := range 3 {
					do(w, h, a, withCells[n][(11*i+29*k)%len(withCells[n])])
				}
				less := withCells[n-1]
				if n > 1 && i%5 == 0 {
					do(w, h, a, less[(7*i)%len(less)])
				}
			}
		}
	})
	grown := map[[3]int][]int{}
	eachGrownShape(func(w, h, mask int) {
		n := bits.OnesCount(uint(mask))
		if n > 7 {
			return
		}
		for _, b := range append(grown[[3]int{w, h, n}], mask) {
			do(w, h, mask, b)
		}
		grown[[3]int{w, h, n}] = append(grown[[3]int{w, h, n}], mask)
	})
	// Cells that are all apart, which need as many pieces as there are, and others.
	for w, h, mask := drawn("#.#.#./.#.#.#/#....."); mask > 0; mask &= mask - 1 {
		do(w, h, mask, 1<<bits.OnesCount(uint(mask))-1)
		do(w, h, mask, mask)
	}
}

func TestDissectionsOfMoreCellsAgree(t *testing.T) {
	cuts := map[[3]int][]namedCut{}
	known := func(w, h, mask int) []namedCut {
		if cuts[[3]int{w, h, mask}] == nil {
			cuts[[3]int{w, h, mask}] = namedCuts(w, h, mask)
		}
		return cuts[[3]int{w, h, mask}]
	}
	var counts [8]int
	eachPairToDissect(func(w, h, a, b int) {
		checkDissections(t, w, h, a, b, known(w, h, a), known(w, h, b))
		counts[max(0, impl.FewestPieces(w, h, a, b))]++
	})
	for fewest, least := range []int{100, 100, 100, 100, 100, 10, 1, 1} {
		if counts[fewest] < least {
			t.Errorf("only %d pairs with %d as the least number of pieces were tried: %v", counts[fewest], fewest, counts)
		}
	}
}

// TestDissectionsIntoItself has shapes of 1 to 9 cells twice: the first dissection is the first cut twice, for at most 7 cells.
func TestDissectionsIntoItself(t *testing.T) {
	eachCutShape(func(w, h, mask int) {
		cells := bits.OnesCount(uint(mask))
		for pieces := 0; pieces <= cells+1; pieces++ {
			want, isCut := impl.FirstCut(w, h, mask, pieces)
			if cells > 7 {
				want, isCut = nil, false
			}
			cutA, cutB, ok := impl.Dissect(w, h, mask, mask, pieces)
			if ok != isCut || !slices.Equal(cutA, want) || !slices.Equal(cutB, want) {
				t.Fatalf("Dissect(%d, %d, %d, %d, %d) = %v, %v, %v, want %v twice, %v", w, h, mask, mask, pieces, cutA, cutB, ok, want, isCut)
			}
		}
		want := len(impl.PartsOf(w, h, mask))
		if cells > 7 {
			want = -1
		}
		if got := impl.FewestPieces(w, h, mask, mask); got != want {
			t.Fatalf("FewestPieces(%d, %d, %d, %d) = %d, want %d", w, h, mask, mask, got, want)
		}
	})
}

// TestMovedDissectionsAgree moves shapes, and lays them into the greatest table, where they need as many pieces.
func TestMovedDissectionsAgree(t *testing.T) {
	i := 0
	eachPairToDissect(func(w, h, a, b int) {
		if i++; i%5 > 0 {
			return
		}
		fewest := impl.FewestPieces(w, h, a, b)
		for m := range 8 {
			moved, fits := ledShape(w, h, a, m)
			if !fits {
				continue
			}
			if got := impl.FewestPieces(w, h, moved, b); got != fewest {
				t.Fatalf("FewestPieces(%d, %d, .., %d) = %d for %d and %d for %d, which it becomes", w, h, b, fewest, a, got, moved)
			}
		}
		a6, _ := maskOfCells(6, 6, listedCells(w, h, a))
		b6, _ := maskOfCells(6, 6, listedCells(w, h, b))
		cutA, cutB, ok := impl.Dissect(w, h, a, b, fewest)
		cutA6, cutB6, ok6 := impl.Dissect(6, 6, a6, b6, fewest)
		if impl.FewestPieces(6, 6, a6, b6) != fewest || ok6 != ok || !slices.Equal(cutA, cutA6) || !slices.Equal(cutB, cutB6) {
			t.Fatalf("%d and %d in the table %d, %d and %d and %d in the greatest one are not dissected in the same way", a, b, w, h, a6, b6)
		}
	})
}

// checkAllPairsOfCuts fails unless IsDissection accepts just the pairs of cuts with equal names, or one in so many pairs if there are many.
func checkAllPairsOfCuts(t *testing.T, w, h, a, b int) int {
	t.Helper()
	cutsA, cutsB := namedCuts(w, h, a), namedCuts(w, h, b)
	every := 1 + len(cutsA)*len(cutsB)/20000
	accepted, k := 0, 0
	for _, cutA := range cutsA {
		for _, cutB := range cutsB {
			if k++; k%every > 0 {
				continue
			}
			want := cutA.names == cutB.names
			if got := impl.IsDissection(w, h, a, b, cutA.cut, cutB.cut); got != want {
				t.Fatalf("IsDissection(%d, %d, %d, %d, %v, %v) = %v", w, h, a, b, cutA.cut, cutB.cut, got)
			}
			if want {
				accepted++
			}
		}
	}
	return accepted
}

func TestPairsOfCutsAgree(t *testing.T) {
	accepted := 0
	for _, c := range [][2]string{
		{"#", "#"}, {"##", "##"}, {"###/...", "##./#.."}, {"#.#/...", ".##/..."}, {"###/##.", "###/#.#"}, {"###/###", "###/###"},
		{"###/##.", "###/###"}, {"####/###.", "###./####"}, {"####/####", "####/####"}, {"###/#.#/###", "###/###/##."}, {"###/###/###", "###/###/###"},
		{"#.#.#./#.#.#.", "######/......"}, {"###/###/###", "###/###/##."}, {"##..../##..../....../....../....##/...###", "....../.####./.#####/....../....../......"},
	} {
		w, h, a := drawn(c[0])
		_, _, b := drawn(c[1])
		accepted += checkAllPairsOfCuts(t, w, h, a, b)
		accepted += checkAllPairsOfCuts(t, w, h, b, a)
	}
	if accepted < 500 {
		t.Errorf("only %d dissections were tried", accepted)
	}
}

// TestAllNumbersForDissections has all lists of at most as many numbers as a shape has cells.
func TestAllNumbersForDissections(t *testing.T) {
	for _, c := range [][2]string{{"##/..", ".#/#."}, {"##./#..", "###/..."}, {"##./#..", "#.#/.#."}, {"###/...", "##./..."}} {
		w, h, a := drawn(c[0])
		_, _, b := drawn(c[1])
		var lists [][]int
		for n := range bits.OnesCount(uint(a)) + 1 {
			eachNumbers(n, -1, 3, func(l []int) { lists = append(lists, l) })
		}
		cutsA, cutsB := namedCuts(w, h, a), namedCuts(w, h, b)
		names := func(cuts []namedCut, l []int) ([9]int, bool) {
			i := slices.IndexFunc(cuts, func(c namedCut) bool { return slices.Equal(c.cut, l) })
			if i < 0 {
				return [9]int{}, false
			}
			return cuts[i].names, true
		}
		for _, cutA := range lists {
			namesA, okA := names(cutsA, cutA)
			for _, cutB := range lists {
				namesB, okB := names(cutsB, cutB)
				if got := impl.IsDissection(w, h, a, b, cutA, cutB); got != (okA && okB && namesA == namesB) {
					t.Fatalf("IsDissection(%d, %d, %d, %d, %v, %v) = %v", w, h, a, b, cutA, cutB, got)
				}
			}
		}
	}
}
