package tests

import (
	"slices"
	"testing"

	"loop.example/g03208/impl"
)

// sees tells by equations whether a diagonal joins two corners: what the sides have in common with the segment, and whether its middle is inside, all in doubled numbers.
func sees(p []impl.Point, i, k int) bool {
	n := len(p)
	if i == k || (i+1)%n == k || (k+1)%n == i {
		return false
	}
	var doubled []impl.Point
	for _, c := range p {
		doubled = append(doubled, pt(2*c.X, 2*c.Y))
	}
	a, b := doubled[i], doubled[k]
	for j, c := range doubled {
		d := doubled[(j+1)%n]
		atEnd := c == a || c == b || d == a || d == b
		if how := meets(a, b, c, d); how != impl.MtNone && !(atEnd && how == impl.MtTouch) {
			return false
		}
	}
	return surrounds(doubled, pt((a.X+b.X)/2, (a.Y+b.Y)/2))
}

// straightPolygons calls do with the polygons of the table that are small, with other points of their sides as corners.
func straightPolygons(do func(p []impl.Point)) {
	for _, c := range polygons {
		bends := impl.Straightened(c.p)
		var all []impl.Point
		for i, a := range bends {
			on := impl.PointsOn(a, bends[(i+1)%len(bends)])
			all = append(all, on[:len(on)-1]...)
		}
		if len(all) <= 30 {
			keepSome(all, bends, do)
		}
	}
}

// keepSome calls do with those of the points that are bends and some of the others, at most ten in all.
func keepSome(all, bends []impl.Point, do func(p []impl.Point)) {
	for first := range 3 {
		for step := 1; step <= 5; step++ {
			room := 10 - len(bends)
			var p []impl.Point
			for i, c := range all {
				if slices.Contains(bends, c) {
					p = append(p, c)
				} else if room > 0 && i%step == first%step {
					p = append(p, c)
					room--
				}
			}
			do(p)
		}
	}
}

// eachCutPolygon calls do with polygons of all sizes, drawn ones among them, and those with straight corners.
func eachCutPolygon(do func(p []impl.Point)) {
	small := slices.Concat(smallPolygons(2, 3, 0), smallPolygons(2, 4, 38), smallPolygons(2, 5, 0))
	for _, p := range small {
		do(p)
	}
	for _, c := range polygons {
		inEveryOrder(c.p, do)
	}
	for _, c := range cut {
		inEveryOrder(c.p, do)
	}
	straightPolygons(do)
	eachDrawnPolygon(do)
}

// checkDiagonals compares all answers about diagonals and ears of a polygon.
func checkDiagonals(t *testing.T, p []impl.Point) {
	t.Helper()
	n := len(p)
	var diagonals [][]int
	for i := range n {
		for k := range n {
			want := sees(p, i, k)
			if got := impl.IsDiagonal(p, i, k); got != want {
				t.Fatalf("IsDiagonal(%v, %d, %d) = %v", p, i, k, got)
			}
			if want && i < k {
				diagonals = append(diagonals, []int{i, k})
			}
		}
	}
	if got := impl.DiagonalsOf(p); !sameLists(got, diagonals) {
		t.Fatalf("DiagonalsOf(%v) = %v, want %v", p, got, diagonals)
	}
	var ears []int
	for i := range n {
		want := n == 3 || sees(p, (i+n-1)%n, (i+1)%n)
		if got := impl.IsEar(p, i); got != want {
			t.Fatalf("IsEar(%v, %d) = %v", p, i, got)
		}
		if want {
			ears = append(ears, i)
		}
	}
	if got := impl.EarsOf(p); !slices.Equal(got, ears) {
		t.Fatalf("EarsOf(%v) = %v, want %v", p, got, ears)
	}
}

func TestDiagonalsAndEarsAgree(t *testing.T) {
	eachCutPolygon(func(p []impl.Point) { checkDiagonals(t, p) })
}

// cutByEars cuts as the chapter says it, with the ears of a polygon of its own at each time; it ends early if there is no ear.
func cutByEars(p []impl.Point) [][]int {
	var left []int
	for i := range p {
		left = append(left, i)
	}
	var triangles [][]int
	for len(left) > 3 {
		var rest []impl.Point
		for _, i := range left {
			rest = append(rest, p[i])
		}
		ears := impl.EarsOf(rest)
		if len(ears) == 0 {
			return triangles
		}
		n, ear := len(left), ears[0]
		three := []int{left[(ear+n-1)%n], left[ear], left[(ear+1)%n]}
		slices.Sort(three)
		triangles = append(triangles, three)
		left = slices.Concat(left[:ear], left[ear+1:])
	}
	return append(triangles, left)
}

// checkTriangles cuts a polygon, and changes the cut in ways that spoil it.
func checkTriangles(t *testing.T, p []impl.Point) {
	t.Helper()
	want := cutByEars(p)
	got, ok := impl.Triangulate(p)
	if !ok || len(got) != len(p)-2 || !sameLists(got, want) {
		t.Fatalf("Triangulate(%v) = %v, %v, want %v", p, got, ok, want)
	}
	if !impl.IsTriangulation(p, got) {
		t.Fatalf("IsTriangulation(%v, %v) = false", p, got)
	}
	reversed := slices.Clone(got)
	slices.Reverse(reversed)
	if !impl.IsTriangulation(p, reversed) {
		t.Fatalf("IsTriangulation(%v, %v) = false", p, reversed)
	}
	if impl.IsTriangulation(p, got[1:]) || impl.IsTriangulation(p, got[:len(got)-1]) || impl.IsTriangulation(p, append(slices.Clone(got), got[0])) {
		t.Fatalf("IsTriangulation(%v, %v) = true with a triangle more or less", p, got)
	}
	checkPointsInTriangles(t, p, got)
}

// checkPointsInTriangles holds the triangles against IsInside.
func checkPointsInTriangles(t *testing.T, p []impl.Point, triangles [][]int) {
	t.Helper()
	low, high, _ := impl.BoxOf(p)
	for y := low.Y; y <= high.Y; y += 1 + (high.Y-low.Y)/7 {
		for x := low.X; x <= high.X; x += 1 + (high.X-low.X)/7 {
			within := false
			for _, three := range triangles {
				within = within || isBetween(p[three[0]], p[three[1]], p[three[2]], pt(x, y))
			}
			if within != impl.IsInside(p, pt(x, y)) {
				t.Fatalf("%v in a triangle of %v, of %v = %v", pt(x, y), triangles, p, within)
			}
		}
	}
}

// TestTrianglesAgree has polygons with straight corners, too: they have ears at all times as well, because each polygon with more than three corners has a diagonal, and is cut by them into triangles, two of which use two sides each.
func TestTrianglesAgree(t *testing.T) {
	eachCutPolygon(func(p []impl.Point) {
		if len(impl.EarsOf(p)) < 2 {
			t.Fatalf("EarsOf(%v) = %v", p, impl.EarsOf(p))
		}
		checkTriangles(t, p)
	})
}

// countBySplits counts the cuts of the corners from i to k: by the third corner of the triangle at the segment from i to k.
func countBySplits(p []impl.Point, i, k int) int {
	if k == i+1 {
		return 1
	}
	if k-i < len(p)-1 && !sees(p, i, k) {
		return 0
	}
	count := 0
	for j := i + 1; j < k; j++ {
		if left := countBySplits(p, i, j); left > 0 {
			count += left * countBySplits(p, j, k)
		}
	}
	return count
}

func TestCountTriangulationsAgreesWithSplits(t *testing.T) {
	counted := map[int]int{}
	eachCutPolygon(func(p []impl.Point) {
		want := -1
		if len(p) <= 8 {
			want = countBySplits(p, 0, len(p)-1)
		}
		if got := impl.CountTriangulations(p); got != want || want == 0 {
			t.Fatalf("CountTriangulations(%v) = %d, want %d", p, got, want)
		}
		counted[want]++
	})
	if len(counted) < 40 || counted[-1] < 50 {
		t.Errorf("only these counts were met: %v", counted)
	}
}

// countAccepted tries all sets of triangles.
func countAccepted(p []impl.Point) int {
	var all [][]int
	for a := range p {
		for b := range a {
			for c := range b {
				all = append(all, []int{c, b, a})
			}
		}
	}
	count := 0
	var choose func(from int, l [][]int)
	choose = func(from int, l [][]int) {
		if len(l) == len(p)-2 {
			if impl.IsTriangulation(p, l) {
				count++
			}
			return
		}
		for i := from; i < len(all); i++ {
			choose(i+1, append(l, all[i]))
		}
	}
	choose(0, nil)
	return count
}

func TestIsTriangulationAcceptsAsManyAsThereAre(t *testing.T) {
	tried := 0
	eachCutPolygon(func(p []impl.Point) {
		// All those with few corners, and some of the others, which have more sets.
		tried++
		if n := len(p); n > 6 || n == 6 && tried%7 != 0 {
			return
		}
		if got, want := countAccepted(p), impl.CountTriangulations(p); got != want {
			t.Fatalf("IsTriangulation accepts %d sets of triangles of %v, but CountTriangulations is %d", got, p, want)
		}
	})
}

// TestTrianglesInOtherOrders begins at other corners and goes around in the other direction.
func TestTrianglesInOtherOrders(t *testing.T) {
	for _, c := range polygons {
		n, diagonals, count := len(c.p), impl.DiagonalsOf(c.p), impl.CountTriangulations(c.p)
		for k := range n {
			q := impl.StartAt(c.p, k)
			turned := impl.TurnPolygon(q)
			for i := range n {
				for j := range n {
					want := areJoined(diagonals, (i+k)%n, (j+k)%n)
					if impl.IsDiagonal(q, i, j) != want || impl.IsDiagonal(turned, (n-i)%n, (n-j)%n) != want {
						t.Errorf("IsDiagonal differs for %v and %v at %d and %d", c.p, q, i, j)
					}
				}
			}
			if impl.CountTriangulations(q) != count || impl.CountTriangulations(turned) != count {
				t.Errorf("CountTriangulations differs for %v and %v", c.p, q)
			}
		}
	}
}
