package tests

import (
	"math/bits"
	"slices"
	"testing"

	"loop.example/g03208/impl"
)

// listedCells returns the cells of a shape as points, by rows.
func listedCells(w, h, mask int) []impl.Point {
	var cells []impl.Point
	for y := range h {
		for x := range w {
			if mask&(1<<(y*w+x)) != 0 {
				cells = append(cells, pt(x, y))
			}
		}
	}
	return cells
}

// maskOfCells returns false if a cell is beyond the edge.
func maskOfCells(w, h int, cells []impl.Point) (int, bool) {
	mask := 0
	for _, c := range cells {
		if c.X < 0 || c.X >= w || c.Y < 0 || c.Y >= h {
			return 0, false
		}
		mask |= 1 << (c.Y*w + c.X)
	}
	return mask, true
}

// ledShape leads the cells by a motion as led does it with corners.
func ledShape(w, h, mask, m int) (int, bool) {
	if mask == 0 {
		return 0, true
	}
	return maskOfCells(w, h, led(listedCells(w, h, mask), m))
}

// columnsOf returns the masks of the first and of the last column.
func columnsOf(w, h int) (first, last int) {
	for y := range h {
		first |= 1 << (y * w)
		last |= 1 << (y*w + w - 1)
	}
	return first, last
}

// partsByGrowth lets each part grow from its least cell by all neighbors at once, which it finds by shifts of the whole mask.
func partsByGrowth(w, h, mask int) []int {
	first, last := columnsOf(w, h)
	var parts []int
	for mask != 0 {
		part := mask & -mask
		for {
			grown := mask & (part | part<<w | part>>w | (part&^last)<<1 | (part&^first)>>1)
			if grown == part {
				break
			}
			part = grown
		}
		parts = append(parts, part)
		mask &^= part
	}
	return parts
}

// rimByPairs counts all sides of all cells, less two for each pair of neighbors.
func rimByPairs(w, h, mask int) int {
	first, _ := columnsOf(w, h)
	level, upright := mask&(mask>>1)&^(first>>1), mask&(mask>>w)
	return 4*bits.OnesCount(uint(mask)) - 2*bits.OnesCount(uint(level)) - 2*bits.OnesCount(uint(upright))
}

// eachSmallShape calls do with all shapes of the tables with at most 12 cells.
func eachSmallShape(do func(w, h, mask int)) {
	eachTable(func(w, h int) {
		if w*h <= 12 {
			for mask := range 1 << (w * h) {
				do(w, h, mask)
			}
		}
	})
}

// eachGreatShape calls do with shapes of the other tables that a fixed rule draws, some with few cells, some with about half and some with most of them, and with those of the table.
func eachGreatShape(do func(w, h, mask int)) {
	state := uint64(7)
	draw := func() int {
		state = state*6364136223846793005 + 1442695040888963407
		return int(state >> 27)
	}
	eachTable(func(w, h int) {
		if w*h <= 12 {
			return
		}
		all := 1<<(w*h) - 1
		for range 150 {
			do(w, h, draw()&all)
			do(w, h, (draw()|draw())&all)
			do(w, h, draw()&draw()&all)
			do(w, h, draw()&draw()&draw()&draw()&all)
			// In one part of the table.
			do(w, h, draw()&(1<<(w*h/2)-1))
			do(w, h, draw()&all&^(1<<(w*h/2)-1))
		}
	})
	for _, c := range cellShapes {
		do(drawn(c.text))
	}
}

// eachShapeOfCells calls do with small shapes and with great ones.
func eachShapeOfCells(do func(w, h, mask int)) {
	eachSmallShape(do)
	eachGreatShape(do)
}

func TestPartsAgree(t *testing.T) {
	whole, parted := 0, 0
	eachShapeOfCells(func(w, h, mask int) {
		parts := impl.PartsOf(w, h, mask)
		if want := partsByGrowth(w, h, mask); !slices.Equal(parts, want) {
			t.Fatalf("PartsOf(%d, %d, %d) = %v, want %v", w, h, mask, parts, want)
		}
		if got := impl.IsWhole(w, h, mask); got != (len(parts) == 1) {
			t.Fatalf("IsWhole(%d, %d, %d) = %v, but the parts are %v", w, h, mask, got, parts)
		}
		if len(parts) == 1 {
			whole++
		} else {
			parted++
		}
		seen, before, cells, rim := 0, 0, 0, 0
		for _, part := range parts {
			least := part & -part
			if !impl.IsWhole(w, h, part) || !slices.Equal(impl.PartsOf(w, h, part), []int{part}) || part&seen != 0 || least <= before {
				t.Fatalf("PartsOf(%d, %d, %d) = %v with %d, which is not whole, not apart or not in order", w, h, mask, parts, part)
			}
			seen, before = seen|part, least
			cells, rim = cells+impl.CellCount(w, h, part), rim+impl.RimOf(w, h, part)
		}
		if seen != mask || cells != impl.CellCount(w, h, mask) || rim != impl.RimOf(w, h, mask) {
			t.Fatalf("PartsOf(%d, %d, %d) = %v make up %d with %d cells and a rim of %d", w, h, mask, parts, seen, cells, rim)
		}
		// Parts that are put together two by two stay apart.
		for i, a := range parts {
			for _, b := range parts[:i] {
				if impl.IsWhole(w, h, a|b) {
					t.Fatalf("PartsOf(%d, %d, %d) = %v, but %d and %d are whole together", w, h, mask, parts, a, b)
				}
			}
		}
	})
	if whole < 500 || parted < 5000 {
		t.Errorf("only %d whole shapes and %d others were tried", whole, parted)
	}
}

func TestCountsOfCellsAgree(t *testing.T) {
	eachShapeOfCells(func(w, h, mask int) {
		if !impl.ShapeOk(w, h, mask) {
			t.Fatalf("ShapeOk(%d, %d, %d) = false", w, h, mask)
		}
		if got, want := impl.CellCount(w, h, mask), len(listedCells(w, h, mask)); got != want {
			t.Fatalf("CellCount(%d, %d, %d) = %d, want %d", w, h, mask, got, want)
		}
		if got, want := impl.RimOf(w, h, mask), rimByPairs(w, h, mask); got != want {
			t.Fatalf("RimOf(%d, %d, %d) = %d, want %d", w, h, mask, got, want)
		}
	})
}

// TestOtherCellsAgree has the cells that are not in the shape: they and the shape fill the table, and they have sides in common where the rim is not that of the table.
func TestOtherCellsAgree(t *testing.T) {
	eachShapeOfCells(func(w, h, mask int) {
		all := 1<<(w*h) - 1
		others := all &^ mask
		if impl.CellCount(w, h, mask)+impl.CellCount(w, h, others) != w*h {
			t.Fatalf("%d and %d do not fill the table %d, %d", mask, others, w, h)
		}
		between := (impl.RimOf(w, h, mask) + impl.RimOf(w, h, others) - impl.RimOf(w, h, all)) / 2
		want := 0
		for _, c := range listedCells(w, h, mask) {
			for _, d := range listedCells(w, h, others) {
				if (c.X-d.X)*(c.X-d.X)+(c.Y-d.Y)*(c.Y-d.Y) == 1 {
					want++
				}
			}
		}
		if between != want {
			t.Fatalf("RimOf(%d, %d, ..) of %d and %d tells %d sides in common, want %d", w, h, mask, others, between, want)
		}
	})
}

func TestMovedShapesAgree(t *testing.T) {
	fit, unfit := 0, 0
	eachShapeOfCells(func(w, h, mask int) {
		corner := impl.CornerOf(w, h, mask)
		cells, rim, parts := impl.CellCount(w, h, mask), impl.RimOf(w, h, mask), len(impl.PartsOf(w, h, mask))
		for m := range 8 {
			moved, ok := impl.MovedShape(w, h, mask, m)
			want, fits := ledShape(w, h, mask, m)
			if moved != want || ok != fits {
				t.Fatalf("MovedShape(%d, %d, %d, %d) = %d, %v, want %d, %v", w, h, mask, m, moved, ok, want, fits)
			}
			if m == 0 && (moved != corner || !ok) {
				t.Fatalf("MovedShape(%d, %d, %d, 0) = %d, %v, but CornerOf %d", w, h, mask, moved, ok, corner)
			}
			// What is in the corner already becomes the same.
			if again, okAgain := impl.MovedShape(w, h, corner, m); again != moved || okAgain != ok {
				t.Fatalf("MovedShape(%d, %d, .., %d) = %d, %v for %d, but %d, %v for its corner %d", w, h, m, moved, ok, mask, again, okAgain, corner)
			}
			if !ok {
				unfit++
				continue
			}
			fit++
			if impl.CellCount(w, h, moved) != cells || impl.RimOf(w, h, moved) != rim || len(impl.PartsOf(w, h, moved)) != parts || impl.CornerOf(w, h, moved) != moved {
				t.Fatalf("MovedShape(%d, %d, %d, %d) = %d, which has other cells, another rim, other parts or another corner", w, h, mask, m, moved)
			}
			if back, ok := impl.MovedShape(w, h, moved, impl.InverseMotion(m)); back != corner || !ok {
				t.Fatalf("MovedShape(%d, %d, ..) leads %d by %d to %d and back to %d, %v, want %d", w, h, mask, m, moved, back, ok, corner)
			}
		}
	})
	if fit < 5000 || unfit < 5000 {
		t.Errorf("only %d motions after which a shape fits and %d others were tried", fit, unfit)
	}
}

// TestComposedMotionsOfShapes moves shapes twice, where they fit in between.
func TestComposedMotionsOfShapes(t *testing.T) {
	eachShapeOfCells(func(w, h, mask int) {
		var moved [8]int
		var fits [8]bool
		for m := range 8 {
			moved[m], fits[m] = impl.MovedShape(w, h, mask, m)
		}
		for a := range 8 {
			for b := range 8 {
				if !fits[a] {
					continue
				}
				ab := impl.ComposeMotions(a, b)
				if got, ok := impl.MovedShape(w, h, moved[a], b); got != moved[ab] || ok != fits[ab] {
					t.Fatalf("%d in the table %d, %d, moved by %d and %d, is %d, %v, want %d, %v", mask, w, h, a, b, got, ok, moved[ab], fits[ab])
				}
			}
		}
	})
}

// cornerByShifts shifts the mask by one column or one row as long as the first one is empty.
func cornerByShifts(w, h, mask int) int {
	first, _ := columnsOf(w, h)
	for mask != 0 && mask&first == 0 {
		mask >>= 1
	}
	for mask != 0 && mask&(1<<w-1) == 0 {
		mask >>= w
	}
	return mask
}

func TestCornersAgree(t *testing.T) {
	eachShapeOfCells(func(w, h, mask int) {
		corner := impl.CornerOf(w, h, mask)
		if want := cornerByShifts(w, h, mask); corner != want {
			t.Fatalf("CornerOf(%d, %d, %d) = %d, want %d", w, h, mask, corner, want)
		}
		if impl.CornerOf(w, h, corner) != corner || impl.CellCount(w, h, corner) != impl.CellCount(w, h, mask) || impl.RimOf(w, h, corner) != impl.RimOf(w, h, mask) || impl.IsWhole(w, h, corner) != impl.IsWhole(w, h, mask) {
			t.Fatalf("CornerOf(%d, %d, %d) = %d, which is another shape", w, h, mask, corner)
		}
	})
}

// TestShiftedShapesAgree shifts shapes to everywhere in the table.
func TestShiftedShapesAgree(t *testing.T) {
	shifts := 0
	eachShapeOfCells(func(w, h, mask int) {
		corner, name := impl.CornerOf(w, h, mask), impl.NameOfShape(w, h, mask)
		if mask != corner {
			return
		}
		cells := listedCells(w, h, mask)
		for y := range h {
			for x := range w {
				var moved []impl.Point
				for _, c := range cells {
					moved = append(moved, pt(c.X+x, c.Y+y))
				}
				shifted, ok := maskOfCells(w, h, moved)
				if !ok {
					continue
				}
				shifts++
				if impl.CornerOf(w, h, shifted) != corner || impl.NameOfShape(w, h, shifted) != name {
					t.Fatalf("CornerOf and NameOfShape(%d, %d, ..) are %d and %d for %d, but %d and %d for %d", w, h, corner, name, mask, impl.CornerOf(w, h, shifted), impl.NameOfShape(w, h, shifted), shifted)
				}
			}
		}
	})
	if shifts < 5000 {
		t.Errorf("only %d shifts were tried", shifts)
	}
}

func TestNamesAgree(t *testing.T) {
	eachShapeOfCells(func(w, h, mask int) {
		name := impl.NameOfShape(w, h, mask)
		made := false
		for m := range 8 {
			want, fits := ledShape(w, h, mask, m)
			if !fits {
				continue
			}
			made = made || want == name
			if want < name {
				t.Fatalf("NameOfShape(%d, %d, %d) = %d, but the motion %d makes it %d", w, h, mask, name, m, want)
			}
			if got := impl.NameOfShape(w, h, want); got != name {
				t.Fatalf("NameOfShape(%d, %d, ..) = %d for %d, but %d for %d after the motion %d", w, h, name, mask, got, want, m)
			}
		}
		if !made || impl.NameOfShape(w, h, name) != name {
			t.Fatalf("NameOfShape(%d, %d, %d) = %d, which no motion makes", w, h, mask, name)
		}
	})
}

// TestNamesTellShapesApart counts the shapes with different names: the whole ones of n cells are as many as there are polyominoes.
func TestNamesTellShapesApart(t *testing.T) {
	names := map[int]bool{}
	for mask := range 1 << 16 {
		if impl.IsWhole(4, 4, mask) {
			names[impl.NameOfShape(4, 4, mask)] = true
		}
	}
	var counts [17]int
	for name := range names {
		counts[impl.CellCount(4, 4, name)]++
	}
	// Those of five cells without the row of five, which does not fit.
	if want := []int{0, 1, 1, 2, 5, 11}; !slices.Equal(counts[:6], want) {
		t.Errorf("whole shapes of at most five cells have %v names, want %v", counts[:6], want)
	}
}

// TestTablesAgree lays shapes into greater tables, where more motions fit, but the same ones make the same of them.
func TestTablesAgree(t *testing.T) {
	eachShapeOfCells(func(w, h, mask int) {
		cells := listedCells(w, h, mask)
		for _, table := range [][2]int{{6, 6}, {max(w, h), max(w, h)}, {w, 6}, {6, h}} {
			v, u := table[0], table[1]
			same, _ := maskOfCells(v, u, cells)
			if impl.CellCount(v, u, same) != impl.CellCount(w, h, mask) || impl.RimOf(v, u, same) != impl.RimOf(w, h, mask) || impl.IsWhole(v, u, same) != impl.IsWhole(w, h, mask) || len(impl.PartsOf(v, u, same)) != len(impl.PartsOf(w, h, mask)) {
				t.Fatalf("%d in the table %d, %d and %d in the table %d, %d are not the same", mask, w, h, same, v, u)
			}
			for m := range 8 {
				moved, ok := impl.MovedShape(w, h, mask, m)
				there, okThere := impl.MovedShape(v, u, same, m)
				if !ok {
					continue
				}
				if want, _ := maskOfCells(v, u, listedCells(w, h, moved)); there != want || !okThere {
					t.Fatalf("MovedShape(%d, %d, %d, %d) = %d, but %d, %v in the table %d, %d", w, h, mask, m, moved, there, okThere, v, u)
				}
			}
		}
	})
}

func TestTextsOfShapesAgree(t *testing.T) {
	texts := map[string]bool{}
	shapes := 0
	eachSmallShape(func(w, h, mask int) {
		texts[impl.FormatShape(w, h, mask)] = true
		shapes++
	})
	if len(texts) != shapes {
		t.Errorf("%d shapes have %d texts", shapes, len(texts))
	}
	eachShapeOfCells(func(w, h, mask int) {
		text := impl.FormatShape(w, h, mask)
		if !isShapeText(text) {
			t.Fatalf("FormatShape(%d, %d, %d) = %q", w, h, mask, text)
		}
		if gotW, gotH, got := drawn(text); gotW != w || gotH != h || got != mask {
			t.Fatalf("FormatShape(%d, %d, %d) = %q", w, h, mask, text)
		}
		checkText(t, text, w, h, mask)
	})
}

// eachStairs calls do with polygons of six corners whose sides are level and upright in turn, and within a table.
func eachStairs(do func(p []impl.Point)) {
	points := grid(impl.MaxSide)
	for i, a := range points {
		for k, b := range points {
			// Some of the third points: all of them take too long.
			for j := (i + k) % 5; j < len(points); j += 5 {
				c := points[j]
				p := []impl.Point{a, pt(b.X, a.Y), b, pt(c.X, b.Y), c, pt(a.X, c.Y)}
				if isSimple(p) {
					do(p)
				}
			}
		}
	}
}

// coveredBy returns the shape, in the greatest table, of the cells inside of a polygon: their middles are inside of it if all coordinates are doubled.
func coveredBy(p []impl.Point) int {
	var doubled []impl.Point
	for _, c := range p {
		doubled = append(doubled, pt(2*c.X, 2*c.Y))
	}
	mask := 0
	for i := range 36 {
		if surrounds(doubled, pt(2*(i%6)+1, 2*(i/6)+1)) {
			mask |= 1 << i
		}
	}
	return mask
}

// TestShapesAndPolygonsAgree moves polygons and the cells inside of them.
func TestShapesAndPolygonsAgree(t *testing.T) {
	tried := 0
	names, shapes := map[string]int{}, map[int]string{}
	eachStairs(func(p []impl.Point) {
		tried++
		mask := coveredBy(p)
		area := impl.TwiceArea(p)
		if !impl.IsWhole(6, 6, mask) || 2*impl.CellCount(6, 6, mask) != max(area, -area) || impl.RimOf(6, 6, mask) != impl.RimPoints(p) {
			t.Fatalf("%v has the area %d and the rim %d, but its cells %d are %d with the rim %d", p, area, impl.RimPoints(p), mask, impl.CellCount(6, 6, mask), impl.RimOf(6, 6, mask))
		}
		for m := range 8 {
			moved := impl.MovePolygon(p, m)
			if got, ok := impl.MovedShape(6, 6, mask, m); got != coveredBy(moved) || !ok {
				t.Fatalf("MovedShape(6, 6, %d, %d) = %d, %v, want %d, the cells inside of %v", mask, m, got, ok, coveredBy(moved), moved)
			}
		}
		// Polygons have the same shape exactly if their cells have the same name.
		name, shape := impl.NameOfShape(6, 6, mask), impl.FormatPoints(impl.ShapeOf(p))
		if before, ok := names[shape]; ok && before != name {
			t.Fatalf("the shape %s of %v has cells with the names %d and %d", shape, p, before, name)
		}
		if before, ok := shapes[name]; ok && before != shape {
			t.Fatalf("cells with the name %d are inside of the shapes %s and %s", name, before, shape)
		}
		names[shape], shapes[name] = name, shape
	})
	if tried < 2000 || len(names) < 100 {
		t.Errorf("only %d polygons with %d shapes were tried", tried, len(names))
	}
}
