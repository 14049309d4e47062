package tests

import (
	"math"
	"slices"
	"sync"
	"testing"

	"loop.example/g00928/impl"
)

// cylindersWith takes the Width and the Height of each cylinder in turn.
func cylindersWith(sizes ...int) []impl.Cylinder {
	var list []impl.Cylinder
	for i := 0; i < len(sizes); i += 2 {
		list = append(list, impl.Cylinder{Width: sizes[i], Height: sizes[i+1]})
	}
	return list
}

type cylinderCase struct {
	s         impl.Surface
	rows      [][]int
	above     []int
	cylinders []impl.Cylinder
	shears    int
}

func cylinderCases() []cylinderCase {
	return []cylinderCase{
		{surfaceWith([]int{0}, []int{0}), [][]int{{0}}, []int{0}, cylindersWith(1, 1), 1},
		// The row above the only row is this row itself.
		{surfaceWith([]int{1, 0}, []int{0, 1}), [][]int{{0, 1}}, []int{0, 0}, cylindersWith(2, 1), 2},
		{surfaceWith([]int{1, 2, 0}, []int{2, 0, 1}), [][]int{{0, 1, 2}}, []int{0, 0, 0}, cylindersWith(3, 1), 3},
		{surfaceWith([]int{2, 3, 1, 0}, []int{3, 2, 0, 1}), [][]int{{0, 2, 1, 3}}, []int{0, 0, 0, 0}, cylindersWith(4, 1), 4},
		// The highest row is glued to the lowest one, also with a twist.
		{surfaceWith([]int{0, 1}, []int{1, 0}), [][]int{{0}, {1}}, []int{1, 0}, cylindersWith(1, 2), 1},
		{surfaceWith([]int{1, 0, 3, 2, 5, 4}, []int{2, 3, 4, 5, 0, 1}), [][]int{{0, 1}, {2, 3}, {4, 5}}, []int{2, 2, 4, 4, 0, 0}, cylindersWith(2, 3), 2},
		{surfaceWith([]int{1, 0, 3, 2, 5, 4}, []int{4, 5, 1, 0, 2, 3}), [][]int{{0, 1}, {2, 3}, {4, 5}}, []int{4, 4, 0, 0, 2, 2}, cylindersWith(2, 3), 2},
		{surfaceWith([]int{1, 0, 3, 2}, []int{2, 3, 1, 0}), [][]int{{0, 1}, {2, 3}}, []int{2, 2, 0, 0}, cylindersWith(2, 2), 1},
		// Three L: a row whose corners are all singular, one with a regular
		// corner among them, and several rows in a cylinder.
		{surfaceWith([]int{1, 0, 2}, []int{2, 1, 0}), [][]int{{0, 1}, {2}}, []int{-1, -1, -1}, cylindersWith(2, 1, 1, 1), 2},
		{surfaceWith([]int{1, 2, 0, 3}, []int{3, 1, 2, 0}), [][]int{{0, 1, 2}, {3}}, []int{-1, -1, -1, -1}, cylindersWith(3, 1, 1, 1), 3},
		{surfaceWith([]int{1, 0, 2, 3, 4}, []int{2, 1, 3, 4, 0}), [][]int{{0, 1}, {2}, {3}, {4}}, []int{-1, -1, 3, 4, -1}, cylindersWith(2, 1, 1, 3), 2},
		// The third L with the middle row of its leg first and the lowest
		// row of it last.
		{surfaceWith([]int{0, 4, 2, 3, 1}, []int{2, 1, 4, 0, 3}), [][]int{{0}, {1, 4}, {2}, {3}}, []int{2, -1, -1, 0, -1}, cylindersWith(1, 3, 2, 1), 2},
		// The widths have no common divisor.
		{surfaceWith([]int{1, 2, 0, 4, 3}, []int{3, 1, 2, 0, 4}), [][]int{{0, 1, 2}, {3, 4}}, []int{-1, -1, -1, -1, -1}, cylindersWith(3, 1, 2, 1), 6},
		// Two cylinders of several rows.
		{
			surfaceWith([]int{1, 2, 3, 0, 5, 6, 7, 4, 9, 8, 11, 10, 13, 12}, []int{4, 5, 6, 7, 8, 9, 2, 3, 10, 11, 12, 13, 0, 1}),
			[][]int{{0, 1, 2, 3}, {4, 5, 6, 7}, {8, 9}, {10, 11}, {12, 13}},
			[]int{4, 4, 4, 4, -1, -1, -1, -1, 10, 10, 12, 12, -1, -1},
			cylindersWith(4, 2, 2, 3), 2,
		},
		// Genus 3: all corners singular, one row only, and two rows of which
		// the lower one is regular.
		{surfaceWith([]int{1, 2, 3, 0, 5, 6, 7, 4}, []int{4, 7, 6, 5, 2, 1, 0, 3}), [][]int{{0, 1, 2, 3}, {4, 5, 6, 7}}, []int{-1, -1, -1, -1, -1, -1, -1, -1}, cylindersWith(4, 1, 4, 1), 4},
		{surfaceWith([]int{5, 4, 6, 2, 0, 3, 1}, []int{6, 4, 5, 2, 1, 0, 3}), [][]int{{0, 5, 3, 2, 6, 1, 4}}, []int{-1, -1, -1, -1, -1, -1, -1}, cylindersWith(7, 1), 7},
		{surfaceWith([]int{1, 2, 3, 4, 0, 6, 7, 8, 9, 5}, []int{5, 6, 7, 8, 9, 4, 3, 2, 1, 0}), [][]int{{0, 1, 2, 3, 4}, {5, 6, 7, 8, 9}}, []int{5, 5, 5, 5, 5, -1, -1, -1, -1, -1}, cylindersWith(5, 2), 5},
		// Genus 4.
		{zigzag(7), [][]int{{0, 1}, {2, 3}, {4, 5}, {6}}, []int{-1, -1, -1, -1, -1, -1, -1}, cylindersWith(2, 1, 2, 1, 2, 1, 1, 1), 2},
	}
}

// stacked returns a surface of these cylinders, with its squares numbered row
// by row from below. The upper sides of the cylinders, counted from left to
// right through all of them, are glued to the lower sides by a permutation.
func stacked(list []impl.Cylinder, glued []int) impl.Surface {
	var s impl.Surface
	var lower, upper []int
	for _, c := range list {
		for y := range c.Height {
			first := len(s.Right)
			for x := range c.Width {
				s.Right = append(s.Right, first+(x+1)%c.Width)
				s.Up = append(s.Up, first+c.Width+x)
				if y == 0 {
					lower = append(lower, first+x)
				}
				if y == c.Height-1 {
					upper = append(upper, first+x)
				}
			}
		}
	}
	for i, square := range upper {
		s.Up[square] = lower[glued[i]]
	}
	return s
}

// stackedSurfaces returns surfaces of cylinders whose widths add up to at most
// 4, with heights of at most 3, glued in all ways.
func stackedSurfaces() []impl.Surface {
	var list []impl.Surface
	stacks := [][]impl.Cylinder{nil}
	for len(stacks) > 0 {
		stack := stacks[0]
		stacks = stacks[1:]
		width := 0
		for _, c := range stack {
			width += c.Width
		}
		for _, glued := range permsOf(width) {
			if s := stacked(stack, glued); isSurfaceSlowly(s) {
				list = append(list, s)
			}
		}
		for w := 1; width+w <= 4; w++ {
			for h := 1; h <= 3; h++ {
				stacks = append(stacks, append(slices.Clone(stack), impl.Cylinder{Width: w, Height: h}))
			}
		}
	}
	return list
}

type stack struct {
	s         impl.Surface
	cylinders []impl.Cylinder
}

func stackOf(glued []int, sizes ...int) stack {
	list := cylindersWith(sizes...)
	return stack{stacked(list, glued), list}
}

// largeStacks returns cylinders of 7 to 24 squares, glued so that no two of
// them become one.
func largeStacks() []stack {
	return []stack{
		stackOf([]int{3, 1, 2, 0, 4}, 3, 1, 2, 2),
		stackOf([]int{2, 1, 0, 3}, 4, 6),
		stackOf([]int{4, 5, 6, 7, 0, 1, 2, 3, 8}, 4, 1, 5, 1),
		stackOf([]int{5, 1, 2, 3, 4, 0}, 5, 4, 1, 4),
		stackOf([]int{0, 1, 2, 6, 4, 5, 3, 7}, 6, 2, 2, 6),
		stackOf([]int{4, 1, 2, 3, 7, 5, 6, 0, 8, 9}, 4, 2, 3, 4, 3, 1),
		stackOf([]int{7, 1, 2, 3, 0, 5, 6, 4, 9, 8}, 4, 3, 3, 2, 3, 2),
		stackOf([]int{3, 2, 1, 0, 7, 6, 5, 4, 8, 9, 10, 11}, 12, 2),
		stackOf([]int{11, 1, 2, 3, 4, 5, 6, 7, 8, 9, 10, 0}, 11, 2, 1, 2),
	}
}

// cylinderSurfaces returns surfaces of all kinds, and of the larger ones some
// with other names.
func cylinderSurfaces() []impl.Surface {
	list := append(cornerSurfaces(), unevenRows(), twoRows(5, 7), twoRows(6, 4), twoRows(1, 8), twoRows(8, 1))
	for _, c := range cylinderCases() {
		for _, names := range someNames(len(c.s.Right)) {
			list = append(list, renamedSlowly(c.s, names))
		}
	}
	for _, c := range largeStacks() {
		for _, names := range someNames(len(c.s.Right)) {
			list = append(list, renamedSlowly(c.s, names))
		}
	}
	for _, s := range stackedSurfaces() {
		list = append(list, renamedSlowly(s, mixedUp(len(s.Right))))
	}
	return list
}

// rowSlowly goes around the row of a square, beginning with this square.
func rowSlowly(s impl.Surface, square int) []int {
	row := []int{square}
	for s.Right[row[len(row)-1]] != square {
		row = append(row, s.Right[row[len(row)-1]])
	}
	return row
}

// leastInRow is the name of a row.
func leastInRow(s impl.Surface, square int) int { return slices.Min(rowSlowly(s, square)) }

// aboveSlowly returns for each square the least one of the row above, or -1. A
// corner is regular if the point where it lies is the upper right corner of no
// other square.
func aboveSlowly(s impl.Surface) []int {
	counts := map[int]int{}
	points := upperRightPoints(pointsSlowly(s))
	for _, p := range points {
		counts[p]++
	}
	above := make([]int, len(s.Right))
	for i := range above {
		above[i] = leastInRow(s, s.Up[i])
		for _, x := range rowSlowly(s, i) {
			if counts[points[x]] > 1 {
				above[i] = -1
			}
		}
	}
	return above
}

// groupsSlowly returns for each square the least one of its cylinder: it gives
// all squares their own numbers, and the lesser number to both rows wherever a
// row and the row above belong to the same cylinder.
func groupsSlowly(s impl.Surface) []int {
	groups := counting(len(s.Right))
	above := aboveSlowly(s)
	join := func(a int, b int) bool {
		from, to := max(groups[a], groups[b]), min(groups[a], groups[b])
		for i, x := range groups {
			if x == from {
				groups[i] = to
			}
		}
		return from != to
	}
	for i := range groups {
		join(i, s.Right[i])
		if above[i] >= 0 {
			join(i, above[i])
		}
	}
	return groups
}

// cylindersSlowly counts the squares of each cylinder and divides them by those
// of a row.
func cylindersSlowly(s impl.Surface) []impl.Cylinder {
	groups := groupsSlowly(s)
	var list []impl.Cylinder
	for i, least := range groups {
		if i != least {
			continue
		}
		count := 0
		for _, x := range groups {
			if x == i {
				count++
			}
		}
		width := len(rowSlowly(s, i))
		list = append(list, impl.Cylinder{Width: width, Height: count / width})
	}
	return list
}

// leastShearsSlowly tries all numbers: k shears move the upper side of a
// cylinder by k times its Height.
func leastShearsSlowly(list []impl.Cylinder) int {
	for k := 1; ; k++ {
		if !slices.ContainsFunc(list, func(c impl.Cylinder) bool { return k*c.Height%c.Width != 0 }) {
			return k
		}
	}
}

func mustCylinders(t *testing.T, s impl.Surface) []impl.Cylinder {
	t.Helper()
	list, ok := impl.CylindersOf(s)
	if !ok {
		t.Fatalf("CylindersOf(%v) fails", s)
	}
	return list
}

func checkCylinders(t *testing.T, c cylinderCase) {
	t.Helper()
	if got := impl.RowsOf(c.s); !equalLists(got, c.rows) {
		t.Errorf("RowsOf(%v) = %v, want %v", c.s, got, c.rows)
	}
	for square, want := range c.above {
		if got := impl.RowAbove(c.s, square); got != want {
			t.Errorf("RowAbove(%v, %d) = %d, want %d", c.s, square, got, want)
		}
	}
	if got, ok := impl.CylindersOf(c.s); !slices.Equal(got, c.cylinders) || !ok {
		t.Errorf("CylindersOf(%v) = %v, %t, want %v", c.s, got, ok, c.cylinders)
	}
	if got := impl.LeastShears(c.s); got != c.shears {
		t.Errorf("LeastShears(%v) = %d, want %d", c.s, got, c.shears)
	}
}

func TestCylinders(t *testing.T) {
	for _, c := range cylinderCases() {
		checkCylinders(t, c)
	}
}

func TestCylindersOfManySurfaces(t *testing.T) {
	for _, s := range cylinderSurfaces() {
		c := cylinderCase{s: s, above: aboveSlowly(s), cylinders: cylindersSlowly(s)}
		for i := range s.Right {
			if row := rowSlowly(s, i); slices.Min(row) == i {
				c.rows = append(c.rows, row)
			}
		}
		c.shears = leastShearsSlowly(c.cylinders)
		checkCylinders(t, c)
	}
}

// TestCylindersThatWereStacked has them in any order after a renaming.
func TestCylindersThatWereStacked(t *testing.T) {
	for _, c := range largeStacks() {
		if got := mustCylinders(t, c.s); !slices.Equal(got, c.cylinders) {
			t.Errorf("CylindersOf(%v) = %v, want %v", c.s, got, c.cylinders)
		}
		for _, names := range someNames(len(c.s.Right)) {
			renamed := renamedSlowly(c.s, names)
			if got := mustCylinders(t, renamed); !slices.Equal(sortedCylinders(got), sortedCylinders(c.cylinders)) {
				t.Errorf("CylindersOf(%v) = %v, want %v in some order", renamed, got, c.cylinders)
			}
		}
	}
}

func sortedCylinders(list []impl.Cylinder) []impl.Cylinder {
	return slices.SortedFunc(slices.Values(list), func(a impl.Cylinder, b impl.Cylinder) int {
		return 100*(a.Width-b.Width) + a.Height - b.Height
	})
}

func TestRowsAreTheCyclesOfRight(t *testing.T) {
	for _, s := range cylinderSurfaces() {
		if got, want := impl.RowsOf(s), impl.CyclesOf(s.Right); !equalLists(got, want) {
			t.Errorf("RowsOf(%v) = %v, want %v", s, got, want)
		}
	}
}

// TestRowAboveNeedsRegularCorners goes up from all squares of a row: where all
// corners are regular, this leads to all squares of one row, which is as long.
func TestRowAboveNeedsRegularCorners(t *testing.T) {
	for _, s := range cylinderSurfaces() {
		for _, row := range impl.RowsOf(s) {
			singular := slices.ContainsFunc(row, func(x int) bool { return !impl.IsRegularCorner(s, x) })
			var up []int
			for _, x := range row {
				up = append(up, s.Up[x])
			}
			slices.Sort(up)
			for _, x := range row {
				got := impl.RowAbove(s, x)
				if singular && got == -1 {
					continue
				}
				if singular || got != up[0] || !slices.Equal(slices.Sorted(slices.Values(rowSlowly(s, up[0]))), up) {
					t.Errorf("RowAbove(%v, %d) = %d, but above it lie %v", s, x, got, up)
				}
			}
		}
	}
}

func TestRowAboveOfNoSquare(t *testing.T) {
	for _, c := range cylinderCases() {
		n := len(c.s.Right)
		for _, square := range []int{-1, -2, -n, n, n + 1, 24, 25, -24, math.MaxInt, math.MinInt, math.MaxInt - n, math.MinInt + 1, 1 << 32, -1 << 32} {
			if got := impl.RowAbove(c.s, square); got != -1 {
				t.Errorf("RowAbove(%v, %d) = %d", c.s, square, got)
			}
		}
	}
	for _, square := range []int{-1, 24, 25, math.MaxInt, math.MinInt} {
		for _, s := range []impl.Surface{torusSlowly(24, 1), torusSlowly(1, 24), torusSlowly(4, 6)} {
			if got := impl.RowAbove(s, square); got != -1 {
				t.Errorf("RowAbove(%v, %d) = %d", s, square, got)
			}
		}
	}
}

// TestRowAboveLooksAtAllCornersOfARow has rows in which one corner alone is
// singular, at any place in the row, and rows in which one alone is regular.
func TestRowAboveLooksAtAllCornersOfARow(t *testing.T) {
	surfaces := cylinderSurfaces()
	for step := range 9 {
		surfaces = append(surfaces, renamedSlowly(largeStacks()[2].s, circling(9, step)))
	}
	mixed, alone := map[int]bool{}, map[int]bool{}
	for _, s := range surfaces {
		for _, row := range impl.RowsOf(s) {
			var regular, singular []int
			for i, x := range row {
				if impl.IsRegularCorner(s, x) {
					regular = append(regular, i)
				} else {
					singular = append(singular, i)
				}
			}
			if len(singular) == 1 && len(row) == 4 {
				mixed[singular[0]] = true
			}
			if len(regular) == 1 && len(row) == 4 {
				alone[regular[0]] = true
			}
			if len(singular) == 0 {
				continue
			}
			for _, x := range row {
				if got := impl.RowAbove(s, x); got != -1 {
					t.Errorf("RowAbove(%v, %d) = %d, but its row %v has the singular corners at %v", s, x, got, row, singular)
				}
			}
		}
	}
	if len(mixed) != 4 || len(alone) != 4 {
		t.Errorf("singular corners alone in a row of 4 at %v, regular ones at %v", mixed, alone)
	}
}

func TestCylindersFillTheSurface(t *testing.T) {
	for _, s := range cylinderSurfaces() {
		list := mustCylinders(t, s)
		if got := impl.AreaOf(list); got != len(s.Right) || got != impl.CountSquares(s) {
			t.Errorf("AreaOf(%v) = %d for the cylinders of %v", list, got, s)
		}
	}
}

// TestRowsOfACylinder follows RowAbove from the least row of each cylinder,
// upwards and backwards, and counts the rows.
func TestRowsOfACylinder(t *testing.T) {
	for _, s := range cylinderSurfaces() {
		below := map[int]int{}
		for _, row := range impl.RowsOf(s) {
			if above := impl.RowAbove(s, row[0]); above >= 0 {
				below[above] = row[0]
			}
		}
		met := map[int]bool{}
		list := mustCylinders(t, s)
		for _, row := range impl.RowsOf(s) {
			if met[row[0]] {
				continue
			}
			if len(list) == 0 {
				t.Fatalf("CylindersOf(%v) = %v lacks that of the row %v", s, mustCylinders(t, s), row)
			}
			c := list[0]
			list = list[1:]
			height := 0
			count := func(x int) {
				met[x] = true
				height++
				if got := len(rowSlowly(s, x)); got != c.Width {
					t.Errorf("the row of %d in %v has %d squares, but the cylinder %v", x, s, got, c)
				}
			}
			for x := row[0]; x >= 0 && !met[x]; x = impl.RowAbove(s, x) {
				count(x)
			}
			for x, ok := below[row[0]]; ok && !met[x]; x, ok = below[x] {
				count(x)
			}
			if height != c.Height {
				t.Errorf("the cylinder of the row %v in %v has %d rows, not %d", row, s, height, c.Height)
			}
		}
		if len(list) != 0 {
			t.Errorf("CylindersOf(%v) has %v without rows", s, list)
		}
	}
}

func TestCylindersOfTori(t *testing.T) {
	for width := 1; width <= 24; width++ {
		for height := 1; width*height <= 24; height++ {
			straight := torusSlowly(width, height)
			for twist := range width {
				// The upper row is glued to the lower one with a twist.
				s := cloneSurface(straight)
				for x := range width {
					s.Up[(height-1)*width+x] = (x + twist) % width
				}
				c := cylinderCase{s: s, cylinders: cylindersWith(width, height), shears: width / divisor(width, height)}
				for y := range height {
					row := counting(width)
					for x := range row {
						row[x] += y * width
						c.above = append(c.above, (y+1)%height*width)
					}
					c.rows = append(c.rows, row)
				}
				checkCylinders(t, c)
			}
		}
	}
}

// TestCylindersOfElls has two cylinders: the arm, and the leg above it.
func TestCylindersOfElls(t *testing.T) {
	for arm := 2; arm <= 23; arm++ {
		for leg := 2; arm+leg <= 25; leg++ {
			c := cylinderCase{s: ellSlowly(arm, leg), cylinders: cylindersWith(arm, 1, 1, leg-1), shears: arm}
			c.rows = [][]int{counting(arm)}
			c.above = slices.Repeat([]int{-1}, arm)
			for x := arm; x < arm+leg-1; x++ {
				c.rows = append(c.rows, []int{x})
				c.above = append(c.above, x+1)
			}
			c.above[arm+leg-2] = -1
			checkCylinders(t, c)
			// The same L turned has rows where this one has columns.
			turned := mustCylinders(t, mustRun(t, c.s, "S"))
			if want := cylindersWith(leg, 1, 1, arm-1); !slices.Equal(sortedCylinders(turned), sortedCylinders(want)) {
				t.Errorf("the L of %d and %d has the cylinders %v after a turn, want %v", arm, leg, turned, want)
			}
		}
	}
	for n := 1; n <= 24; n++ {
		if got := mustCylinders(t, ellSlowly(n, 1)); !slices.Equal(got, cylindersWith(n, 1)) {
			t.Errorf("CylindersOf the L of %d and 1 = %v", n, got)
		}
		if got := mustCylinders(t, ellSlowly(1, n)); !slices.Equal(got, cylindersWith(1, n)) {
			t.Errorf("CylindersOf the L of 1 and %d = %v", n, got)
		}
	}
}

// TestCylindersComeInTheOrderOfTheirLeastSquares moves the least square of the
// surface into each of its squares.
func TestCylindersComeInTheOrderOfTheirLeastSquares(t *testing.T) {
	for _, c := range largeStacks() {
		n := len(c.s.Right)
		for step := range n {
			renamed := renamedSlowly(c.s, circling(n, step))
			if got, want := mustCylinders(t, renamed), cylindersSlowly(renamed); !slices.Equal(got, want) {
				t.Errorf("CylindersOf(%v) = %v, want %v", renamed, got, want)
			}
		}
	}
	// The cylinder of the first square has the lowest row 1 and the highest
	// row 0, and between them lies the row of the last square.
	s := surfaceWith([]int{0, 1, 3, 2, 4}, []int{2, 4, 1, 3, 0})
	checkCylinders(t, cylinderCase{s, [][]int{{0}, {1}, {2, 3}, {4}}, []int{-1, 4, -1, -1, 0}, cylindersWith(1, 3, 2, 1), 2})
}

func TestLeastShears(t *testing.T) {
	cases := []struct {
		s    impl.Surface
		want int
	}{
		// The Width and the Height have a common divisor.
		{torusSlowly(6, 4), 3},
		{torusSlowly(4, 6), 2},
		{torusSlowly(4, 4), 1},
		{torusSlowly(3, 6), 1},
		{torusSlowly(12, 2), 6},
		{stacked(cylindersWith(4, 6), []int{2, 1, 0, 3}), 2},
		{stacked(cylindersWith(6, 2, 2, 6), []int{0, 1, 2, 6, 4, 5, 3, 7}), 3},
		{stacked(cylindersWith(12, 2), []int{3, 2, 1, 0, 7, 6, 5, 4, 8, 9, 10, 11}), 6},
		// The least common multiple is neither the product nor the greatest.
		{twoRows(4, 6), 12},
		{twoRows(6, 4), 12},
		{twoRows(9, 15), 45},
		{twoRows(10, 14), 70},
		{twoRows(11, 13), 143},
		{twoRows(8, 16), 16},
		{twoRows(12, 12), 12},
		{unevenRows(), 840},
		{zigzag(24), 2},
	}
	for _, c := range cases {
		for _, names := range someNames(len(c.s.Right)) {
			s := renamedSlowly(c.s, names)
			if got := impl.LeastShears(s); got != c.want {
				t.Errorf("LeastShears(%v) = %d, want %d", s, got, c.want)
			}
		}
	}
}

func TestLeastShearsOfTwoRows(t *testing.T) {
	for a := 1; a <= 23; a++ {
		for b := 1; a+b <= 24; b++ {
			want := a * b / divisor(a, b)
			if got := impl.LeastShears(twoRows(a, b)); got != want {
				t.Errorf("LeastShears of rows of %d and %d = %d, want %d", a, b, got, want)
			}
		}
	}
}

// TestShearPeriodDividesLeastShears has surfaces of which the period is less.
func TestShearPeriodDividesLeastShears(t *testing.T) {
	less := 0
	for _, s := range cylinderSurfaces() {
		least, period := impl.LeastShears(s), impl.ShearPeriod(s)
		if least%period != 0 {
			t.Errorf("LeastShears(%v) = %d, but ShearPeriod = %d", s, least, period)
		}
		if least != period {
			less++
		}
	}
	if less == 0 {
		t.Errorf("all surfaces have a ShearPeriod of LeastShears")
	}
}

// TestAShearKeepsTheCylinders is so for each shear, since it moves every row
// along itself.
func TestAShearKeepsTheCylinders(t *testing.T) {
	for _, s := range cylinderSurfaces() {
		c := cylinderCase{letterSlowly(s, "T"), impl.RowsOf(s), nil, mustCylinders(t, s), impl.LeastShears(s)}
		for i := range s.Right {
			c.above = append(c.above, impl.RowAbove(s, i))
		}
		checkCylinders(t, c)
		c.s = letterSlowly(s, "t")
		checkCylinders(t, c)
	}
}

// movedBack returns the names that the squares have if every row is moved to
// the left by the number of shears times the number of rows below it in its
// cylinder. A cylinder that closes on itself may begin with any row.
func movedBack(s impl.Surface, shears int) []int {
	above := aboveSlowly(s)
	names := slices.Repeat([]int{-1}, len(above))
	moveUpFrom := func(least int) {
		for height := 0; least >= 0 && names[least] < 0; height++ {
			row := rowSlowly(s, least)
			for i, x := range row {
				names[x] = row[(i+height*shears*(len(row)-1))%len(row)]
			}
			least = above[least]
		}
	}
	for i := range names {
		if !slices.Contains(above, leastInRow(s, i)) {
			moveUpFrom(leastInRow(s, i))
		}
	}
	for i := range names {
		moveUpFrom(leastInRow(s, i))
	}
	return names
}

// TestAfterLeastShearsEveryCylinderIsAsBefore has the same surface after as
// many shears, if only the rows inside of the cylinders are moved back; after
// fewer shears it is another one.
func TestAfterLeastShearsEveryCylinderIsAsBefore(t *testing.T) {
	for _, s := range cylinderSurfaces() {
		if len(s.Right) > 12 && impl.LeastShears(s) > 12 {
			continue
		}
		sheared := s
		for k := 1; k <= 2*impl.LeastShears(s); k++ {
			sheared = letterSlowly(sheared, "T")
			want := k%impl.LeastShears(s) == 0
			if got := equalSurfaces(renamedSlowly(s, movedBack(s, k)), sheared); got != want {
				t.Errorf("LeastShears(%v) = %d, but after %d shears it is %v", s, impl.LeastShears(s), k, sheared)
			}
		}
	}
}

func TestRenamingsKeepTheCylinders(t *testing.T) {
	for _, c := range largeStacks() {
		checkRenamings(t, c.s)
	}
	for _, s := range append(validSurfaces(), unevenRows()) {
		checkRenamings(t, s)
	}
}

func checkRenamings(t *testing.T, s impl.Surface) {
	t.Helper()
	list, least := sortedCylinders(mustCylinders(t, s)), impl.LeastShears(s)
	for _, names := range someNames(len(s.Right)) {
		renamed := renamedSlowly(s, names)
		if got := sortedCylinders(mustCylinders(t, renamed)); !slices.Equal(got, list) {
			t.Errorf("CylindersOf(%v) = %v, want %v as for %v", renamed, got, list, s)
		}
		if got := impl.LeastShears(renamed); got != least {
			t.Errorf("LeastShears(%v) = %d, want %d as for %v", renamed, got, least, s)
		}
		for square, name := range names {
			want := impl.RowAbove(s, square)
			if want >= 0 {
				want = leastInRow(renamed, names[want])
			}
			if got := impl.RowAbove(renamed, name); got != want {
				t.Errorf("RowAbove(%v, %d) = %d, want %d as for %v", renamed, name, got, want, s)
			}
		}
	}
}

// repeated returns a list of n cylinders of this size.
func repeated(n int, width int, height int) []impl.Cylinder {
	return slices.Repeat(cylindersWith(width, height), n)
}

func TestAreaOf(t *testing.T) {
	cases := []struct {
		list []impl.Cylinder
		want int
	}{
		{nil, 0},
		{[]impl.Cylinder{}, 0},
		{cylindersWith(1, 1), 1},
		{cylindersWith(3, 5), 15},
		{cylindersWith(1, 24), 24},
		{cylindersWith(24, 1), 24},
		{cylindersWith(24, 24), 576},
		{cylindersWith(2, 1, 1, 1), 3},
		{cylindersWith(2, 3, 3, 2, 4, 5), 32},
		// The area may be greater than that of a surface.
		{cylindersWith(24, 24, 24, 24), 1152},
		{repeated(23, 1, 1), 23},
		{repeated(24, 1, 1), 24},
		{repeated(24, 1, 2), 48},
		{repeated(24, 24, 24), 13824},
		{repeated(25, 1, 1), -1},
		{repeated(25, 24, 24), -1},
		{repeated(26, 1, 1), -1},
		{repeated(1000, 1, 1), -1},
		{cylindersWith(0, 0), -1},
		{cylindersWith(0, 1), -1},
		{cylindersWith(1, 0), -1},
		{cylindersWith(25, 1), -1},
		{cylindersWith(1, 25), -1},
		{cylindersWith(25, 25), -1},
		{cylindersWith(-1, 1), -1},
		{cylindersWith(1, -1), -1},
		{cylindersWith(-1, -1), -1},
		{cylindersWith(-2, -3), -1},
		{cylindersWith(math.MaxInt, 1), -1},
		{cylindersWith(1, math.MinInt), -1},
		{cylindersWith(math.MinInt, math.MinInt), -1},
		{cylindersWith(math.MaxInt, math.MaxInt), -1},
		{cylindersWith(1<<32, 1<<32), -1},
		{cylindersWith(2, 3, 0, 0), -1},
		{cylindersWith(0, 4, 2, 3), -1},
		{cylindersWith(5, 5, -1, 25), -1},
	}
	for _, c := range cases {
		if got := impl.AreaOf(c.list); got != c.want {
			t.Errorf("AreaOf(%v) = %d, want %d", c.list, got, c.want)
		}
	}
}

func TestAreaOfEachSize(t *testing.T) {
	for width := -3; width <= 27; width++ {
		for height := -3; height <= 27; height++ {
			want := -1
			if min(width, height) >= 1 && max(width, height) <= 24 {
				want = width * height
			}
			if got := impl.AreaOf(cylindersWith(width, height)); got != want {
				t.Errorf("AreaOf(%d and %d) = %d, want %d", width, height, got, want)
			}
		}
	}
}

// TestAreaOfSeesAWrongCylinderAnywhere has lists of each length.
func TestAreaOfSeesAWrongCylinderAnywhere(t *testing.T) {
	wrong := cylindersWith(0, 3, 3, 0, 25, 2, 2, 25, -1, 4, 4, -1, -2, -2, math.MaxInt, 2, 2, math.MinInt)
	for n := 1; n <= 26; n++ {
		list := repeated(n, 2, 3)
		want := 6 * n
		if n > 24 {
			want = -1
		}
		if got := impl.AreaOf(list); got != want {
			t.Errorf("AreaOf(%v) = %d, want %d", list, got, want)
		}
		for i := range list {
			for _, c := range wrong {
				list[i] = c
				if got := impl.AreaOf(list); got != -1 {
					t.Errorf("AreaOf(%v) = %d", list, got)
				}
			}
			list[i] = impl.Cylinder{Width: 2, Height: 3}
		}
	}
}

func TestAreaOfDoesNotDependOnTheOrder(t *testing.T) {
	var list []impl.Cylinder
	area := 0
	for i := 1; i <= 24; i++ {
		list = append(list, impl.Cylinder{Width: i, Height: 25 - i})
		area += i * (25 - i)
		backwards := slices.Clone(list)
		slices.Reverse(backwards)
		if got, other := impl.AreaOf(list), impl.AreaOf(backwards); got != area || other != area {
			t.Errorf("AreaOf(%v) = %d and backwards %d, want %d", list, got, other, area)
		}
	}
}

func TestAreaOfKeepsItsArgument(t *testing.T) {
	for _, list := range [][]impl.Cylinder{nil, cylindersWith(3, 2, 1, 7), cylindersWith(0, 25, 3, 2), repeated(24, 24, 24), repeated(30, 1, 1)} {
		roomy := append(slices.Clone(list), cylindersWith(-7, -8, -9, -10)...)
		before := slices.Clone(roomy)
		impl.AreaOf(roomy[:len(list)])
		if !slices.Equal(roomy, before) {
			t.Errorf("AreaOf changed %v to %v", before, roomy)
		}
	}
}

func checkNoCylinders(t *testing.T, s impl.Surface) {
	t.Helper()
	if got := impl.RowsOf(s); len(got) != 0 {
		t.Errorf("RowsOf(%v) = %v", s, got)
	}
	for _, square := range []int{-1, 0, 1, len(s.Right) - 1, len(s.Right), len(s.Up), 23, 24, math.MaxInt, math.MinInt} {
		if got := impl.RowAbove(s, square); got != -1 {
			t.Errorf("RowAbove(%v, %d) = %d", s, square, got)
		}
	}
	if got, ok := impl.CylindersOf(s); len(got) != 0 || ok {
		t.Errorf("CylindersOf(%v) = %v, %t", s, got, ok)
	}
	if got := impl.LeastShears(s); got != 0 {
		t.Errorf("LeastShears(%v) = %d", s, got)
	}
}

func TestInvalidSurfacesHaveNoCylinders(t *testing.T) {
	for _, s := range invalidSurfaces() {
		checkNoCylinders(t, s)
	}
}

func TestCylindersOfAllShortLists(t *testing.T) {
	for _, s := range shortSurfaces() {
		if !isSurfaceSlowly(s) {
			checkNoCylinders(t, s)
		} else if got, want := mustCylinders(t, s), cylindersSlowly(s); !slices.Equal(got, want) {
			t.Errorf("CylindersOf(%v) = %v, want %v", s, got, want)
		}
	}
}

// cylinderCalls makes the calls of the layer with a surface, as Right and Up.
func cylinderCalls(lists [][]int) map[string]func() [][]int {
	s := surfaceWith(lists[0], lists[1])
	return map[string]func() [][]int{
		"RowsOf":      func() [][]int { return impl.RowsOf(s) },
		"RowAbove":    func() [][]int { impl.RowAbove(s, 0); return nil },
		"CylindersOf": func() [][]int { impl.CylindersOf(s); return nil },
		"LeastShears": func() [][]int { impl.LeastShears(s); return nil },
	}
}

func TestCylindersKeepTheRulesOfMemory(t *testing.T) {
	surfaces := append(invalidSurfaces(), longSurfaces()...)
	for _, c := range cylinderCases() {
		surfaces = append(surfaces, c.s)
	}
	for _, c := range largeStacks() {
		surfaces = append(surfaces, c.s)
	}
	for _, s := range surfaces {
		checkMemory(t, [][]int{s.Right, s.Up}, cylinderCalls)
	}
}

func TestListsOfCylindersAreIndependent(t *testing.T) {
	for _, c := range cylinderCases() {
		first, second := mustCylinders(t, c.s), mustCylinders(t, c.s)
		spoil(first, impl.Cylinder{Width: -1, Height: -1})
		if !slices.Equal(second, c.cylinders) {
			t.Errorf("two results of CylindersOf(%v) share memory", c.s)
		}
		checkCylinders(t, c)
	}
}

// TestCylindersOfOneListAsRightAndUp gives the same memory twice.
func TestCylindersOfOneListAsRightAndUp(t *testing.T) {
	list := []int{1, 2, 0}
	c := cylinderCase{surfaceWith(list, list), [][]int{{0, 1, 2}}, []int{0, 0, 0}, cylindersWith(3, 1), 3}
	checkCylinders(t, c)
	for _, row := range impl.RowsOf(c.s) {
		spoil(row, -1)
	}
	if !slices.Equal(list, []int{1, 2, 0}) {
		t.Errorf("a change of the rows changed the argument: %v", list)
	}
	checkCylinders(t, c)
}

// TestCylindersAreTheSameAtEveryRun repeats calls, also at the same time.
func TestCylindersAreTheSameAtEveryRun(t *testing.T) {
	for _, c := range cylinderCases() {
		var calls sync.WaitGroup
		for range 4 {
			calls.Go(func() {
				for range 3 {
					checkCylinders(t, c)
				}
			})
		}
		calls.Wait()
	}
}
