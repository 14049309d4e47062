package tests

import (
	"math"
	"slices"
	"strings"
	"sync"
	"testing"

	"loop.example/g00928/impl"
)

// cellsAt returns the cells with these numbers, x and y by turns.
func cellsAt(numbers ...int) []impl.Cell {
	var cells []impl.Cell
	for i := 0; i+1 < len(numbers); i += 2 {
		cells = append(cells, impl.Cell{X: numbers[i], Y: numbers[i+1]})
	}
	return cells
}

type bounceCase struct {
	cell, p, q int
	text       string
	count      int
}

type tableCase struct {
	cells   []impl.Cell
	right   []int
	up      []int
	walls   int
	angles  []int
	bounces []bounceCase
}

// tableCases were made apart from the program.
func tableCases() []tableCase {
	return []tableCase{
		{
			cellsAt(0, 0), []int{1, 0, 3, 2}, []int{2, 3, 0, 1},
			4, []int{1, 1, 1, 1},
			[]bounceCase{{0, 1, 0, "HH", 2}, {0, 0, 1, "VV", 2}, {0, 1, 1, "HVHV", 4}, {0, 3, 2, "HHVHVHHVHV", 10}, {0, 1, 11, "HVVVVVVVVVVVHVVVVVVVVVVV", 24}},
		},
		{
			cellsAt(9, 9), []int{1, 0, 3, 2}, []int{2, 3, 0, 1},
			4, []int{1, 1, 1, 1},
			[]bounceCase{{0, 1, 1, "HVHV", 4}, {0, 2, 3, "HVHVVHVHVV", 10}},
		},
		{
			cellsAt(0, 0, 1, 0), []int{4, 0, 6, 2, 5, 1, 7, 3}, []int{2, 3, 0, 1, 6, 7, 4, 5},
			6, []int{1, 2, 1, 1, 2, 1},
			[]bounceCase{{0, 1, 0, ".H.H", 2}, {1, 1, 0, "H.H.", 2}, {0, 0, 1, "VV", 2}, {1, 1, 1, "HV.VHV.V", 6}, {0, 2, 1, ".HV.HV", 4}},
		},
		{
			cellsAt(0, 8, 0, 9), []int{1, 0, 3, 2, 5, 4, 7, 6}, []int{4, 5, 0, 1, 6, 7, 2, 3},
			6, []int{1, 1, 2, 2, 1, 1},
			[]bounceCase{{0, 0, 1, ".V.V", 2}, {1, 1, 0, "HH", 2}, {1, 3, 1, "HHHVHHH.HHHVHHH.", 14}},
		},
		{
			cellsAt(7, 0, 8, 0, 9, 0), []int{4, 0, 6, 2, 8, 1, 10, 3, 9, 5, 11, 7}, []int{2, 3, 0, 1, 6, 7, 4, 5, 10, 11, 8, 9},
			8, []int{1, 2, 2, 1, 1, 2, 2, 1},
			[]bounceCase{{1, 1, 0, ".H..H.", 2}, {2, 1, 1, "HV.V.VHV.V.V", 8}, {0, 3, 2, "..VHV..VHV", 6}},
		},
		{
			cellsAt(0, 0, 1, 0, 0, 1), []int{4, 0, 6, 2, 5, 1, 7, 3, 9, 8, 11, 10}, []int{8, 9, 0, 1, 6, 7, 4, 5, 10, 11, 2, 3},
			8, []int{1, 2, 1, 2, 3, 1, 1, 1},
			[]bounceCase{{0, 1, 1, ".VHV..HVH.HV", 8}, {2, 1, 0, "HH", 2}, {1, 2, 1, "H..HHVHH.H.V", 8}, {2, 1, 3, "HV.VH.V..VVVHVVV.V.VH.V.", 16}},
		},
		{
			cellsAt(0, 0, 1, 0, 1, 1), []int{4, 0, 6, 2, 5, 1, 7, 3, 9, 8, 11, 10}, []int{2, 3, 0, 1, 8, 9, 4, 5, 10, 11, 6, 7},
			8, []int{1, 2, 1, 1, 3, 2, 1, 1},
			[]bounceCase{{0, 1, 1, "..HVH.HV.VHV", 8}, {1, 0, 1, ".V.V", 2}, {2, 3, 1, "HHHVHHH.H.HV.H.VH.HV.H..", 16}},
		},
		{
			cellsAt(4, 5, 4, 6, 5, 6), []int{1, 0, 3, 2, 8, 4, 10, 6, 9, 5, 11, 7}, []int{4, 5, 0, 1, 6, 7, 2, 3, 10, 11, 8, 9},
			8, []int{1, 1, 2, 3, 1, 1, 2, 1},
			[]bounceCase{{0, 1, 1, "H.HV.VHV..HV", 8}, {2, 1, 0, "H.H.", 2}, {1, 5, 2, ".H.VH.VH.HV.HV.H.VH..HHHVHH.", 18}},
		},
		{
			cellsAt(9, 8, 8, 9, 9, 9), []int{1, 0, 3, 2, 8, 4, 10, 6, 9, 5, 11, 7}, []int{8, 9, 0, 1, 6, 7, 4, 5, 10, 11, 2, 3},
			8, []int{1, 1, 1, 3, 2, 1, 2, 1},
			[]bounceCase{{0, 1, 1, "H..VHV.VH.HV", 8}, {1, 0, 1, "VV", 2}, {2, 1, 1, "HV.VHV..HVH.", 8}},
		},
		{
			cellsAt(0, 0, 1, 0, 0, 1, 1, 1), []int{4, 0, 6, 2, 5, 1, 7, 3, 12, 8, 14, 10, 13, 9, 15, 11}, []int{8, 9, 0, 1, 12, 13, 4, 5, 10, 11, 2, 3, 14, 15, 6, 7},
			8, []int{1, 2, 1, 2, 4, 2, 1, 2, 1},
			[]bounceCase{{0, 1, 1, "..HV..HV", 4}, {3, 1, 2, "HV..V.HV..V.", 6}, {2, 1, 0, ".H.H", 2}, {1, 4, 1, "H.H..H.H.VH.H..H.H.V", 10}},
		},
		{
			cellsAt(3, 2, 4, 2, 5, 2, 4, 3), []int{4, 0, 6, 2, 8, 1, 10, 3, 9, 5, 11, 7, 13, 12, 15, 14}, []int{2, 3, 0, 1, 12, 13, 4, 5, 10, 11, 8, 9, 14, 15, 6, 7},
			10, []int{1, 2, 2, 1, 1, 3, 3, 1, 1, 1},
			[]bounceCase{{3, 1, 1, "HVH..VHV.V.VHV..", 10}, {1, 0, 1, ".V.V", 2}, {0, 2, 1, "..VH.V.HV..VH..HHVHH..HV", 14}},
		},
		{
			cellsAt(0, 0, 1, 0, 1, 1, 2, 1), []int{4, 0, 6, 2, 5, 1, 7, 3, 12, 8, 14, 10, 13, 9, 15, 11}, []int{2, 3, 0, 1, 8, 9, 4, 5, 10, 11, 6, 7, 14, 15, 12, 13},
			10, []int{1, 2, 1, 1, 3, 3, 1, 1, 2, 1},
			[]bounceCase{{0, 1, 1, "...VHV.VH.HV.VHV", 10}, {3, 1, 0, "H.H.", 2}, {1, 3, 1, "H.HV.H.VH.H.H.HV.H.VH.HV.H...H.V", 18}},
		},
		{
			cellsAt(0, 0, 1, 0, 2, 0, 0, 1), []int{4, 0, 6, 2, 8, 1, 10, 3, 9, 5, 11, 7, 13, 12, 15, 14}, []int{12, 13, 0, 1, 6, 7, 4, 5, 10, 11, 8, 9, 14, 15, 2, 3},
			10, []int{1, 2, 2, 1, 2, 3, 2, 1, 1, 1},
			[]bounceCase{{3, 1, 1, "HVH..V.VHV.V.VH.", 10}, {2, 1, 2, "HVV.VV..VH.V.VV.VV", 12}},
		},
		{
			cellsAt(7, 8, 8, 8, 9, 8, 7, 9, 9, 9), []int{4, 0, 6, 2, 8, 1, 10, 3, 9, 5, 11, 7, 13, 12, 15, 14, 17, 16, 19, 18}, []int{12, 13, 0, 1, 6, 7, 4, 5, 16, 17, 8, 9, 14, 15, 2, 3, 18, 19, 10, 11},
			12, []int{1, 2, 2, 1, 2, 3, 3, 2, 1, 1, 1, 1},
			[]bounceCase{{0, 1, 1, ".V.VH.HVH..V..HVH.HV", 12}, {3, 1, 0, "HH", 2}, {4, 0, 1, "V.V.", 2}, {1, 2, 1, ".H.HHVHH...VH.V.HV...HHVHH.H.V", 18}},
		},
		{
			cellsAt(1, 0, 0, 1, 1, 1, 2, 1, 1, 2), []int{1, 0, 3, 2, 8, 4, 10, 6, 12, 5, 14, 7, 13, 9, 15, 11, 17, 16, 19, 18}, []int{8, 9, 0, 1, 6, 7, 4, 5, 16, 17, 2, 3, 14, 15, 12, 13, 18, 19, 10, 11},
			12, []int{1, 1, 1, 3, 3, 1, 1, 3, 3, 1, 1, 1},
			[]bounceCase{{2, 1, 1, ".VHV..HVH..VHV..HVH.", 12}, {0, 1, 0, "HH", 2}, {4, 2, 3, "HVH..HVH..", 6}},
		},
		{
			cellsAt(1, 7, 2, 7, 0, 8, 1, 8, 0, 9), []int{4, 0, 6, 2, 5, 1, 7, 3, 12, 8, 14, 10, 13, 9, 15, 11, 17, 16, 19, 18}, []int{12, 13, 0, 1, 6, 7, 4, 5, 16, 17, 8, 9, 14, 15, 2, 3, 18, 19, 10, 11},
			12, []int{1, 2, 1, 1, 3, 3, 1, 2, 3, 1, 1, 1},
			[]bounceCase{{0, 1, 1, ".VHV....HVH.HV.VH.HV", 12}, {4, 1, 2, "HV.HV.", 4}},
		},
		{
			cellsAt(0, 0, 1, 0, 2, 0, 3, 0, 4, 0, 5, 0), []int{4, 0, 6, 2, 8, 1, 10, 3, 12, 5, 14, 7, 16, 9, 18, 11, 20, 13, 22, 15, 21, 17, 23, 19}, []int{2, 3, 0, 1, 6, 7, 4, 5, 10, 11, 8, 9, 14, 15, 12, 13, 18, 19, 16, 17, 22, 23, 20, 21},
			14, []int{1, 2, 2, 2, 2, 2, 1, 1, 2, 2, 2, 2, 2, 1},
			[]bounceCase{{0, 1, 0, ".....H.....H", 2}, {2, 5, 7, ".V.V.VVHV.VV.V.V.VV.VHVV.V.V.VV.V.VVHV.V.VV.V.VV.VHV.VV.V.VV.V.VHVV.V.VV.V.V.VVHV.VV.V.V.VV.VHVV.V.V.VV.V.VVHV.V.VV.V.VV.VHV.VV.V.VV.V.VHVV.V.VV", 94}, {5, 1, 1, "HV.V.V.V.V.VHV.V.V.V.V.V", 14}},
		},
		{
			cellsAt(9, 4, 9, 5, 9, 6, 9, 7, 9, 8, 9, 9), []int{1, 0, 3, 2, 5, 4, 7, 6, 9, 8, 11, 10, 13, 12, 15, 14, 17, 16, 19, 18, 21, 20, 23, 22}, []int{4, 5, 0, 1, 8, 9, 2, 3, 12, 13, 6, 7, 16, 17, 10, 11, 20, 21, 14, 15, 22, 23, 18, 19},
			14, []int{1, 1, 2, 2, 2, 2, 2, 2, 2, 2, 2, 2, 1, 1},
			[]bounceCase{{0, 0, 1, ".....V.....V", 2}, {3, 1, 1, "H.H.HVH.H.H.H.H.HVH.H.H.", 14}, {5, 2, 1, "HHVHH.HH.HH.HH.HH.HHVHH.HH.HH.HH.HH.", 26}},
		},
		{
			cellsAt(0, 0, 1, 0, 2, 0, 0, 1, 1, 1, 2, 1), []int{4, 0, 6, 2, 8, 1, 10, 3, 9, 5, 11, 7, 16, 12, 18, 14, 20, 13, 22, 15, 21, 17, 23, 19}, []int{12, 13, 0, 1, 16, 17, 4, 5, 20, 21, 8, 9, 14, 15, 2, 3, 18, 19, 6, 7, 22, 23, 10, 11},
			10, []int{1, 2, 2, 1, 2, 4, 4, 2, 1, 2, 2, 1},
			[]bounceCase{{0, 1, 1, "...VH..V..HV...VH..V..HV", 10}, {4, 2, 1, ".HV...H.V.H...VH...HV...H.V.H...VH..", 14}, {5, 1, 0, "H..H..", 2}},
		},
		{
			cellsAt(5, 3, 4, 4, 5, 4, 4, 5, 4, 6, 5, 6), []int{1, 0, 3, 2, 8, 4, 10, 6, 9, 5, 11, 7, 13, 12, 15, 14, 20, 16, 22, 18, 21, 17, 23, 19}, []int{8, 9, 0, 1, 12, 13, 4, 5, 10, 11, 2, 3, 16, 17, 6, 7, 18, 19, 14, 15, 22, 23, 20, 21},
			14, []int{1, 1, 1, 3, 2, 2, 3, 1, 2, 3, 1, 1, 2, 1},
			[]bounceCase{{0, 1, 1, "H...H..VHV.VH.H.HV.VH.HV", 14}, {3, 1, 0, "HH", 2}, {5, 3, 2, "H.VH.HH...HHVH..H.H.H.VHV.HV.V", 18}},
		},
		{
			cellsAt(2, 0, 3, 0, 1, 1, 2, 1, 0, 2, 1, 2), []int{4, 0, 6, 2, 5, 1, 7, 3, 12, 8, 14, 10, 13, 9, 15, 11, 20, 16, 22, 18, 21, 17, 23, 19}, []int{12, 13, 0, 1, 6, 7, 4, 5, 20, 21, 8, 9, 14, 15, 2, 3, 18, 19, 16, 17, 22, 23, 10, 11},
			14, []int{1, 2, 1, 1, 3, 3, 1, 1, 3, 3, 1, 1, 2, 1},
			[]bounceCase{{0, 1, 1, ".VHV.....VHV.VH.HV.VH.HV", 14}, {5, 11, 1, "H.H.H.H.H.HV.H.H.H.H.H.VH.H.H.H.H.HV.H.H.H.H.H...H.H.H.H.H.VH.H.H.H.H.HV.H.H.H.H.H...H.H.H.H.H.VH.H.H.H.H.HV.H.H.H.H.H.VH.H.H.H.H.H.H.H.H.H.H.H.", 74}, {2, 0, 1, ".V.V", 2}},
		},
	}
}

func isCellSlowly(c impl.Cell) bool {
	return slices.Contains(counting(10), c.X) && slices.Contains(counting(10), c.Y)
}

// isBefore is the order of the cells of a table.
func isBefore(a impl.Cell, b impl.Cell) bool { return a.Y < b.Y || a.Y == b.Y && a.X < b.X }

// compareCells is for different cells.
func compareCells(a impl.Cell, b impl.Cell) int {
	if isBefore(a, b) {
		return -1
	}
	return 1
}

// shareSide is for cells of the plane whose numbers are not great.
func shareSide(a impl.Cell, b impl.Cell) bool {
	dx, dy := a.X-b.X, a.Y-b.Y
	return dx*dx+dy*dy == 1
}

// areJoined spreads from the first cell until nothing changes.
func areJoined(cells []impl.Cell) bool {
	reached := map[impl.Cell]bool{cells[0]: true}
	for range cells {
		for _, a := range cells {
			for _, b := range cells {
				if reached[a] && shareSide(a, b) {
					reached[b] = true
				}
			}
		}
	}
	return len(reached) == len(cells)
}

func isTableSlowly(cells []impl.Cell) bool {
	if len(cells) < 1 || len(cells) > 6 {
		return false
	}
	for i, c := range cells {
		if !isCellSlowly(c) {
			return false
		}
		for _, later := range cells[i+1:] {
			if !isBefore(c, later) {
				return false
			}
		}
	}
	return areJoined(cells)
}

// place is a point of the plane in halves: the middle of a side or a corner.
type place [2]int

// sidesOf returns the middles of the left, right, lower and upper side of a
// copy of a cell: they lie on the cell, some of them exchanged.
func sidesOf(c impl.Cell, copied int) [4]place {
	left, right := place{2 * c.X, 2*c.Y + 1}, place{2*c.X + 2, 2*c.Y + 1}
	lower, upper := place{2*c.X + 1, 2 * c.Y}, place{2*c.X + 1, 2*c.Y + 2}
	switch copied {
	case 1:
		return [4]place{right, left, lower, upper}
	case 2:
		return [4]place{left, right, upper, lower}
	case 3:
		return [4]place{right, left, upper, lower}
	default:
		return [4]place{left, right, lower, upper}
	}
}

// countSides returns how many cells have each side.
func countSides(cells []impl.Cell) map[place]int {
	counts := map[place]int{}
	for _, c := range cells {
		for _, side := range sidesOf(c, 0) {
			counts[side]++
		}
	}
	return counts
}

// gluedSlowly returns the square whose side lies on that of another square: in
// the same copy of the other cell that has the side, or, at a wall, in the copy
// of the same cell with the sides exchanged.
func gluedSlowly(cells []impl.Cell, square int, side int, opposite int, exchanged [4]int) int {
	cell, copied := square/4, square%4
	at := sidesOf(cells[cell], copied)[side]
	isWall := countSides(cells)[at] == 1
	for other, c := range cells {
		switch {
		case isWall && other == cell && sidesOf(c, exchanged[copied])[opposite] == at:
			return 4*other + exchanged[copied]
		case !isWall && other != cell && sidesOf(c, copied)[opposite] == at:
			return 4*other + copied
		}
	}
	return -1
}

// unfoldSlowly is for valid tables.
func unfoldSlowly(cells []impl.Cell) impl.Surface {
	var s impl.Surface
	for square := range 4 * len(cells) {
		s.Right = append(s.Right, gluedSlowly(cells, square, 1, 0, [4]int{1, 0, 3, 2}))
		s.Up = append(s.Up, gluedSlowly(cells, square, 3, 2, [4]int{2, 3, 0, 1}))
	}
	return s
}

// wallsSlowly counts side by side.
func wallsSlowly(cells []impl.Cell) int {
	walls := 0
	for _, count := range countSides(cells) {
		if count == 1 {
			walls++
		}
	}
	return walls
}

// pointsOfTable returns how many cells have each corner.
func pointsOfTable(cells []impl.Cell) map[impl.Cell]int {
	points := map[impl.Cell]int{}
	for _, c := range cells {
		for _, dx := range []int{0, 1} {
			for _, dy := range []int{0, 1} {
				points[impl.Cell{X: c.X + dx, Y: c.Y + dy}]++
			}
		}
	}
	return points
}

// anglesOfTable lists the points in ascending order of y and then x.
func anglesOfTable(cells []impl.Cell) []int {
	points := pointsOfTable(cells)
	var order []impl.Cell
	for point := range points {
		order = append(order, point)
	}
	slices.SortFunc(order, compareCells)
	var angles []int
	for _, point := range order {
		angles = append(angles, points[point])
	}
	return angles
}

// crossings tells which lines of the plane a ball crosses at a time. For p and q
// greater than 0, it begins on the lower side of a cell, 1/(2q) to the left of
// the corner, and is at this height and distance again after the time 2pq: there
// are upright lines at the times 1, 2q + 1 and so on, and level ones at 2p, 4p
// and so on. A ball that goes along the cells crosses a line at each time.
func crossings(p int, q int, time int) (bool, bool) {
	if p == 0 || q == 0 {
		return q == 0, p == 0
	}
	return time%(2*q) == 1, time%(2*p) == 0
}

// walkSlowly follows a ball over the plane until it is back. It knows neither
// squares nor the word of the slope.
func walkSlowly(cells []impl.Cell, cell int, p int, q int) string {
	here, dx, dy := cells[cell], 1, 1
	text := ""
	for time := 1; ; time++ {
		upright, level := crossings(p, q, time)
		if upright {
			if next := (impl.Cell{X: here.X + dx, Y: here.Y}); slices.Contains(cells, next) {
				here = next
				text += "."
			} else {
				dx = -dx
				text += "H"
			}
		}
		if level {
			if next := (impl.Cell{X: here.X, Y: here.Y + dy}); slices.Contains(cells, next) {
				here = next
				text += "."
			} else {
				dy = -dy
				text += "V"
			}
		}
		if time%max(1, 2*p*q) == 0 && here == cells[cell] && dx == 1 && dy == 1 {
			return text
		}
	}
}

func bounceSlowly(cells []impl.Cell, cell int, p int, q int) bounceCase {
	text := walkSlowly(cells, cell, p, q)
	return bounceCase{cell, p, q, text, strings.Count(text, "H") + strings.Count(text, "V")}
}

// tableCaseSlowly is for valid tables, and without bounces.
func tableCaseSlowly(cells []impl.Cell) tableCase {
	s := unfoldSlowly(cells)
	return tableCase{cells: cells, right: s.Right, up: s.Up, walls: wallsSlowly(cells), angles: anglesOfTable(cells)}
}

func checkTable(t *testing.T, c tableCase) {
	t.Helper()
	if !impl.TableOk(c.cells) {
		t.Errorf("TableOk(%v) is false", c.cells)
	}
	if got, ok := impl.UnfoldTable(c.cells); !equalSurfaces(got, surfaceWith(c.right, c.up)) || !ok {
		t.Errorf("UnfoldTable(%v) = %v, %t, want %v and %v", c.cells, got, ok, c.right, c.up)
	}
	if got := impl.CountWalls(c.cells); got != c.walls {
		t.Errorf("CountWalls(%v) = %d, want %d", c.cells, got, c.walls)
	}
	if got := impl.AnglesAt(c.cells); !slices.Equal(got, c.angles) {
		t.Errorf("AnglesAt(%v) = %v, want %v", c.cells, got, c.angles)
	}
	for i, cell := range c.cells {
		if got := impl.CellAt(c.cells, cell.X, cell.Y); got != i {
			t.Errorf("CellAt(%v, %d, %d) = %d, want %d", c.cells, cell.X, cell.Y, got, i)
		}
	}
	for _, b := range c.bounces {
		checkBounces(t, c.cells, b)
	}
}

func checkBounces(t *testing.T, cells []impl.Cell, b bounceCase) {
	t.Helper()
	if got, ok := impl.BounceText(cells, b.cell, b.p, b.q); got != b.text || !ok {
		t.Errorf("BounceText(%v, %d, %d, %d) = %q, %t, want %q", cells, b.cell, b.p, b.q, got, ok, b.text)
	}
	if got := impl.CountBounces(cells, b.cell, b.p, b.q); got != b.count {
		t.Errorf("CountBounces(%v, %d, %d, %d) = %d, want %d", cells, b.cell, b.p, b.q, got, b.count)
	}
}

func checkNoBounces(t *testing.T, cells []impl.Cell, cell int, p int, q int) {
	t.Helper()
	if got, ok := impl.BounceText(cells, cell, p, q); got != "" || ok {
		t.Errorf("BounceText(%v, %d, %d, %d) = %q, %t", cells, cell, p, q, got, ok)
	}
	if got := impl.CountBounces(cells, cell, p, q); got != -1 {
		t.Errorf("CountBounces(%v, %d, %d, %d) = %d", cells, cell, p, q, got)
	}
}

func checkNoTable(t *testing.T, cells []impl.Cell) {
	t.Helper()
	if impl.TableOk(cells) {
		t.Errorf("TableOk(%v) is true", cells)
	}
	if got, ok := impl.UnfoldTable(cells); !isNoSurface(got) || ok {
		t.Errorf("UnfoldTable(%v) = %v, %t", cells, got, ok)
	}
	if got := impl.CountWalls(cells); got != -1 {
		t.Errorf("CountWalls(%v) = %d", cells, got)
	}
	if got := impl.AnglesAt(cells); len(got) != 0 {
		t.Errorf("AnglesAt(%v) = %v", cells, got)
	}
	for _, b := range [][3]int{{0, 1, 0}, {0, 0, 1}, {0, 1, 1}, {0, 5, 7}, {len(cells) - 1, 1, 1}, {len(cells), 1, 1}, {-1, 1, 1}, {0, 2, 2}, {-1, 0, 0}} {
		checkNoBounces(t, cells, b[0], b[1], b[2])
	}
}

func mustUnfold(t *testing.T, cells []impl.Cell) impl.Surface {
	t.Helper()
	s, ok := impl.UnfoldTable(cells)
	if !ok {
		t.Fatalf("UnfoldTable(%v) fails", cells)
	}
	return s
}

func mustBounce(t *testing.T, cells []impl.Cell, cell int, p int, q int) string {
	t.Helper()
	text, ok := impl.BounceText(cells, cell, p, q)
	if !ok {
		t.Fatalf("BounceText(%v, %d, %d, %d) fails", cells, cell, p, q)
	}
	return text
}

// moved moves the cells over the plane.
func moved(cells []impl.Cell, dx int, dy int) []impl.Cell {
	var list []impl.Cell
	for _, c := range cells {
		list = append(list, impl.Cell{X: c.X + dx, Y: c.Y + dy})
	}
	return list
}

// sortedCells sorts the cells as in a table, and moves them so that the least
// numbers are 0.
func sortedCells(cells []impl.Cell) []impl.Cell {
	x, y := cells[0].X, cells[0].Y
	for _, c := range cells {
		x, y = min(x, c.X), min(y, c.Y)
	}
	list := moved(cells, -x, -y)
	slices.SortFunc(list, compareCells)
	return list
}

// allTables returns all tables with 1 to 6 cells that touch the left and the
// lower side of the plane: they grow cell by cell.
func allTables() [][]impl.Cell {
	all := [][]impl.Cell{cellsAt(0, 0)}
	first := 0
	for range 5 {
		last := all[first:]
		first = len(all)
		seen := map[string]bool{}
		for _, cells := range last {
			for _, c := range cells {
				for _, next := range moved(cellsAt(1, 0, 0, 1, -1, 0, 0, -1), c.X, c.Y) {
					if slices.Contains(cells, next) {
						continue
					}
					larger := sortedCells(append(slices.Clone(cells), next))
					if name := nameOfCells(larger); !seen[name] {
						seen[name] = true
						all = append(all, larger)
					}
				}
			}
		}
	}
	return all
}

func nameOfCells(cells []impl.Cell) string {
	var name strings.Builder
	for _, c := range cells {
		name.WriteString(impl.FormatInt(c.X) + "," + impl.FormatInt(c.Y) + " ")
	}
	return name.String()
}

// everyBounce calls check with every cell of all tables: for up to 4 cells with
// all slopes, and for 5 and 6 cells with one slope after the other.
func everyBounce(check func(cells []impl.Cell, cell int, p int, q int)) {
	slopes := slopeCases()
	next := 0
	for _, cells := range allTables() {
		for cell := range cells {
			if len(cells) <= 4 {
				for _, c := range slopes {
					check(cells, cell, c.p, c.q)
				}
				continue
			}
			c := slopes[next%len(slopes)]
			next++
			check(cells, cell, c.p, c.q)
		}
	}
}

func TestMaxCells(t *testing.T) {
	if impl.MaxCells != 6 {
		t.Errorf("MaxCells is %d", impl.MaxCells)
	}
}

func TestTables(t *testing.T) {
	for _, c := range tableCases() {
		checkTable(t, c)
	}
}

// TestAllTables also checks the tables themselves by their known numbers.
func TestAllTables(t *testing.T) {
	counts := map[int]int{}
	for _, cells := range allTables() {
		counts[len(cells)]++
		checkTable(t, tableCaseSlowly(cells))
	}
	for i, want := range []int{0, 1, 2, 6, 19, 63, 216, 0} {
		if counts[i] != want {
			t.Errorf("there are %d tables with %d cells, want %d", counts[i], i, want)
		}
	}
}

// TestAllSetsOfCells has all lists in order of up to 7 cells of a small part of
// the plane.
func TestAllSetsOfCells(t *testing.T) {
	square := cellsAt(3, 5, 4, 5, 5, 5, 6, 5, 3, 6, 4, 6, 5, 6, 6, 6, 3, 7, 4, 7, 5, 7, 6, 7)
	counts := map[bool]int{}
	for set := range 1 << len(square) {
		var cells []impl.Cell
		for i, c := range square {
			if set>>i&1 == 1 {
				cells = append(cells, c)
			}
		}
		if len(cells) > 7 {
			continue
		}
		want := isTableSlowly(cells)
		counts[want]++
		if got := impl.TableOk(cells); got != want {
			t.Errorf("TableOk(%v) = %t, want %t", cells, got, want)
		}
		if _, ok := impl.UnfoldTable(cells); ok != want {
			t.Errorf("UnfoldTable(%v) gives %t, want %t", cells, ok, want)
		}
	}
	if counts[true] == 0 || counts[false] == 0 {
		t.Errorf("the counts are %v", counts)
	}
}

// TestAllShortListsOfCells has all lists of up to 3 cells from a square of nine,
// in all orders and also with cells that are given twice.
func TestAllShortListsOfCells(t *testing.T) {
	valid := 0
	for n := range 4 {
		for _, list := range listsOver(0, 8, n) {
			var cells []impl.Cell
			for _, k := range list {
				cells = append(cells, impl.Cell{X: 7 + k%3, Y: 1 + k/3})
			}
			if isTableSlowly(cells) {
				valid++
				checkTable(t, tableCaseSlowly(cells))
			} else {
				checkNoTable(t, cells)
			}
		}
	}
	// 9 cells, 12 pairs, 6 rows and columns and 16 pairs around a corner with a
	// third cell.
	if valid != 9+12+6+16 {
		t.Errorf("%d of the lists are tables", valid)
	}
}

// TestTablesInAllOrders: only one order of the cells is right.
func TestTablesInAllOrders(t *testing.T) {
	for _, cells := range allTables() {
		if len(cells) > 4 {
			continue
		}
		for _, order := range permsOf(len(cells)) {
			var list []impl.Cell
			for _, i := range order {
				list = append(list, cells[i])
			}
			if slices.Equal(list, cells) {
				checkTable(t, tableCaseSlowly(list))
			} else {
				checkNoTable(t, list)
			}
		}
	}
}

// TestTablesWithACellTwice puts a cell beside itself and at the end.
func TestTablesWithACellTwice(t *testing.T) {
	for _, cells := range allTables() {
		for i, c := range cells {
			checkNoTable(t, slices.Insert(slices.Clone(cells), i, c))
			checkNoTable(t, append(slices.Clone(cells), c))
		}
	}
}

// someNumbers are in the plane, next to it and far from it.
func someNumbers() []int {
	return []int{math.MinInt, math.MinInt + 1, -1 << 32, -10, -1, 0, 9, 10, 11, 1 << 32, 1<<32 + 1, 1 << 62, math.MaxInt - 1, math.MaxInt}
}

func TestCellsOfAllNumbers(t *testing.T) {
	for _, x := range someNumbers() {
		for _, y := range someNumbers() {
			cells := cellsAt(x, y)
			if (x == 0 || x == 9) && (y == 0 || y == 9) {
				checkTable(t, tableCaseSlowly(cells))
			} else {
				checkNoTable(t, cells)
			}
			// Beside a cell of the plane, also where a difference does not fit
			// into an int.
			for _, c := range cellsAt(0, 0, 9, 9, 4, 5) {
				if !isCellSlowly(cells[0]) {
					checkNoTable(t, []impl.Cell{c, cells[0]})
					checkNoTable(t, []impl.Cell{cells[0], c})
				}
			}
		}
	}
}

// TestTablesAtTheEndsOfThePlane moves a cell of each table out of it.
func TestTablesAtTheEndsOfThePlane(t *testing.T) {
	for _, cells := range allTables() {
		width, height := 0, 0
		for _, c := range cells {
			width, height = max(width, c.X), max(height, c.Y)
		}
		for _, d := range [][2]int{{9 - width, 0}, {0, 9 - height}, {9 - width, 9 - height}, {4, 3}} {
			checkTable(t, tableCaseSlowly(moved(cells, d[0], d[1])))
		}
		for _, d := range [][2]int{{10 - width, 0}, {0, 10 - height}, {-1, 0}, {0, -1}, {10, 10}, {1 << 32, 0}, {0, math.MinInt}, {math.MaxInt - width, math.MaxInt - height}} {
			checkNoTable(t, moved(cells, d[0], d[1]))
		}
	}
}

func TestMovedTablesAreTheSame(t *testing.T) {
	everyBounce(func(cells []impl.Cell, cell int, p int, q int) {
		other := moved(cells, 3, 4)
		if got, want := mustUnfold(t, other), mustUnfold(t, cells); !equalSurfaces(got, want) {
			t.Errorf("UnfoldTable(%v) = %v, want %v", other, got, want)
		}
		if got, want := impl.CountWalls(other), impl.CountWalls(cells); got != want {
			t.Errorf("CountWalls(%v) = %d, want %d", other, got, want)
		}
		if got, want := impl.AnglesAt(other), impl.AnglesAt(cells); !slices.Equal(got, want) {
			t.Errorf("AnglesAt(%v) = %v, want %v", other, got, want)
		}
		if got, want := mustBounce(t, other, cell, p, q), mustBounce(t, cells, cell, p, q); got != want {
			t.Errorf("BounceText(%v, %d, %d, %d) = %q, want %q", other, cell, p, q, got, want)
		}
	})
}

func TestInvalidTables(t *testing.T) {
	for _, cells := range invalidTables() {
		checkNoTable(t, cells)
	}
}

// invalidTables have one fault each.
func invalidTables() [][]impl.Cell {
	return [][]impl.Cell{
		nil,
		{},
		// Seven cells and more.
		cellsAt(0, 0, 1, 0, 2, 0, 3, 0, 4, 0, 5, 0, 6, 0),
		cellsAt(0, 0, 0, 1, 0, 2, 0, 3, 0, 4, 0, 5, 0, 6),
		cellsAt(0, 0, 1, 0, 2, 0, 0, 1, 1, 1, 2, 1, 0, 2),
		cellsAt(0, 0, 1, 0, 2, 0, 0, 1, 1, 1, 2, 1, 0, 2, 1, 2, 2, 2),
		cellsAt(0, 0, 1, 0, 2, 0, 0, 1, 2, 1, 0, 2, 1, 2, 2, 2),
		// Two of these seven touch at a corner that has no other cell.
		cellsAt(0, 0, 1, 0, 2, 0, 0, 1, 2, 1, 1, 2, 2, 2),
		// Cells that touch only at a corner.
		cellsAt(0, 0, 1, 1),
		cellsAt(1, 0, 0, 1),
		cellsAt(4, 4, 5, 4, 6, 5),
		cellsAt(5, 4, 6, 4, 4, 5),
		cellsAt(0, 0, 1, 1, 2, 2),
		cellsAt(1, 0, 0, 1, 2, 1, 1, 2),
		cellsAt(0, 0, 1, 0, 0, 1, 2, 2),
		cellsAt(8, 8, 9, 8, 6, 9, 7, 9),
		// Groups that nothing joins.
		cellsAt(0, 0, 2, 0),
		cellsAt(0, 0, 0, 2),
		cellsAt(0, 0, 9, 9),
		cellsAt(9, 0, 0, 1),
		cellsAt(0, 0, 9, 0),
		cellsAt(0, 0, 0, 9),
		cellsAt(8, 0, 9, 0, 0, 1, 1, 1),
		cellsAt(0, 0, 1, 0, 3, 0, 4, 0),
		cellsAt(0, 0, 3, 0, 0, 1, 3, 1),
		cellsAt(0, 0, 1, 0, 0, 2, 1, 2),
		cellsAt(2, 2, 3, 2, 2, 3, 6, 6, 7, 6, 6, 7),
		cellsAt(0, 0, 1, 0, 2, 0, 0, 2, 1, 2, 2, 2),
		cellsAt(0, 0, 1, 0, 2, 0, 3, 0, 4, 0, 6, 0),
		// The first cell alone.
		cellsAt(0, 0, 2, 0, 3, 0, 4, 0, 5, 0, 6, 0),
		// Not in order.
		cellsAt(1, 0, 0, 0),
		cellsAt(0, 1, 0, 0),
		cellsAt(0, 0, 0, 1, 1, 0),
		cellsAt(0, 0, 0, 1, 1, 0, 1, 1),
		cellsAt(0, 0, 1, 0, 1, 1, 0, 1),
		cellsAt(0, 0, 1, 0, 2, 0, 3, 0, 5, 0, 4, 0),
		// Given twice.
		cellsAt(0, 0, 0, 0),
		cellsAt(9, 9, 9, 9),
		cellsAt(0, 0, 0, 0, 1, 0),
		cellsAt(0, 0, 1, 0, 1, 0),
		cellsAt(0, 0, 1, 0, 0, 0),
		cellsAt(0, 0, 1, 0, 0, 1, 1, 1, 1, 1),
		// Out of the plane.
		cellsAt(-1, 0, 0, 0),
		cellsAt(0, -1, 0, 0),
		cellsAt(9, 0, 10, 0),
		cellsAt(0, 9, 0, 10),
		cellsAt(math.MinInt, 0, math.MaxInt, 0),
		cellsAt(math.MaxInt, 0),
		cellsAt(0, math.MinInt, 0, math.MaxInt),
		cellsAt(0, 0, 1, 0, math.MaxInt, 0),
		cellsAt(0, math.MinInt, 0, 0),
	}
}

// TestLongLists has tables with more and more cells behind them.
func TestLongLists(t *testing.T) {
	var cells []impl.Cell
	for k := range 100 {
		cells = append(cells, impl.Cell{X: k % 10, Y: k / 10})
		if k < 6 {
			checkTable(t, tableCaseSlowly(cells))
		} else {
			checkNoTable(t, cells)
		}
	}
	checkNoTable(t, slices.Concat(cells, cells))
	for i, c := range cells {
		if got := impl.CellAt(cells, c.X, c.Y); got != i {
			t.Errorf("CellAt of the whole plane and %v is %d, want %d", c, got, i)
		}
	}
}

// TestTwoCellsThatTouchOnlyAtACorner: with at most 6 cells, none of the tables
// has such cells without a third one at this corner. It takes seven cells to
// join them around one of the two that are missing.
func TestTwoCellsThatTouchOnlyAtACorner(t *testing.T) {
	withThird := 0
	for _, cells := range allTables() {
		for i, a := range cells {
			for _, b := range cells[i+1:] {
				if dx, dy := a.X-b.X, a.Y-b.Y; dx*dx != 1 || dy*dy != 1 {
					continue
				}
				point := impl.Cell{X: max(a.X, b.X), Y: max(a.Y, b.Y)}
				if pointsOfTable(cells)[point] == 2 {
					t.Errorf("%v and %v of the table %v touch only at a corner", a, b, cells)
				}
				withThird++
			}
		}
	}
	if withThird == 0 {
		t.Error("no cells touch at a corner")
	}
	checkNoTable(t, cellsAt(0, 0, 1, 0, 2, 0, 0, 1, 2, 1, 1, 2, 2, 2))
	checkNoTable(t, cellsAt(0, 0, 1, 0, 2, 0, 0, 1, 2, 1, 1, 2))
	checkNoTable(t, cellsAt(0, 1, 1, 2))
}

func TestCellAt(t *testing.T) {
	odd := cellsAt(3, 1, math.MinInt, 7, 0, 0, 3, 1, math.MaxInt, math.MinInt, -1, -1, 0, 0, 1, 3, 3, 1, math.MaxInt, math.MaxInt)
	for _, c := range []struct {
		cells      []impl.Cell
		x, y, want int
	}{
		{nil, 0, 0, -1},
		{[]impl.Cell{}, 0, 0, -1},
		{[]impl.Cell{}, math.MinInt, math.MaxInt, -1},
		{cellsAt(0, 0), 0, 0, 0},
		{cellsAt(0, 0), 0, 1, -1},
		{cellsAt(0, 0), 1, 0, -1},
		{cellsAt(0, 0), math.MinInt, 0, -1},
		{cellsAt(0, 0), 0, math.MaxInt, -1},
		{cellsAt(0, 0), 1 << 32, 0, -1},
		{cellsAt(0, 0, 1, 0, 0, 1), 0, 1, 2},
		{cellsAt(0, 0, 1, 0, 0, 1), 1, 0, 1},
		{cellsAt(0, 0, 1, 0, 0, 1), 1, 1, -1},
		{cellsAt(0, 0, 1, 0, 0, 1), -1, 0, -1},
		// A list that is no table.
		{odd, 3, 1, 0},
		{odd, 0, 0, 2},
		{odd, 1, 3, 7},
		{odd, math.MinInt, 7, 1},
		{odd, math.MaxInt, math.MinInt, 4},
		{odd, math.MaxInt, math.MaxInt, 9},
		{odd, -1, -1, 5},
		{odd, math.MinInt, math.MinInt, -1},
		{odd, 7, math.MinInt, -1},
		{odd, 3, 0, -1},
		{odd, 0, 1, -1},
		{cellsAt(2, 2, 2, 2, 2, 2), 2, 2, 0},
		{cellsAt(5, 2, 2, 2, 2, 2), 2, 2, 1},
		{cellsAt(1, 0, 0, 0), 0, 0, 1},
		{cellsAt(0, 0, 5, 5), 5, 5, 1},
		{cellsAt(-1, 10), -1, 10, 0},
	} {
		if got := impl.CellAt(c.cells, c.x, c.y); got != c.want {
			t.Errorf("CellAt(%v, %d, %d) = %d, want %d", c.cells, c.x, c.y, got, c.want)
		}
	}
}

func TestCellAtOfAllNumbers(t *testing.T) {
	lists := invalidTables()
	for _, c := range tableCases() {
		lists = append(lists, c.cells)
	}
	for _, cells := range lists {
		for _, x := range append(counting(10), someNumbers()...) {
			for _, y := range append(counting(10), someNumbers()...) {
				want := -1
				for i := len(cells) - 1; i >= 0; i-- {
					if cells[i] == (impl.Cell{X: x, Y: y}) {
						want = i
					}
				}
				if got := impl.CellAt(cells, x, y); got != want {
					t.Errorf("CellAt(%v, %d, %d) = %d, want %d", cells, x, y, got, want)
				}
			}
		}
	}
}

// copyNames returns the names of the squares if each copy is exchanged with
// another one.
func copyNames(cells []impl.Cell, others [4]int) []int {
	var names []int
	for i := range cells {
		for _, k := range others {
			names = append(names, 4*i+k)
		}
	}
	return names
}

// TestUnfoldedTables: an unfolded table has four times its cells and a half
// turn, which leads each copy to the one with all sides exchanged and leaves a
// sphere.
func TestUnfoldedTables(t *testing.T) {
	for _, cells := range allTables() {
		s := mustUnfold(t, cells)
		if !impl.SurfaceOk(s) || impl.CountSquares(s) != 4*len(cells) || len(s.Right) != 4*len(cells) || len(s.Up) != 4*len(cells) {
			t.Errorf("UnfoldTable(%v) = %v", cells, s)
		}
		half := copyNames(cells, [4]int{3, 2, 1, 0})
		if !impl.IsTurn(s, half) || !impl.HasHalfTurn(s) || len(impl.TurnsOf(s)) == 0 {
			t.Errorf("UnfoldTable(%v) = %v has no half turn", cells, s)
		}
		if got := impl.QuotientGenus(s, half); got != 0 || !impl.IsHyperelliptic(s) {
			t.Errorf("the half turn of UnfoldTable(%v) leaves the genus %d", cells, got)
		}
	}
}

// TestExchangedCopies: to exchange the copies as a reflection does turns the
// sides around.
func TestExchangedCopies(t *testing.T) {
	for _, cells := range allTables() {
		s := mustUnfold(t, cells)
		mirrored := surfaceWith(impl.InversePerm(s.Right), s.Up)
		if got, ok := impl.RenameSurface(s, copyNames(cells, [4]int{1, 0, 3, 2})); !equalSurfaces(got, mirrored) || !ok {
			t.Errorf("the copies of UnfoldTable(%v) cannot be exchanged across", cells)
		}
		mirrored = surfaceWith(s.Right, impl.InversePerm(s.Up))
		if got, ok := impl.RenameSurface(s, copyNames(cells, [4]int{2, 3, 0, 1})); !equalSurfaces(got, mirrored) || !ok {
			t.Errorf("the copies of UnfoldTable(%v) cannot be exchanged along", cells)
		}
	}
}

// TestAnglesOfUnfoldedTables: at each point with three cells there is an angle
// of three turns, and all other corners are regular.
func TestAnglesOfUnfoldedTables(t *testing.T) {
	for _, cells := range allTables() {
		s, points := mustUnfold(t, cells), pointsOfTable(cells)
		for square := range s.Right {
			c := cells[square/4]
			// The upper right corner of the square, on its cell.
			point := impl.Cell{X: c.X + []int{1, 0, 1, 0}[square%4], Y: c.Y + []int{1, 1, 0, 0}[square%4]}
			if got := impl.IsRegularCorner(s, square); got != (points[point] != 3) {
				t.Errorf("IsRegularCorner(UnfoldTable(%v), %d) = %t, but %d cells are there", cells, square, got, points[point])
			}
		}
		var want, stratum []int
		for _, count := range impl.AnglesAt(cells) {
			switch count {
			case 3:
				want, stratum = append(want, 3), append(stratum, 2)
			case 4:
				want = append(want, 1, 1, 1, 1)
			default:
				want = append(want, slices.Repeat([]int{1}, count)...)
			}
		}
		slices.Sort(want)
		slices.Reverse(want)
		if got := impl.AnglesOf(s); !slices.Equal(got, want) {
			t.Errorf("AnglesOf(UnfoldTable(%v)) = %v, want %v", cells, got, want)
		}
		if got := impl.StratumOf(s); !slices.Equal(got, stratum) {
			t.Errorf("StratumOf(UnfoldTable(%v)) = %v, want %v", cells, got, stratum)
		}
		if got := impl.GenusOf(s); got != 1+len(stratum) {
			t.Errorf("GenusOf(UnfoldTable(%v)) = %d, want %d", cells, got, 1+len(stratum))
		}
	}
}

// TestAnglesAndWalls: the border of a table without a hole is one line, which
// turns to the left at the corners with one cell, to the right at those with
// three, and in all once around; and it has as many sides as points.
func TestAnglesAndWalls(t *testing.T) {
	for _, cells := range allTables() {
		counts := map[int]int{}
		angles := impl.AnglesAt(cells)
		for _, count := range angles {
			counts[count]++
		}
		if sumOf(angles) != 4*len(cells) || counts[1]+counts[2]+counts[3]+counts[4] != len(angles) {
			t.Errorf("AnglesAt(%v) = %v", cells, angles)
		}
		if counts[1]-counts[3] != 4 {
			t.Errorf("AnglesAt(%v) = %v turns %d times", cells, angles, counts[1]-counts[3])
		}
		if got := impl.CountWalls(cells); got != counts[1]+counts[2]+counts[3] {
			t.Errorf("CountWalls(%v) = %d for the angles %v", cells, got, angles)
		}
	}
}

// TestAnglesAreInOrderOfTheirPoints has tables that mirroring and exchanging x
// and y change.
func TestAnglesAreInOrderOfTheirPoints(t *testing.T) {
	for _, c := range []struct {
		cells []impl.Cell
		want  []int
	}{
		{cellsAt(0, 0, 1, 0, 2, 0, 0, 1), []int{1, 2, 2, 1, 2, 3, 2, 1, 1, 1}},
		{cellsAt(0, 0, 1, 0, 2, 0, 2, 1), []int{1, 2, 2, 1, 1, 2, 3, 2, 1, 1}},
		{cellsAt(2, 0, 0, 1, 1, 1, 2, 1), []int{1, 1, 1, 2, 3, 2, 1, 2, 2, 1}},
		{cellsAt(0, 0, 0, 1, 1, 1, 2, 1), []int{1, 1, 2, 3, 2, 1, 1, 2, 2, 1}},
		{cellsAt(0, 0, 1, 0, 0, 1, 0, 2), []int{1, 2, 1, 2, 3, 1, 2, 2, 1, 1}},
		{cellsAt(9, 7, 9, 8, 8, 9, 9, 9), []int{1, 1, 2, 2, 1, 3, 2, 1, 2, 1}},
	} {
		if got := impl.AnglesAt(c.cells); !slices.Equal(got, c.want) {
			t.Errorf("AnglesAt(%v) = %v, want %v", c.cells, got, c.want)
		}
	}
}

// TestTurnedAndMirroredTables unfold to surfaces that differ in the names of
// their squares, and in Right and Up if x and y are exchanged.
func TestTurnedAndMirroredTables(t *testing.T) {
	for _, cells := range allTables() {
		var mirrored, turned, exchanged []impl.Cell
		for _, c := range cells {
			mirrored = append(mirrored, impl.Cell{X: -c.X, Y: c.Y})
			turned = append(turned, impl.Cell{X: -c.X, Y: -c.Y})
			exchanged = append(exchanged, impl.Cell{X: c.Y, Y: c.X})
		}
		s := mustUnfold(t, cells)
		for _, other := range [][]impl.Cell{sortedCells(mirrored), sortedCells(turned)} {
			if !impl.AreIsomorphic(mustUnfold(t, other), s) || impl.CountWalls(other) != impl.CountWalls(cells) {
				t.Errorf("the tables %v and %v are not as they should be", cells, other)
			}
		}
		other := sortedCells(exchanged)
		if !impl.AreIsomorphic(mustUnfold(t, other), surfaceWith(s.Up, s.Right)) || impl.CountWalls(other) != impl.CountWalls(cells) {
			t.Errorf("the tables %v and %v are not as they should be", cells, other)
		}
		backwards := impl.AnglesAt(sortedCells(turned))
		slices.Reverse(backwards)
		if got := impl.AnglesAt(cells); !slices.Equal(got, backwards) {
			t.Errorf("AnglesAt(%v) = %v, and %v for the turned table", cells, got, backwards)
		}
	}
}

func TestBouncesOfAllTables(t *testing.T) {
	everyBounce(func(cells []impl.Cell, cell int, p int, q int) {
		checkBounces(t, cells, bounceSlowly(cells, cell, p, q))
	})
}

// TestBouncesOfTheLargestTables has all slopes from all cells.
func TestBouncesOfTheLargestTables(t *testing.T) {
	for _, table := range tableCases() {
		for cell := range table.cells {
			for _, c := range slopeCases() {
				checkBounces(t, table.cells, bounceSlowly(table.cells, cell, c.p, c.q))
			}
		}
	}
}

// TestPathsOnTablesComeBack after an even number of reflections at both kinds of
// sides, and have a letter for each letter of the path in the unfolded table.
func TestPathsOnTablesComeBack(t *testing.T) {
	everyBounce(func(cells []impl.Cell, cell int, p int, q int) {
		text, s := mustBounce(t, cells, cell, p, q), mustUnfold(t, cells)
		upright, level := strings.Count(text, "H"), strings.Count(text, "V")
		if upright%2 != 0 || level%2 != 0 {
			t.Errorf("BounceText(%v, %d, %d, %d) = %q", cells, cell, p, q, text)
		}
		if got := impl.CountBounces(cells, cell, p, q); got != upright+level {
			t.Errorf("CountBounces(%v, %d, %d, %d) = %d for %q", cells, cell, p, q, got, text)
		}
		steps := impl.PathText(s, 4*cell, p, q)
		squares := mustSquares(t, s, 4*cell, p, q)
		if len(text) != len(steps) || len(text) != len(squares) {
			t.Fatalf("BounceText(%v, %d, %d, %d) = %q for the path %q", cells, cell, p, q, text, steps)
		}
		for i := range text {
			stays := squares[i]/4 == squares[(i+1)%len(squares)]/4
			want := "."
			if stays {
				want = strings.NewReplacer("r", "H", "u", "V").Replace(steps[i : i+1])
			}
			if text[i:i+1] != want {
				t.Errorf("BounceText(%v, %d, %d, %d) = %q, want %s at %d", cells, cell, p, q, text, want, i)
			}
		}
	})
}

// countOn returns how many cells lie one after the other behind a cell.
func countOn(cells []impl.Cell, c impl.Cell, dx int, dy int) int {
	count := 0
	for slices.Contains(cells, impl.Cell{X: c.X + (count+1)*dx, Y: c.Y + (count+1)*dy}) {
		count++
	}
	return count
}

// TestBouncesOfStraightPaths: a ball that goes along a row or column of cells
// goes to its end, back to the other end, and then to its cell.
func TestBouncesOfStraightPaths(t *testing.T) {
	for _, cells := range allTables() {
		for i, c := range cells {
			for _, x := range []struct {
				p, q   int
				letter string
			}{{1, 0, "H"}, {0, 1, "V"}} {
				on, back := countOn(cells, c, x.p, x.q), countOn(cells, c, -x.p, -x.q)
				text := strings.Repeat(".", on) + x.letter + strings.Repeat(".", on+back) + x.letter + strings.Repeat(".", back)
				checkBounces(t, cells, bounceCase{i, x.p, x.q, text, 2})
			}
		}
	}
}

// TestRectanglesAndBalls: an unfolded rectangle is a torus of twice its sides,
// and a path with the slope 1, 1 has as many rounds and reflections as the balls
// of chapter 15.
func TestRectanglesAndBalls(t *testing.T) {
	for width := 1; width <= 6; width++ {
		for height := 1; width*height <= 6; height++ {
			var cells []impl.Cell
			for k := range width * height {
				cells = append(cells, impl.Cell{X: k % width, Y: k / width})
			}
			torus, _ := impl.TorusOf(2*width, 2*height)
			if s := mustUnfold(t, cells); !impl.AreIsomorphic(s, torus) {
				t.Errorf("UnfoldTable(%v) = %v is not %v", cells, s, torus)
			}
			if got := impl.CountWalls(cells); got != 2*(width+height) {
				t.Errorf("CountWalls(%v) = %d", cells, got)
			}
			upright, level := impl.BouncesIn(width, height, impl.Ball{DX: 1, DY: 1})
			for cell := range cells {
				text := mustBounce(t, cells, cell, 1, 1)
				if len(text) != 2*impl.BallPeriod(width, height) || strings.Count(text, "H") != upright || strings.Count(text, "V") != level {
					t.Errorf("BounceText(%v, %d, 1, 1) = %q, but a ball has %d and %d reflections", cells, cell, text, upright, level)
				}
			}
		}
	}
}

// TestTheLongestPathOnTables: none has more letters than 24 rounds of 12.
func TestTheLongestPathOnTables(t *testing.T) {
	longest := 0
	everyBounce(func(cells []impl.Cell, cell int, p int, q int) {
		text := mustBounce(t, cells, cell, p, q)
		longest = max(longest, len(text))
		if len(text)%(p+q) != 0 || len(text) > 4*len(cells)*(p+q) || strings.Trim(text, "HV.") != "" {
			t.Errorf("BounceText(%v, %d, %d, %d) = %q", cells, cell, p, q, text)
		}
	})
	if longest < 100 {
		t.Errorf("the longest path has %d letters", longest)
	}
}

// wrongCells returns numbers that are no cells of a table with n of them. Four
// times some of them is, in an int, a square of its surface.
func wrongCells(n int) []int {
	list := wrongSquares(n)
	for k := range 4 * n {
		list = append(list, 1<<62+k, math.MinInt+k, -1<<62+k, n+k, -1-k)
	}
	return list
}

func TestBouncesFromEachCell(t *testing.T) {
	for _, table := range tableCases() {
		last := len(table.cells) - 1
		for _, c := range []slopeCase{{p: 1, q: 0}, {p: 0, q: 1}, {p: 1, q: 1}, {p: 1, q: 11}, {p: 11, q: 1}, {p: 7, q: 5}} {
			checkBounces(t, table.cells, bounceSlowly(table.cells, 0, c.p, c.q))
			checkBounces(t, table.cells, bounceSlowly(table.cells, last, c.p, c.q))
			for _, cell := range wrongCells(len(table.cells)) {
				checkNoBounces(t, table.cells, cell, c.p, c.q)
			}
		}
	}
}

func TestBouncesOfWrongSlopes(t *testing.T) {
	for _, table := range tableCases() {
		last := len(table.cells) - 1
		for _, w := range wrongSlopes() {
			for _, cell := range []int{-1, 0, last, last + 1} {
				checkNoBounces(t, table.cells, cell, w[0], w[1])
			}
		}
		for p := -2; p <= 14; p++ {
			for q := -2; q <= 14; q++ {
				if !isSlopeSlowly(p, q) {
					checkNoBounces(t, table.cells, last, p, q)
				} else {
					checkBounces(t, table.cells, bounceSlowly(table.cells, last, p, q))
				}
			}
		}
	}
}

// tableCalls takes the numbers x and the numbers y of the cells.
func tableCalls(lists [][]int) map[string]func() [][]int {
	var cells []impl.Cell
	for i := range min(len(lists[0]), len(lists[1])) {
		cells = append(cells, impl.Cell{X: lists[0][i], Y: lists[1][i]})
	}
	return map[string]func() [][]int{
		"UnfoldTable": func() [][]int {
			s, _ := impl.UnfoldTable(cells)
			return [][]int{s.Right, s.Up}
		},
		"AnglesAt": func() [][]int { return [][]int{impl.AnglesAt(cells)} },
	}
}

func TestTablesKeepTheRulesOfMemory(t *testing.T) {
	lists := invalidTables()
	for _, c := range tableCases() {
		lists = append(lists, c.cells)
	}
	for _, cells := range lists {
		numbers := make([][]int, 2)
		for _, c := range cells {
			numbers[0], numbers[1] = append(numbers[0], c.X), append(numbers[1], c.Y)
		}
		checkMemory(t, numbers, tableCalls)
	}
}

// TestTablesKeepTheirCells looks at the cells and at the capacity behind them,
// which has cells that would go on with a table.
func TestTablesKeepTheirCells(t *testing.T) {
	lists := invalidTables()
	for _, c := range tableCases() {
		lists = append(lists, c.cells)
	}
	for _, cells := range lists {
		whole := append(slices.Clone(cells), cellsAt(0, 0, 1, 0, 9, 9)...)
		before := slices.Clone(whole)
		given := whole[:len(cells)]
		impl.TableOk(given)
		impl.CellAt(given, 1, 0)
		impl.CountWalls(given)
		s, _ := impl.UnfoldTable(given)
		spoil(s.Right, -1)
		spoil(s.Up, -1)
		spoil(impl.AnglesAt(given), -1)
		for _, c := range [][3]int{{0, 1, 0}, {0, 1, 1}, {len(cells) - 1, 3, 2}, {len(cells), 1, 1}, {0, 2, 2}} {
			impl.BounceText(given, c[0], c[1], c[2])
			impl.CountBounces(given, c[0], c[1], c[2])
		}
		if !slices.Equal(whole, before) {
			t.Errorf("the calls changed %v to %v", before, whole)
		}
	}
}

// TestResultsOutliveTheirCells changes the cells after the calls.
func TestResultsOutliveTheirCells(t *testing.T) {
	for _, c := range tableCases() {
		cells := slices.Clone(c.cells)
		s, angles := mustUnfold(t, cells), impl.AnglesAt(cells)
		spoil(cells, impl.Cell{X: -7, Y: -8})
		if !equalSurfaces(s, surfaceWith(c.right, c.up)) || !slices.Equal(angles, c.angles) {
			t.Errorf("the results for %v changed with the cells", c.cells)
		}
		checkTable(t, c)
	}
}

// TestTablesAreTheSameAtEveryRun repeats calls, also at the same time and after
// calls that fail.
func TestTablesAreTheSameAtEveryRun(t *testing.T) {
	cases := tableCases()
	for i, c := range cases {
		other := cases[len(cases)-1-i]
		var calls sync.WaitGroup
		for range 4 {
			calls.Go(func() {
				for range 20 {
					checkTable(t, c)
					checkNoTable(t, cellsAt(0, 0, 1, 1))
					checkTable(t, other)
				}
			})
		}
		calls.Wait()
	}
}

func TestNothingGoesOnAfterTables(t *testing.T) {
	checkNothingGoesOn(t, func() {
		for _, c := range tableCases() {
			checkTable(t, c)
		}
		for _, cells := range invalidTables() {
			checkNoTable(t, cells)
		}
	})
}
