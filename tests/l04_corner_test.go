package tests

import (
	"math"
	"slices"
	"testing"

	"loop.example/g00928/impl"
)

type cornerCase struct {
	s       impl.Surface
	around  []int
	corners [][]int
	angles  []int
	stratum []int
	genus   int
}

func cornerCases() []cornerCase {
	return []cornerCase{
		{surfaceWith([]int{0}, []int{0}), []int{0}, [][]int{{0}}, []int{1}, nil, 1},
		{surfaceWith([]int{1, 0, 3, 2}, []int{2, 3, 0, 1}), []int{0, 1, 2, 3}, [][]int{{0}, {1}, {2}, {3}}, []int{1, 1, 1, 1}, nil, 1},
		// The two L of three squares differ in Right and Up only: a round
		// that begins with Up leads through the corner backwards.
		{surfaceWith([]int{1, 0, 2}, []int{2, 1, 0}), []int{2, 0, 1}, [][]int{{0, 2, 1}}, []int{3}, []int{2}, 2},
		{surfaceWith([]int{2, 1, 0}, []int{1, 0, 2}), []int{1, 2, 0}, [][]int{{0, 1, 2}}, []int{3}, []int{2}, 2},
		{surfaceWith([]int{1, 2, 0, 3}, []int{3, 1, 2, 0}), []int{3, 1, 0, 2}, [][]int{{0, 3, 2}, {1}}, []int{3, 1}, []int{2}, 2},
		{surfaceWith([]int{1, 2, 0, 4, 3}, []int{3, 1, 2, 0, 4}), []int{3, 1, 4, 0, 2}, [][]int{{0, 3}, {1}, {2, 4}}, []int{2, 2, 1}, []int{1, 1}, 2},
		// The angles are neither in the order of the corners nor in its reverse.
		{surfaceWith([]int{5, 4, 6, 2, 0, 3, 1}, []int{6, 4, 5, 2, 1, 0, 3}), []int{1, 0, 2, 5, 3, 6, 4}, [][]int{{0, 1}, {2}, {3, 5, 6, 4}}, []int{4, 2, 1}, []int{3, 1}, 3},
		{surfaceWith([]int{3, 2, 7, 4, 0, 6, 5, 1}, []int{2, 3, 7, 4, 0, 1, 6, 5}), []int{1, 0, 6, 3, 5, 7, 2, 4}, [][]int{{0, 1}, {2, 6}, {3}, {4, 5, 7}}, []int{3, 2, 2, 1}, []int{2, 1, 1}, 3},
		{surfaceWith([]int{4, 2, 5, 3, 1, 7, 6, 0}, []int{4, 0, 2, 5, 7, 1, 3, 6}), []int{3, 5, 0, 2, 4, 7, 6, 1}, [][]int{{0, 3, 2}, {1, 5, 7}, {4}, {6}}, []int{3, 3, 1, 1}, []int{2, 2}, 3},
		{surfaceWith([]int{1, 2, 3, 0, 5, 6, 7, 4}, []int{4, 7, 6, 5, 2, 1, 0, 3}), []int{2, 3, 0, 1, 6, 7, 4, 5}, [][]int{{0, 2}, {1, 3}, {4, 6}, {5, 7}}, []int{2, 2, 2, 2}, []int{1, 1, 1, 1}, 3},
		{surfaceWith([]int{3, 4, 2, 6, 1, 7, 0, 5}, []int{1, 6, 4, 3, 7, 2, 5, 0}), []int{7, 6, 0, 4, 3, 1, 2, 5}, [][]int{{0, 7, 5, 1, 6, 2}, {3, 4}}, []int{6, 2}, []int{5, 1}, 4},
		{zigzag(7), []int{4, 2, 6, 0, 5, 1, 3}, [][]int{{0, 4, 5, 1, 2, 6, 3}}, []int{7}, []int{6}, 4},
		{zigzag(23), []int{4, 2, 6, 0, 8, 1, 10, 3, 12, 5, 14, 7, 16, 9, 18, 11, 20, 13, 22, 15, 21, 17, 19}, [][]int{{0, 4, 8, 12, 16, 20, 21, 17, 13, 9, 5, 1, 2, 6, 10, 14, 18, 22, 19, 15, 11, 7, 3}}, []int{23}, []int{22}, 12},
		{surfaceWith(circling(24, 1), []int{23, 22, 21, 20, 19, 18, 17, 16, 15, 14, 13, 12, 11, 10, 9, 8, 7, 6, 5, 4, 3, 2, 1, 0}), circling(24, 2), [][]int{{0, 2, 4, 6, 8, 10, 12, 14, 16, 18, 20, 22}, {1, 3, 5, 7, 9, 11, 13, 15, 17, 19, 21, 23}}, []int{12, 12}, []int{11, 11}, 12},
	}
}

// cornerSurfaces returns all surfaces of at most 4 squares, many larger ones,
// and all tori and L.
func cornerSurfaces() []impl.Surface {
	list := validSurfaces()
	for _, c := range cornerCases() {
		list = append(list, c.s)
	}
	for n := 5; n <= 24; n++ {
		list = append(list, zigzag(n), surfaceWith(circling(n, 1), mixedUp(n)))
	}
	for a := 1; a <= 24; a++ {
		for b := 1; b <= 24; b++ {
			if torus, ok := impl.TorusOf(a, b); ok {
				list = append(list, torus)
			}
			if ell, ok := impl.EllOf(a, b); ok {
				list = append(list, ell)
			}
		}
	}
	return list
}

// roundSlowly looks for the squares to the left and below.
func roundSlowly(s impl.Surface, square int) int {
	right := s.Right[square]
	across := s.Up[right]
	left := slices.Index(s.Right, across)
	return slices.Index(s.Up, left)
}

// pointsSlowly glues the corners of all squares without a walk around them:
// 4 * i and the three numbers after it are the lower left, lower right, upper
// left and upper right corner of the square i, and those that are the same
// point have the same number in the result.
func pointsSlowly(s impl.Surface) []int {
	const lowerLeft, lowerRight, upperLeft, upperRight = 0, 1, 2, 3
	points := counting(4 * len(s.Right))
	glue := func(a int, b int) {
		from, to := points[a], points[b]
		for i, p := range points {
			if p == from {
				points[i] = to
			}
		}
	}
	for i := range s.Right {
		right, up := s.Right[i], s.Up[i]
		glue(4*i+lowerRight, 4*right+lowerLeft)
		glue(4*i+upperRight, 4*right+upperLeft)
		glue(4*i+upperLeft, 4*up+lowerLeft)
		glue(4*i+upperRight, 4*up+lowerRight)
	}
	return points
}

// upperRightPoints returns, of the result of pointsSlowly, those at the upper
// right corners of the squares.
func upperRightPoints(points []int) []int {
	var list []int
	for i := 3; i < len(points); i += 4 {
		list = append(list, points[i])
	}
	return list
}

// anglesSlowly counts the corners of squares at each point: four of them make
// a full turn.
func anglesSlowly(s impl.Surface) []int {
	counts := map[int]int{}
	for _, p := range pointsSlowly(s) {
		counts[p]++
	}
	var angles []int
	for _, n := range counts {
		angles = append(angles, n/4)
	}
	slices.SortFunc(angles, func(a int, b int) int { return b - a })
	return angles
}

func stratumSlowly(s impl.Surface) []int {
	var stratum []int
	for _, angle := range anglesSlowly(s) {
		if angle != 1 {
			stratum = append(stratum, angle-1)
		}
	}
	return stratum
}

// genusSlowly takes the formula of Euler: points less sides plus squares is 2
// less twice the genus.
func genusSlowly(s impl.Surface) int {
	points := len(slices.Compact(slices.Sorted(slices.Values(pointsSlowly(s)))))
	squares := len(s.Right)
	return (2 - (points - 2*squares + squares)) / 2
}

func sumOf(list []int) int {
	sum := 0
	for _, x := range list {
		sum += x
	}
	return sum
}

func TestAroundOf(t *testing.T) {
	for _, c := range cornerCases() {
		if got := impl.AroundOf(c.s); !slices.Equal(got, c.around) {
			t.Errorf("AroundOf(%v) = %v, want %v", c.s, got, c.around)
		}
	}
}

func TestAroundOfIsOneRound(t *testing.T) {
	for _, s := range cornerSurfaces() {
		got := impl.AroundOf(s)
		if len(got) != len(s.Right) {
			t.Fatalf("AroundOf(%v) = %v", s, got)
		}
		for square, next := range got {
			if want := roundSlowly(s, square); next != want {
				t.Errorf("AroundOf(%v) leads from %d to %d, want %d", s, square, next, want)
			}
		}
	}
}

// TestAroundOfTakesRightFirst has a surface on which the four steps of a round
// in any other order or direction give another permutation.
func TestAroundOfTakesRightFirst(t *testing.T) {
	s := surfaceWith([]int{5, 4, 6, 2, 0, 3, 1}, []int{6, 4, 5, 2, 1, 0, 3})
	left, down := impl.InversePerm(s.Right), impl.InversePerm(s.Up)
	round := func(a, b, c, d []int) []int {
		return impl.ThenPerm(impl.ThenPerm(a, b), impl.ThenPerm(c, d))
	}
	got := impl.AroundOf(s)
	if want := round(s.Right, s.Up, left, down); !slices.Equal(got, want) {
		t.Errorf("AroundOf(%v) = %v, want %v", s, got, want)
	}
	for i, other := range [][]int{
		round(s.Up, s.Right, down, left), round(s.Right, down, left, s.Up), round(left, s.Up, s.Right, down),
		round(left, down, s.Right, s.Up), round(s.Up, left, down, s.Right), round(down, s.Right, s.Up, left),
		round(down, left, s.Up, s.Right), round(s.Right, s.Up, down, left),
	} {
		if slices.Equal(got, other) {
			t.Errorf("AroundOf(%v) = %v is also round %d", s, got, i)
		}
	}
}

func TestCornersOf(t *testing.T) {
	for _, c := range cornerCases() {
		if got := impl.CornersOf(c.s); !equalLists(got, c.corners) {
			t.Errorf("CornersOf(%v) = %v, want %v", c.s, got, c.corners)
		}
	}
}

func TestCornersOfAreTheCyclesOfARound(t *testing.T) {
	for _, s := range cornerSurfaces() {
		corners := impl.CornersOf(s)
		if want := impl.CyclesOf(impl.AroundOf(s)); !equalLists(corners, want) {
			t.Errorf("CornersOf(%v) = %v, want %v", s, corners, want)
		}
		last := -1
		for _, corner := range corners {
			if corner[0] != slices.Min(corner) || corner[0] <= last {
				t.Errorf("CornersOf(%v) has the corner %v after that of %d", s, corner, last)
			}
			last = corner[0]
			for i, square := range corner {
				if next := corner[(i+1)%len(corner)]; next != roundSlowly(s, square) {
					t.Errorf("CornersOf(%v) has the corner %v, where a round leads from %d to another square", s, corner, square)
				}
			}
		}
	}
}

func TestCornersOfAreThePointsWhereSquaresMeet(t *testing.T) {
	for _, s := range cornerSurfaces() {
		points := pointsSlowly(s)
		upperRight := upperRightPoints(points)
		corners := impl.CornersOf(s)
		var met []int
		for _, corner := range corners {
			point := upperRight[corner[0]]
			for square := range upperRight {
				if got := slices.Contains(corner, square); got != (upperRight[square] == point) {
					t.Errorf("CornersOf(%v) has the corner %v, wrong at the square %d", s, corner, square)
				}
			}
			met = append(met, corner...)
		}
		slices.Sort(met)
		if !slices.Equal(met, counting(len(s.Right))) {
			t.Errorf("the corners of %v have the squares %v", s, met)
		}
	}
}

func TestAnglesOf(t *testing.T) {
	for _, c := range cornerCases() {
		if got := impl.AnglesOf(c.s); !slices.Equal(got, c.angles) {
			t.Errorf("AnglesOf(%v) = %v, want %v", c.s, got, c.angles)
		}
	}
	for _, s := range cornerSurfaces() {
		if got, want := impl.AnglesOf(s), anglesSlowly(s); !slices.Equal(got, want) {
			t.Errorf("AnglesOf(%v) = %v, want %v", s, got, want)
		}
	}
}

func TestStratumOf(t *testing.T) {
	for _, c := range cornerCases() {
		if got := impl.StratumOf(c.s); !slices.Equal(got, c.stratum) {
			t.Errorf("StratumOf(%v) = %v, want %v", c.s, got, c.stratum)
		}
	}
	for _, s := range cornerSurfaces() {
		if got, want := impl.StratumOf(s), stratumSlowly(s); !slices.Equal(got, want) {
			t.Errorf("StratumOf(%v) = %v, want %v", s, got, want)
		}
	}
}

func TestGenusOf(t *testing.T) {
	for _, c := range cornerCases() {
		if got := impl.GenusOf(c.s); got != c.genus {
			t.Errorf("GenusOf(%v) = %d, want %d", c.s, got, c.genus)
		}
	}
	for _, s := range cornerSurfaces() {
		if got, want := impl.GenusOf(s), genusSlowly(s); got != want {
			t.Errorf("GenusOf(%v) = %d, want %d", s, got, want)
		}
	}
}

func TestAnglesAgreeWithTheGenus(t *testing.T) {
	for _, s := range cornerSurfaces() {
		angles, stratum, genus := impl.AnglesOf(s), impl.StratumOf(s), impl.GenusOf(s)
		if got := sumOf(angles); got != len(s.Right) {
			t.Errorf("the angles %v of %v add up to %d", angles, s, got)
		}
		if got := sumOf(stratum); got != 2*genus-2 {
			t.Errorf("the stratum %v of %v adds up to %d, but its genus is %d", stratum, s, got, genus)
		}
		if got := len(s.Right) - len(angles); got != 2*genus-2 {
			t.Errorf("%v has %d squares more than corners, but its genus is %d", s, got, genus)
		}
	}
}

func TestIsRegularCorner(t *testing.T) {
	cases := []struct {
		s       impl.Surface
		regular []int
	}{
		{surfaceWith([]int{0}, []int{0}), []int{0}},
		{surfaceWith([]int{1, 0, 2}, []int{2, 1, 0}), nil},
		{surfaceWith([]int{1, 2, 0, 3}, []int{3, 1, 2, 0}), []int{1}},
		{surfaceWith([]int{5, 4, 6, 2, 0, 3, 1}, []int{6, 4, 5, 2, 1, 0, 3}), []int{2}},
		{surfaceWith([]int{4, 2, 5, 3, 1, 7, 6, 0}, []int{4, 0, 2, 5, 7, 1, 3, 6}), []int{4, 6}},
		{zigzag(23), nil},
		{surfaceWith(circling(24, 8), circling(24, 9)), counting(24)},
	}
	for _, c := range cases {
		for square := range c.s.Right {
			want := slices.Contains(c.regular, square)
			if got := impl.IsRegularCorner(c.s, square); got != want {
				t.Errorf("IsRegularCorner(%v, %d) = %t", c.s, square, got)
			}
		}
	}
}

func TestIsRegularCornerOfEachSquare(t *testing.T) {
	for _, s := range cornerSurfaces() {
		n := len(s.Right)
		for square := range n {
			want := roundSlowly(s, square) == square
			if got := impl.IsRegularCorner(s, square); got != want {
				t.Errorf("IsRegularCorner(%v, %d) = %t", s, square, got)
			}
		}
		for _, square := range []int{-1, n, n + 1, -n, 24, 25, math.MaxInt, math.MinInt} {
			if (square < 0 || square >= n) && impl.IsRegularCorner(s, square) {
				t.Errorf("IsRegularCorner(%v, %d) = true", s, square)
			}
		}
	}
}

// isFlat reports whether each square has a regular corner of its own.
func isFlat(s impl.Surface) bool {
	n := len(s.Right)
	for square := range n {
		if !impl.IsRegularCorner(s, square) {
			return false
		}
	}
	return slices.Equal(impl.AroundOf(s), counting(n)) && len(impl.CornersOf(s)) == n &&
		slices.Equal(impl.AnglesOf(s), slices.Repeat([]int{1}, n)) &&
		len(impl.StratumOf(s)) == 0 && impl.GenusOf(s) == 1
}

func TestCornersOfAllTori(t *testing.T) {
	for width := 1; width <= 24; width++ {
		for height := 1; width*height <= 24; height++ {
			if torus, ok := impl.TorusOf(width, height); !ok || !isFlat(torus) {
				t.Errorf("TorusOf(%d, %d) has the angles %v", width, height, impl.AnglesOf(torus))
			}
		}
	}
	for n := 1; n <= 24; n++ {
		for step := range n {
			if twisted := surfaceWith(circling(n, 1), circling(n, step)); !isFlat(twisted) {
				t.Errorf("%v has the angles %v", twisted, impl.AnglesOf(twisted))
			}
		}
	}
}

func TestCornersOfAllElls(t *testing.T) {
	for arm := 1; arm <= 24; arm++ {
		for leg := 1; arm+leg-1 <= 24; leg++ {
			ell, _ := impl.EllOf(arm, leg)
			if arm == 1 || leg == 1 {
				if !isFlat(ell) {
					t.Errorf("EllOf(%d, %d) has the angles %v", arm, leg, impl.AnglesOf(ell))
				}
				continue
			}
			want := append([]int{3}, slices.Repeat([]int{1}, arm+leg-4)...)
			if got := impl.AnglesOf(ell); !slices.Equal(got, want) {
				t.Errorf("EllOf(%d, %d) has the angles %v, want %v", arm, leg, got, want)
			}
			if got := impl.StratumOf(ell); !slices.Equal(got, []int{2}) || impl.GenusOf(ell) != 2 {
				t.Errorf("EllOf(%d, %d) has the stratum %v and the genus %d", arm, leg, got, impl.GenusOf(ell))
			}
			// The corner lies at the ends of the row and of the column, and
			// above the first square.
			corner := []int{0, arm + leg - 2, arm - 1}
			if got := impl.CornersOf(ell)[0]; !slices.Equal(got, corner) {
				t.Errorf("EllOf(%d, %d) has the corner %v, want %v", arm, leg, got, corner)
			}
			for square := range ell.Right {
				if got := impl.IsRegularCorner(ell, square); got == slices.Contains(corner, square) {
					t.Errorf("IsRegularCorner(EllOf(%d, %d), %d) = %t", arm, leg, square, got)
				}
			}
		}
	}
}

func TestRenamingsKeepAnglesAndGenus(t *testing.T) {
	for _, s := range cornerSurfaces() {
		form, _ := impl.CanonOf(s)
		checkSameCorners(t, s, form)
		around := impl.AroundOf(s)
		for _, names := range someNames(len(s.Right)) {
			renamed := renamedSlowly(s, names)
			checkSameCorners(t, s, renamed)
			if got, want := impl.AroundOf(renamed), impl.RenamePerm(around, names); !slices.Equal(got, want) {
				t.Errorf("AroundOf(%v) = %v, want %v with new names as for %v", renamed, got, want, s)
			}
			for square, name := range names {
				if got, want := impl.IsRegularCorner(renamed, name), impl.IsRegularCorner(s, square); got != want {
					t.Errorf("IsRegularCorner(%v, %d) = %t, but not so for %d of %v", renamed, name, got, square, s)
				}
			}
		}
	}
}

func checkSameCorners(t *testing.T, s impl.Surface, renamed impl.Surface) {
	t.Helper()
	if got, want := impl.AnglesOf(renamed), impl.AnglesOf(s); !slices.Equal(got, want) {
		t.Errorf("AnglesOf(%v) = %v, want %v as for %v", renamed, got, want, s)
	}
	if got, want := impl.StratumOf(renamed), impl.StratumOf(s); !slices.Equal(got, want) {
		t.Errorf("StratumOf(%v) = %v, want %v as for %v", renamed, got, want, s)
	}
	if got, want := impl.GenusOf(renamed), impl.GenusOf(s); got != want {
		t.Errorf("GenusOf(%v) = %d, want %d as for %v", renamed, got, want, s)
	}
	if got, want := len(impl.CornersOf(renamed)), len(impl.CornersOf(s)); got != want {
		t.Errorf("CornersOf(%v) has %d corners, want %d as for %v", renamed, got, want, s)
	}
}

func checkNoCorners(t *testing.T, s impl.Surface) {
	t.Helper()
	if around, corners := impl.AroundOf(s), impl.CornersOf(s); len(around) != 0 || len(corners) != 0 {
		t.Errorf("AroundOf(%v) = %v and CornersOf = %v", s, around, corners)
	}
	if angles, stratum := impl.AnglesOf(s), impl.StratumOf(s); len(angles) != 0 || len(stratum) != 0 {
		t.Errorf("AnglesOf(%v) = %v and StratumOf = %v", s, angles, stratum)
	}
	if got := impl.GenusOf(s); got != -1 {
		t.Errorf("GenusOf(%v) = %d, want -1", s, got)
	}
	for _, square := range []int{-1, 0, 1, len(s.Right) - 1, len(s.Right), len(s.Up), 23, 24, math.MaxInt, math.MinInt} {
		if impl.IsRegularCorner(s, square) {
			t.Errorf("IsRegularCorner(%v, %d) = true", s, square)
		}
	}
}

func TestInvalidSurfacesHaveNoCorners(t *testing.T) {
	for _, s := range invalidSurfaces() {
		checkNoCorners(t, s)
	}
}

func TestCornersOfAllShortLists(t *testing.T) {
	for _, s := range shortSurfaces() {
		if !isSurfaceSlowly(s) {
			checkNoCorners(t, s)
		} else if got, want := impl.GenusOf(s), genusSlowly(s); got != want {
			t.Errorf("GenusOf(%v) = %d, want %d", s, got, want)
		}
	}
}

// cornerCalls makes the calls of the layer with a surface, as Right and Up.
func cornerCalls(lists [][]int) map[string]func() [][]int {
	s := surfaceWith(lists[0], lists[1])
	return map[string]func() [][]int{
		"AroundOf":        func() [][]int { return [][]int{impl.AroundOf(s)} },
		"CornersOf":       func() [][]int { return impl.CornersOf(s) },
		"AnglesOf":        func() [][]int { return [][]int{impl.AnglesOf(s)} },
		"StratumOf":       func() [][]int { return [][]int{impl.StratumOf(s)} },
		"GenusOf":         func() [][]int { impl.GenusOf(s); return nil },
		"IsRegularCorner": func() [][]int { impl.IsRegularCorner(s, 0); return nil },
	}
}

func TestCornersKeepTheRulesOfMemory(t *testing.T) {
	for _, c := range cornerCases() {
		checkMemory(t, [][]int{c.s.Right, c.s.Up}, cornerCalls)
	}
	for _, s := range append(longSurfaces(), invalidSurfaces()...) {
		checkMemory(t, [][]int{s.Right, s.Up}, cornerCalls)
	}
}

// TestCornersOfOneListAsRightAndUp gives the same memory twice: a round of the
// permutation and itself leads nowhere.
func TestCornersOfOneListAsRightAndUp(t *testing.T) {
	list := []int{2, 0, 1}
	s := surfaceWith(list, list)
	around, corners := impl.AroundOf(s), impl.CornersOf(s)
	if !isFlat(s) || !slices.Equal(around, counting(3)) || !equalLists(corners, [][]int{{0}, {1}, {2}}) {
		t.Errorf("AroundOf(%v) = %v and CornersOf = %v", s, around, corners)
	}
	spoil(around, -1)
	spoil(corners[0], -1)
	if !slices.Equal(list, []int{2, 0, 1}) || !slices.Equal(corners[1], []int{1}) {
		t.Errorf("a change of the results changed the argument, %v, or another corner, %v", list, corners[1])
	}
}
