package tests

import (
	"math"
	"slices"
	"strings"
	"sync"
	"testing"

	"loop.example/g00928/impl"
)

type slopeCase struct {
	p, q      int
	direction string
	path      string
}

// slopeCases returns all slopes with their words.
func slopeCases() []slopeCase {
	return []slopeCase{
		{0, 1, "s", "u"},
		{1, 0, "", "r"},
		{1, 1, "sTS", "ru"},
		{1, 2, "sTSsTS", "ruu"},
		{1, 3, "sTSsTSsTS", "ruuu"},
		{1, 4, "sTSsTSsTSsTS", "ruuuu"},
		{1, 5, "sTSsTSsTSsTSsTS", "ruuuuu"},
		{1, 6, "sTSsTSsTSsTSsTSsTS", "ruuuuuu"},
		{1, 7, "sTSsTSsTSsTSsTSsTSsTS", "ruuuuuuu"},
		{1, 8, "sTSsTSsTSsTSsTSsTSsTSsTS", "ruuuuuuuu"},
		{1, 9, "sTSsTSsTSsTSsTSsTSsTSsTSsTS", "ruuuuuuuuu"},
		{1, 10, "sTSsTSsTSsTSsTSsTSsTSsTSsTSsTS", "ruuuuuuuuuu"},
		{1, 11, "sTSsTSsTSsTSsTSsTSsTSsTSsTSsTSsTS", "ruuuuuuuuuuu"},
		{2, 1, "tsTS", "rru"},
		{2, 3, "sTStsTS", "ruruu"},
		{2, 5, "sTSsTStsTS", "ruuruuu"},
		{2, 7, "sTSsTSsTStsTS", "ruuuruuuu"},
		{2, 9, "sTSsTSsTSsTStsTS", "ruuuuruuuuu"},
		{3, 1, "ttsTS", "rrru"},
		{3, 2, "tsTSsTS", "rruru"},
		{3, 4, "sTSttsTS", "rururuu"},
		{3, 5, "sTStsTSsTS", "ruruuruu"},
		{3, 7, "sTSsTSttsTS", "ruuruuruuu"},
		{3, 8, "sTSsTStsTSsTS", "ruuruuuruuu"},
		{4, 1, "tttsTS", "rrrru"},
		{4, 3, "tsTSsTSsTS", "rrururu"},
		{4, 5, "sTStttsTS", "rurururuu"},
		{4, 7, "sTStsTSsTSsTS", "ruruuruuruu"},
		{5, 1, "ttttsTS", "rrrrru"},
		{5, 2, "ttsTSsTS", "rrrurru"},
		{5, 3, "tsTStsTS", "rrurruru"},
		{5, 4, "tsTSsTSsTSsTS", "rrurururu"},
		{5, 6, "sTSttttsTS", "rururururuu"},
		{5, 7, "sTSttsTSsTS", "rururuururuu"},
		{6, 1, "tttttsTS", "rrrrrru"},
		{6, 5, "tsTSsTSsTSsTSsTS", "rrururururu"},
		{7, 1, "ttttttsTS", "rrrrrrru"},
		{7, 2, "tttsTSsTS", "rrrrurrru"},
		{7, 3, "ttsTSsTSsTS", "rrrurrurru"},
		{7, 4, "tsTSttsTS", "rrurrurruru"},
		{7, 5, "tsTSsTStsTS", "rrururrururu"},
		{8, 1, "tttttttsTS", "rrrrrrrru"},
		{8, 3, "ttsTStsTS", "rrrurrrurru"},
		{9, 1, "ttttttttsTS", "rrrrrrrrru"},
		{9, 2, "ttttsTSsTS", "rrrrrurrrru"},
		{10, 1, "tttttttttsTS", "rrrrrrrrrru"},
		{11, 1, "ttttttttttsTS", "rrrrrrrrrrru"},
	}
}

// isSlopeSlowly tries all divisors. It is for numbers that are not great.
func isSlopeSlowly(p int, q int) bool {
	for d := 2; d <= 40; d++ {
		if p%d == 0 && q%d == 0 {
			return false
		}
	}
	return p >= 0 && q >= 0 && p+q <= 12
}

// directionSlowly begins with the first step of the word and goes on with the
// direction after it.
func directionSlowly(p int, q int) string {
	switch {
	case q == 0:
		return ""
	case p == 0:
		return "s"
	case p > q:
		return "t" + directionSlowly(p-q, q)
	default:
		return "sTS" + directionSlowly(p, q-p)
	}
}

// pathSlowly goes from the point 0, 0 to the point p, q, up whenever the point
// above is not above the line between them.
func pathSlowly(p int, q int) string {
	path := ""
	for x, y := 0, 0; x+y < p+q; {
		if (y+1)*p <= x*q {
			path += "u"
			y++
		} else {
			path += "r"
			x++
		}
	}
	return path
}

func pathPermSlowly(s impl.Surface, p int, q int) []int {
	ends := counting(len(s.Right))
	for _, step := range strings.Split(pathSlowly(p, q), "") {
		for i, x := range ends {
			if step == "r" {
				ends[i] = s.Right[x]
			} else {
				ends[i] = s.Up[x]
			}
		}
	}
	return ends
}

// wrongSlopes returns pairs for which SlopeOk is false: both 0, with common
// divisors, with sums that are too great or beyond the range of int, and with
// negative numbers.
func wrongSlopes() [][2]int {
	return [][2]int{
		{0, 0},
		{2, 0}, {0, 2}, {3, 0}, {0, 11}, {12, 0}, {0, 12}, {13, 0}, {0, 13},
		{2, 2}, {2, 4}, {3, 3}, {4, 2}, {6, 3}, {6, 4}, {6, 6}, {9, 3}, {10, 2}, {3, 9}, {2, 10}, {4, 8},
		{12, 1}, {1, 12}, {6, 7}, {7, 6}, {2, 11}, {11, 2}, {9, 4}, {7, 7}, {24, 25},
		{-1, 0}, {0, -1}, {-1, 1}, {1, -1}, {-1, -1}, {-1, 2}, {2, -1}, {-5, 12}, {12, -5}, {-1, 13}, {13, -1}, {-2, 14}, {-3, -2},
		{math.MaxInt, 0}, {0, math.MaxInt}, {math.MaxInt, 1}, {1, math.MaxInt}, {math.MaxInt, 2}, {2, math.MaxInt},
		{math.MaxInt, math.MaxInt}, {math.MaxInt, math.MaxInt - 1}, {math.MaxInt - 1, math.MaxInt}, {1 << 62, 1<<62 + 1}, {1<<62 + 1, 1 << 62},
		{math.MinInt, 0}, {0, math.MinInt}, {math.MinInt, 1}, {1, math.MinInt}, {math.MinInt, math.MinInt}, {math.MinInt, math.MinInt + 1},
		{math.MaxInt, math.MinInt}, {math.MinInt, math.MaxInt}, {math.MaxInt, -math.MaxInt}, {math.MaxInt, 3 - math.MaxInt}, {3 - math.MaxInt, math.MaxInt}, {math.MinInt, -1}, {-1, math.MinInt},
		{1<<32 + 1, 1 << 32}, {1 << 32, 1}, {1, 1 << 32}, {1<<32 + 1, 2}, {3, 1<<32 + 4},
	}
}

func TestSlopeOk(t *testing.T) {
	for _, c := range slopeCases() {
		if !impl.SlopeOk(c.p, c.q) {
			t.Errorf("SlopeOk(%d, %d) is false", c.p, c.q)
		}
	}
	for _, w := range wrongSlopes() {
		if impl.SlopeOk(w[0], w[1]) {
			t.Errorf("SlopeOk(%d, %d) is true", w[0], w[1])
		}
	}
	if impl.MaxSlope != 12 {
		t.Errorf("MaxSlope = %d", impl.MaxSlope)
	}
}

func TestSlopeOkOfAllSmallPairs(t *testing.T) {
	counts := map[int]int{}
	for p := -15; p <= 30; p++ {
		for q := -15; q <= 30; q++ {
			got, want := impl.SlopeOk(p, q), isSlopeSlowly(p, q)
			if got != want {
				t.Errorf("SlopeOk(%d, %d) = %t, want %t", p, q, got, want)
			}
			if got {
				counts[p+q]++
			}
		}
	}
	// The slopes with the sum n are the numbers below n without a divisor in
	// common with n, and for n = 1 also this number itself.
	for n := -30; n <= 60; n++ {
		want := 0
		switch {
		case n == 1:
			want = 2
		case 2 <= n && n <= 12:
			want = countUnits(n)
		}
		if counts[n] != want {
			t.Errorf("%d slopes have the sum %d, want %d", counts[n], n, want)
		}
	}
}

func TestSlopeOkOfGreatNumbers(t *testing.T) {
	for _, great := range append(greatInts(), 1<<62-1, 3037000500, math.MaxInt-11, math.MaxInt-12) {
		others := []int{math.MinInt, math.MinInt + 1, math.MinInt + 12, math.MinInt + 13}
		for x := -13; x <= 13; x++ {
			others = append(others, x, great+min(x, 0), -great+x)
		}
		for _, other := range append(others, greatInts()...) {
			for _, w := range [][2]int{{great, other}, {other, great}, {-great, other}, {other, -great}} {
				if impl.SlopeOk(w[0], w[1]) {
					t.Errorf("SlopeOk(%d, %d) is true", w[0], w[1])
				}
				if direction, path := impl.DirectionWord(w[0], w[1]), impl.SlopeWord(w[0], w[1]); direction != "" || path != "" {
					t.Errorf("the slope %d, %d has the words %q and %q", w[0], w[1], direction, path)
				}
			}
		}
	}
}

func TestWordsOfAllSlopes(t *testing.T) {
	for _, c := range slopeCases() {
		if got := impl.DirectionWord(c.p, c.q); got != c.direction {
			t.Errorf("DirectionWord(%d, %d) = %q, want %q", c.p, c.q, got, c.direction)
		}
		if got := impl.SlopeWord(c.p, c.q); got != c.path {
			t.Errorf("SlopeWord(%d, %d) = %q, want %q", c.p, c.q, got, c.path)
		}
	}
}

func TestWordsOfAllSmallPairs(t *testing.T) {
	for p := -3; p <= 26; p++ {
		for q := -3; q <= 26; q++ {
			direction, path := "", ""
			if isSlopeSlowly(p, q) {
				direction, path = directionSlowly(p, q), pathSlowly(p, q)
			}
			if got := impl.DirectionWord(p, q); got != direction {
				t.Errorf("DirectionWord(%d, %d) = %q, want %q", p, q, got, direction)
			}
			if got := impl.SlopeWord(p, q); got != path {
				t.Errorf("SlopeWord(%d, %d) = %q, want %q", p, q, got, path)
			}
		}
	}
}

func TestWrongSlopesHaveNoWords(t *testing.T) {
	for _, w := range wrongSlopes() {
		if got := impl.DirectionWord(w[0], w[1]); got != "" {
			t.Errorf("DirectionWord(%d, %d) = %q", w[0], w[1], got)
		}
		if got := impl.SlopeWord(w[0], w[1]); got != "" {
			t.Errorf("SlopeWord(%d, %d) = %q", w[0], w[1], got)
		}
	}
}

// TestDirectionWordLeadsToTheRight also has the two directions with the longest
// words: the steepest slope is the one of MaxSlope - 1 steps of three letters.
func TestDirectionWordLeadsToTheRight(t *testing.T) {
	longest := 0
	for _, c := range slopeCases() {
		word := impl.DirectionWord(c.p, c.q)
		longest = max(longest, len(word))
		m, ok := impl.MatrixOf(word)
		if !ok || !impl.WordOk(word) {
			t.Fatalf("the word %q of %d, %d is not valid", word, c.p, c.q)
		}
		x, y := m.A*c.p+m.B*c.q, m.C*c.p+m.D*c.q
		if x != 1 || y != 0 || impl.DeterminantOf(m) != 1 {
			t.Errorf("the matrix %v of %q leads %d, %d to %d, %d", m, word, c.p, c.q, x, y)
		}
		// Backwards, the word leads 1, 0 to the direction.
		if x, y := vectorAfter(impl.InverseWord(word), 1, 0); x != c.p || y != c.q {
			t.Errorf("the inverse of %q leads 1, 0 to %d, %d, want %d, %d", word, x, y, c.p, c.q)
		}
	}
	if longest != 33 {
		t.Errorf("the longest word has %d letters", longest)
	}
}

func TestSlopeWordHasTheStepsOfTheSlope(t *testing.T) {
	for _, c := range slopeCases() {
		path := impl.SlopeWord(c.p, c.q)
		right, up := strings.Count(path, "r"), strings.Count(path, "u")
		if right != c.p || up != c.q || len(path) != c.p+c.q {
			t.Errorf("SlopeWord(%d, %d) = %q has %d letters r and %d letters u", c.p, c.q, path, right, up)
		}
	}
}

// TestSlopeWordStaysBelowTheLine and so close to it that no point lies between
// the path and the line.
func TestSlopeWordStaysBelowTheLine(t *testing.T) {
	for _, c := range slopeCases() {
		path := impl.SlopeWord(c.p, c.q)
		x, y := 0, 0
		for i := range path {
			if path[i] == 'r' {
				x++
			} else {
				y++
			}
			below := x*c.q - y*c.p
			if below < 0 || below >= c.p+c.q {
				t.Errorf("SlopeWord(%d, %d) = %q leads to %d, %d", c.p, c.q, path, x, y)
			}
			if (below == 0) != (i == len(path)-1) && c.p > 0 && c.q > 0 {
				t.Errorf("SlopeWord(%d, %d) = %q: is %d, %d on the line?", c.p, c.q, path, x, y)
			}
		}
	}
}

// TestSlopeWordsAreMirrored in the diagonal: with the other letters, the path is
// gone from its end.
func TestSlopeWordsAreMirrored(t *testing.T) {
	other := map[byte]byte{'r': 'u', 'u': 'r'}
	for _, c := range slopeCases() {
		path := []byte(impl.SlopeWord(c.p, c.q))
		slices.Reverse(path)
		for i, step := range path {
			path[i] = other[step]
		}
		if got := impl.SlopeWord(c.q, c.p); got != string(path) {
			t.Errorf("SlopeWord(%d, %d) = %q, want %q", c.q, c.p, got, path)
		}
	}
}

type directionCase struct {
	s         impl.Surface
	p, q      int
	path      []int
	cylinders []impl.Cylinder
}

func directionCases() []directionCase {
	one := surfaceWith([]int{0}, []int{0})
	torus := torusSlowly(3, 2)
	small := surfaceWith([]int{1, 0, 2}, []int{2, 1, 0})
	ell := surfaceWith([]int{1, 2, 0, 3}, []int{3, 1, 2, 0})
	long := ellSlowly(5, 6)
	// Genus 3, with the strata 2, 2 and 1, 1, 1, 1; zigzag(7) has genus 4.
	two := surfaceWith([]int{4, 2, 5, 3, 1, 7, 6, 0}, []int{4, 0, 2, 5, 7, 1, 3, 6})
	four := surfaceWith([]int{1, 2, 3, 0, 5, 6, 7, 4}, []int{4, 7, 6, 5, 2, 1, 0, 3})
	return []directionCase{
		{one, 1, 0, []int{0}, cylindersWith(1, 1)},
		{one, 0, 1, []int{0}, cylindersWith(1, 1)},
		{one, 1, 1, []int{0}, cylindersWith(1, 1)},
		{one, 11, 1, []int{0}, cylindersWith(1, 1)},
		{one, 1, 11, []int{0}, cylindersWith(1, 1)},
		{torus, 1, 0, []int{1, 2, 0, 4, 5, 3}, cylindersWith(3, 2)},
		{torus, 0, 1, []int{3, 4, 5, 0, 1, 2}, cylindersWith(2, 3)},
		{torus, 1, 1, []int{4, 5, 3, 1, 2, 0}, cylindersWith(6, 1)},
		{torus, 3, 2, []int{0, 1, 2, 3, 4, 5}, cylindersWith(1, 6)},
		{torus, 3, 1, []int{3, 4, 5, 0, 1, 2}, cylindersWith(2, 3)},
		{torus, 1, 2, []int{1, 2, 0, 4, 5, 3}, cylindersWith(3, 2)},
		{small, 1, 0, []int{1, 0, 2}, cylindersWith(2, 1, 1, 1)},
		{small, 0, 1, []int{2, 1, 0}, cylindersWith(2, 1, 1, 1)},
		{small, 1, 1, []int{1, 2, 0}, cylindersWith(3, 1)},
		{small, 2, 1, []int{2, 1, 0}, cylindersWith(2, 1, 1, 1)},
		{small, 1, 2, []int{1, 0, 2}, cylindersWith(2, 1, 1, 1)},
		{ell, 1, 0, []int{1, 2, 0, 3}, cylindersWith(3, 1, 1, 1)},
		{ell, 0, 1, []int{3, 1, 2, 0}, cylindersWith(2, 1, 1, 2)},
		{ell, 1, 1, []int{1, 2, 3, 0}, cylindersWith(4, 1)},
		{ell, 2, 1, []int{2, 3, 1, 0}, cylindersWith(4, 1)},
		{ell, 1, 2, []int{1, 2, 0, 3}, cylindersWith(3, 1, 1, 1)},
		{ell, 3, 1, []int{3, 1, 2, 0}, cylindersWith(2, 1, 1, 2)},
		{long, 1, 1, []int{1, 2, 3, 4, 5, 6, 7, 8, 9, 0}, cylindersWith(10, 1)},
		{long, 1, 3, []int{1, 2, 3, 4, 7, 8, 9, 0, 5, 6}, cylindersWith(6, 1, 2, 2)},
		{long, 2, 3, []int{2, 3, 4, 6, 7, 8, 9, 0, 5, 1}, cylindersWith(4, 2, 2, 1)},
		{long, 3, 2, []int{3, 4, 5, 6, 2, 7, 8, 9, 0, 1}, cylindersWith(4, 1, 6, 1)},
		{two, 1, 1, []int{7, 2, 1, 5, 0, 6, 3, 4}, cylindersWith(3, 1, 2, 1, 3, 1)},
		{two, 2, 1, []int{0, 1, 6, 5, 2, 4, 3, 7}, cylindersWith(1, 2, 1, 1, 5, 1)},
		{two, 7, 5, []int{0, 5, 3, 6, 1, 4, 7, 2}, cylindersWith(1, 1, 3, 1, 4, 1)},
		{two, 1, 11, []int{5, 2, 7, 4, 6, 1, 0, 3}, cylindersWith(8, 1)},
		{four, 1, 1, []int{7, 6, 5, 4, 1, 0, 3, 2}, cylindersWith(4, 1, 4, 1)},
		{four, 5, 7, []int{5, 4, 7, 6, 3, 2, 1, 0}, cylindersWith(4, 1, 4, 1)},
		{zigzag(7), 0, 1, []int{0, 2, 1, 4, 3, 6, 5}, cylindersWith(1, 1, 2, 1, 2, 1, 2, 1)},
		{zigzag(7), 1, 1, []int{2, 0, 4, 1, 6, 3, 5}, cylindersWith(7, 1)},
		{zigzag(7), 2, 3, []int{3, 1, 5, 0, 6, 2, 4}, cylindersWith(2, 1, 1, 1, 2, 1, 2, 1)},
	}
}

// directionSurfaces returns surfaces of all kinds, and of the stacks of small
// cylinders, of which there are many, every tenth.
func directionSurfaces() []impl.Surface {
	list := append(cornerSurfaces(), unevenRows(), twoRows(5, 7), twoRows(6, 4), twoRows(9, 15))
	for _, c := range cylinderCases() {
		list = append(list, c.s, renamedSlowly(c.s, mixedUp(len(c.s.Right))))
	}
	for _, c := range largeStacks() {
		list = append(list, c.s, renamedSlowly(c.s, mixedUp(len(c.s.Right))))
	}
	for i, s := range stackedSurfaces() {
		if i%10 == 0 {
			list = append(list, renamedSlowly(s, mixedUp(len(s.Right))))
		}
	}
	return list
}

// fewSurfaces returns every eighth of the directionSurfaces, for tests that
// need long for each of them.
func fewSurfaces() []impl.Surface {
	var list []impl.Surface
	for i, s := range directionSurfaces() {
		if i%8 == 0 {
			list = append(list, s)
		}
	}
	return list
}

func mustPath(t *testing.T, s impl.Surface, p int, q int) []int {
	t.Helper()
	path, ok := impl.PathPerm(s, p, q)
	if !ok {
		t.Fatalf("PathPerm(%v, %d, %d) fails", s, p, q)
	}
	return path
}

func mustCylindersIn(t *testing.T, s impl.Surface, p int, q int) []impl.Cylinder {
	t.Helper()
	list, ok := impl.CylindersIn(s, p, q)
	if !ok {
		t.Fatalf("CylindersIn(%v, %d, %d) fails", s, p, q)
	}
	return list
}

// checkSameCylinders is for lists that may be in different orders.
func checkSameCylinders(t *testing.T, s impl.Surface, p int, q int, want []impl.Cylinder) {
	t.Helper()
	if got := mustCylindersIn(t, s, p, q); !slices.Equal(sortedCylinders(got), sortedCylinders(want)) {
		t.Errorf("CylindersIn(%v, %d, %d) = %v, want %v in some order", s, p, q, got, want)
	}
}

func checkDirection(t *testing.T, c directionCase) {
	t.Helper()
	if got, ok := impl.PathPerm(c.s, c.p, c.q); !slices.Equal(got, c.path) || !ok {
		t.Errorf("PathPerm(%v, %d, %d) = %v, %t, want %v", c.s, c.p, c.q, got, ok, c.path)
	}
	if got, ok := impl.CylindersIn(c.s, c.p, c.q); !slices.Equal(got, c.cylinders) || !ok {
		t.Errorf("CylindersIn(%v, %d, %d) = %v, %t, want %v", c.s, c.p, c.q, got, ok, c.cylinders)
	}
	if got, want := impl.IsOneCylinder(c.s, c.p, c.q), len(c.cylinders) == 1; got != want {
		t.Errorf("IsOneCylinder(%v, %d, %d) = %t", c.s, c.p, c.q, got)
	}
}

func TestDirections(t *testing.T) {
	for _, c := range directionCases() {
		checkDirection(t, c)
	}
}

func TestDirectionsOfManySurfaces(t *testing.T) {
	genera := map[int]bool{}
	for _, s := range directionSurfaces() {
		genera[genusSlowly(s)] = true
		for _, c := range slopeCases() {
			cylinders := cylindersSlowly(runSlowly(s, c.direction))
			checkDirection(t, directionCase{s, c.p, c.q, pathPermSlowly(s, c.p, c.q), cylinders})
		}
	}
	for genus := 1; genus <= 12; genus++ {
		if !genera[genus] {
			t.Errorf("no surface has the genus %d", genus)
		}
	}
}

func TestPathPermIsAPermutation(t *testing.T) {
	for _, s := range directionSurfaces() {
		for _, c := range slopeCases() {
			if path := mustPath(t, s, c.p, c.q); len(path) != len(s.Right) || !isPermSlowly(path) {
				t.Errorf("PathPerm(%v, %d, %d) = %v", s, c.p, c.q, path)
			}
		}
	}
}

// TestPathPermOfPlainSlopes has the slopes with one step up or one to the right,
// where the path goes to the right first and then up.
func TestPathPermOfPlainSlopes(t *testing.T) {
	for _, s := range directionSurfaces() {
		if got := mustPath(t, s, 1, 0); !slices.Equal(got, s.Right) {
			t.Errorf("PathPerm(%v, 1, 0) = %v", s, got)
		}
		if got := mustPath(t, s, 0, 1); !slices.Equal(got, s.Up) {
			t.Errorf("PathPerm(%v, 0, 1) = %v", s, got)
		}
		flat, steep := impl.ThenPerm(s.Right, s.Up), impl.ThenPerm(s.Right, s.Up)
		for n := 1; n <= 11; n++ {
			if got := mustPath(t, s, n, 1); !slices.Equal(got, flat) {
				t.Errorf("PathPerm(%v, %d, 1) = %v, want %v", s, n, got, flat)
			}
			if got := mustPath(t, s, 1, n); !slices.Equal(got, steep) {
				t.Errorf("PathPerm(%v, 1, %d) = %v, want %v", s, n, got, steep)
			}
			flat, steep = impl.ThenPerm(s.Right, flat), impl.ThenPerm(steep, s.Up)
		}
	}
}

// TestDirectionsOfTori moves the squares of a torus by p and q. The one cylinder
// is as wide as often they can be moved until all are back.
func TestDirectionsOfTori(t *testing.T) {
	for width := 1; width <= 24; width++ {
		for height := 1; width*height <= 24; height++ {
			s := torusSlowly(width, height)
			for _, slope := range slopeCases() {
				c := directionCase{s: s, p: slope.p, q: slope.q}
				for i := range s.Right {
					c.path = append(c.path, (i/width+c.q)%height*width+(i%width+c.p)%width)
				}
				around := 1
				for around*c.p%width != 0 || around*c.q%height != 0 {
					around++
				}
				c.cylinders = cylindersWith(around, width*height/around)
				checkDirection(t, c)
			}
		}
	}
}

// TestDirectionsOfElls has the columns as the cylinders upwards, and one path
// through all squares along the diagonal: the arm, and then up through the leg.
func TestDirectionsOfElls(t *testing.T) {
	for arm := 2; arm <= 23; arm++ {
		for leg := 2; arm+leg <= 25; leg++ {
			s := ellSlowly(arm, leg)
			checkDirection(t, directionCase{s, 1, 0, s.Right, cylindersWith(arm, 1, 1, leg-1)})
			checkDirection(t, directionCase{s, 0, 1, s.Up, cylindersWith(leg, 1, 1, arm-1)})
			checkDirection(t, directionCase{s, 1, 1, circling(arm+leg-1, 1), cylindersWith(arm+leg-1, 1)})
			// As many steps as the arm or the leg has squares lead back, so
			// that only the one step in the other direction is left.
			if arm <= 11 {
				checkSameCylinders(t, s, arm, 1, cylindersWith(leg, 1, 1, arm-1))
			}
			if leg <= 11 {
				checkSameCylinders(t, s, 1, leg, cylindersWith(arm, 1, 1, leg-1))
			}
		}
	}
}

func TestCylindersFillTheSurfaceInEveryDirection(t *testing.T) {
	for _, s := range directionSurfaces() {
		for _, c := range slopeCases() {
			list := mustCylindersIn(t, s, c.p, c.q)
			if got := impl.AreaOf(list); got != len(s.Right) || got != impl.CountSquares(s) {
				t.Errorf("AreaOf(%v) = %d for the cylinders of %v in the direction %d, %d", list, got, s, c.p, c.q)
			}
		}
	}
}

func TestCylindersInAreThoseAfterTheWord(t *testing.T) {
	for _, s := range directionSurfaces() {
		for _, c := range slopeCases() {
			want := mustCylinders(t, mustRun(t, s, impl.DirectionWord(c.p, c.q)))
			if got := mustCylindersIn(t, s, c.p, c.q); !slices.Equal(got, want) {
				t.Errorf("CylindersIn(%v, %d, %d) = %v, want %v", s, c.p, c.q, got, want)
			}
		}
	}
}

// TestPathsAreAsLongAsRows in the same direction: those of a cylinder are as
// many as it is high and as long as it is wide.
func TestPathsAreAsLongAsRows(t *testing.T) {
	for _, s := range directionSurfaces() {
		for _, c := range slopeCases() {
			paths := cycleLengths(mustPath(t, s, c.p, c.q))
			after := mustRun(t, s, impl.DirectionWord(c.p, c.q))
			if rows := cycleLengths(after.Right); !slices.Equal(paths, rows) {
				t.Errorf("the paths of %v in the direction %d, %d have the lengths %v, but the rows %v", s, c.p, c.q, paths, rows)
			}
			var rows []int
			for _, cylinder := range mustCylindersIn(t, s, c.p, c.q) {
				rows = append(rows, slices.Repeat([]int{cylinder.Width}, cylinder.Height)...)
			}
			slices.Sort(rows)
			if !slices.Equal(paths, rows) {
				t.Errorf("the paths of %v in the direction %d, %d have the lengths %v, but the cylinders %v", s, c.p, c.q, paths, rows)
			}
		}
	}
}

// TestIsOneCylinder also counts how often there is one and how often there are
// more, also on surfaces that are no tori.
func TestIsOneCylinder(t *testing.T) {
	one, more := 0, 0
	for _, s := range directionSurfaces() {
		for _, c := range slopeCases() {
			list, ok := impl.CylindersIn(s, c.p, c.q)
			got := impl.IsOneCylinder(s, c.p, c.q)
			if got != (ok && len(list) == 1) {
				t.Errorf("IsOneCylinder(%v, %d, %d) = %t for %v", s, c.p, c.q, got, list)
			}
			switch {
			case !got:
				more++
			case genusSlowly(s) > 1:
				one++
			}
			if genusSlowly(s) == 1 && !got {
				t.Errorf("the torus %v has the cylinders %v", s, list)
			}
		}
	}
	if one == 0 || more == 0 {
		t.Errorf("one cylinder %d times, and more %d times", one, more)
	}
}

// TestThereAreFewCylinders has the known bound: the genus plus the number of
// singular corners minus 1.
func TestThereAreFewCylinders(t *testing.T) {
	for _, s := range directionSurfaces() {
		bound := max(1, genusSlowly(s)+len(stratumSlowly(s))-1)
		for _, c := range slopeCases() {
			if list := mustCylindersIn(t, s, c.p, c.q); len(list) > bound {
				t.Errorf("CylindersIn(%v, %d, %d) = %v, more than %d", s, c.p, c.q, list, bound)
			}
		}
	}
}

// TestMirroredSurfacesHaveTheSameCylinders exchanges right and up, and so p and
// q.
func TestMirroredSurfacesHaveTheSameCylinders(t *testing.T) {
	for _, s := range directionSurfaces() {
		mirrored := surfaceWith(s.Up, s.Right)
		for _, c := range slopeCases() {
			checkSameCylinders(t, mirrored, c.q, c.p, mustCylindersIn(t, s, c.p, c.q))
		}
	}
}

// TestWordsLeadCylindersAlong shears the surface to the right, upwards and turns
// it by half, and the directions with it.
func TestWordsLeadCylindersAlong(t *testing.T) {
	for _, s := range fewSurfaces() {
		right, up, half := runSlowly(s, "T"), runSlowly(s, "stS"), runSlowly(s, "SS")
		for _, c := range slopeCases() {
			list := mustCylindersIn(t, s, c.p, c.q)
			if isSlopeSlowly(c.p+c.q, c.q) {
				checkSameCylinders(t, right, c.p+c.q, c.q, list)
			}
			if isSlopeSlowly(c.p, c.p+c.q) {
				checkSameCylinders(t, up, c.p, c.p+c.q, list)
			}
			checkSameCylinders(t, half, c.p, c.q, list)
		}
		// The quarter turns lead right to up and up to right.
		checkSameCylinders(t, runSlowly(s, "S"), 0, 1, mustCylindersIn(t, s, 1, 0))
		checkSameCylinders(t, runSlowly(s, "s"), 1, 0, mustCylindersIn(t, s, 0, 1))
	}
}

func TestRenamingsKeepTheDirections(t *testing.T) {
	for _, s := range fewSurfaces() {
		for _, names := range someNames(len(s.Right)) {
			renamed := renamedSlowly(s, names)
			for _, c := range slopeCases() {
				want := impl.RenamePerm(mustPath(t, s, c.p, c.q), names)
				if got := mustPath(t, renamed, c.p, c.q); !slices.Equal(got, want) {
					t.Errorf("PathPerm(%v, %d, %d) = %v, want %v as for %v", renamed, c.p, c.q, got, want, s)
				}
				checkSameCylinders(t, renamed, c.p, c.q, mustCylindersIn(t, s, c.p, c.q))
			}
		}
	}
}

func checkNoDirection(t *testing.T, s impl.Surface, p int, q int) {
	t.Helper()
	if got, ok := impl.PathPerm(s, p, q); len(got) != 0 || ok {
		t.Errorf("PathPerm(%v, %d, %d) = %v, %t", s, p, q, got, ok)
	}
	if got, ok := impl.CylindersIn(s, p, q); len(got) != 0 || ok {
		t.Errorf("CylindersIn(%v, %d, %d) = %v, %t", s, p, q, got, ok)
	}
	if impl.IsOneCylinder(s, p, q) {
		t.Errorf("IsOneCylinder(%v, %d, %d) is true", s, p, q)
	}
}

func TestInvalidSurfacesHaveNoDirections(t *testing.T) {
	for _, s := range invalidSurfaces() {
		for _, c := range slopeCases() {
			checkNoDirection(t, s, c.p, c.q)
		}
		for _, w := range wrongSlopes() {
			checkNoDirection(t, s, w[0], w[1])
		}
	}
}

func TestWrongSlopesHaveNoDirections(t *testing.T) {
	for _, s := range directionSurfaces() {
		for _, w := range wrongSlopes() {
			checkNoDirection(t, s, w[0], w[1])
		}
	}
	for _, c := range directionCases() {
		for p := -3; p <= 26; p++ {
			for q := -3; q <= 26; q++ {
				if !isSlopeSlowly(p, q) {
					checkNoDirection(t, c.s, p, q)
				}
			}
		}
	}
}

func TestDirectionsOfAllShortLists(t *testing.T) {
	slopes := [][2]int{{1, 0}, {0, 1}, {2, 3}}
	for _, s := range shortSurfaces() {
		for _, x := range slopes {
			p, q := x[0], x[1]
			if !isSurfaceSlowly(s) {
				checkNoDirection(t, s, p, q)
			} else {
				checkDirection(t, directionCase{s, p, q, pathPermSlowly(s, p, q), cylindersSlowly(runSlowly(s, directionSlowly(p, q)))})
			}
		}
	}
}

// directionCalls makes the calls of the layer with a surface, as Right and Up.
func directionCalls(lists [][]int) map[string]func() [][]int {
	s := surfaceWith(lists[0], lists[1])
	calls := map[string]func() [][]int{}
	for _, slope := range [][2]int{{1, 0}, {0, 1}, {3, 2}, {1, 11}, {2, 2}, {0, 0}, {-1, 2}} {
		p, q := slope[0], slope[1]
		name := impl.FormatInt(p) + " " + impl.FormatInt(q)
		calls["PathPerm "+name] = func() [][]int {
			path, _ := impl.PathPerm(s, p, q)
			return [][]int{path}
		}
		calls["CylindersIn "+name] = func() [][]int { impl.CylindersIn(s, p, q); return nil }
		calls["IsOneCylinder "+name] = func() [][]int { impl.IsOneCylinder(s, p, q); return nil }
	}
	return calls
}

func TestDirectionsKeepTheRulesOfMemory(t *testing.T) {
	surfaces := append(invalidSurfaces(), longSurfaces()...)
	for _, c := range directionCases() {
		surfaces = append(surfaces, c.s)
	}
	for _, c := range largeStacks() {
		surfaces = append(surfaces, c.s)
	}
	for _, s := range surfaces {
		checkMemory(t, [][]int{s.Right, s.Up}, directionCalls)
	}
}

func TestCylindersInAreIndependent(t *testing.T) {
	for _, c := range directionCases() {
		first, second := mustCylindersIn(t, c.s, c.p, c.q), mustCylindersIn(t, c.s, c.p, c.q)
		spoil(first, impl.Cylinder{Width: -1, Height: -1})
		if !slices.Equal(second, c.cylinders) {
			t.Errorf("two results of CylindersIn(%v, %d, %d) share memory", c.s, c.p, c.q)
		}
		checkDirection(t, c)
	}
}

// TestDirectionsOfOneListAsRightAndUp gives the same memory twice.
func TestDirectionsOfOneListAsRightAndUp(t *testing.T) {
	list := []int{1, 2, 3, 0}
	s := surfaceWith(list, list)
	for _, c := range []directionCase{
		{s, 1, 0, []int{1, 2, 3, 0}, cylindersWith(4, 1)},
		{s, 0, 1, []int{1, 2, 3, 0}, cylindersWith(4, 1)},
		{s, 1, 1, []int{2, 3, 0, 1}, cylindersWith(2, 2)},
		{s, 3, 1, []int{0, 1, 2, 3}, cylindersWith(1, 4)},
	} {
		checkDirection(t, c)
		spoil(mustPath(t, s, c.p, c.q), -1)
		if !slices.Equal(list, []int{1, 2, 3, 0}) {
			t.Fatalf("a change of PathPerm for %d, %d changed the argument: %v", c.p, c.q, list)
		}
		checkDirection(t, c)
	}
}

// TestDirectionsAreTheSameAtEveryRun repeats calls, also at the same time.
func TestDirectionsAreTheSameAtEveryRun(t *testing.T) {
	for _, c := range directionCases() {
		var calls sync.WaitGroup
		for range 4 {
			calls.Go(func() {
				for range 3 {
					checkDirection(t, c)
					if got := impl.DirectionWord(c.p, c.q); got != directionSlowly(c.p, c.q) {
						t.Errorf("DirectionWord(%d, %d) = %q", c.p, c.q, got)
					}
					if got := impl.SlopeWord(c.p, c.q); got != pathSlowly(c.p, c.q) {
						t.Errorf("SlopeWord(%d, %d) = %q", c.p, c.q, got)
					}
				}
			})
		}
		calls.Wait()
	}
}
