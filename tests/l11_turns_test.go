package tests

import (
	"math"
	"slices"
	"sync"
	"testing"

	"loop.example/g00928/impl"
)

// knownTurn is a half turn with its FixedPoints and its QuotientGenus.
type knownTurn struct {
	a        []int
	fixed    []int
	quotient int
}

// turnCase is a surface with all of its half turns.
type turnCase struct {
	s     impl.Surface
	genus int
	hyper bool
	turns []knownTurn
}

func turnCases() []turnCase {
	return slices.Concat(flatTurnCases(), smallTurnCases(), symmetricTurnCases(), largeTurnCases())
}

func flatTurnCases() []turnCase {
	return []turnCase{
		{surfaceWith([]int{0}, []int{0}), 1, true, []knownTurn{
			{[]int{0}, []int{1, 1, 1, 1}, 0},
		}},
		{surfaceWith([]int{1, 0}, []int{0, 1}), 1, true, []knownTurn{
			{[]int{0, 1}, []int{2, 0, 2, 0}, 0},
			{[]int{1, 0}, []int{0, 2, 0, 2}, 0},
		}},
		{surfaceWith([]int{0, 1}, []int{1, 0}), 1, true, []knownTurn{
			{[]int{0, 1}, []int{2, 2, 0, 0}, 0},
			{[]int{1, 0}, []int{0, 0, 2, 2}, 0},
		}},
		{surfaceWith([]int{1, 0}, []int{1, 0}), 1, true, []knownTurn{
			{[]int{0, 1}, []int{2, 0, 0, 2}, 0},
			{[]int{1, 0}, []int{0, 2, 2, 0}, 0},
		}},
		{surfaceWith([]int{1, 2, 0}, []int{0, 1, 2}), 1, true, []knownTurn{
			{[]int{0, 2, 1}, []int{1, 1, 1, 1}, 0},
			{[]int{1, 0, 2}, []int{1, 1, 1, 1}, 0},
			{[]int{2, 1, 0}, []int{1, 1, 1, 1}, 0},
		}},
		{surfaceWith([]int{1, 0, 3, 2}, []int{2, 3, 0, 1}), 1, true, []knownTurn{
			{[]int{0, 1, 2, 3}, []int{4, 0, 0, 0}, 0},
			{[]int{1, 0, 3, 2}, []int{0, 4, 0, 0}, 0},
			{[]int{2, 3, 0, 1}, []int{0, 0, 4, 0}, 0},
			{[]int{3, 2, 1, 0}, []int{0, 0, 0, 4}, 0},
		}},
		{surfaceWith([]int{1, 2, 3, 0}, []int{1, 2, 3, 0}), 1, true, []knownTurn{
			{[]int{0, 3, 2, 1}, []int{2, 0, 0, 2}, 0},
			{[]int{1, 0, 3, 2}, []int{0, 2, 2, 0}, 0},
			{[]int{2, 1, 0, 3}, []int{2, 0, 0, 2}, 0},
			{[]int{3, 2, 1, 0}, []int{0, 2, 2, 0}, 0},
		}},
	}
}

// smallTurnCases ends with two surfaces without any half turn; the last one has
// two symmetries.
func smallTurnCases() []turnCase {
	return []turnCase{
		{surfaceWith([]int{1, 0, 2}, []int{2, 1, 0}), 2, true, []knownTurn{
			{[]int{0, 1, 2}, []int{3, 1, 1, 1}, 0},
		}},
		{surfaceWith([]int{1, 2, 0, 3}, []int{3, 1, 2, 0}), 2, true, []knownTurn{
			{[]int{0, 2, 1, 3}, []int{2, 2, 0, 2}, 0},
		}},
		{surfaceWith([]int{1, 2, 0, 4, 3}, []int{3, 1, 2, 0, 4}), 2, true, []knownTurn{
			{[]int{0, 2, 1, 3, 4}, []int{3, 1, 1, 1}, 0},
		}},
		{surfaceWith([]int{0, 2, 1, 3}, []int{1, 0, 3, 2}), 2, true, []knownTurn{
			{[]int{0, 1, 2, 3}, []int{4, 2, 0, 0}, 0},
			{[]int{3, 2, 1, 0}, []int{0, 2, 0, 0}, 1},
		}},
		{surfaceWith([]int{1, 2, 3, 4, 0}, []int{1, 0, 4, 3, 2}), 3, true, []knownTurn{
			{[]int{1, 0, 4, 3, 2}, []int{1, 1, 5, 1}, 0},
		}},
		{surfaceWith([]int{0, 2, 3, 1, 4}, []int{1, 0, 2, 4, 3}), 3, false, []knownTurn{
			{[]int{4, 3, 2, 1, 0}, []int{1, 1, 1, 1}, 1},
		}},
		{surfaceWith([]int{0, 2, 3, 4, 1}, []int{1, 0, 2, 4, 3}), 3, false, nil},
		{surfaceWith([]int{1, 0, 4, 5, 6, 8, 7, 2, 9, 3}, []int{2, 3, 5, 4, 7, 9, 1, 6, 0, 8}), 5, false, nil},
	}
}

// symmetricTurnCases has half turns that are not their own inverses, with and
// without points that stay.
func symmetricTurnCases() []turnCase {
	return []turnCase{
		{surfaceWith([]int{1, 3, 5, 0, 2, 4}, []int{2, 4, 0, 5, 1, 3}), 3, true, []knownTurn{
			{[]int{0, 3, 2, 1, 5, 4}, []int{2, 2, 0, 0}, 1},
			{[]int{1, 0, 4, 3, 2, 5}, []int{2, 2, 0, 0}, 1},
			{[]int{2, 4, 0, 5, 1, 3}, []int{0, 0, 6, 2}, 0},
			{[]int{3, 1, 5, 0, 4, 2}, []int{2, 2, 0, 0}, 1},
			{[]int{4, 5, 1, 2, 3, 0}, []int{0, 0, 0, 2}, -1},
			{[]int{5, 2, 3, 4, 0, 1}, []int{0, 0, 0, 2}, -1},
		}},
		{surfaceWith([]int{1, 3, 5, 6, 2, 7, 0, 4}, []int{2, 4, 3, 7, 6, 1, 5, 0}), 3, false, []knownTurn{
			{[]int{0, 6, 7, 3, 4, 5, 1, 2}, []int{4, 0, 0, 0}, 1},
			{[]int{1, 0, 5, 6, 7, 2, 3, 4}, []int{0, 4, 0, 0}, 1},
			{[]int{2, 4, 0, 7, 1, 6, 5, 3}, []int{0, 0, 4, 0}, 1},
			{[]int{3, 1, 2, 0, 5, 4, 6, 7}, []int{4, 0, 0, 0}, 1},
			{[]int{4, 7, 1, 5, 3, 0, 2, 6}, []int{0, 0, 0, 4}, -1},
			{[]int{5, 2, 6, 4, 0, 3, 7, 1}, []int{0, 0, 0, 4}, -1},
			{[]int{6, 3, 4, 1, 2, 7, 0, 5}, []int{0, 4, 0, 0}, 1},
			{[]int{7, 5, 3, 2, 6, 1, 4, 0}, []int{0, 0, 4, 0}, 1},
		}},
		{surfaceWith([]int{1, 0, 4, 6, 2, 7, 3, 5}, []int{2, 3, 5, 7, 1, 6, 0, 4}), 3, true, []knownTurn{
			{[]int{0, 1, 6, 4, 3, 5, 2, 7}, []int{4, 0, 0, 0}, 1},
			{[]int{1, 0, 4, 6, 2, 7, 3, 5}, []int{0, 8, 0, 0}, 0},
			{[]int{2, 4, 0, 7, 1, 6, 5, 3}, []int{0, 0, 4, 0}, 1},
			{[]int{3, 6, 1, 5, 0, 4, 7, 2}, []int{0, 0, 0, 4}, -1},
			{[]int{4, 2, 7, 0, 5, 3, 1, 6}, []int{0, 0, 0, 4}, -1},
			{[]int{5, 7, 2, 3, 4, 0, 6, 1}, []int{4, 0, 0, 0}, 1},
			{[]int{6, 3, 5, 1, 7, 2, 0, 4}, []int{0, 0, 4, 0}, 1},
			{[]int{7, 5, 3, 2, 6, 1, 4, 0}, []int{0, 0, 0, 0}, 2},
		}},
		{surfaceWith([]int{0, 2, 1, 3, 4, 6, 5, 7}, []int{1, 3, 4, 5, 6, 0, 7, 2}), 3, true, []knownTurn{
			{[]int{0, 5, 6, 3, 4, 1, 2, 7}, []int{4, 4, 0, 0}, 0},
			{[]int{3, 1, 2, 0, 7, 5, 6, 4}, []int{4, 0, 0, 0}, 1},
			{[]int{4, 2, 1, 7, 0, 6, 5, 3}, []int{0, 4, 0, 0}, 1},
			{[]int{7, 6, 5, 4, 3, 2, 1, 0}, []int{0, 0, 0, 0}, 2},
		}},
		{surfaceWith([]int{1, 3, 5, 6, 2, 8, 0, 11, 4, 10, 7, 9}, []int{2, 4, 0, 7, 1, 9, 10, 3, 11, 5, 6, 8}), 4, false, []knownTurn{
			{[]int{1, 0, 4, 6, 2, 8, 3, 10, 5, 11, 7, 9}, []int{0, 6, 0, 0}, 1},
			{[]int{2, 4, 0, 8, 1, 6, 5, 11, 3, 10, 9, 7}, []int{0, 2, 4, 0}, 1},
			{[]int{6, 3, 10, 1, 7, 9, 0, 4, 11, 5, 2, 8}, []int{0, 2, 4, 0}, 1},
			{[]int{7, 10, 3, 9, 6, 1, 11, 5, 0, 4, 8, 2}, []int{0, 0, 0, 0}, -1},
			{[]int{8, 5, 11, 2, 9, 7, 4, 0, 10, 3, 1, 6}, []int{0, 0, 0, 0}, -1},
			{[]int{9, 11, 5, 7, 8, 2, 10, 3, 4, 0, 6, 1}, []int{0, 2, 4, 0}, 1},
		}},
		{surfaceWith([]int{1, 3, 5, 6, 2, 9, 11, 4, 0, 13, 14, 10, 7, 15, 8, 12}, []int{2, 4, 3, 7, 8, 10, 12, 11, 5, 0, 13, 15, 1, 6, 9, 14}), 7, false, []knownTurn{
			{[]int{4, 7, 1, 12, 3, 0, 15, 6, 2, 8, 9, 13, 11, 14, 5, 10}, []int{0, 0, 0, 4}, -1},
			{[]int{5, 2, 8, 4, 0, 14, 7, 1, 9, 10, 15, 12, 3, 11, 13, 6}, []int{0, 0, 0, 4}, -1},
			{[]int{12, 15, 6, 13, 11, 3, 9, 10, 7, 1, 2, 5, 14, 0, 4, 8}, []int{0, 0, 0, 4}, -1},
			{[]int{13, 9, 10, 5, 14, 11, 2, 8, 15, 6, 7, 4, 0, 3, 12, 1}, []int{0, 0, 0, 4}, -1},
		}},
	}
}

// largeTurnCases has four different numbers of points, and a surface on which
// only the last half turn leaves enough of them.
func largeTurnCases() []turnCase {
	return []turnCase{
		{surfaceWith([]int{1, 0, 3, 2, 5, 4, 6}, []int{0, 2, 1, 4, 3, 6, 5}), 4, true, []knownTurn{
			{[]int{0, 1, 2, 3, 4, 5, 6}, []int{7, 1, 1, 1}, 0},
		}},
		{surfaceWith([]int{0, 7, 1, 11, 9, 12, 3, 2, 5, 4, 8, 6, 10}, []int{1, 5, 0, 10, 9, 12, 6, 7, 11, 8, 4, 3, 2}), 7, true, []knownTurn{
			{[]int{0, 2, 1, 11, 9, 12, 6, 7, 10, 4, 8, 3, 5}, []int{3, 7, 5, 1}, 0},
		}},
		{surfaceWith([]int{17, 0, 2, 22, 19, 7, 11, 10, 18, 9, 16, 8, 14, 1, 21, 12, 5, 15, 20, 3, 4, 23, 6, 13}, []int{10, 21, 7, 13, 0, 9, 19, 15, 3, 2, 16, 20, 18, 12, 6, 8, 4, 14, 5, 1, 17, 11, 22, 23}), 11, false, []knownTurn{
			{[]int{4, 19, 9, 13, 0, 7, 21, 5, 12, 2, 16, 14, 8, 3, 11, 18, 10, 20, 15, 1, 17, 6, 23, 22}, []int{0, 2, 6, 4}, 3},
		}},
		{surfaceWith(circling(24, 1), []int{23, 22, 21, 20, 19, 18, 17, 16, 15, 14, 13, 12, 11, 10, 9, 8, 7, 6, 5, 4, 3, 2, 1, 0}), 12, true, []knownTurn{
			{[]int{11, 10, 9, 8, 7, 6, 5, 4, 3, 2, 1, 0, 23, 22, 21, 20, 19, 18, 17, 16, 15, 14, 13, 12}, []int{0, 2, 0, 0}, 6},
			{[]int{23, 22, 21, 20, 19, 18, 17, 16, 15, 14, 13, 12, 11, 10, 9, 8, 7, 6, 5, 4, 3, 2, 1, 0}, []int{0, 2, 24, 0}, 0},
		}},
	}
}

// isTurnSlowly asks whether a leads the square to the right of i to one with
// a[i] at its right, and the one above i to one that a[i] is above of.
func isTurnSlowly(s impl.Surface, a []int) bool {
	if !isSurfaceSlowly(s) || len(a) != len(s.Right) || !isPermSlowly(a) {
		return false
	}
	for i, x := range a {
		if s.Right[a[s.Right[i]]] != x || s.Up[a[s.Up[i]]] != x {
			return false
		}
	}
	return true
}

// turnsSlowly extends all lists of images, square by square in the order in
// which they are met from 0, and drops those that contradict themselves.
func turnsSlowly(s impl.Surface) [][]int {
	n := len(s.Right)
	lists := [][]int{slices.Repeat([]int{-1}, n)}
	for _, square := range impl.InversePerm(namesSlowly(s, 0)) {
		var longer [][]int
		for _, l := range lists {
			for image := range n {
				a := slices.Clone(l)
				a[square] = image
				if !slices.Contains(l, image) && !contradicts(s, a) {
					longer = append(longer, a)
				}
			}
		}
		lists = longer
	}
	slices.SortFunc(lists, slices.Compare)
	return lists
}

// contradicts is for lists of images of which some, -1, are not known yet.
func contradicts(s impl.Surface, a []int) bool {
	for i, x := range a {
		for _, p := range [][]int{s.Right, s.Up} {
			if next := a[p[i]]; x >= 0 && next >= 0 && p[next] != x {
				return true
			}
		}
	}
	return false
}

// fixedSlowly turns each square with its sides and its four corners. The right
// side of a square becomes the left one of its image, which is the right one
// of the square to the left of this.
func fixedSlowly(s impl.Surface, a []int) []int {
	numbers := make([]int, 3)
	points := pointsSlowly(s)
	corners := map[int]bool{}
	for i, x := range a {
		for kind, image := range []int{x, slices.Index(s.Right, x), slices.Index(s.Up, x)} {
			if image == i {
				numbers[kind]++
			}
		}
		for k := range 4 {
			if points[4*i+k] == points[4*x+3-k] {
				corners[points[4*i+k]] = true
			}
		}
	}
	return append(numbers, len(corners))
}

// quotientSlowly is for half turns that are their own inverses. It cuts each
// square into four, counts the points that the half turn does not lead to each
// other, and takes the formula of Euler: of the lines and of the pieces, the
// half is left.
func quotientSlowly(t *testing.T, s impl.Surface, a []int) int {
	t.Helper()
	n := len(a)
	points := pointsSlowly(s)
	images := map[int]int{}
	count := 0
	for i, x := range a {
		for _, image := range []int{x, slices.Index(s.Right, x), slices.Index(s.Up, x)} {
			if i <= image {
				count++
			}
		}
		for k := range 4 {
			images[points[4*i+k]] = points[4*x+3-k]
		}
	}
	for point, image := range images {
		if point <= image {
			count++
		}
	}
	euler := count - 4*n + 2*n
	if euler%2 != 0 || euler > 2 {
		t.Fatalf("the quotient of %v by %v has the number of Euler %d", s, a, euler)
	}
	return (2 - euler) / 2
}

func isOwnInverse(a []int) bool {
	for i, x := range a {
		if a[x] != i {
			return false
		}
	}
	return true
}

// turnSurfaces returns all surfaces of at most 4 squares, the canonical forms
// with 5, many larger ones, and these with other names.
func turnSurfaces() []impl.Surface {
	list := append(cornerSurfaces(), formsWith(5)...)
	for _, c := range turnCases() {
		for _, names := range someNames(len(c.s.Right)) {
			list = append(list, renamedSlowly(c.s, names))
		}
	}
	for _, c := range allGroupCases() {
		list = append(list, c.s)
	}
	for _, c := range largeOrbits() {
		list = append(list, c.s)
	}
	return list
}

// fewTurnSurfaces returns surfaces of all kinds for tests with many words.
func fewTurnSurfaces() []impl.Surface {
	list := longSurfaces()
	for n := range 4 {
		list = append(list, surfacesSlowly(n)...)
	}
	list = append(list, formsWith(4)...)
	for _, c := range turnCases() {
		list = append(list, c.s)
	}
	return list
}

// checkTurn checks all functions of one half turn.
func checkTurn(t *testing.T, s impl.Surface, want knownTurn) {
	t.Helper()
	if !impl.IsTurn(s, want.a) {
		t.Errorf("IsTurn(%v, %v) = false", s, want.a)
	}
	if got, ok := impl.FixedPoints(s, want.a); !slices.Equal(got, want.fixed) || !ok {
		t.Errorf("FixedPoints(%v, %v) = %v, %t, want %v", s, want.a, got, ok, want.fixed)
	}
	if got := impl.CountFixed(s, want.a); got != sumOf(want.fixed) {
		t.Errorf("CountFixed(%v, %v) = %d, want %d", s, want.a, got, sumOf(want.fixed))
	}
	if got := impl.QuotientGenus(s, want.a); got != want.quotient {
		t.Errorf("QuotientGenus(%v, %v) = %d, want %d", s, want.a, got, want.quotient)
	}
}

// checkTurns checks all functions of a surface and of its half turns.
func checkTurns(t *testing.T, c turnCase) {
	t.Helper()
	var want [][]int
	for _, k := range c.turns {
		want = append(want, k.a)
		checkTurn(t, c.s, k)
	}
	if got := impl.TurnsOf(c.s); !equalLists(got, want) {
		t.Errorf("TurnsOf(%v) = %v, want %v", c.s, got, want)
	}
	if got := impl.IsHyperelliptic(c.s); got != c.hyper {
		t.Errorf("IsHyperelliptic(%v) = %t", c.s, got)
	}
}

func TestTurns(t *testing.T) {
	for _, c := range turnCases() {
		checkTurns(t, c)
		if got := impl.GenusOf(c.s); got != c.genus {
			t.Errorf("GenusOf(%v) = %d, want %d", c.s, got, c.genus)
		}
	}
}

// slowCase makes the case of a surface by the slow functions.
func slowCase(t *testing.T, s impl.Surface) turnCase {
	t.Helper()
	c := turnCase{s: s, genus: genusSlowly(s)}
	for _, a := range turnsSlowly(s) {
		k := knownTurn{a, fixedSlowly(s, a), -1}
		if isOwnInverse(a) {
			k.quotient = quotientSlowly(t, s, a)
		}
		c.turns = append(c.turns, k)
		c.hyper = c.hyper || k.quotient == 0
	}
	return c
}

func TestTurnsOfManySurfaces(t *testing.T) {
	for _, s := range turnSurfaces() {
		checkTurns(t, slowCase(t, s))
	}
}

// TestRenamingsGoWithTheTurns gives each square 0, also those whose first half
// turn is another one.
func TestRenamingsGoWithTheTurns(t *testing.T) {
	for _, c := range turnCases() {
		n := len(c.s.Right)
		for step := range n {
			names := circling(n, step)
			renamed := turnCase{s: renamedSlowly(c.s, names), hyper: c.hyper}
			for _, k := range c.turns {
				renamed.turns = append(renamed.turns, knownTurn{impl.RenamePerm(k.a, names), k.fixed, k.quotient})
			}
			slices.SortFunc(renamed.turns, func(k knownTurn, l knownTurn) int { return slices.Compare(k.a, l.a) })
			checkTurns(t, renamed)
		}
	}
}

// TestTurnsAreThePermutationsThatTurn tries all permutations.
func TestTurnsAreThePermutationsThatTurn(t *testing.T) {
	surfaces := append(formsWith(5), surfaceWith([]int{1, 2, 3, 4, 0}, []int{2, 3, 4, 0, 1}), surfaceWith([]int{4, 0, 1, 2, 3}, counting(5)))
	for n := range 5 {
		surfaces = append(surfaces, surfacesSlowly(n)...)
	}
	surfaces = append(surfaces, symmetricTurnCases()[0].s, zigzag(6), torusSlowly(3, 2), ellSlowly(3, 4))
	for _, s := range surfaces {
		var want [][]int
		for _, a := range permsOf(len(s.Right)) {
			turns := isTurnSlowly(s, a)
			if turns {
				want = append(want, a)
			}
			if got := impl.IsTurn(s, a); got != turns {
				t.Errorf("IsTurn(%v, %v) = %t", s, a, got)
			}
		}
		if got := impl.TurnsOf(s); !equalLists(got, want) {
			t.Errorf("TurnsOf(%v) = %v, want %v", s, got, want)
		}
	}
}

func TestTurnsAreInLexicographicOrder(t *testing.T) {
	for _, s := range turnSurfaces() {
		turns := impl.TurnsOf(s)
		if !isAscending(turns, slices.Compare[[]int]) {
			t.Errorf("TurnsOf(%v) = %v is not ascending", s, turns)
		}
		for i := 1; i < len(turns); i++ {
			if turns[i-1][0] == turns[i][0] {
				t.Errorf("TurnsOf(%v) has %v and %v with one image of the square 0", s, turns[i-1], turns[i])
			}
		}
	}
}

func TestThereAreAsManyTurnsAsSymmetriesOrNone(t *testing.T) {
	kinds := map[bool]int{}
	for _, s := range turnSurfaces() {
		count := len(impl.TurnsOf(s))
		kinds[count > 0]++
		if count != 0 && count != impl.CountSymmetries(s) {
			t.Errorf("TurnsOf(%v) has %d half turns, but there are %d symmetries", s, count, impl.CountSymmetries(s))
		}
		if (count > 0) != impl.HasHalfTurn(s) {
			t.Errorf("TurnsOf(%v) has %d half turns, but HasHalfTurn is %t", s, count, impl.HasHalfTurn(s))
		}
	}
	if len(kinds) != 2 {
		t.Errorf("the surfaces are all of one kind: %v", kinds)
	}
}

func TestCountFixedIsTheSumOfFixedPoints(t *testing.T) {
	for _, s := range turnSurfaces() {
		for _, a := range impl.TurnsOf(s) {
			numbers, ok := impl.FixedPoints(s, a)
			if len(numbers) != 4 || !ok || impl.CountFixed(s, a) != sumOf(numbers) {
				t.Errorf("FixedPoints(%v, %v) = %v, %t, but CountFixed is %d", s, a, numbers, ok, impl.CountFixed(s, a))
			}
		}
	}
}

func TestQuotientGenusIsAWholeNumber(t *testing.T) {
	for _, s := range turnSurfaces() {
		for _, a := range impl.TurnsOf(s) {
			got := impl.QuotientGenus(s, a)
			if !isOwnInverse(a) {
				if got != -1 {
					t.Errorf("QuotientGenus(%v, %v) = %d", s, a, got)
				}
				continue
			}
			if want := 2*impl.GenusOf(s) + 2 - impl.CountFixed(s, a); got < 0 || 4*got != want {
				t.Errorf("QuotientGenus(%v, %v) = %d, want a quarter of %d", s, a, got, want)
			}
		}
	}
}

func TestIsHyperellipticForSomeHalfTurn(t *testing.T) {
	kinds := map[bool]int{}
	for _, s := range turnSurfaces() {
		want := slices.ContainsFunc(impl.TurnsOf(s), func(a []int) bool { return impl.QuotientGenus(s, a) == 0 })
		kinds[want]++
		if got := impl.IsHyperelliptic(s); got != want {
			t.Errorf("IsHyperelliptic(%v) = %t", s, got)
		}
	}
	if len(kinds) != 2 {
		t.Errorf("the surfaces are all of one kind: %v", kinds)
	}
}

// checkSmallGenus is for surfaces of genus 1, on which every half turn leaves 4
// points, and of genus 2, on which one half turn leaves 6.
func checkSmallGenus(t *testing.T, s impl.Surface) {
	t.Helper()
	if !impl.IsHyperelliptic(s) {
		t.Errorf("IsHyperelliptic(%v) = false, but the genus is %d", s, impl.GenusOf(s))
	}
	turns := impl.TurnsOf(s)
	six := 0
	for _, a := range turns {
		count, quotient := impl.CountFixed(s, a), impl.QuotientGenus(s, a)
		if impl.GenusOf(s) == 1 && (count != 4 || quotient != 0) {
			t.Errorf("%v has the half turn %v with %d points that stay and the quotient %d", s, a, count, quotient)
		}
		if (quotient == 0) != (count == 2*impl.GenusOf(s)+2) {
			t.Errorf("%v has the half turn %v with %d points that stay, but the quotient %d", s, a, count, quotient)
		}
		if count == 6 {
			six++
		}
	}
	if len(turns) != impl.CountSymmetries(s) || six != impl.GenusOf(s)-1 {
		t.Errorf("%v of genus %d has %d half turns and %d of them with 6 points that stay", s, impl.GenusOf(s), len(turns), six)
	}
}

func TestSurfacesOfGenusOneAndTwoAreHyperelliptic(t *testing.T) {
	genera := map[int]int{}
	for n := 1; n <= 4; n++ {
		for _, s := range impl.SurfacesWith(n) {
			genera[impl.GenusOf(s)]++
			checkSmallGenus(t, s)
		}
	}
	if len(genera) != 2 || genera[1] != 15 || genera[2] != 22 {
		t.Errorf("the listed surfaces have the genera %v", genera)
	}
	for _, s := range turnSurfaces() {
		if genusSlowly(s) <= 2 {
			checkSmallGenus(t, s)
		}
	}
}

// TestTurnsOfTori has the half turns around each point whose coordinates are
// multiples of a half: they lead x, y to i - x, j - y.
func TestTurnsOfTori(t *testing.T) {
	half := func(around int, n int) (int, int) {
		if n%2 == 1 {
			return 1, 1
		}
		return 2 * (1 - around%2), 2 * (around % 2)
	}
	for width := 1; width <= 24; width++ {
		for height := 1; width*height <= 24; height++ {
			c := turnCase{s: torusSlowly(width, height), hyper: true}
			for image := range width * height {
				i, j := image%width, image/width
				var a []int
				for square := range width * height {
					x, y := square%width, square/width
					a = append(a, (j-y+height)%height*width+(i-x+width)%width)
				}
				// How many columns and rows stay, and how many lines between them.
				columns, rightLines := half(i, width)
				rows, upperLines := half(j, height)
				c.turns = append(c.turns, knownTurn{a, []int{columns * rows, rightLines * rows, columns * upperLines, rightLines * upperLines}, 0})
			}
			checkTurns(t, c)
		}
	}
}

// TestTurnsOfElls turns the arm and the leg around their middles, so that the
// square 0, in which they meet, stays.
func TestTurnsOfElls(t *testing.T) {
	for arm := 2; arm <= 23; arm++ {
		for leg := 2; arm+leg <= 25; leg++ {
			a := counting(arm + leg - 1)
			slices.Reverse(a[1:arm])
			slices.Reverse(a[arm:])
			evenArm, evenLeg := 1-arm%2, 1-leg%2
			fixed := []int{1 + evenArm + evenLeg, 1 - evenArm + evenLeg, evenArm + 1 - evenLeg, 3 - evenArm - evenLeg}
			checkTurns(t, turnCase{s: ellSlowly(arm, leg), hyper: true, turns: []knownTurn{{a, fixed, 0}}})
		}
	}
}

// TestLettersLeadTurnsAlong has, for each half turn of a surface, the one after
// a letter. A quarter turn exchanges the sides to the right and above, and a
// shear along the rows the centres and the sides to the right.
func TestLettersLeadTurnsAlong(t *testing.T) {
	for _, s := range turnSurfaces() {
		before := slowCase(t, s)
		turned := turnCase{s: mustRun(t, s, "S"), hyper: before.hyper}
		sheared := turnCase{s: mustRun(t, s, "T"), hyper: before.hyper}
		for _, k := range before.turns {
			n := k.fixed
			turned.turns = append(turned.turns, knownTurn{k.a, []int{n[0], n[2], n[1], n[3]}, k.quotient})
			sheared.turns = append(sheared.turns, knownTurn{impl.ThenPerm(k.a, s.Right), []int{n[1], n[0], n[2], n[3]}, k.quotient})
		}
		slices.SortFunc(sheared.turns, func(k knownTurn, l knownTurn) int { return slices.Compare(k.a, l.a) })
		checkTurns(t, turned)
		checkTurns(t, sheared)
	}
}

// turnNumbers are the numbers of all half turns that no word changes, in
// ascending order.
func turnNumbers(s impl.Surface) [][]int {
	var numbers [][]int
	for _, a := range impl.TurnsOf(s) {
		fixed, _ := impl.FixedPoints(s, a)
		numbers = append(numbers, []int{impl.CountFixed(s, a), fixed[3], impl.QuotientGenus(s, a)})
	}
	slices.SortFunc(numbers, slices.Compare)
	return numbers
}

// checkKept checks what every word keeps.
func checkKept(t *testing.T, s impl.Surface, word string) {
	t.Helper()
	after := mustRun(t, s, word)
	if got, want := impl.CountSquares(after), impl.CountSquares(s); got != want {
		t.Errorf("%q of %v has %d squares, want %d", word, s, got, want)
	}
	if got, want := impl.AnglesOf(after), impl.AnglesOf(s); !slices.Equal(got, want) {
		t.Errorf("%q of %v has the angles %v, want %v", word, s, got, want)
	}
	if got, want := impl.GenusOf(after), impl.GenusOf(s); got != want {
		t.Errorf("%q of %v has the genus %d, want %d", word, s, got, want)
	}
	if got, want := impl.CountSymmetries(after), impl.CountSymmetries(s); got != want {
		t.Errorf("%q of %v has %d symmetries, want %d", word, s, got, want)
	}
	if got, want := len(impl.TurnsOf(after)), len(impl.TurnsOf(s)); got != want {
		t.Errorf("%q of %v has %d half turns, want %d", word, s, got, want)
	}
	if got, want := impl.HasHalfTurn(after), impl.HasHalfTurn(s); got != want {
		t.Errorf("%q of %v has a half turn: %t, want %t", word, s, got, want)
	}
	if got, want := turnNumbers(after), turnNumbers(s); !equalLists(got, want) {
		t.Errorf("%q of %v has half turns with the numbers %v, want %v", word, s, got, want)
	}
	if got, want := impl.IsHyperelliptic(after), impl.IsHyperelliptic(s); got != want {
		t.Errorf("%q of %v is hyperelliptic: %t, want %t", word, s, got, want)
	}
}

func TestWordsKeepTheTurns(t *testing.T) {
	for _, s := range fewTurnSurfaces() {
		for _, word := range append(wordsOver("TtSs", 2), longWords()...) {
			checkKept(t, s, word)
		}
	}
	for _, s := range turnSurfaces() {
		for _, word := range []string{"t", "s", "TTSt", "tStSSTTs"} {
			checkKept(t, s, word)
		}
	}
}

func TestOrbitsKeepTheTurns(t *testing.T) {
	for n := 1; n <= 4; n++ {
		for _, orbit := range impl.OrbitsWith(n) {
			for _, s := range orbit {
				if got, want := turnNumbers(s), turnNumbers(orbit[0]); !equalLists(got, want) {
					t.Errorf("%v has half turns with the numbers %v, but %v of the same orbit %v", s, got, orbit[0], want)
				}
			}
		}
	}
}

// checkNoTurn is for lists that are no half turn of a surface, or a surface
// that is not valid.
func checkNoTurn(t *testing.T, s impl.Surface, a []int) {
	t.Helper()
	if impl.IsTurn(s, a) {
		t.Errorf("IsTurn(%v, %v) = true", s, a)
	}
	if got, ok := impl.FixedPoints(s, a); len(got) != 0 || ok {
		t.Errorf("FixedPoints(%v, %v) = %v, %t", s, a, got, ok)
	}
	if got := impl.CountFixed(s, a); got != -1 {
		t.Errorf("CountFixed(%v, %v) = %d", s, a, got)
	}
	if got := impl.QuotientGenus(s, a); got != -1 {
		t.Errorf("QuotientGenus(%v, %v) = %d", s, a, got)
	}
}

// checkNoTurns is for surfaces that are not valid.
func checkNoTurns(t *testing.T, s impl.Surface) {
	t.Helper()
	if got := impl.TurnsOf(s); len(got) != 0 {
		t.Errorf("TurnsOf(%v) = %v", s, got)
	}
	if impl.IsHyperelliptic(s) {
		t.Errorf("IsHyperelliptic(%v) = true", s)
	}
	lists := [][]int{nil, {}, {0}, {1, 0}, {0, 1, 2}, counting(24), counting(25), s.Right, s.Up, {-1}, {math.MaxInt}}
	for _, n := range []int{len(s.Right), len(s.Up)} {
		backwards := counting(n)
		slices.Reverse(backwards)
		lists = append(lists, counting(n), backwards)
	}
	for _, a := range lists {
		checkNoTurn(t, s, a)
	}
}

func TestInvalidSurfacesHaveNoTurns(t *testing.T) {
	for _, s := range invalidSurfaces() {
		checkNoTurns(t, s)
	}
}

func TestTurnsOfAllShortLists(t *testing.T) {
	for _, s := range shortSurfaces() {
		if isSurfaceSlowly(s) {
			checkTurns(t, slowCase(t, s))
		} else {
			checkNoTurns(t, s)
		}
	}
}

// almost returns lists that differ a little from a half turn: shorter and
// longer ones, and those with one other element. Some great numbers have the
// last bits of the element that they replace.
func almost(a []int) [][]int {
	n := len(a)
	lists := [][]int{
		a[:n-1], a[1:], append(slices.Clone(a), n), append(slices.Clone(a), 0), append(slices.Clone(a), -1), append([]int{n}, a...),
		append(slices.Clone(a), n, n+1), append(slices.Clone(a), n+1, n), slices.Concat(a, a),
		append(slices.Clone(a), counting(24)[n:]...), append(slices.Clone(a), counting(25)[n:]...), append(slices.Clone(a), counting(1000)[n:]...),
	}
	others := append([]int{-1, -2, -n, n, n + 1, 24, 25, math.MinInt, math.MinInt + 1}, greatInts()...)
	for i, x := range a {
		for _, other := range append(others, x-1, x+1, -x-1, x+1<<8, x+1<<32, x+math.MinInt, x-1<<32, x+n, x-n) {
			changed := slices.Clone(a)
			changed[i] = other
			lists = append(lists, changed)
		}
		swapped := slices.Clone(a)
		swapped[i], swapped[0] = a[0], x
		lists = append(lists, swapped)
	}
	return slices.DeleteFunc(lists, func(l []int) bool { return slices.Equal(l, a) })
}

func TestWhatIsAlmostAHalfTurn(t *testing.T) {
	for _, c := range turnCases() {
		for _, k := range c.turns {
			for _, a := range almost(k.a) {
				if !isTurnSlowly(c.s, a) {
					checkNoTurn(t, c.s, a)
				} else if !impl.IsTurn(c.s, a) {
					t.Errorf("IsTurn(%v, %v) = false", c.s, a)
				}
			}
		}
	}
}

func TestNoHalfTurn(t *testing.T) {
	one, ell := surfaceWith([]int{0}, []int{0}), surfaceWith([]int{1, 0, 2}, []int{2, 1, 0})
	torus, plain := torusSlowly(2, 2), surfaceWith([]int{0, 2, 3, 4, 1}, []int{1, 0, 2, 4, 3})
	cases := []struct {
		s impl.Surface
		a []int
	}{
		{one, nil}, {one, []int{}}, {one, []int{1}}, {one, []int{-1}}, {one, []int{0, 0}}, {one, []int{0, 1}}, {one, []int{math.MaxInt}}, {one, []int{math.MinInt}}, {one, []int{1 << 32}},
		{ell, nil}, {ell, []int{}}, {ell, []int{0}}, {ell, []int{0, 1}}, {ell, []int{1, 0, 2}}, {ell, []int{2, 1, 0}}, {ell, []int{0, 2, 1}}, {ell, []int{1, 2, 0}}, {ell, []int{2, 0, 1}},
		{ell, []int{0, 1, 1}}, {ell, []int{0, 1, 3}}, {ell, []int{0, 1, -1}}, {ell, []int{0, 1, 2, 3}}, {ell, []int{0, 1, 2, 0}}, {ell, []int{0, 1, 1<<32 + 2}},
		{torus, nil}, {torus, []int{0, 2, 1, 3}}, {torus, []int{1, 2, 3, 0}}, {torus, []int{3, 2, 0, 1}}, {torus, []int{0, 0, 0, 0}}, {torus, []int{3, 2, 1}}, {torus, []int{3, 2, 1, 0, 4}},
		// Only the rows, or only the columns, are turned.
		{torusSlowly(3, 3), []int{0, 2, 1, 3, 5, 4, 6, 8, 7}}, {torusSlowly(3, 3), []int{0, 1, 2, 6, 7, 8, 3, 4, 5}},
		// This is a symmetry, but no half turn.
		{torusSlowly(3, 1), []int{1, 2, 0}}, {torusSlowly(3, 1), []int{0, 1, 2}}, {torusSlowly(1, 3), []int{1, 2, 0}}, {torusSlowly(1, 3), []int{0, 1, 2}},
		{plain, counting(5)}, {plain, []int{4, 3, 2, 1, 0}}, {plain, []int{0, 4, 3, 2, 1}}, {plain, nil},
	}
	for _, c := range cases {
		checkNoTurn(t, c.s, c.a)
	}
	for _, s := range validSurfaces() {
		for _, a := range append(someInvalid(), nil, []int{}, counting(len(s.Right)+1), counting(len(s.Right)-1)) {
			if !isTurnSlowly(s, a) {
				checkNoTurn(t, s, a)
			}
		}
	}
}

// TestAllShortListsAreTurnsOrNot tries all lists whose numbers are or are
// almost numbers of squares.
func TestAllShortListsAreTurnsOrNot(t *testing.T) {
	var surfaces []impl.Surface
	for n := range 4 {
		surfaces = append(surfaces, surfacesSlowly(n)...)
	}
	for length := range 5 {
		for _, a := range listsOver(-1, 4, length) {
			for _, s := range surfaces {
				if !isTurnSlowly(s, a) {
					checkNoTurn(t, s, a)
				} else if !impl.IsTurn(s, a) {
					t.Errorf("IsTurn(%v, %v) = false", s, a)
				}
			}
		}
	}
}

// turnCalls makes the calls of the layer with a surface, as Right and Up, and
// a list.
func turnCalls(lists [][]int) map[string]func() [][]int {
	s, a := surfaceWith(lists[0], lists[1]), lists[2]
	return map[string]func() [][]int{
		"IsTurn":          func() [][]int { impl.IsTurn(s, a); return nil },
		"TurnsOf":         func() [][]int { return impl.TurnsOf(s) },
		"FixedPoints":     func() [][]int { numbers, _ := impl.FixedPoints(s, a); return [][]int{numbers} },
		"CountFixed":      func() [][]int { impl.CountFixed(s, a); return nil },
		"QuotientGenus":   func() [][]int { impl.QuotientGenus(s, a); return nil },
		"IsHyperelliptic": func() [][]int { impl.IsHyperelliptic(s); return nil },
	}
}

func TestTurnsKeepTheRulesOfMemory(t *testing.T) {
	for _, c := range turnCases() {
		for _, k := range c.turns {
			checkMemory(t, [][]int{c.s.Right, c.s.Up, k.a}, turnCalls)
		}
		checkMemory(t, [][]int{c.s.Right, c.s.Up, circling(len(c.s.Right), 1)}, turnCalls)
		checkMemory(t, [][]int{c.s.Right, c.s.Up, nil}, turnCalls)
	}
	for _, s := range append(invalidSurfaces(), torusSlowly(24, 1), torusSlowly(6, 4)) {
		checkMemory(t, [][]int{s.Right, s.Up, counting(len(s.Right))}, turnCalls)
	}
}

// TestTurnsOfOneListAsAllArguments gives the same memory three times.
func TestTurnsOfOneListAsAllArguments(t *testing.T) {
	for _, list := range [][]int{{0}, {1, 0}} {
		before := slices.Clone(list)
		s := surfaceWith(list, list)
		if got, want := impl.TurnsOf(s), turnsSlowly(s); !equalLists(got, want) {
			t.Errorf("TurnsOf(%v) = %v, want %v", s, got, want)
		}
		checkTurn(t, s, knownTurn{list, fixedSlowly(s, before), 0})
		if !slices.Equal(list, before) || !impl.IsHyperelliptic(s) {
			t.Errorf("the argument %v became %v", before, list)
		}
	}
	checkNoTurn(t, surfaceWith(circling(3, 1), circling(3, 1)), circling(3, 1))
}

// TestTurnsDoNotDependOnScheduling repeats calls with the same lists, one after
// another and at the same time.
func TestTurnsDoNotDependOnScheduling(t *testing.T) {
	for _, c := range turnCases() {
		var calls sync.WaitGroup
		for range 8 {
			calls.Go(func() {
				for range 5 {
					checkTurns(t, c)
				}
			})
		}
		calls.Wait()
	}
}

func TestNothingCountsAfterACall(t *testing.T) {
	checkNothingGoesOn(t, func() {
		for _, c := range turnCases() {
			checkTurns(t, c)
			checkNoTurn(t, c.s, nil)
		}
		for _, s := range invalidSurfaces() {
			checkNoTurns(t, s)
		}
	})
}
