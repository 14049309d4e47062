package tests

import (
	"slices"
	"strings"
	"sync"
	"testing"

	"loop.example/g00928/impl"
)

// groupCase is a surface with what the chapter gives for it: longest is the
// length of its longest generator, or 0 if a generator has too many letters.
type groupCase struct {
	s       impl.Surface
	half    bool
	index   int
	turns   int
	sixths  int
	curve   int
	longest int
}

func groupCases() []groupCase {
	return []groupCase{
		{surfaceWith([]int{0}, []int{0}), true, 1, 1, 1, 0, 1},
		{surfaceWith([]int{1, 0}, []int{0, 1}), true, 3, 1, 0, 0, 3},
		{surfaceWith([]int{1, 2, 0}, []int{0, 1, 2}), true, 4, 0, 1, 0, 4},
		{surfaceWith([]int{1, 0, 3, 2}, []int{2, 3, 0, 1}), true, 1, 1, 1, 0, 1},
		{surfaceWith([]int{1, 2, 3, 0}, []int{0, 1, 2, 3}), true, 6, 0, 0, 0, 7},
		{surfaceWith(circling(24, 1), counting(24)), true, 48, 0, 0, 1, 23},
		{surfaceWith(circling(24, 8), circling(24, 9)), true, 48, 0, 0, 1, 19},
		{surfaceWith([]int{1, 0, 2}, []int{2, 1, 0}), true, 3, 1, 0, 0, 5},
		{surfaceWith([]int{1, 2, 0, 3}, []int{3, 1, 2, 0}), true, 9, 1, 0, 0, 9},
		{surfaceWith([]int{1, 2, 3, 4, 5, 0, 6}, []int{6, 1, 2, 3, 4, 5, 0}), true, 54, 2, 0, 0, 25},
		{surfaceWith([]int{0, 1, 3, 4, 5, 6, 2}, []int{1, 2, 3, 4, 0, 5, 6}), true, 16, 0, 1, 0, 17},
		{surfaceWith([]int{0, 1, 2, 3, 4, 5, 7, 6}, []int{1, 2, 3, 4, 5, 6, 0, 7}), true, 108, 2, 0, 1, 27},
		{surfaceWith([]int{0, 1, 2, 3, 4, 5, 6, 8, 7}, []int{1, 2, 3, 4, 5, 6, 7, 0, 8}), true, 108, 0, 0, 2, 25},
		{surfaceWith([]int{1, 2, 3, 4, 0}, []int{1, 0, 4, 3, 2}), true, 3, 1, 0, 0, 5},
		{surfaceWith([]int{0, 2, 3, 1, 4}, []int{1, 0, 2, 4, 3}), true, 10, 0, 1, 0, 10},
		{surfaceWith([]int{1, 3, 5, 6, 2, 7, 0, 4}, []int{2, 4, 3, 7, 6, 1, 5, 0}), true, 1, 1, 1, 0, 1},
		{surfaceWith([]int{1, 2, 4, 5, 0, 7, 3, 6}, []int{0, 3, 5, 1, 6, 7, 4, 2}), true, 90, 0, 0, 1, 27},
		{surfaceWith([]int{1, 0, 3, 4, 5, 6, 2}, []int{0, 2, 1, 5, 6, 3, 4}), true, 105, 3, 0, 0, 34},
		{surfaceWith([]int{0, 2, 4, 5, 6, 3, 1}, []int{1, 3, 4, 6, 2, 5, 0}), true, 7, 1, 1, 0, 11},
		{surfaceWith([]int{1, 3, 4, 6, 8, 9, 5, 10, 11, 0, 2, 7}, []int{2, 4, 5, 7, 6, 8, 10, 0, 3, 11, 9, 1}), true, 1, 1, 1, 0, 1},
		{surfaceWith([]int{1, 3, 5, 6, 2, 9, 11, 4, 0, 13, 14, 10, 7, 15, 8, 12}, []int{2, 4, 3, 7, 8, 10, 12, 11, 5, 0, 13, 15, 1, 6, 9, 14}), true, 1, 1, 1, 0, 1},
		{surfaceWith([]int{1, 0, 4, 5, 2, 7, 8, 9, 11, 12, 14, 13, 16, 18, 10, 19, 3, 21, 20, 15, 6, 17, 23, 22}, []int{2, 3, 0, 1, 6, 8, 4, 10, 5, 13, 7, 15, 17, 9, 19, 11, 20, 12, 22, 14, 16, 23, 18, 21}), true, 96, 0, 0, 1, 34},
		// Enough quarter turns or sixths to make a difference after the division.
		{surfaceWith([]int{0, 1, 3, 4, 5, 2, 6}, []int{1, 2, 0, 3, 6, 5, 4}), true, 66, 4, 0, 0, 25},
		{surfaceWith([]int{1, 2, 3, 5, 0, 6, 7, 8, 4}, []int{2, 0, 4, 6, 7, 8, 5, 3, 1}), true, 18, 0, 3, 0, 15},
		// The reckoning of the curve would give 0 for these two.
		{surfaceWith([]int{0, 2, 3, 4, 1}, []int{1, 0, 2, 4, 3}), false, 12, 0, 0, -1, 11},
		{surfaceWith([]int{0, 2, 3, 4, 5, 1}, []int{1, 0, 3, 2, 4, 5}), false, 20, 0, 0, -1, 16},
	}
}

// fullGroupCases returns surfaces whose orbits have exactly MaxOrbit surfaces.
func fullGroupCases() []groupCase {
	return []groupCase{
		{surfaceWith([]int{1, 2, 3, 4, 5, 0}, []int{0, 2, 1, 4, 5, 3}), false, 120, 0, 0, -1, 24},
		{surfaceWith([]int{1, 0, 4, 5, 6, 8, 7, 2, 9, 3}, []int{2, 3, 5, 4, 7, 9, 1, 6, 0, 8}), false, 120, 0, 0, -1, 32},
		{surfaceWith([]int{0, 2, 4, 6, 1, 9, 10, 8, 12, 14, 3, 15, 7, 13, 5, 17, 16, 11}, []int{1, 3, 5, 7, 8, 2, 11, 0, 13, 10, 9, 12, 16, 15, 17, 4, 6, 14}), false, 120, 0, 0, -1, 34},
		{surfaceWith([]int{0, 2, 1, 5, 7, 3, 8, 4, 6, 11, 13, 9, 14, 10, 12}, []int{1, 3, 4, 6, 8, 5, 0, 9, 10, 12, 2, 7, 11, 13, 14}), true, 120, 0, 0, 0, 0},
		{surfaceWith([]int{1, 2, 0, 4, 6, 8, 3, 9, 11, 13, 14, 5, 10, 7, 12, 17, 18, 19, 20, 15, 16, 22, 23, 21}, []int{0, 2, 3, 5, 7, 8, 9, 10, 12, 14, 15, 11, 1, 16, 17, 4, 18, 6, 19, 21, 20, 22, 13, 23}), true, 120, 0, 0, 0, 0},
	}
}

// longGroupCases returns surfaces whose longest generators have exactly
// MaxWord letters or a few more.
func longGroupCases() []groupCase {
	return []groupCase{
		{surfaceWith([]int{0, 2, 1, 4, 3, 6, 5}, []int{1, 3, 4, 0, 5, 2, 6}), true, 120, 0, 0, 0, 40},
		{surfaceWith([]int{0, 2, 3, 1, 5, 6, 4}, []int{1, 0, 4, 5, 2, 3, 6}), true, 120, 0, 0, 0, 40},
		{surfaceWith([]int{1, 0, 4, 5, 3, 6, 2}, []int{2, 3, 0, 1, 4, 6, 5}), true, 108, 0, 0, 0, 40},
		{surfaceWith([]int{0, 2, 3, 5, 6, 1, 4, 9, 10, 8, 7, 11}, []int{1, 0, 4, 3, 2, 7, 8, 5, 6, 11, 10, 9}), false, 120, 0, 0, -1, 40},
		// The longest words of these would have 41 letters.
		{surfaceWith([]int{0, 2, 1, 4, 3, 6, 5}, []int{1, 0, 3, 5, 6, 2, 4}), true, 120, 0, 0, 0, 0},
		{surfaceWith([]int{1, 0, 3, 5, 6, 4, 2}, []int{0, 2, 4, 5, 1, 6, 3}), true, 108, 0, 0, 0, 0},
		{surfaceWith([]int{1, 0, 3, 4, 5, 6, 2}, []int{1, 2, 3, 5, 4, 6, 0}), true, 108, 0, 0, 0, 0},
		// And of this one 45.
		{surfaceWith([]int{0, 2, 3, 4, 5, 6, 1}, []int{1, 0, 2, 5, 4, 3, 6}), true, 108, 0, 0, 0, 0},
	}
}

func allGroupCases() []groupCase {
	return slices.Concat(groupCases(), fullGroupCases(), longGroupCases())
}

func inverseSlowly(word string) string {
	inverse := ""
	for _, letter := range strings.Split(word, "") {
		inverse = inverseLetters[letter] + inverse
	}
	return inverse
}

// isFixedSlowly is for valid words of any length.
func isFixedSlowly(s impl.Surface, word string) bool {
	return equalSurfaces(formSlowly(runSlowly(s, word)), formSlowly(s))
}

// generatorsSlowly leaves out a letter if it is the last one of the word by
// which the surface after it was found. The words may be too long.
func generatorsSlowly(list []member) []string {
	var words []string
	for _, m := range list {
		for _, letter := range []string{"T", "S"} {
			form := formSlowly(letterSlowly(m.form, letter))
			next := slices.IndexFunc(list, func(x member) bool { return equalSurfaces(x.form, form) })
			if list[next].word != m.word+letter {
				words = append(words, m.word+letter+inverseSlowly(list[next].word))
			}
		}
	}
	return words
}

func longestOf(words []string) int {
	longest := 0
	for _, w := range words {
		longest = max(longest, len(w))
	}
	return longest
}

func countFixedSlowly(list []member, word string) int {
	count := 0
	for _, m := range list {
		if isFixedSlowly(m.form, word) {
			count++
		}
	}
	return count
}

// hasHalfTurnSlowly looks for new names under which every neighbor becomes the
// one on the other side, beginning with each name for the square 0.
func hasHalfTurnSlowly(s impl.Surface) bool {
	n := len(s.Right)
	for image := range n {
		names := slices.Repeat([]int{-1}, n)
		names[0] = image
		order := []int{0}
		turns := true
		for k := 0; k < len(order); k++ {
			x := order[k]
			left, below := slices.Index(s.Right, names[x]), slices.Index(s.Up, names[x])
			for _, pair := range [][2]int{{s.Right[x], left}, {s.Up[x], below}} {
				if names[pair[0]] < 0 {
					names[pair[0]] = pair[1]
					order = append(order, pair[0])
				}
				turns = turns && names[pair[0]] == pair[1]
			}
		}
		if turns {
			return true
		}
	}
	return false
}

// countCycles counts the cycles of a word on the surfaces of an orbit.
func countCycles(t *testing.T, list []member, word string) int {
	t.Helper()
	met := make([]bool, len(list))
	count := 0
	for i := range list {
		if met[i] {
			continue
		}
		count++
		for !met[i] {
			met[i] = true
			form := formSlowly(runSlowly(list[i].form, word))
			if i = slices.IndexFunc(list, func(m member) bool { return equalSurfaces(m.form, form) }); i < 0 {
				t.Fatalf("%s leads out of the orbit of %v", word, list[0].form)
			}
		}
	}
	return count
}

// curveSlowly is for surfaces with a half turn. The curve is glued from a
// triangle for each surface, so that its corners, sides and the points inside
// of its pieces are the cycles of three words, and their numbers give the
// genus without the numbers of surfaces that stay.
func curveSlowly(t *testing.T, list []member) int {
	t.Helper()
	euler := countCycles(t, list, "T") + countCycles(t, list, "S") + countCycles(t, list, "TS") - len(list)
	if euler%2 != 0 || euler > 2 {
		t.Fatalf("the curve of %v has the number of Euler %d", list[0].form, euler)
	}
	return (2 - euler) / 2
}

// mustGenerate returns the generators of a surface that has them.
func mustGenerate(t *testing.T, s impl.Surface) []string {
	t.Helper()
	words, ok := impl.GeneratorWords(s)
	if !ok {
		t.Fatalf("GeneratorWords(%v) fails", s)
	}
	return words
}

// shortGroupSurfaces returns all surfaces of at most 3 squares, and those of 4
// and 5 in their canonical forms.
func shortGroupSurfaces() []impl.Surface {
	var list []impl.Surface
	for n := range 4 {
		list = append(list, surfacesSlowly(n)...)
	}
	return append(append(list, formsWith(4)...), formsWith(5)...)
}

func TestIsFixedBy(t *testing.T) {
	one := surfaceWith([]int{0}, []int{0})
	ell := surfaceWith([]int{1, 0, 2}, []int{2, 1, 0})
	torus := surfaceWith(circling(5, 1), counting(5))
	plain := surfaceWith([]int{0, 2, 3, 4, 1}, []int{1, 0, 2, 4, 3})
	cases := []struct {
		s    impl.Surface
		word string
		want bool
	}{
		{one, "", true}, {one, "T", true}, {one, "S", true}, {one, "tsTTTs", true},
		{ell, "", true}, {ell, "T", false}, {ell, "t", false}, {ell, "S", true}, {ell, "s", true}, {ell, "TT", true}, {ell, "tt", true},
		{ell, "TS", false}, {ell, "ST", false}, {ell, "TSt", false}, {ell, "TSTst", true}, {ell, "TSSt", true}, {ell, "SS", true},
		{ell, "TTT", false}, {ell, "STTs", true},
		{torus, "T", false}, {torus, "TTTT", false}, {torus, "TTTTT", true}, {torus, "ttttt", true}, {torus, "S", false},
		{torus, "STs", true}, {torus, "TSSt", true}, {torus, "TTTSTTSTS", true}, {torus, "TTSTTTSTS", true}, {torus, "TTSTTSTS", false}, {torus, "TTSTT", false},
		// Without a half turn.
		{plain, "S", false}, {plain, "SS", false}, {plain, "SSS", false}, {plain, "SSSS", true}, {plain, "TTTT", true}, {plain, "TTTTSS", false},
		{plain, "TSTSTS", false}, {plain, "TSTSTSTSTSTS", true},
	}
	for _, c := range cases {
		for _, names := range someNames(len(c.s.Right)) {
			s := renamedSlowly(c.s, names)
			if got := impl.IsFixedBy(s, c.word); got != c.want {
				t.Errorf("IsFixedBy(%v, %q) = %t", s, c.word, got)
			}
		}
	}
}

func TestIsFixedByOfManySurfaces(t *testing.T) {
	words := append(wordsOver("TtSs", 2), longWords()...)
	words = append(words, "SSS", "TTT", "TSt", "TTTT", "TTTTTT", "STSTST", "TSTSTS", "TTSSTTSS", "STTTTs", strings.Repeat("T", 12))
	for _, s := range slices.Concat(shortGroupSurfaces(), longSurfaces()) {
		for _, word := range words {
			if got, want := impl.IsFixedBy(s, word), isFixedSlowly(s, word); got != want {
				t.Errorf("IsFixedBy(%v, %q) = %t", s, word, got)
			}
		}
	}
}

// TestIsFixedByOfTori has the matrices that lead the vectors of the closed
// paths to such vectors: these are the multiples of the width to the right and
// of the height up.
func TestIsFixedByOfTori(t *testing.T) {
	for width := 1; width <= 24; width++ {
		for height := 1; width*height <= 24; height++ {
			for _, word := range append(wordsOver("TtSs", 3), longWords()...) {
				m := matrixSlowly(word)
				want := m.B*height%width == 0 && m.C*width%height == 0
				if got := impl.IsFixedBy(torusSlowly(width, height), word); got != want {
					t.Errorf("IsFixedBy the torus of %d and %d, %q = %t", width, height, word, got)
				}
			}
		}
	}
}

// TestIsFixedByOfLargeOrbits does not depend on the orbit.
func TestIsFixedByOfLargeOrbits(t *testing.T) {
	for _, c := range largeOrbits() {
		for _, word := range []string{"", "T", "S", "SS", "SSSS", "TSTSTS", "TSTSTSTSTSTS", "STs", strings.Repeat("T", 12), strings.Repeat("TtSs", 10)} {
			if got, want := impl.IsFixedBy(c.s, word), isFixedSlowly(c.s, word); got != want {
				t.Errorf("IsFixedBy(%v, %q) = %t", c.s, word, got)
			}
		}
	}
	for arm := 2; arm <= 23; arm++ {
		s := ellSlowly(arm, 25-arm)
		for _, word := range []string{strings.Repeat("T", arm), "S" + strings.Repeat("T", 25-arm) + "s", "SS", ""} {
			if !impl.IsFixedBy(s, word) {
				t.Errorf("IsFixedBy(%v, %q) = false", s, word)
			}
		}
		for _, word := range []string{strings.Repeat("T", arm-1), strings.Repeat("T", arm+1), "TS"} {
			if impl.IsFixedBy(s, word) {
				t.Errorf("IsFixedBy(%v, %q) = true", s, word)
			}
		}
	}
}

func TestIsFixedByTheEmptyWord(t *testing.T) {
	for _, s := range validSurfaces() {
		if !impl.IsFixedBy(s, "") {
			t.Errorf("IsFixedBy(%v, empty) = false", s)
		}
	}
}

// TestIsFixedByWordsOfEachLength has surfaces that all words or all multiples
// of a shear keep, if they are valid.
func TestIsFixedByWordsOfEachLength(t *testing.T) {
	for n := range 60 {
		for _, letter := range []string{"T", "t", "S", "s"} {
			word := strings.Repeat(letter, n)
			if got := impl.IsFixedBy(surfaceWith([]int{0}, []int{0}), word); got != (n <= 40) {
				t.Errorf("IsFixedBy the square, %d times %s = %t", n, letter, got)
			}
		}
		for period := 2; period <= 23; period++ {
			word := strings.Repeat("T", n)
			if got, want := impl.IsFixedBy(ellSlowly(period, 2), word), n <= 40 && n%period == 0; got != want {
				t.Errorf("IsFixedBy the L of %d and 2, %d times T = %t", period, n, got)
			}
		}
	}
}

func TestIsFixedByInvalidWords(t *testing.T) {
	surfaces := append(longSurfaces(), surfaceWith([]int{0}, []int{0}), surfaceWith([]int{1, 0, 2}, []int{2, 1, 0}), impl.Surface{})
	for _, word := range append(invalidWords(), "x", "TTx", strings.Repeat("TT", 21), strings.Repeat("Tt", 20)+"S") {
		for _, s := range surfaces {
			if impl.IsFixedBy(s, word) {
				t.Errorf("IsFixedBy(%v, %q) = true", s, word)
			}
		}
	}
}

func TestGeneratorWords(t *testing.T) {
	cases := []struct {
		s    impl.Surface
		want string
	}{
		// T keeps the first surface, which no letter has found.
		{surfaceWith([]int{0}, []int{0}), "T S"},
		{surfaceWith([]int{1, 0, 3, 2}, []int{2, 3, 0, 1}), "T S"},
		{surfaceWith([]int{1, 3, 5, 6, 2, 7, 0, 4}, []int{2, 4, 3, 7, 6, 1, 5, 0}), "T S"},
		{surfaceWith([]int{1, 0}, []int{0, 1}), "TT TSt STs SS"},
		{surfaceWith([]int{1, 0}, []int{1, 0}), "S TT TSTst TSSt"},
		{surfaceWith([]int{0, 1}, []int{1, 0}), "T SS STTs STSts"},
		// Both letters lead from the surface after T to that after TT, which
		// T has found.
		{surfaceWith([]int{1, 2, 0}, []int{0, 1, 2}), "TStt STs SS TTT TTSt"},
		{surfaceWith([]int{1, 0, 2}, []int{2, 1, 0}), "S TT TSTst TSSt"},
		{surfaceWith([]int{1, 0, 2}, []int{1, 2, 0}), "TT TSt STs SS"},
		{surfaceWith([]int{2, 0, 1}, []int{1, 0, 2}), "T SS STTs STSts"},
		{surfaceWith([]int{1, 2, 0, 3}, []int{3, 1, 2, 0}), "SS TTT TSSt STTs STStst TTSStt TSTTstt TSTSts TTSTTst TTSTStstt"},
		{surfaceWith([]int{1, 2, 3, 4, 0}, []int{1, 0, 4, 3, 2}), "T SS STTs STSts"},
		// Without a half turn, two S do not lead back.
		{surfaceWith([]int{0, 2, 3, 4, 1}, []int{1, 0, 2, 4, 3}), "TSTss STTs STS SSTsst SSSts TTTT TTTSt TTSTstt TSSTsstt TSSSttt TTSSTst TTSSSTssstt TTSSSStt"},
	}
	for _, c := range cases {
		for _, names := range someNames(len(c.s.Right)) {
			s := renamedSlowly(c.s, names)
			if got, ok := impl.GeneratorWords(s); strings.Join(got, " ") != c.want || !ok {
				t.Errorf("GeneratorWords(%v) = %q, %t, want %s", s, got, ok, c.want)
			}
		}
	}
}

// TestGroupsOfManySurfaces compares all functions with their definitions.
func TestGroupsOfManySurfaces(t *testing.T) {
	surfaces := shortGroupSurfaces()
	for _, c := range allGroupCases() {
		surfaces = append(surfaces, renamedSlowly(c.s, mixedUp(len(c.s.Right))))
	}
	for _, s := range surfaces {
		list := orbitSlowly(s)
		if want := generatorsSlowly(list); longestOf(want) > 40 {
			checkNoGenerators(t, s)
		} else if got, ok := impl.GeneratorWords(s); !slices.Equal(got, want) || !ok {
			t.Errorf("GeneratorWords(%v) = %q, %t, want %q", s, got, ok, want)
		}
		if got, want := impl.TurnsInOrbit(s), countFixedSlowly(list, "S"); got != want {
			t.Errorf("TurnsInOrbit(%v) = %d, want %d", s, got, want)
		}
		if got, want := impl.SixthsInOrbit(s), countFixedSlowly(list, "TS"); got != want {
			t.Errorf("SixthsInOrbit(%v) = %d, want %d", s, got, want)
		}
		half := hasHalfTurnSlowly(s)
		if got := impl.HasHalfTurn(s); got != half {
			t.Errorf("HasHalfTurn(%v) = %t", s, got)
		}
		curve := -1
		if half {
			curve = curveSlowly(t, list)
		}
		if got := impl.CurveGenus(s); got != curve {
			t.Errorf("CurveGenus(%v) = %d, want %d", s, got, curve)
		}
		if got := impl.IsFullGroup(s); got != (len(list) == 1) {
			t.Errorf("IsFullGroup(%v) = %t", s, got)
		}
	}
}

func checkNoGenerators(t *testing.T, s impl.Surface) {
	t.Helper()
	if words, ok := impl.GeneratorWords(s); len(words) != 0 || ok {
		t.Errorf("GeneratorWords(%v) = %q, %t", s, words, ok)
	}
}

// checkOrbitNumbers compares what is the same for all surfaces of an orbit.
func checkOrbitNumbers(t *testing.T, s impl.Surface, c groupCase) {
	t.Helper()
	if got := impl.TurnsInOrbit(s); got != c.turns {
		t.Errorf("TurnsInOrbit(%v) = %d, want %d", s, got, c.turns)
	}
	if got := impl.SixthsInOrbit(s); got != c.sixths {
		t.Errorf("SixthsInOrbit(%v) = %d, want %d", s, got, c.sixths)
	}
	if got := impl.HasHalfTurn(s); got != c.half {
		t.Errorf("HasHalfTurn(%v) = %t", s, got)
	}
	if got := impl.CurveGenus(s); got != c.curve {
		t.Errorf("CurveGenus(%v) = %d, want %d", s, got, c.curve)
	}
	if got := impl.IsFullGroup(s); got != (c.index == 1) {
		t.Errorf("IsFullGroup(%v) = %t", s, got)
	}
}

// TestGroupCases has one generator more than the orbit has surfaces, unless
// one of them is too long: this makes no difference to the other functions.
func TestGroupCases(t *testing.T) {
	for _, c := range allGroupCases() {
		for _, names := range someNames(len(c.s.Right)) {
			s := renamedSlowly(c.s, names)
			checkOrbitNumbers(t, s, c)
			if c.longest == 0 {
				checkNoGenerators(t, s)
				continue
			}
			words := mustGenerate(t, s)
			if len(words) != c.index+1 || longestOf(words) != c.longest {
				t.Errorf("GeneratorWords(%v) has %d words with up to %d letters, want %d with %d", s, len(words), longestOf(words), c.index+1, c.longest)
			}
		}
		if got := impl.IndexOf(c.s); got != c.index {
			t.Errorf("IndexOf(%v) = %d, want %d", c.s, got, c.index)
		}
	}
}

// TestTooLongGenerators looks at the words that the surfaces would have.
func TestTooLongGenerators(t *testing.T) {
	for i, want := range []int{40, 40, 40, 40, 41, 41, 41, 45} {
		s := longGroupCases()[i].s
		list := orbitSlowly(s)
		if got := longestOf(generatorsSlowly(list)); got != want {
			t.Fatalf("the longest generator of %v has %d letters, not %d", s, got, want)
		}
		if _, ok := impl.GeneratorWords(s); ok != (want <= 40) {
			t.Errorf("GeneratorWords(%v): %t, the longest word has %d letters", s, ok, want)
		}
		// The words of the orbit are valid nevertheless.
		if word, ok := impl.OrbitWord(s, list[len(list)-1].form); !ok {
			t.Errorf("OrbitWord(%v, %v) = %q, %t", s, list[len(list)-1].form, word, ok)
		}
	}
}

func TestGeneratorsKeepTheSurface(t *testing.T) {
	for _, s := range withGenerators() {
		words := mustGenerate(t, s)
		if len(words) != impl.IndexOf(s)+1 {
			t.Errorf("GeneratorWords(%v) has %d words, but the orbit has %d surfaces", s, len(words), impl.IndexOf(s))
		}
		for _, word := range words {
			if !impl.WordOk(word) || !impl.IsFixedBy(s, word) || !isFixedSlowly(s, word) {
				t.Errorf("GeneratorWords(%v) has %q, which does not keep it", s, word)
			}
		}
	}
}

// withGenerators returns surfaces for which GeneratorWords succeeds.
func withGenerators() []impl.Surface {
	list := shortGroupSurfaces()
	for _, c := range allGroupCases() {
		if c.longest > 0 {
			list = append(list, c.s)
		}
	}
	return list
}

// TestWordsThatKeepASurface performs them one after the other and inverted.
func TestWordsThatKeepASurface(t *testing.T) {
	for _, c := range slices.Concat(groupCases(), fullGroupCases()[:3], longGroupCases()[:1]) {
		words := mustGenerate(t, c.s)
		for _, i := range sample(len(words)) {
			v := words[i]
			if !impl.IsFixedBy(c.s, impl.InverseWord(v)) {
				t.Errorf("%q keeps %v, its inverse does not", v, c.s)
			}
			for _, j := range sample(len(words)) {
				w := words[j]
				for _, both := range []string{v + w, w + impl.InverseWord(v), impl.InverseWord(v) + impl.InverseWord(w)} {
					if got := impl.IsFixedBy(c.s, both); got != (len(both) <= 40) {
						t.Errorf("%q and %q keep %v, IsFixedBy %q = %t", v, w, c.s, both, got)
					}
				}
			}
		}
		// A word that does not keep it does so neither before nor behind one
		// that does.
		for _, v := range []string{"T", "S", "TS", "t", "TTS"} {
			for _, w := range words {
				want := impl.IsFixedBy(c.s, v)
				if len(v+w) <= 40 && (impl.IsFixedBy(c.s, v+w) != want || impl.IsFixedBy(c.s, w+v) != want) {
					t.Errorf("IsFixedBy(%v, %q) = %t, but not before or behind %q", c.s, v, want, w)
				}
			}
		}
	}
}

// step is a letter from a surface of an orbit: it leads to next, and by is the
// matrix of the generator, or one if the letter has found next first.
type step struct {
	next int
	by   impl.Matrix
}

// stepsOf gives the generators to the letters in the order of the chapter.
func stepsOf(t *testing.T, s impl.Surface) []map[string]step {
	t.Helper()
	orbit, words := mustOrbit(t, s), mustGenerate(t, s)
	steps := make([]map[string]step, len(orbit))
	met := []int{0}
	for i, x := range orbit {
		steps[i] = map[string]step{}
		for _, letter := range []string{"T", "S"} {
			form, _ := impl.CanonOf(mustRun(t, x, letter))
			next := slices.IndexFunc(orbit, func(y impl.Surface) bool { return equalSurfaces(y, form) })
			if !slices.Contains(met, next) {
				met = append(met, next)
				steps[i][letter] = step{next, impl.Matrix{A: 1, D: 1}}
				continue
			}
			m, _ := impl.MatrixOf(words[0])
			words = words[1:]
			steps[i][letter] = step{next, m}
		}
	}
	return steps
}

// TestGeneratorsAreComplete follows words through the orbit: the generators of
// their steps must have the matrices of all words that keep the surface as
// products. The letters T and S generate t and s.
func TestGeneratorsAreComplete(t *testing.T) {
	words := append(wordsOver("TS", 9), strings.Repeat("TTTSTTSTSSTTTTS", 2), strings.Repeat("T", 24), "S"+strings.Repeat("T", 24)+"SSS")
	for _, s := range slices.Concat(formsWith(3), formsWith(4), withGenerators()[len(withGenerators())-20:]) {
		steps := stepsOf(t, s)
		for _, word := range words {
			product, place := impl.Matrix{A: 1, D: 1}, 0
			for _, letter := range strings.Split(word, "") {
				x := steps[place][letter]
				product, _ = impl.TimesMatrix(x.by, product)
				place = x.next
			}
			if got := impl.IsFixedBy(s, word); got != (place == 0) {
				t.Errorf("IsFixedBy(%v, %q) = %t, but it leads to surface %d", s, word, got, place)
			}
			if m := matrixSlowly(word); place == 0 && product != m {
				t.Errorf("%q keeps %v, its matrix is %v, but that of the generators %v", word, s, m, product)
			}
		}
	}
}

// TestCurvesOfTori has the known curves of the matrices whose entry B is
// divisible by n: how many of their matrices turn by a quarter or a sixth are
// solutions of equations modulo n.
func TestCurvesOfTori(t *testing.T) {
	genus := map[int]int{11: 1, 14: 1, 15: 1, 17: 1, 19: 1, 20: 1, 21: 1, 22: 2, 23: 2, 24: 1}
	for width := 1; width <= 24; width++ {
		for height := 1; width*height <= 24; height++ {
			common := divisor(width, height)
			n := width * height / common / common
			c := groupCase{s: torusSlowly(width, height), half: true, index: countPairs(n) / countUnits(n), curve: genus[n]}
			for x := range n {
				if (x*x+1)%n == 0 {
					c.turns++
				}
				if (x*x+x+1)%n == 0 {
					c.sixths++
				}
			}
			checkOrbitNumbers(t, c.s, c)
		}
	}
}

// TestGroupsOfElls has all of them, among them those of 24 squares.
func TestGroupsOfElls(t *testing.T) {
	for arm := 2; arm <= 23; arm++ {
		for leg := 2; arm+leg <= 25; leg++ {
			s := ellSlowly(arm, leg)
			if !impl.HasHalfTurn(s) {
				t.Errorf("HasHalfTurn of the L of %d and %d = false", arm, leg)
			}
			if ellIndex(arm, leg) > 120 {
				checkNoGroup(t, s)
				continue
			}
			list := orbitSlowly(s)
			c := groupCase{s: s, half: true, index: ellIndex(arm, leg)}
			c.turns, c.sixths, c.curve = countFixedSlowly(list, "S"), countFixedSlowly(list, "TS"), curveSlowly(t, list)
			checkOrbitNumbers(t, s, c)
			if got := len(mustGenerate(t, s)); got != c.index+1 {
				t.Errorf("GeneratorWords of the L of %d and %d has %d words, want %d", arm, leg, got, c.index+1)
			}
		}
	}
}

// TestCurvesAreWhole divides without a remainder, and not below 0.
func TestCurvesAreWhole(t *testing.T) {
	for _, s := range shortGroupSurfaces() {
		checkWhole(t, s)
	}
	for _, c := range allGroupCases() {
		checkWhole(t, c.s)
	}
}

func checkWhole(t *testing.T, s impl.Surface) {
	t.Helper()
	turns, sixths := impl.TurnsInOrbit(s), impl.SixthsInOrbit(s)
	if !impl.HasHalfTurn(s) {
		// Two quarter turns are a half turn, and so are three sixths.
		if turns != 0 || sixths != 0 || impl.CurveGenus(s) != -1 {
			t.Errorf("%v has no half turn, but %d turns and %d sixths in its orbit and the genus %d", s, turns, sixths, impl.CurveGenus(s))
		}
		return
	}
	cusps, _ := impl.CuspsOf(s)
	twelfths := 12 + impl.IndexOf(s) - 3*turns - 4*sixths - 6*len(cusps)
	if got := impl.CurveGenus(s); got < 0 || 12*got != twelfths {
		t.Errorf("CurveGenus(%v) = %d, want %d / 12", s, got, twelfths)
	}
}

func TestSurfacesOfOneOrbitHaveTheSameNumbers(t *testing.T) {
	for _, c := range allGroupCases() {
		list := mustOrbit(t, c.s)
		for _, i := range sample(len(list)) {
			checkOrbitNumbers(t, list[i], c)
		}
		for _, word := range []string{"T", "s", "TTSt", strings.Repeat("TTS", 13)} {
			checkOrbitNumbers(t, mustRun(t, c.s, word), c)
		}
	}
}

// TestSurfacesOfGenusTwoHaveAHalfTurn has those of genus 1 as well.
func TestSurfacesOfGenusTwoHaveAHalfTurn(t *testing.T) {
	for _, s := range cornerSurfaces() {
		got := impl.HasHalfTurn(s)
		if want := hasHalfTurnSlowly(s); got != want {
			t.Errorf("HasHalfTurn(%v) = %t", s, got)
		}
		if genusSlowly(s) <= 2 && !got {
			t.Errorf("HasHalfTurn(%v) = false, but the genus is %d", s, genusSlowly(s))
		}
		if got != impl.IsFixedBy(s, "SS") {
			t.Errorf("HasHalfTurn(%v) = %t, but not IsFixedBy", s, got)
		}
	}
}

func TestIsFullGroup(t *testing.T) {
	for _, s := range slices.Concat(shortGroupSurfaces(), longSurfaces()) {
		want := isFixedSlowly(s, "T") && isFixedSlowly(s, "S")
		if got := impl.IsFullGroup(s); got != want {
			t.Errorf("IsFullGroup(%v) = %t", s, got)
		}
	}
	for n := 1; n <= 4; n++ {
		if !impl.IsFullGroup(torusSlowly(n, n)) {
			t.Errorf("IsFullGroup of the torus of %d and %d = false", n, n)
		}
	}
}

// checkNoGroup is for surfaces that are not valid or whose orbit is too large.
func checkNoGroup(t *testing.T, s impl.Surface) {
	t.Helper()
	checkNoGenerators(t, s)
	if got := impl.TurnsInOrbit(s); got != -1 {
		t.Errorf("TurnsInOrbit(%v) = %d", s, got)
	}
	if got := impl.SixthsInOrbit(s); got != -1 {
		t.Errorf("SixthsInOrbit(%v) = %d", s, got)
	}
	if got := impl.CurveGenus(s); got != -1 {
		t.Errorf("CurveGenus(%v) = %d", s, got)
	}
	if impl.IsFullGroup(s) {
		t.Errorf("IsFullGroup(%v) = true", s)
	}
}

func TestGroupsOfTooLargeOrbits(t *testing.T) {
	kinds := map[bool]int{}
	for _, c := range largeOrbits() {
		half := hasHalfTurnSlowly(c.s)
		kinds[half]++
		for _, s := range []impl.Surface{c.s, renamedSlowly(c.s, mixedUp(len(c.s.Right))), runSlowly(c.s, "TTS")} {
			checkNoGroup(t, s)
			if got := impl.HasHalfTurn(s); got != half {
				t.Errorf("HasHalfTurn(%v) = %t", s, got)
			}
		}
	}
	if len(kinds) != 2 {
		t.Errorf("the surfaces with large orbits are all of one kind: %v", kinds)
	}
}

func checkNotKept(t *testing.T, s impl.Surface) {
	t.Helper()
	for _, word := range []string{"", "T", "S", "SS", "SSSS", "Tt", strings.Repeat("S", 40), strings.Repeat("S", 44), "x"} {
		if impl.IsFixedBy(s, word) {
			t.Errorf("IsFixedBy(%v, %q) = true", s, word)
		}
	}
	if impl.HasHalfTurn(s) {
		t.Errorf("HasHalfTurn(%v) = true", s)
	}
	checkNoGroup(t, s)
}

func TestInvalidSurfacesHaveNoGroup(t *testing.T) {
	for _, s := range invalidSurfaces() {
		checkNotKept(t, s)
	}
}

func TestGroupsOfAllShortLists(t *testing.T) {
	for _, s := range shortSurfaces() {
		if !isSurfaceSlowly(s) {
			checkNotKept(t, s)
		}
	}
}

// groupCalls makes the calls of the layer with a surface, as Right and Up.
func groupCalls(lists [][]int) map[string]func() [][]int {
	s := surfaceWith(lists[0], lists[1])
	return map[string]func() [][]int{
		"IsFixedBy":      func() [][]int { impl.IsFixedBy(s, "TTS"); return nil },
		"GeneratorWords": func() [][]int { impl.GeneratorWords(s); return nil },
		"TurnsInOrbit":   func() [][]int { impl.TurnsInOrbit(s); return nil },
		"SixthsInOrbit":  func() [][]int { impl.SixthsInOrbit(s); return nil },
		"HasHalfTurn":    func() [][]int { impl.HasHalfTurn(s); return nil },
		"CurveGenus":     func() [][]int { impl.CurveGenus(s); return nil },
		"IsFullGroup":    func() [][]int { impl.IsFullGroup(s); return nil },
	}
}

func TestGroupsKeepTheRulesOfMemory(t *testing.T) {
	surfaces := append(invalidSurfaces(), largeOrbits()[0].s, largeOrbits()[8].s, surfaceWith([]int{0, 2, 1}, []int{1, 0, 2}))
	for _, c := range allGroupCases() {
		surfaces = append(surfaces, c.s)
	}
	for _, s := range surfaces {
		checkMemory(t, [][]int{s.Right, s.Up}, groupCalls)
	}
}

func TestListsOfGeneratorsAreIndependent(t *testing.T) {
	for _, s := range withGenerators() {
		first, second := mustGenerate(t, s), mustGenerate(t, s)
		want := slices.Clone(second)
		spoil(first, "x")
		if !slices.Equal(second, want) {
			t.Errorf("two results of GeneratorWords(%v) share memory", s)
		}
		if third := mustGenerate(t, s); !slices.Equal(third, want) {
			t.Errorf("a changed result of GeneratorWords(%v) comes back: %q", s, third)
		}
	}
}

// TestTheGroupOfOneListAsRightAndUp gives the same memory twice.
func TestTheGroupOfOneListAsRightAndUp(t *testing.T) {
	list := []int{1, 2, 0}
	s := surfaceWith(list, list)
	if got, want := mustGenerate(t, s), generatorsSlowly(orbitSlowly(s)); !slices.Equal(got, want) {
		t.Errorf("GeneratorWords(%v) = %q, want %q", s, got, want)
	}
	checkOrbitNumbers(t, s, groupCase{half: true, index: 4, sixths: 1})
	if !slices.Equal(list, []int{1, 2, 0}) {
		t.Errorf("the argument became %v", list)
	}
}

// TestGroupsDoNotDependOnScheduling repeats calls, one after another and at
// the same time.
func TestGroupsDoNotDependOnScheduling(t *testing.T) {
	for _, c := range allGroupCases() {
		words, fine := impl.GeneratorWords(c.s)
		var calls sync.WaitGroup
		for range 4 {
			calls.Go(func() {
				for range 2 {
					if got, ok := impl.GeneratorWords(c.s); !slices.Equal(got, words) || ok != fine {
						t.Errorf("GeneratorWords(%v) = %q and %q", c.s, words, got)
					}
					checkOrbitNumbers(t, c.s, c)
				}
			})
		}
		calls.Wait()
	}
}

func TestNothingTriesWordsAfterACall(t *testing.T) {
	checkNothingGoesOn(t, func() {
		surfaces := invalidSurfaces()
		for _, c := range allGroupCases() {
			surfaces = append(surfaces, c.s)
		}
		for _, c := range largeOrbits() {
			surfaces = append(surfaces, c.s)
		}
		for _, s := range surfaces {
			for _, call := range groupCalls([][]int{s.Right, s.Up}) {
				call()
			}
		}
	})
}
