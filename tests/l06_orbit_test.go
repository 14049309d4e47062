package tests

import (
	"maps"
	"slices"
	"strings"
	"sync"
	"testing"

	"loop.example/g00928/impl"
)

// member is a surface of an orbit with the letters by which it was found.
type member struct {
	form impl.Surface
	word string
}

// farTooMany is the number of surfaces after which orbitSlowly stops.
const farTooMany = 200

// formSlowly is for comparison with impl.CanonOf.
func formSlowly(s impl.Surface) impl.Surface {
	return slices.MinFunc(formsSlowly(s), compareSurfaces)
}

// orbitSlowly looks through the whole list for every surface that it reaches.
func orbitSlowly(s impl.Surface) []member {
	list := []member{{form: formSlowly(s)}}
	for i := 0; i < len(list) && len(list) <= farTooMany; i++ {
		for _, letter := range []string{"T", "S"} {
			next := formSlowly(letterSlowly(list[i].form, letter))
			if !slices.ContainsFunc(list, func(m member) bool { return equalSurfaces(m.form, next) }) {
				list = append(list, member{next, list[i].word + letter})
			}
		}
	}
	return list
}

// periodSlowly shears until the canonical form comes again.
func periodSlowly(s impl.Surface) int {
	form := formSlowly(s)
	after := letterSlowly(s, "T")
	period := 1
	for !equalSurfaces(formSlowly(after), form) {
		after = letterSlowly(after, "T")
		period++
	}
	return period
}

// cuspsSlowly counts the surfaces of each period: a cusp of a width has as
// many surfaces, all of this period.
func cuspsSlowly(list []member) []int {
	surfaces := map[int]int{}
	for _, m := range list {
		surfaces[periodSlowly(m.form)]++
	}
	var widths []int
	for _, width := range slices.Backward(slices.Sorted(maps.Keys(surfaces))) {
		widths = append(widths, slices.Repeat([]int{width}, surfaces[width]/width)...)
	}
	return widths
}

// orbitCase is a surface with its genus and what the chapter gives for it; last
// is the word to the last surface of its orbit.
type orbitCase struct {
	s     impl.Surface
	genus int
	index int
	cusps []int
	last  string
}

func orbitCases() []orbitCase {
	return []orbitCase{
		{surfaceWith([]int{0}, []int{0}), 1, 1, []int{1}, ""},
		{surfaceWith([]int{1, 0}, []int{0, 1}), 1, 3, []int{2, 1}, "S"},
		{surfaceWith([]int{1, 0, 3, 2}, []int{2, 3, 0, 1}), 1, 1, []int{1}, ""},
		{surfaceWith([]int{1, 2, 3, 0}, []int{0, 1, 2, 3}), 1, 6, []int{4, 1, 1}, "TTS"},
		{surfaceWith([]int{1, 0, 2}, []int{2, 1, 0}), 2, 3, []int{2, 1}, "TS"},
		{surfaceWith([]int{1, 2, 0, 3}, []int{3, 1, 2, 0}), 2, 9, []int{4, 3, 2}, "TTST"},
		{surfaceWith([]int{1, 2, 3, 4, 5, 0, 6}, []int{6, 1, 2, 3, 4, 5, 0}), 2, 54, []int{12, 10, 7, 7, 6, 4, 3, 2, 2, 1}, "TTSTTTSTTTST"},
		{surfaceWith([]int{0, 1, 3, 4, 5, 6, 2}, []int{1, 2, 3, 4, 0, 5, 6}), 2, 16, []int{7, 5, 3, 1}, "TTSTTTTS"},
		{surfaceWith([]int{1, 2, 3, 4, 0}, []int{1, 0, 4, 3, 2}), 3, 3, []int{2, 1}, "ST"},
		{surfaceWith([]int{0, 2, 3, 1, 4}, []int{1, 0, 2, 4, 3}), 3, 10, []int{5, 3, 2}, "TTSTT"},
		{surfaceWith([]int{1, 3, 5, 6, 2, 7, 0, 4}, []int{2, 4, 3, 7, 6, 1, 5, 0}), 3, 1, []int{1}, ""},
		{surfaceWith([]int{1, 0, 3, 4, 5, 6, 2}, []int{0, 2, 1, 5, 6, 3, 4}), 3, 105, []int{12, 12, 10, 7, 7, 6, 6, 6, 6, 5, 5, 5, 4, 4, 3, 3, 2, 2}, "TTTTTTTSTTSTTTTST"},
		{surfaceWith([]int{0, 2, 3, 4, 5, 6, 1}, []int{1, 0, 2, 5, 4, 3, 6}), 3, 108, []int{12, 12, 10, 10, 6, 6, 6, 6, 6, 5, 5, 4, 4, 3, 3, 3, 2, 2, 2, 1}, "TTTSTTTTSTTTSTTTSTTSTT"},
		{surfaceWith([]int{0, 2, 4, 5, 6, 3, 1}, []int{1, 3, 4, 6, 2, 5, 0}), 4, 7, []int{4, 3}, "TTTST"},
		{surfaceWith([]int{1, 3, 4, 6, 8, 9, 5, 10, 11, 0, 2, 7}, []int{2, 4, 5, 7, 6, 8, 10, 0, 3, 11, 9, 1}), 4, 1, []int{1}, ""},
		{surfaceWith([]int{1, 3, 5, 6, 2, 9, 11, 4, 0, 13, 14, 10, 7, 15, 8, 12}, []int{2, 4, 3, 7, 8, 10, 12, 11, 5, 0, 13, 15, 1, 6, 9, 14}), 7, 1, []int{1}, ""},
		{surfaceWith(circling(24, 1), counting(24)), 1, 48, []int{24, 8, 6, 3, 3, 2, 1, 1}, "TTTSTTSTTTS"},
		{surfaceWith(circling(24, 8), circling(24, 9)), 1, 48, []int{24, 8, 6, 3, 3, 2, 1, 1}, "STTTSTTTS"},
		{surfaceWith([]int{1, 0, 4, 5, 2, 7, 8, 9, 11, 12, 14, 13, 16, 18, 10, 19, 3, 21, 20, 15, 6, 17, 23, 22}, []int{2, 3, 0, 1, 6, 8, 4, 10, 5, 13, 7, 15, 17, 9, 19, 11, 20, 12, 22, 14, 16, 23, 18, 21}), 7, 96, []int{12, 12, 6, 6, 6, 6, 6, 6, 6, 6, 6, 6, 4, 4, 2, 2}, "TTTTSTTTSTTTTTTST"},
	}
}

// fullOrbitCases returns surfaces whose orbits have exactly MaxOrbit surfaces.
func fullOrbitCases() []orbitCase {
	return []orbitCase{
		{surfaceWith([]int{1, 2, 3, 4, 5, 0}, []int{0, 2, 1, 4, 5, 3}), 3, 120, []int{6, 6, 6, 6, 6, 6, 6, 6, 6, 6, 6, 6, 5, 5, 5, 5, 4, 4, 4, 4, 3, 3, 3, 3}, "TTTTSTTTSTSS"},
		{surfaceWith([]int{0, 2, 1, 4, 3, 6, 5}, []int{1, 0, 3, 5, 6, 2, 4}), 3, 120, []int{12, 12, 10, 10, 10, 6, 6, 6, 6, 5, 4, 4, 4, 4, 3, 3, 3, 3, 3, 2, 2, 2}, "TSTTTTTTSTTTTSTTTSTT"},
		{surfaceWith([]int{1, 0, 4, 5, 6, 8, 7, 2, 9, 3}, []int{2, 3, 5, 4, 7, 9, 1, 6, 0, 8}), 5, 120, []int{8, 8, 8, 8, 8, 8, 5, 5, 5, 5, 4, 4, 4, 4, 4, 4, 4, 4, 4, 4, 4, 4, 2, 2}, "TTTSTTTTSTTTSTSS"},
		{surfaceWith([]int{0, 2, 3, 5, 6, 1, 4, 9, 10, 8, 7, 11}, []int{1, 0, 4, 3, 2, 7, 8, 5, 6, 11, 10, 9}), 6, 120, []int{12, 12, 6, 6, 6, 6, 6, 6, 6, 6, 4, 4, 4, 4, 4, 4, 4, 4, 4, 4, 2, 2, 2, 2}, "TTTSTTSTTTTTTSTTTTST"},
		{surfaceWith([]int{0, 2, 1, 5, 7, 3, 8, 4, 6, 11, 13, 9, 14, 10, 12}, []int{1, 3, 4, 6, 8, 5, 0, 9, 10, 12, 2, 7, 11, 13, 14}), 7, 120, []int{12, 6, 6, 6, 6, 6, 6, 6, 6, 6, 6, 6, 6, 6, 6, 4, 4, 4, 4, 4, 2, 2}, "TSTTTSTTTSTTSTTTSTTTSTS"},
		{surfaceWith([]int{0, 2, 4, 6, 1, 9, 10, 8, 12, 14, 3, 15, 7, 13, 5, 17, 16, 11}, []int{1, 3, 5, 7, 8, 2, 11, 0, 13, 10, 9, 12, 16, 15, 17, 4, 6, 14}), 9, 120, []int{15, 15, 12, 12, 5, 5, 4, 4, 3, 3, 3, 3, 3, 3, 3, 3, 3, 3, 3, 3, 3, 3, 3, 3}, "STTSTTTTTTTSTTSTT"},
		{surfaceWith([]int{1, 2, 0, 4, 6, 8, 3, 9, 11, 13, 14, 5, 10, 7, 12, 17, 18, 19, 20, 15, 16, 22, 23, 21}, []int{0, 2, 3, 5, 7, 8, 9, 10, 12, 14, 15, 11, 1, 16, 17, 4, 18, 6, 19, 21, 20, 22, 13, 23}), 9, 120, []int{10, 10, 8, 8, 6, 6, 6, 6, 6, 6, 5, 5, 5, 5, 4, 4, 4, 4, 3, 3, 3, 3}, "TSTTTSTTTSTTSTTTTTSTS"},
	}
}

// largeOrbit is a surface whose orbit has too many surfaces: count, or more
// than that.
type largeOrbit struct {
	s     impl.Surface
	count int
	more  bool
}

// largeOrbits begins with 126 surfaces, the next number above MaxOrbit for which
// an orbit is known.
func largeOrbits() []largeOrbit {
	return []largeOrbit{
		{surfaceWith([]int{1, 0, 3, 2, 6, 8, 4, 11, 5, 13, 14, 7, 15, 9, 10, 12}, []int{2, 3, 4, 5, 7, 9, 10, 0, 12, 1, 11, 14, 13, 15, 6, 8}), 126, false},
		{surfaceWith([]int{1, 2, 4, 5, 6, 0, 8, 3, 7}, []int{2, 3, 1, 6, 7, 8, 4, 5, 0}), 128, false},
		{surfaceWith([]int{1, 0, 3, 5, 6, 7, 8, 2, 10, 11, 4, 9}, []int{1, 2, 4, 3, 7, 6, 9, 0, 5, 11, 10, 8}), 128, false},
		{surfaceWith([]int{0, 2, 1, 5, 7, 3, 10, 4, 9, 8, 6, 12, 11, 13}, []int{1, 3, 4, 6, 8, 9, 11, 10, 12, 0, 13, 5, 7, 2}), 128, false},
		{surfaceWith([]int{1, 2, 4, 5, 7, 9, 0, 12, 10, 3, 11, 14, 16, 6, 15, 13, 17, 8}, []int{2, 3, 1, 6, 8, 10, 11, 0, 13, 7, 12, 15, 17, 4, 5, 14, 9, 16}), 128, false},
		{surfaceWith([]int{1, 3, 5, 0, 6, 8, 10, 12, 2, 14, 4, 16, 18, 11, 19, 20, 13, 15, 7, 9, 17, 22, 23, 21}, []int{2, 4, 6, 7, 1, 9, 11, 8, 13, 10, 15, 17, 16, 14, 20, 3, 12, 18, 21, 22, 23, 5, 19, 0}), 128, false},
		{ellSlowly(3, 9), 180, false},
		{ellSlowly(2, 9), farTooMany, true},
		{ellSlowly(12, 13), farTooMany, true},
		{unevenRows(), farTooMany, true},
		{surfaceWith(circling(24, 1), mixedUp(24)), farTooMany, true},
		{surfaceWith(mixedUp(24), circling(24, 7)), farTooMany, true},
		{surfaceWith(circling(23, 1), mixedUp(23)), farTooMany, true},
	}
}

// unevenRows returns a surface with rows of 8, 7, 5, 3 and 1 squares. Above
// one square of each row lies the next row, and above the others the row
// itself: so nothing but the identity leads every row and what lies above it
// onto itself.
func unevenRows() impl.Surface {
	return surfaceWith(
		[]int{1, 2, 3, 4, 5, 6, 7, 0, 9, 10, 11, 12, 13, 14, 8, 16, 17, 18, 19, 15, 21, 22, 20, 23},
		[]int{8, 1, 2, 3, 4, 5, 6, 7, 15, 9, 10, 11, 12, 13, 14, 20, 16, 17, 18, 19, 23, 21, 22, 0},
	)
}

// orbitSurfaces returns surfaces with an orbit: all of at most 3 squares, the
// cases, and these with other names.
func orbitSurfaces() []impl.Surface {
	var list []impl.Surface
	for n := range 4 {
		list = append(list, surfacesSlowly(n)...)
	}
	for _, c := range append(orbitCases(), fullOrbitCases()...) {
		list = append(list, c.s, renamedSlowly(c.s, mixedUp(len(c.s.Right))))
	}
	return list
}

func mustOrbit(t *testing.T, s impl.Surface) []impl.Surface {
	t.Helper()
	list, ok := impl.OrbitOf(s)
	if !ok {
		t.Fatalf("OrbitOf(%v) fails", s)
	}
	return list
}

func hasSurface(list []impl.Surface, s impl.Surface) bool {
	return slices.ContainsFunc(list, func(x impl.Surface) bool { return equalSurfaces(x, s) })
}

// sample returns the places of a list of n elements, or if they are many, some
// of them with the first and the last.
func sample(n int) []int {
	places := counting(n)
	if n <= 20 {
		return places
	}
	return append(slices.DeleteFunc(places, func(i int) bool { return i%13 != 0 || i == n-1 }), n-1)
}

func TestMaxOrbit(t *testing.T) {
	if impl.MaxOrbit != 120 {
		t.Errorf("MaxOrbit = %d", impl.MaxOrbit)
	}
}

// checkOrbit compares the orbit of s and the words that lead to its surfaces.
func checkOrbit(t *testing.T, s impl.Surface, want []member) {
	t.Helper()
	list, ok := impl.OrbitOf(s)
	if !ok || len(list) != len(want) {
		t.Fatalf("OrbitOf(%v) = %v, %t, want %d surfaces", s, list, ok, len(want))
	}
	if got := impl.IndexOf(s); got != len(want) {
		t.Errorf("IndexOf(%v) = %d, want %d", s, got, len(want))
	}
	for i, m := range want {
		if !equalSurfaces(list[i], m.form) {
			t.Errorf("surface %d of OrbitOf(%v) = %v, want %v", i, s, list[i], m.form)
		}
	}
	for _, i := range sample(len(want)) {
		m := want[i]
		if got, ok := impl.OrbitWord(s, m.form); got != m.word || !ok {
			t.Errorf("OrbitWord(%v, %v) = %q, %t, want %q", s, m.form, got, ok, m.word)
		}
		if !impl.SameOrbit(s, m.form) {
			t.Errorf("SameOrbit(%v, %v) = false", s, m.form)
		}
	}
}

func TestOrbitOf(t *testing.T) {
	checkOrbit(t, surfaceWith([]int{0}, []int{0}), []member{{surfaceWith([]int{0}, []int{0}), ""}})
	checkOrbit(t, surfaceWith([]int{0, 1}, []int{1, 0}), []member{
		{surfaceWith([]int{0, 1}, []int{1, 0}), ""},
		{surfaceWith([]int{1, 0}, []int{0, 1}), "S"},
		{surfaceWith([]int{1, 0}, []int{1, 0}), "ST"},
	})
	// The surface after T comes before the one after S.
	checkOrbit(t, surfaceWith([]int{1, 0}, []int{0, 1}), []member{
		{surfaceWith([]int{1, 0}, []int{0, 1}), ""},
		{surfaceWith([]int{1, 0}, []int{1, 0}), "T"},
		{surfaceWith([]int{0, 1}, []int{1, 0}), "S"},
	})
	// S leads the first surface to itself.
	ell := []member{
		{surfaceWith([]int{0, 2, 1}, []int{1, 0, 2}), ""},
		{surfaceWith([]int{0, 2, 1}, []int{1, 2, 0}), "T"},
		{surfaceWith([]int{1, 2, 0}, []int{0, 2, 1}), "TS"},
	}
	checkOrbit(t, surfaceWith([]int{0, 2, 1}, []int{1, 0, 2}), ell)
	checkOrbit(t, surfaceWith([]int{1, 0, 2}, []int{2, 1, 0}), ell)
	checkOrbit(t, surfaceWith([]int{2, 1, 0}, []int{0, 2, 1}), ell)
	checkOrbit(t, surfaceWith([]int{1, 2, 0, 3}, []int{3, 1, 2, 0}), []member{
		{surfaceWith([]int{0, 2, 3, 1}, []int{1, 0, 2, 3}), ""},
		{surfaceWith([]int{0, 2, 3, 1}, []int{1, 3, 0, 2}), "T"},
		{surfaceWith([]int{0, 1, 3, 2}, []int{1, 2, 0, 3}), "S"},
		{surfaceWith([]int{0, 2, 3, 1}, []int{1, 2, 3, 0}), "TT"},
		{surfaceWith([]int{1, 2, 3, 0}, []int{0, 2, 3, 1}), "TS"},
		{surfaceWith([]int{0, 1, 3, 2}, []int{1, 2, 3, 0}), "ST"},
		{surfaceWith([]int{1, 2, 3, 0}, []int{0, 3, 1, 2}), "TTS"},
		{surfaceWith([]int{1, 2, 3, 0}, []int{0, 1, 3, 2}), "TST"},
		{surfaceWith([]int{1, 2, 3, 0}, []int{1, 3, 0, 2}), "TTST"},
	})
}

func TestOrbitsOfManySurfaces(t *testing.T) {
	for _, s := range orbitSurfaces() {
		checkOrbit(t, s, orbitSlowly(s))
	}
}

func TestOrbitCases(t *testing.T) {
	for _, c := range append(orbitCases(), fullOrbitCases()...) {
		for _, names := range someNames(len(c.s.Right)) {
			s := renamedSlowly(c.s, names)
			if list, ok := impl.OrbitOf(s); len(list) != c.index || !ok {
				t.Errorf("OrbitOf(%v) = %v, %t, want %d surfaces", s, list, ok, c.index)
			}
			if got := impl.IndexOf(s); got != c.index {
				t.Errorf("IndexOf(%v) = %d, want %d", s, got, c.index)
			}
			if got, ok := impl.CuspsOf(s); !slices.Equal(got, c.cusps) || !ok {
				t.Errorf("CuspsOf(%v) = %v, %t, want %v", s, got, ok, c.cusps)
			}
		}
		if got := genusSlowly(c.s); got != c.genus {
			t.Errorf("the genus of %v is %d, want %d", c.s, got, c.genus)
		}
	}
}

func TestOrbitsWithTooManySurfaces(t *testing.T) {
	for _, c := range largeOrbits() {
		list := orbitSlowly(c.s)
		if len(list) != c.count && !(c.more && len(list) > c.count) {
			t.Fatalf("the orbit of %v has %d surfaces", c.s, len(list))
		}
		checkNoOrbit(t, c.s)
		checkNoOrbit(t, renamedSlowly(c.s, mixedUp(len(c.s.Right))))
		for i := 1; i < len(list); i += 49 {
			checkNoWord(t, c.s, list[i].form)
			checkNoWord(t, list[i].form, c.s)
		}
	}
}

// checkNoOrbit is for surfaces that are not valid or whose orbit is too large.
func checkNoOrbit(t *testing.T, s impl.Surface) {
	t.Helper()
	if list, ok := impl.OrbitOf(s); len(list) != 0 || ok {
		t.Errorf("OrbitOf(%v) = %v, %t", s, list, ok)
	}
	if got := impl.IndexOf(s); got != -1 {
		t.Errorf("IndexOf(%v) = %d", s, got)
	}
	if got, ok := impl.CuspsOf(s); len(got) != 0 || ok {
		t.Errorf("CuspsOf(%v) = %v, %t", s, got, ok)
	}
	checkNoWord(t, s, s)
	checkNoWord(t, s, surfaceWith([]int{0}, []int{0}))
	checkNoWord(t, s, surfaceWith([]int{1, 0, 2}, []int{2, 1, 0}))
	checkNoWord(t, s, impl.Surface{})
}

func checkNoWord(t *testing.T, s impl.Surface, target impl.Surface) {
	t.Helper()
	if word, ok := impl.OrbitWord(s, target); word != "" || ok {
		t.Errorf("OrbitWord(%v, %v) = %q, %t", s, target, word, ok)
	}
	if impl.SameOrbit(s, target) {
		t.Errorf("SameOrbit(%v, %v) = true", s, target)
	}
}

func TestInvalidSurfacesHaveNoOrbit(t *testing.T) {
	others := []impl.Surface{surfaceWith([]int{0}, []int{0}), ellSlowly(3, 2), torusSlowly(2, 3), fullOrbitCases()[0].s, largeOrbits()[0].s}
	for _, s := range invalidSurfaces() {
		checkNoOrbit(t, s)
		if got := impl.ShearPeriod(s); got != 0 {
			t.Errorf("ShearPeriod(%v) = %d", s, got)
		}
		for _, other := range others {
			checkNoWord(t, other, s)
			checkNoWord(t, s, other)
		}
	}
	for _, s := range invalidSurfaces() {
		for _, target := range invalidSurfaces() {
			checkNoWord(t, s, target)
		}
	}
}

func TestOrbitsOfAllShortLists(t *testing.T) {
	ell := surfaceWith([]int{1, 0, 2}, []int{2, 1, 0})
	for _, s := range shortSurfaces() {
		if !isSurfaceSlowly(s) {
			checkNoOrbit(t, s)
			checkNoWord(t, ell, s)
		}
		want := 0
		if isSurfaceSlowly(s) {
			want = periodSlowly(s)
		}
		if got := impl.ShearPeriod(s); got != want {
			t.Errorf("ShearPeriod(%v) = %d, want %d", s, got, want)
		}
	}
}

// divisor returns the greatest common divisor.
func divisor(a int, b int) int {
	for b > 0 {
		a, b = b, a%b
	}
	return a
}

// countPairs returns how many pairs of numbers from 0 up to n have no divisor
// in common with each other and n.
func countPairs(n int) int {
	count := 0
	for a := range n {
		for b := range n {
			if divisor(divisor(a, b), n) == 1 {
				count++
			}
		}
	}
	return count
}

// countUnits returns how many numbers from 0 up to n have no divisor in common
// with n.
func countUnits(n int) int {
	count := 0
	for a := range n {
		if divisor(a, n) == 1 {
			count++
		}
	}
	return count
}

// torusCusps returns the widths of the cusps of the group of matrices whose
// entry C is divisible by n.
func torusCusps(n int) []int {
	var widths []int
	for d := 1; d <= n; d++ {
		if n%d == 0 {
			width := n / divisor(d*d, n)
			widths = append(widths, slices.Repeat([]int{width}, countUnits(divisor(d, n/d)))...)
		}
	}
	slices.Sort(widths)
	slices.Reverse(widths)
	return widths
}

// TestOrbitsOfTori has the tori of all sizes: if nothing greater than 1 divides
// width and height, the orbit has one surface for each subgroup of the pairs
// of remainders that such a pair generates, and otherwise as many as for the
// torus without this divisor.
func TestOrbitsOfTori(t *testing.T) {
	for width := 1; width <= 24; width++ {
		for height := 1; width*height <= 24; height++ {
			s := torusSlowly(width, height)
			common := divisor(width, height)
			n := width * height / common / common
			if got, want := impl.IndexOf(s), countPairs(n)/countUnits(n); got != want {
				t.Errorf("IndexOf the torus of %d and %d = %d, want %d", width, height, got, want)
			}
			if got, ok := impl.CuspsOf(s); !slices.Equal(got, torusCusps(n)) || !ok {
				t.Errorf("CuspsOf the torus of %d and %d = %v, %t, want %v", width, height, got, ok, torusCusps(n))
			}
			if got := impl.ShearPeriod(s); got != width/common {
				t.Errorf("ShearPeriod of the torus of %d and %d = %d, want %d", width, height, got, width/common)
			}
			if got, want := impl.SameOrbit(s, torusSlowly(width*height, 1)), common == 1; got != want {
				t.Errorf("SameOrbit of the torus of %d and %d and that of one row = %t", width, height, got)
			}
		}
	}
}

// ellIndex returns the number of surfaces in the orbit of an L of genus 2,
// which is known: there are two orbits for each odd number of squares from 5
// on and one otherwise.
func ellIndex(arm int, leg int) int {
	n := arm + leg - 1
	if n%2 == 0 || n == 3 {
		return 3 * (n - 2) * countPairs(n) / 8
	}
	if arm%2 == 0 {
		return 3 * (n - 1) * countPairs(n) / 16
	}
	return 3 * (n - 3) * countPairs(n) / 16
}

func TestOrbitsOfElls(t *testing.T) {
	for arm := 2; arm <= 23; arm++ {
		for leg := 2; arm+leg <= 25; leg++ {
			s := ellSlowly(arm, leg)
			want := ellIndex(arm, leg)
			if want > 120 {
				want = -1
			}
			if got := impl.IndexOf(s); got != want {
				t.Errorf("IndexOf the L of %d and %d = %d, want %d", arm, leg, got, want)
			}
			if got := impl.SameOrbit(s, ellSlowly(leg, arm)); got != (want > 0) {
				t.Errorf("SameOrbit of the L of %d and %d and the one turned = %t", arm, leg, got)
			}
		}
	}
	checkNoWord(t, ellSlowly(3, 3), ellSlowly(4, 2))
	checkNoWord(t, ellSlowly(4, 2), ellSlowly(3, 3))
	checkOrbit(t, ellSlowly(2, 4), orbitSlowly(ellSlowly(2, 4)))
}

// formsWith returns the canonical forms of the surfaces with n squares.
func formsWith(n int) []impl.Surface {
	var forms []impl.Surface
	for _, s := range surfacesSlowly(n) {
		if form, _ := impl.CanonOf(s); !hasSurface(forms, form) {
			forms = append(forms, form)
		}
	}
	return forms
}

// TestOrbitsOfAllSurfacesWithFewSquares takes whole orbits away from all
// surfaces, until none is left.
func TestOrbitsOfAllSurfacesWithFewSquares(t *testing.T) {
	for n, want := range [][]int{{}, {1}, {3}, {3, 4}, {1, 4, 6, 6, 9}, {3, 6, 9, 10, 12, 15, 18, 24}} {
		var indexes []int
		left := formsWith(n)
		if len(left) != sumOf(want) {
			t.Fatalf("%d surfaces with %d squares", len(left), n)
		}
		for len(left) > 0 {
			orbit := mustOrbit(t, left[0])
			indexes = append(indexes, len(orbit))
			before := len(left)
			left = slices.DeleteFunc(left, func(s impl.Surface) bool { return hasSurface(orbit, s) })
			if before-len(left) != len(orbit) {
				t.Errorf("the orbit of %v has surfaces of other orbits, or twice, or with other numbers of squares: %v", orbit[0], orbit)
			}
		}
		if slices.Sort(indexes); !slices.Equal(indexes, want) {
			t.Errorf("the orbits of the surfaces with %d squares have %v surfaces, want %v", n, indexes, want)
		}
	}
}

// TestOrbitsAreComplete runs all letters from every surface of an orbit.
func TestOrbitsAreComplete(t *testing.T) {
	for _, s := range orbitSurfaces() {
		orbit := mustOrbit(t, s)
		if form, _ := impl.CanonOf(s); !equalSurfaces(orbit[0], form) {
			t.Errorf("the first surface of OrbitOf(%v) is %v, want %v", s, orbit[0], form)
		}
		for i, x := range orbit {
			if form, _ := impl.CanonOf(x); !equalSurfaces(x, form) || hasSurface(orbit[:i], x) {
				t.Errorf("OrbitOf(%v) has %v, which is no canonical form or is there twice", s, x)
			}
			for letter, function := range letterFunctions {
				after, _ := function(x)
				if form, _ := impl.CanonOf(after); !hasSurface(orbit, form) {
					t.Errorf("OrbitOf(%v) has %v, but not the one after %s, %v", s, x, letter, form)
				}
			}
		}
		for _, word := range longWords() {
			if after := mustRun(t, s, word); !impl.SameOrbit(s, after) {
				t.Errorf("SameOrbit(%v, %v) = false, although %q leads there", s, after, word)
			}
		}
	}
}

// checkRelated is for two surfaces of one orbit: list is that of a.
func checkRelated(t *testing.T, a impl.Surface, list []impl.Surface, b impl.Surface) {
	t.Helper()
	other := mustOrbit(t, b)
	if !equalSurfaces(other[0], formSlowly(b)) {
		t.Errorf("the first surface of OrbitOf(%v) is %v", b, other[0])
	}
	list = slices.Clone(list)
	slices.SortFunc(other, compareSurfaces)
	slices.SortFunc(list, compareSurfaces)
	if !slices.EqualFunc(list, other, equalSurfaces) {
		t.Errorf("OrbitOf(%v) and OrbitOf(%v) have different surfaces", a, b)
	}
	cusps, _ := impl.CuspsOf(a)
	if got, ok := impl.CuspsOf(b); !slices.Equal(got, cusps) || !ok {
		t.Errorf("CuspsOf(%v) = %v, %t, want %v as for %v", b, got, ok, cusps, a)
	}
	if got := impl.IndexOf(b); got != len(list) {
		t.Errorf("IndexOf(%v) = %d, want %d as for %v", b, got, len(list), a)
	}
	if !impl.SameOrbit(a, b) || !impl.SameOrbit(b, a) {
		t.Errorf("SameOrbit(%v, %v) = %t, and %t the other way", a, b, impl.SameOrbit(a, b), impl.SameOrbit(b, a))
	}
}

func TestRelatedSurfacesHaveTheSameOrbit(t *testing.T) {
	for _, c := range append(orbitCases(), fullOrbitCases()[0], fullOrbitCases()[5]) {
		list := mustOrbit(t, c.s)
		for place, i := range sample(len(list)) {
			related := list[i]
			if place%2 == 1 {
				related = renamedSlowly(related, mixedUp(len(related.Right)))
			}
			checkRelated(t, c.s, list, related)
		}
	}
}

func TestSameOrbitOfAllPairs(t *testing.T) {
	var forms []impl.Surface
	for n := range 5 {
		forms = append(forms, formsWith(n)...)
	}
	for _, a := range forms {
		orbit := orbitSlowly(a)
		for _, b := range forms {
			want := slices.ContainsFunc(orbit, func(m member) bool { return equalSurfaces(m.form, b) })
			if got := impl.SameOrbit(a, b); got != want {
				t.Errorf("SameOrbit(%v, %v) = %t", a, b, got)
			}
			if !want {
				checkNoWord(t, a, b)
			}
			if got := impl.SameOrbit(b, a); got != want {
				t.Errorf("SameOrbit(%v, %v) = %t", b, a, got)
			}
		}
	}
}

// TestSurfacesOfOtherOrbits also has pairs with the same number of squares and
// the same angles.
func TestSurfacesOfOtherOrbits(t *testing.T) {
	ell := surfaceWith([]int{1, 0, 2}, []int{2, 1, 0})
	cases := append(orbitCases(), fullOrbitCases()[:3]...)
	for i, a := range cases {
		for j, b := range cases {
			// Two of the tori, of 24 squares, are in one orbit.
			if i != j && (a.index != 48 || b.index != 48) {
				checkNoWord(t, a.s, b.s)
			}
		}
	}
	checkNoWord(t, ell, surfaceWith(circling(3, 1), counting(3)))
	checkNoWord(t, surfaceWith(circling(3, 1), counting(3)), ell)
	checkNoWord(t, torusSlowly(2, 2), torusSlowly(4, 1))
	checkNoWord(t, torusSlowly(4, 1), torusSlowly(2, 2))
	checkNoWord(t, torusSlowly(4, 6), torusSlowly(24, 1))
	checkNoWord(t, torusSlowly(23, 1), torusSlowly(24, 1))
	checkNoWord(t, torusSlowly(24, 1), torusSlowly(23, 1))
}

// TestOrbitWordToItself has the empty word for every name of the squares.
func TestOrbitWordToItself(t *testing.T) {
	for _, c := range append(orbitCases(), fullOrbitCases()[0]) {
		for _, names := range someNames(len(c.s.Right)) {
			target := renamedSlowly(c.s, names)
			for _, pair := range [][2]impl.Surface{{c.s, target}, {target, c.s}, {target, target}} {
				if word, ok := impl.OrbitWord(pair[0], pair[1]); word != "" || !ok {
					t.Errorf("OrbitWord(%v, %v) = %q, %t", pair[0], pair[1], word, ok)
				}
			}
		}
	}
}

func TestOrbitWord(t *testing.T) {
	ell := surfaceWith([]int{1, 0, 2}, []int{2, 1, 0})
	cases := []struct {
		s, target impl.Surface
		want      string
	}{
		{ell, ell, ""},
		{ell, surfaceWith([]int{1, 0, 2}, []int{1, 2, 0}), "T"},
		{ell, surfaceWith([]int{2, 0, 1}, []int{1, 0, 2}), "TS"},
		{surfaceWith([]int{2, 0, 1}, []int{1, 0, 2}), ell, "ST"},
		{surfaceWith([]int{1, 0, 2}, []int{1, 2, 0}), ell, "T"},
		{surfaceWith([]int{1, 0, 2}, []int{1, 2, 0}), surfaceWith([]int{2, 0, 1}, []int{1, 0, 2}), "S"},
		// There are no letters t and s, which would give shorter words.
		{torusSlowly(5, 1), surfaceWith(circling(5, 1), circling(5, 1)), "TS"},
		{torusSlowly(5, 1), surfaceWith(circling(5, 1), circling(5, 2)), "TTT"},
		{torusSlowly(5, 1), surfaceWith(circling(5, 1), circling(5, 3)), "TT"},
		{torusSlowly(5, 1), surfaceWith(circling(5, 1), circling(5, 4)), "T"},
		{torusSlowly(24, 1), torusSlowly(1, 24), "S"},
		{torusSlowly(6, 1), torusSlowly(2, 3), "TTTST"},
	}
	for _, c := range cases {
		if got, ok := impl.OrbitWord(c.s, c.target); got != c.want || !ok {
			t.Errorf("OrbitWord(%v, %v) = %q, %t, want %q", c.s, c.target, got, ok, c.want)
		}
	}
}

// TestOrbitWordToTheLastSurface has long words. No target is known whose word
// has more than 23 letters, so none has too many.
func TestOrbitWordToTheLastSurface(t *testing.T) {
	for _, c := range append(orbitCases(), fullOrbitCases()...) {
		list := mustOrbit(t, c.s)
		if got, ok := impl.OrbitWord(c.s, list[len(list)-1]); got != c.last || !ok {
			t.Errorf("OrbitWord(%v, %v) = %q, %t, want %q", c.s, list[len(list)-1], got, ok, c.last)
		}
	}
}

func TestWordsLeadToTheirTargets(t *testing.T) {
	for _, s := range orbitSurfaces() {
		list := mustOrbit(t, s)
		for _, i := range sample(len(list)) {
			target := list[i]
			renamed := renamedSlowly(target, mixedUp(len(target.Right)))
			word, ok := impl.OrbitWord(s, target)
			if !ok || !impl.WordOk(word) || strings.Trim(word, "TS") != "" {
				t.Fatalf("OrbitWord(%v, %v) = %q, %t", s, target, word, ok)
			}
			if after := mustRun(t, s, word); !impl.AreIsomorphic(after, target) {
				t.Errorf("OrbitWord(%v, %v) = %q, which leads to %v", s, target, word, after)
			}
			if got, ok := impl.OrbitWord(s, renamed); got != word || !ok {
				t.Errorf("OrbitWord(%v, %v) = %q, %t, want %q as for %v", s, renamed, got, ok, word, target)
			}
		}
	}
}

func TestCuspsOfManySurfaces(t *testing.T) {
	for _, s := range orbitSurfaces() {
		list := orbitSlowly(s)
		got, ok := impl.CuspsOf(s)
		if want := cuspsSlowly(list); !slices.Equal(got, want) || !ok {
			t.Errorf("CuspsOf(%v) = %v, %t, want %v", s, got, ok, want)
		}
		if sumOf(got) != impl.IndexOf(s) {
			t.Errorf("CuspsOf(%v) = %v, but the index is %d", s, got, impl.IndexOf(s))
		}
		if !slices.IsSortedFunc(got, func(a, b int) int { return b - a }) {
			t.Errorf("CuspsOf(%v) = %v is not in descending order", s, got)
		}
		for _, m := range list {
			if period := impl.ShearPeriod(m.form); !slices.Contains(got, period) {
				t.Errorf("ShearPeriod(%v) = %d, but CuspsOf(%v) = %v", m.form, period, s, got)
			}
		}
	}
}

func TestShearPeriod(t *testing.T) {
	cases := []struct {
		s    impl.Surface
		want int
	}{
		{surfaceWith([]int{0}, []int{0}), 1},
		{surfaceWith([]int{1, 0}, []int{0, 1}), 2},
		{surfaceWith([]int{0, 1}, []int{1, 0}), 1},
		{surfaceWith([]int{1, 0, 2}, []int{2, 1, 0}), 2},
		{surfaceWith([]int{1, 2, 0}, []int{0, 2, 1}), 1},
		{surfaceWith([]int{1, 2, 0, 4, 3}, []int{3, 1, 2, 0, 4}), 6},
		{surfaceWith([]int{1, 0, 3, 2}, []int{2, 3, 0, 1}), 1},
		{surfaceWith(circling(24, 1), counting(24)), 24},
		{surfaceWith(counting(24), circling(24, 1)), 1},
		{torusSlowly(8, 3), 8},
		{torusSlowly(6, 4), 3},
		{zigzag(24), 2},
		{surfaceWith([]int{1, 3, 5, 6, 2, 7, 0, 4}, []int{2, 4, 3, 7, 6, 1, 5, 0}), 1},
		// The orbits of these have too many surfaces.
		{ellSlowly(12, 13), 12},
		{ellSlowly(23, 2), 23},
		{ellSlowly(2, 23), 2},
		{unevenRows(), 840},
		{twoRows(11, 13), 143},
		{twoRows(13, 11), 143},
		{twoRows(9, 15), 45},
	}
	for _, c := range cases {
		for _, names := range someNames(len(c.s.Right))[:1+len(c.s.Right)/2%2] {
			s := renamedSlowly(c.s, names)
			if got := impl.ShearPeriod(s); got != c.want {
				t.Errorf("ShearPeriod(%v) = %d, want %d", s, got, c.want)
			}
		}
	}
}

// twoRows returns a surface with a row of a squares and one of b: above the
// first square of each lies the other row, and above the others the row itself.
func twoRows(a int, b int) impl.Surface {
	s := surfaceWith(circling(a, 1), counting(a+b))
	for _, x := range circling(b, 1) {
		s.Right = append(s.Right, a+x)
	}
	s.Up[0], s.Up[a] = a, 0
	return s
}

func TestShearPeriodOfManySurfaces(t *testing.T) {
	surfaces := append(validSurfaces(), unevenRows(), twoRows(5, 7), twoRows(8, 9))
	for n := 5; n <= 24; n++ {
		surfaces = append(surfaces, zigzag(n), surfaceWith(circling(n, 1), mixedUp(n)), surfaceWith(mixedUp(n), circling(n, 1)))
	}
	for _, s := range surfaces {
		want := periodSlowly(s)
		if got := impl.ShearPeriod(s); got != want {
			t.Errorf("ShearPeriod(%v) = %d, want %d", s, got, want)
		}
		after := letterSlowly(s, "T")
		if got := impl.ShearPeriod(after); got != want {
			t.Errorf("ShearPeriod(%v) = %d, want %d as before the shear", after, got, want)
		}
	}
}

// TestShearPeriodOfElls has the length of the row that is longer than 1: a
// shear turns what lies above it, and only one of its squares has another row
// above.
func TestShearPeriodOfElls(t *testing.T) {
	for arm := 1; arm <= 24; arm++ {
		for leg := 1; arm+leg <= 25; leg++ {
			if got := impl.ShearPeriod(ellSlowly(arm, leg)); got != arm {
				t.Errorf("ShearPeriod of the L of %d and %d = %d", arm, leg, got)
			}
		}
	}
}

// orbitCalls makes the calls of the layer with two surfaces, as Right and Up
// of each.
func orbitCalls(lists [][]int) map[string]func() [][]int {
	a, b := surfaceWith(lists[0], lists[1]), surfaceWith(lists[2], lists[3])
	return map[string]func() [][]int{
		"OrbitOf": func() [][]int {
			var all [][]int
			orbit, _ := impl.OrbitOf(a)
			for _, s := range orbit {
				all = append(all, s.Right, s.Up)
			}
			return all
		},
		"IndexOf":     func() [][]int { impl.IndexOf(a); return nil },
		"OrbitWord":   func() [][]int { impl.OrbitWord(a, b); return nil },
		"CuspsOf":     func() [][]int { widths, _ := impl.CuspsOf(a); return [][]int{widths} },
		"SameOrbit":   func() [][]int { impl.SameOrbit(a, b); return nil },
		"ShearPeriod": func() [][]int { impl.ShearPeriod(a); return nil },
	}
}

func TestOrbitsKeepTheRulesOfMemory(t *testing.T) {
	check := func(a impl.Surface, b impl.Surface) {
		checkMemory(t, [][]int{a.Right, a.Up, b.Right, b.Up}, orbitCalls)
	}
	ell := surfaceWith([]int{0, 2, 1}, []int{1, 0, 2})
	for _, c := range append(orbitCases(), fullOrbitCases()[0]) {
		check(c.s, c.s)
		check(ell, c.s)
	}
	for _, c := range largeOrbits()[:3] {
		check(c.s, ell)
	}
	for _, s := range invalidSurfaces() {
		check(s, ell)
		check(ell, s)
	}
}

// TestTheOrbitOfOneListAsRightAndUp gives the same memory twice.
func TestTheOrbitOfOneListAsRightAndUp(t *testing.T) {
	list := []int{1, 2, 0}
	s := surfaceWith(list, list)
	orbit := mustOrbit(t, s)
	spoil(orbit[0].Right, -1)
	if !slices.Equal(orbit[0].Up, []int{1, 2, 0}) || !slices.Equal(list, []int{1, 2, 0}) {
		t.Errorf("a change of Right changed Up, %v, or the argument, %v", orbit[0].Up, list)
	}
	checkOrbit(t, s, orbitSlowly(s))
	spoil(orbit, impl.Surface{})
	checkOrbit(t, s, orbitSlowly(s))
}

// TestOrbitsDoNotDependOnScheduling repeats calls, one after another and at
// the same time.
func TestOrbitsDoNotDependOnScheduling(t *testing.T) {
	for _, c := range append(orbitCases(), fullOrbitCases()...) {
		list := mustOrbit(t, c.s)
		last := list[len(list)-1]
		var calls sync.WaitGroup
		for range 4 {
			calls.Go(func() {
				for range 2 {
					if got, ok := impl.OrbitOf(c.s); !slices.EqualFunc(got, list, equalSurfaces) || !ok {
						t.Errorf("OrbitOf(%v) = %v and %v", c.s, list, got)
					}
					if got, ok := impl.OrbitWord(c.s, last); got != c.last || !ok {
						t.Errorf("OrbitWord(%v, %v) = %q and %q", c.s, last, c.last, got)
					}
					if got, ok := impl.CuspsOf(c.s); !slices.Equal(got, c.cusps) || !ok {
						t.Errorf("CuspsOf(%v) = %v and %v", c.s, c.cusps, got)
					}
				}
			})
		}
		calls.Wait()
	}
}

func callAll(s impl.Surface) {
	impl.OrbitOf(s)
	impl.IndexOf(s)
	impl.OrbitWord(s, s)
	impl.CuspsOf(s)
	impl.SameOrbit(s, impl.Surface{})
	impl.ShearPeriod(s)
}

func TestNothingGoesOnAfterACall(t *testing.T) {
	checkNothingGoesOn(t, func() {
		for _, s := range append(invalidSurfaces(), orbitSurfaces()[:50]...) {
			callAll(s)
		}
		for _, c := range largeOrbits() {
			callAll(c.s)
		}
	})
}
