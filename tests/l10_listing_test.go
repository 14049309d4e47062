package tests

import (
	"math"
	"slices"
	"strings"
	"sync"
	"testing"

	"loop.example/g00928/impl"
)

// listedCase is what the chapter gives for a number of squares: the surfaces,
// their strata, and the orbits, as texts with spaces between the surfaces.
type listedCase struct {
	n        int
	surfaces string
	strata   [][]int
	orbits   []string
	tori     int
}

func listedCases() []listedCase {
	return []listedCase{
		{1, "0|0", [][]int{{}}, []string{"0|0"}, 1},
		{2, "0,1|1,0 1,0|0,1 1,0|1,0", [][]int{{}}, []string{"0,1|1,0 1,0|0,1 1,0|1,0"}, 3},
		{
			3,
			"0,1,2|1,2,0 0,2,1|1,0,2 0,2,1|1,2,0 1,2,0|0,1,2 1,2,0|0,2,1 1,2,0|1,2,0 1,2,0|2,0,1",
			[][]int{{}, {2}},
			[]string{
				"0,1,2|1,2,0 1,2,0|0,1,2 1,2,0|1,2,0 1,2,0|2,0,1",
				"0,2,1|1,0,2 0,2,1|1,2,0 1,2,0|0,2,1",
			},
			4,
		},
		{
			4,
			"0,1,2,3|1,2,3,0 0,1,3,2|1,2,0,3 0,1,3,2|1,2,3,0 0,2,1,3|1,0,3,2 0,2,1,3|1,3,0,2 " +
				"0,2,3,1|1,0,2,3 0,2,3,1|1,0,3,2 0,2,3,1|1,2,0,3 0,2,3,1|1,2,3,0 0,2,3,1|1,3,0,2 0,2,3,1|1,3,2,0 " +
				"1,0,3,2|0,2,1,3 1,0,3,2|0,2,3,1 1,0,3,2|1,2,3,0 1,0,3,2|2,3,0,1 1,0,3,2|2,3,1,0 " +
				"1,2,3,0|0,1,2,3 1,2,3,0|0,1,3,2 1,2,3,0|0,2,3,1 1,2,3,0|0,3,1,2 1,2,3,0|0,3,2,1 " +
				"1,2,3,0|1,0,3,2 1,2,3,0|1,2,3,0 1,2,3,0|1,3,0,2 1,2,3,0|2,3,0,1 1,3,0,2|2,0,3,1",
			[][]int{{}, {1, 1}, {2}},
			[]string{
				"0,1,2,3|1,2,3,0 1,0,3,2|2,3,1,0 1,2,3,0|0,1,2,3 1,2,3,0|1,2,3,0 1,2,3,0|2,3,0,1 1,3,0,2|2,0,3,1",
				"0,1,3,2|1,2,0,3 0,1,3,2|1,2,3,0 0,2,3,1|1,0,2,3 0,2,3,1|1,2,3,0 0,2,3,1|1,3,0,2 " +
					"1,2,3,0|0,1,3,2 1,2,3,0|0,2,3,1 1,2,3,0|0,3,1,2 1,2,3,0|1,3,0,2",
				"0,2,1,3|1,0,3,2 0,2,1,3|1,3,0,2 1,0,3,2|0,2,1,3 1,0,3,2|1,2,3,0 1,2,3,0|0,3,2,1 1,2,3,0|1,0,3,2",
				"0,2,3,1|1,0,3,2 0,2,3,1|1,2,0,3 0,2,3,1|1,3,2,0 1,0,3,2|0,2,3,1",
				"1,0,3,2|2,3,0,1",
			},
			7,
		},
	}
}

// unlisted returns numbers of squares for which nothing is listed. The last
// bits of some are those of 1 to 4.
func unlisted() []int {
	list := append([]int{0, 5, 6, 7, 8, 12, 23, 24, 25, 26, 100, math.MaxInt32}, greatInts()...)
	for _, n := range list {
		list = append(list, -n)
	}
	for n := 1; n <= 4; n++ {
		list = append(list, -n, 1<<8+n, 1<<16+n, 1<<32+n, math.MinInt+n)
	}
	return append(list, math.MinInt)
}

// listText also writes surfaces that are not valid.
func listText(list []impl.Surface) string {
	var texts []string
	for _, s := range list {
		texts = append(texts, listTextSlowly(s.Right)+"|"+listTextSlowly(s.Up))
	}
	return strings.Join(texts, " ")
}

func orbitTexts(orbits [][]impl.Surface) []string {
	var texts []string
	for _, o := range orbits {
		texts = append(texts, listText(o))
	}
	return texts
}

// listSlowly sorts the canonical forms of all pairs of permutations that make
// up a surface.
func listSlowly(n int) []impl.Surface {
	var forms []impl.Surface
	for _, s := range surfacesSlowly(n) {
		forms = append(forms, formSlowly(s))
	}
	slices.SortFunc(forms, compareSurfaces)
	return slices.CompactFunc(forms, equalSurfaces)
}

// ofStratum returns those of the surfaces that have it.
func ofStratum(list []impl.Surface, stratum []int) []impl.Surface {
	return slices.DeleteFunc(slices.Clone(list), func(s impl.Surface) bool { return !slices.Equal(stratumSlowly(s), stratum) })
}

// isAscending also refuses what comes twice.
func isAscending[T any](list []T, compare func(T, T) int) bool {
	for i := 1; i < len(list); i++ {
		if compare(list[i-1], list[i]) >= 0 {
			return false
		}
	}
	return true
}

func TestMaxListed(t *testing.T) {
	if impl.MaxListed != 4 {
		t.Errorf("MaxListed = %d", impl.MaxListed)
	}
}

// checkListed checks all functions of the layer for a number of squares.
func checkListed(t *testing.T, c listedCase) {
	t.Helper()
	list := impl.SurfacesWith(c.n)
	if got := listText(list); got != c.surfaces {
		t.Errorf("SurfacesWith(%d) = %s, want %s", c.n, got, c.surfaces)
	}
	if got := impl.StrataWith(c.n); !equalLists(got, c.strata) {
		t.Errorf("StrataWith(%d) = %v, want %v", c.n, got, c.strata)
	}
	for _, stratum := range c.strata {
		want := listText(ofStratum(list, stratum))
		if got := listText(impl.SurfacesIn(c.n, stratum)); got != want {
			t.Errorf("SurfacesIn(%d, %v) = %s, want %s", c.n, stratum, got, want)
		}
	}
	if got := orbitTexts(impl.OrbitsWith(c.n)); !slices.Equal(got, c.orbits) {
		t.Errorf("OrbitsWith(%d) = %q, want %q", c.n, got, c.orbits)
	}
	if got := impl.CountTori(c.n); got != c.tori {
		t.Errorf("CountTori(%d) = %d, want %d", c.n, got, c.tori)
	}
}

func TestListed(t *testing.T) {
	for _, c := range listedCases() {
		checkListed(t, c)
	}
}

func TestNumbersOfListedSurfaces(t *testing.T) {
	for n, want := range []int{0, 1, 3, 7, 26, 0} {
		if got := len(impl.SurfacesWith(n)); got != want {
			t.Errorf("SurfacesWith(%d) has %d surfaces, want %d", n, got, want)
		}
	}
	for n, want := range []int{0, 1, 1, 2, 3, 0} {
		if got := len(impl.StrataWith(n)); got != want {
			t.Errorf("StrataWith(%d) has %d strata, want %d", n, got, want)
		}
	}
	for n, want := range [][]int{{}, {1}, {3}, {4, 3}, {6, 9, 6, 4, 1}, {}} {
		var counts []int
		for _, o := range impl.OrbitsWith(n) {
			counts = append(counts, len(o))
		}
		if !slices.Equal(counts, want) {
			t.Errorf("the orbits of OrbitsWith(%d) have %v surfaces, want %v", n, counts, want)
		}
	}
}

func TestNothingElseIsListed(t *testing.T) {
	for _, n := range unlisted() {
		checkListed(t, listedCase{n: n, tori: -1})
		for _, stratum := range someStrata() {
			if got := impl.SurfacesIn(n, stratum); len(got) != 0 {
				t.Errorf("SurfacesIn(%d, %v) = %v", n, stratum, got)
			}
		}
	}
	for n := -300; n <= 300; n++ {
		if n < 1 || n > 4 {
			checkListed(t, listedCase{n: n, tori: -1})
		}
	}
}

func TestSurfacesWithHasAllForms(t *testing.T) {
	for n := range 5 {
		want := listSlowly(n)
		list := impl.SurfacesWith(n)
		if listText(list) != listText(want) {
			t.Errorf("SurfacesWith(%d) = %v, want %v", n, list, want)
		}
		for _, s := range surfacesSlowly(n) {
			if form, ok := impl.CanonOf(s); !ok || !hasSurface(list, form) {
				t.Errorf("SurfacesWith(%d) does not have the form %v of %v", n, form, s)
			}
		}
	}
}

func TestSurfacesWithAreCanonicalAndAscending(t *testing.T) {
	for n := range 5 {
		list := impl.SurfacesWith(n)
		for _, s := range list {
			if !impl.SurfaceOk(s) || impl.CountSquares(s) != n {
				t.Errorf("SurfacesWith(%d) has %v", n, s)
			}
			if form, ok := impl.CanonOf(s); !ok || !impl.SameSurface(form, s) {
				t.Errorf("SurfacesWith(%d) has %v with the form %v", n, s, form)
			}
		}
		if !isAscending(list, compareSurfaces) {
			t.Errorf("SurfacesWith(%d) = %v is not ascending", n, list)
		}
		for i, a := range list {
			for j, b := range list {
				if impl.AreIsomorphic(a, b) != (i == j) {
					t.Errorf("SurfacesWith(%d) has %v and %v", n, a, b)
				}
			}
		}
	}
}

// TestListedSurfacesMakeUpAllPairs counts the names that make a surface a
// different pair of permutations: all, over those that change nothing.
func TestListedSurfacesMakeUpAllPairs(t *testing.T) {
	for n := 1; n <= 4; n++ {
		pairs := 0
		for _, s := range impl.SurfacesWith(n) {
			pairs += len(permsOf(n)) / impl.CountSymmetries(s)
		}
		if want := len(surfacesSlowly(n)); pairs != want {
			t.Errorf("the surfaces of SurfacesWith(%d) make up %d pairs, want %d", n, pairs, want)
		}
	}
}

// wrongStrata returns lists that are the stratum of no surface with at most 4
// squares, and most of them of no surface at all.
func wrongStrata() [][]int {
	list := [][]int{
		{0}, {0, 0}, {0, 0, 0, 0}, {1}, {3}, {4}, {-1}, {-2}, {1, 1, 1, 1}, {2, 2}, {2, 1}, {1, 2}, {3, 1}, {1, 3},
		{2, 0}, {0, 2}, {1, 1, 0}, {1, 0, 1}, {0, 1, 1}, {2, 0, 0}, {1, 1, 1}, {1, 1, 2}, {2, 1, 1},
		{2, -1}, {-1, 2}, {3, -1}, {-1, 3}, {-1, -1}, {1, -1}, {1, 1, -1}, {1 << 32}, {1<<32 + 2}, {1<<32 + 1, 1<<32 + 1},
		counting(1000), make([]int, 1000), slices.Repeat([]int{1}, 1000), slices.Repeat([]int{2}, 1000),
		append([]int{2}, make([]int, 100)...), append([]int{1, 1}, make([]int, 100)...),
	}
	for _, x := range greatInts() {
		list = append(list, []int{x}, []int{-x}, []int{x, x}, []int{2, x}, []int{x, 2}, []int{1, x}, []int{x, 1}, []int{1, 1, x})
	}
	return slices.DeleteFunc(list, func(l []int) bool { return slices.Equal(l, []int{2}) || slices.Equal(l, []int{1, 1}) })
}

func someStrata() [][]int {
	return append(wrongStrata(), nil, []int{}, []int{2}, []int{1, 1})
}

func TestSurfacesIn(t *testing.T) {
	cases := []struct {
		n       int
		stratum []int
		want    string
	}{
		{1, nil, "0|0"},
		{1, []int{}, "0|0"},
		{2, nil, "0,1|1,0 1,0|0,1 1,0|1,0"},
		{2, []int{2}, ""},
		{3, nil, "0,1,2|1,2,0 1,2,0|0,1,2 1,2,0|1,2,0 1,2,0|2,0,1"},
		{3, []int{}, "0,1,2|1,2,0 1,2,0|0,1,2 1,2,0|1,2,0 1,2,0|2,0,1"},
		{3, []int{2}, "0,2,1|1,0,2 0,2,1|1,2,0 1,2,0|0,2,1"},
		{3, []int{1, 1}, ""},
		{4, nil, "0,1,2,3|1,2,3,0 1,0,3,2|2,3,0,1 1,0,3,2|2,3,1,0 1,2,3,0|0,1,2,3 1,2,3,0|1,2,3,0 1,2,3,0|2,3,0,1 1,3,0,2|2,0,3,1"},
		{4, []int{2}, "0,1,3,2|1,2,0,3 0,1,3,2|1,2,3,0 0,2,3,1|1,0,2,3 0,2,3,1|1,2,3,0 0,2,3,1|1,3,0,2 " +
			"1,2,3,0|0,1,3,2 1,2,3,0|0,2,3,1 1,2,3,0|0,3,1,2 1,2,3,0|1,3,0,2"},
		{4, []int{1, 1}, "0,2,1,3|1,0,3,2 0,2,1,3|1,3,0,2 0,2,3,1|1,0,3,2 0,2,3,1|1,2,0,3 0,2,3,1|1,3,2,0 " +
			"1,0,3,2|0,2,1,3 1,0,3,2|0,2,3,1 1,0,3,2|1,2,3,0 1,2,3,0|0,3,2,1 1,2,3,0|1,0,3,2"},
		{4, []int{1}, ""},
		{4, []int{2, 0}, ""},
		{5, nil, ""},
		{5, []int{2}, ""},
		{0, nil, ""},
		{-1, []int{}, ""},
	}
	for _, c := range cases {
		if got := listText(impl.SurfacesIn(c.n, c.stratum)); got != c.want {
			t.Errorf("SurfacesIn(%d, %v) = %s, want %s", c.n, c.stratum, got, c.want)
		}
	}
}

func TestSurfacesInOfManyStrata(t *testing.T) {
	strata := someStrata()
	for length := range 4 {
		strata = append(strata, listsOver(-1, 4, length)...)
	}
	for n := range 5 {
		list := listSlowly(n)
		for _, stratum := range strata {
			want := listText(ofStratum(list, stratum))
			if got := listText(impl.SurfacesIn(n, stratum)); got != want {
				t.Errorf("SurfacesIn(%d, %v) = %s, want %s", n, stratum, got, want)
			}
		}
	}
}

func TestNoSurfacesInWrongStrata(t *testing.T) {
	for n := -1; n <= 6; n++ {
		for _, stratum := range wrongStrata() {
			if got := impl.SurfacesIn(n, stratum); len(got) != 0 {
				t.Errorf("SurfacesIn(%d, %v) = %v", n, stratum, got)
			}
		}
	}
}

func TestStrataAreAscendingAndThoseOfTheSurfaces(t *testing.T) {
	for n := 1; n <= 4; n++ {
		strata := impl.StrataWith(n)
		if !isAscending(strata, slices.Compare[[]int]) {
			t.Errorf("StrataWith(%d) = %v is not ascending", n, strata)
		}
		var met [][]int
		for _, s := range listSlowly(n) {
			met = append(met, stratumSlowly(s))
		}
		slices.SortFunc(met, slices.Compare)
		if want := slices.CompactFunc(met, slices.Equal); !equalLists(strata, want) {
			t.Errorf("StrataWith(%d) = %v, want %v", n, strata, want)
		}
	}
}

// TestStrataShareOutTheSurfaces puts each surface into the list of its own
// stratum, and all lists together.
func TestStrataShareOutTheSurfaces(t *testing.T) {
	for n := 1; n <= 4; n++ {
		var all []impl.Surface
		for _, stratum := range impl.StrataWith(n) {
			list := impl.SurfacesIn(n, stratum)
			if len(list) == 0 || !isAscending(list, compareSurfaces) {
				t.Errorf("SurfacesIn(%d, %v) = %v", n, stratum, list)
			}
			for _, s := range list {
				if got := impl.StratumOf(s); !slices.Equal(got, stratum) {
					t.Errorf("SurfacesIn(%d, %v) has %v of the stratum %v", n, stratum, s, got)
				}
			}
			all = append(all, list...)
		}
		slices.SortFunc(all, compareSurfaces)
		if want := impl.SurfacesWith(n); listText(all) != listText(want) {
			t.Errorf("the strata with %d squares have %v, want %v", n, all, want)
		}
		for _, s := range surfacesSlowly(n) {
			form, _ := impl.CanonOf(s)
			if !hasSurface(impl.SurfacesIn(n, impl.StratumOf(s)), form) {
				t.Errorf("SurfacesIn(%d, ..) does not have the form %v of %v", n, form, s)
			}
		}
	}
}

// sortedForms returns the surfaces of an orbit in ascending order.
func sortedForms(orbit []member) []impl.Surface {
	var forms []impl.Surface
	for _, m := range orbit {
		forms = append(forms, m.form)
	}
	slices.SortFunc(forms, compareSurfaces)
	return forms
}

// orbitsSlowly takes the orbit of the first surface away from all, as long as
// one is left.
func orbitsSlowly(n int) [][]impl.Surface {
	var orbits [][]impl.Surface
	left := listSlowly(n)
	for len(left) > 0 {
		orbit := sortedForms(orbitSlowly(left[0]))
		orbits = append(orbits, orbit)
		left = slices.DeleteFunc(left, func(s impl.Surface) bool { return hasSurface(orbit, s) })
	}
	return orbits
}

func TestOrbitsShareOutTheSurfaces(t *testing.T) {
	for n := 1; n <= 4; n++ {
		orbits := impl.OrbitsWith(n)
		if want := orbitsSlowly(n); !slices.Equal(orbitTexts(orbits), orbitTexts(want)) {
			t.Errorf("OrbitsWith(%d) = %v, want %v", n, orbits, want)
		}
		if !isAscending(orbits, func(a []impl.Surface, b []impl.Surface) int { return compareSurfaces(a[0], b[0]) }) {
			t.Errorf("the orbits of OrbitsWith(%d) = %v are not in the order of their first surfaces", n, orbits)
		}
		all := slices.Concat(orbits...)
		slices.SortFunc(all, compareSurfaces)
		if want := impl.SurfacesWith(n); listText(all) != listText(want) {
			t.Errorf("the orbits with %d squares have %v, want %v", n, all, want)
		}
	}
}

func TestListedOrbitsAreThoseOfEachSurface(t *testing.T) {
	for n := 1; n <= 4; n++ {
		for _, orbit := range impl.OrbitsWith(n) {
			if !isAscending(orbit, compareSurfaces) {
				t.Errorf("OrbitsWith(%d) has %v, which is not ascending", n, orbit)
			}
			for _, s := range orbit {
				want := mustOrbit(t, s)
				slices.SortFunc(want, compareSurfaces)
				if listText(orbit) != listText(want) {
					t.Errorf("OrbitsWith(%d) has %v, but the orbit of %v is %v", n, orbit, s, want)
				}
				if !slices.Equal(impl.StratumOf(s), impl.StratumOf(orbit[0])) {
					t.Errorf("OrbitsWith(%d) has %v and %v of different strata in one orbit", n, s, orbit[0])
				}
				for _, word := range []string{"T", "t", "S", "s", "sTS"} {
					form, _ := impl.CanonOf(mustRun(t, s, word))
					if !hasSurface(orbit, form) {
						t.Errorf("OrbitsWith(%d) has an orbit without %v, which is %v after %s", n, form, s, word)
					}
				}
			}
		}
	}
}

func TestListedSurfacesAreInOneOrbitEach(t *testing.T) {
	for n := 1; n <= 4; n++ {
		orbits := impl.OrbitsWith(n)
		for i, a := range orbits {
			for j, b := range orbits {
				if impl.SameOrbit(a[len(a)-1], b[0]) != (i == j) {
					t.Errorf("OrbitsWith(%d) has %v and %v", n, a, b)
				}
			}
		}
		for _, s := range surfacesSlowly(n) {
			form, _ := impl.CanonOf(s)
			in := 0
			for _, orbit := range orbits {
				if hasSurface(orbit, form) {
					in++
				}
			}
			if in != 1 {
				t.Errorf("the form %v of %v is in %d of the orbits of OrbitsWith(%d)", form, s, in, n)
			}
		}
	}
}

func TestCountToriIsTheSumOfTheDivisors(t *testing.T) {
	for n := 1; n <= 4; n++ {
		divisors := 0
		for d := 1; d <= n; d++ {
			if n%d == 0 {
				divisors += d
			}
		}
		flat := 0
		for _, s := range impl.SurfacesWith(n) {
			if genusSlowly(s) == 1 {
				flat++
			}
		}
		if got := impl.CountTori(n); got != divisors || got != flat || got != len(impl.SurfacesIn(n, nil)) {
			t.Errorf("CountTori(%d) = %d, but %d is the sum of the divisors, and %d surfaces have genus 1", n, got, divisors, flat)
		}
	}
}

// TestListedTori glues the upper row to the lower one with every shift: this
// makes each torus once.
func TestListedTori(t *testing.T) {
	for n := 1; n <= 4; n++ {
		var tori []impl.Surface
		for width := 1; width <= n; width++ {
			if n%width != 0 {
				continue
			}
			for shift := range width {
				s := torusSlowly(width, n/width)
				for x := range width {
					s.Up[n-width+x] = (x + shift) % width
				}
				tori = append(tori, formSlowly(s))
			}
		}
		slices.SortFunc(tori, compareSurfaces)
		if got := impl.SurfacesIn(n, nil); listText(got) != listText(tori) {
			t.Errorf("SurfacesIn(%d, nil) = %v, want %v", n, got, tori)
		}
	}
}

// surfaceLists gives Right and Up of each surface.
func surfaceLists(list []impl.Surface) [][]int {
	var lists [][]int
	for _, s := range list {
		lists = append(lists, s.Right, s.Up)
	}
	return lists
}

// listingCalls makes the calls of the layer; only SurfacesIn has a list as its
// argument.
func listingCalls(lists [][]int) map[string]func() [][]int {
	stratum := lists[0]
	calls := map[string]func() [][]int{}
	for n := -1; n <= 5; n++ {
		name := " " + impl.FormatInt(n)
		calls["SurfacesWith"+name] = func() [][]int { return surfaceLists(impl.SurfacesWith(n)) }
		calls["SurfacesIn"+name] = func() [][]int { return surfaceLists(impl.SurfacesIn(n, stratum)) }
		calls["StrataWith"+name] = func() [][]int { return impl.StrataWith(n) }
		calls["OrbitsWith"+name] = func() [][]int { return surfaceLists(slices.Concat(impl.OrbitsWith(n)...)) }
		calls["CountTori"+name] = func() [][]int { impl.CountTori(n); return nil }
	}
	return calls
}

func TestListingsKeepTheRulesOfMemory(t *testing.T) {
	for _, stratum := range [][]int{nil, {2}, {1, 1}, {0}, {1, 2}, {-1}, counting(100)} {
		checkMemory(t, [][]int{stratum}, listingCalls)
	}
}

// TestListsOfSurfacesAreIndependent changes whole surfaces, strata and orbits,
// and the room behind them.
func TestListsOfSurfacesAreIndependent(t *testing.T) {
	for _, c := range listedCases() {
		lists := [][]impl.Surface{impl.SurfacesWith(c.n), impl.SurfacesWith(c.n), impl.SurfacesIn(c.n, nil), impl.SurfacesIn(c.n, nil)}
		lists = append(lists, slices.Concat(impl.OrbitsWith(c.n), impl.OrbitsWith(c.n))...)
		texts := orbitTexts(lists)
		for i, list := range lists {
			spoil(list, surfaceWith([]int{-1}, nil))
			if got := orbitTexts(lists[i+1:]); !slices.Equal(got, texts[i+1:]) {
				t.Errorf("two lists of surfaces with %d squares share memory", c.n)
			}
		}
		strata, orbits := impl.StrataWith(c.n), impl.OrbitsWith(c.n)
		spoil(impl.StrataWith(c.n), []int{-1})
		spoil(impl.OrbitsWith(c.n), nil)
		if !equalLists(strata, c.strata) || !slices.Equal(orbitTexts(orbits), c.orbits) {
			t.Errorf("two lists of strata or of orbits with %d squares share memory", c.n)
		}
		checkListed(t, c)
	}
}

// TestListingsAreTheSameAtEveryRun repeats calls, also at the same time and
// with one list.
func TestListingsAreTheSameAtEveryRun(t *testing.T) {
	stratum := []int{1, 1}
	var calls sync.WaitGroup
	for range 8 {
		calls.Go(func() {
			for range 3 {
				for _, c := range listedCases() {
					checkListed(t, c)
				}
				if got := impl.SurfacesIn(4, stratum); len(got) != 10 {
					t.Errorf("SurfacesIn(4, %v) = %v", stratum, got)
				}
			}
		})
	}
	calls.Wait()
}

func TestNothingGoesOnAfterListings(t *testing.T) {
	checkNothingGoesOn(t, func() {
		for _, c := range listedCases() {
			checkListed(t, c)
		}
	})
}
