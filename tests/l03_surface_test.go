package tests

import (
	"math"
	"slices"
	"testing"

	"loop.example/g00928/impl"
)

func surfaceWith(right []int, up []int) impl.Surface {
	return impl.Surface{Right: right, Up: up}
}

func isNoSurface(s impl.Surface) bool { return len(s.Right) == 0 && len(s.Up) == 0 }

func equalSurfaces(a impl.Surface, b impl.Surface) bool {
	return slices.Equal(a.Right, b.Right) && slices.Equal(a.Up, b.Up)
}

func compareSurfaces(a impl.Surface, b impl.Surface) int {
	if c := slices.Compare(a.Right, b.Right); c != 0 {
		return c
	}
	return slices.Compare(a.Up, b.Up)
}

func cloneSurface(s impl.Surface) impl.Surface {
	return surfaceWith(slices.Clone(s.Right), slices.Clone(s.Up))
}

// isSurfaceSlowly is for comparison with impl.SurfaceOk.
func isSurfaceSlowly(s impl.Surface) bool {
	return len(s.Right) == len(s.Up) && isPermSlowly(s.Right) && isPermSlowly(s.Up) && isTransitiveSlowly(s.Right, s.Up)
}

// surfacesSlowly returns all surfaces of n squares.
func surfacesSlowly(n int) []impl.Surface {
	var list []impl.Surface
	for _, right := range permsOf(n) {
		for _, up := range permsOf(n) {
			if s := surfaceWith(right, up); isSurfaceSlowly(s) {
				list = append(list, s)
			}
		}
	}
	return list
}

// zigzag returns the surface of n squares in which Right and Up swap neighbors
// in turn.
func zigzag(n int) impl.Surface {
	s := surfaceWith(counting(n), counting(n))
	for i := 0; i+1 < n; i++ {
		swapped := s.Right
		if i%2 == 1 {
			swapped = s.Up
		}
		swapped[i], swapped[i+1] = i+1, i
	}
	return s
}

// mixedUp returns a permutation of n elements without a visible order.
func mixedUp(n int) []int {
	list := counting(n)
	state := 12345
	for i := n - 1; i > 0; i-- {
		state = (state*1103515245 + 12345) % (1 << 31)
		j := state / 1000 % (i + 1)
		list[i], list[j] = list[j], list[i]
	}
	return list
}

// longSurfaces returns valid surfaces of 5 to 24 squares.
func longSurfaces() []impl.Surface {
	backwards := counting(24)
	slices.Reverse(backwards)
	return []impl.Surface{
		surfaceWith([]int{1, 2, 0, 4, 3}, []int{3, 1, 2, 0, 4}),
		surfaceWith([]int{1, 0, 3, 2, 5, 4, 6}, []int{2, 1, 4, 3, 0, 6, 5}),
		surfaceWith(counting(23), circling(23, 3)),
		surfaceWith(circling(24, 1), counting(24)),
		surfaceWith(counting(24), circling(24, 23)),
		surfaceWith(circling(24, 8), circling(24, 9)),
		surfaceWith(circling(24, 2), circling(24, 3)),
		surfaceWith(circling(24, 1), backwards),
		surfaceWith(backwards, circling(24, 5)),
		surfaceWith(circling(24, 1), mixedUp(24)),
		surfaceWith(mixedUp(24), circling(24, 7)),
		surfaceWith(circling(23, 1), mixedUp(23)),
		zigzag(24),
		zigzag(23),
	}
}

// validSurfaces returns all surfaces of at most 4 squares and some long ones.
func validSurfaces() []impl.Surface {
	var list []impl.Surface
	for n := range 5 {
		list = append(list, surfacesSlowly(n)...)
	}
	return append(list, longSurfaces()...)
}

// invalidSurfaces returns surfaces for which SurfaceOk is false.
func invalidSurfaces() []impl.Surface {
	list := []impl.Surface{
		{},
		surfaceWith([]int{}, []int{}),
		surfaceWith(nil, []int{0}),
		surfaceWith([]int{0}, nil),
		surfaceWith([]int{0}, []int{1, 0}),
		surfaceWith([]int{1, 0}, []int{0}),
		surfaceWith([]int{1, 0, 2}, []int{1, 0}),
		surfaceWith(circling(24, 1), counting(23)),
		surfaceWith(circling(23, 1), counting(24)),
		surfaceWith(circling(24, 1), counting(25)),
		surfaceWith(circling(25, 1), counting(24)),
		surfaceWith(circling(25, 1), counting(25)),
		surfaceWith(counting(25), circling(25, 1)),
		surfaceWith(circling(25, 5), circling(25, 1)),
		surfaceWith(circling(100, 1), circling(100, 1)),
		surfaceWith([]int{0, 1}, []int{0, 1}),
		surfaceWith([]int{1, 0, 2}, []int{0, 1, 2}),
		surfaceWith([]int{0, 2, 1}, []int{0, 2, 1}),
		surfaceWith([]int{0, 2, 1}, []int{0, 1, 2}),
		surfaceWith([]int{1, 0, 3, 2}, []int{1, 0, 3, 2}),
		surfaceWith(circling(24, 2), circling(24, 4)),
		surfaceWith(circling(24, 8), circling(24, 12)),
		surfaceWith(counting(24), counting(24)),
	}
	for _, bad := range someInvalid() {
		n := len(bad)
		list = append(list, surfaceWith(bad, bad), surfaceWith(bad, circling(n, 1)), surfaceWith(circling(n, 1), bad))
	}
	for n := 25; n <= 30; n++ {
		list = append(list, surfaceWith(circling(n, 1), counting(n)), surfaceWith(counting(n), circling(n, 1)), zigzag(n))
	}
	return list
}

// shortSurfaces returns the surfaces of all lists of at most 3 numbers that are
// or are almost numbers of squares; most of them are not valid.
func shortSurfaces() []impl.Surface {
	var lists [][]int
	for n := range 4 {
		lists = append(lists, listsOver(-1, n, n)...)
	}
	var surfaces []impl.Surface
	for _, right := range lists {
		for _, up := range lists {
			surfaces = append(surfaces, surfaceWith(right, up))
		}
	}
	return surfaces
}

// someNames returns permutations of n elements: all if they are few.
func someNames(n int) [][]int {
	if n <= 4 {
		return permsOf(n)
	}
	backwards := counting(n)
	slices.Reverse(backwards)
	mixed := mixedUp(n)
	return [][]int{counting(n), circling(n, 1), circling(n, n-2), backwards, mixed, impl.InversePerm(mixed)}
}

// namesSlowly looks, for each new name, through all squares that have names
// for the first neighbor without one.
func namesSlowly(s impl.Surface, square int) []int {
	order := []int{square}
	for len(order) < len(s.Right) {
		order = append(order, firstUnnamed(s, order))
	}
	names := make([]int, len(order))
	for name, x := range order {
		names[x] = name
	}
	return names
}

func firstUnnamed(s impl.Surface, order []int) int {
	for _, x := range order {
		if !slices.Contains(order, s.Right[x]) {
			return s.Right[x]
		}
		if !slices.Contains(order, s.Up[x]) {
			return s.Up[x]
		}
	}
	panic("the surface is not connected")
}

func renamedSlowly(s impl.Surface, names []int) impl.Surface {
	renamed := surfaceWith(make([]int, len(names)), make([]int, len(names)))
	for i, name := range names {
		renamed.Right[name] = names[s.Right[i]]
		renamed.Up[name] = names[s.Up[i]]
	}
	return renamed
}

// formsSlowly returns the surface with the names from each square.
func formsSlowly(s impl.Surface) []impl.Surface {
	var forms []impl.Surface
	for square := range s.Right {
		forms = append(forms, renamedSlowly(s, namesSlowly(s, square)))
	}
	return forms
}

func TestSurfaceOk(t *testing.T) {
	for _, s := range validSurfaces() {
		if !impl.SurfaceOk(s) {
			t.Errorf("SurfaceOk(%v) = false", s)
		}
	}
	for _, s := range invalidSurfaces() {
		if impl.SurfaceOk(s) {
			t.Errorf("SurfaceOk(%v) = true", s)
		}
	}
}

func TestSurfaceOkAndCountSquaresOfAllShortLists(t *testing.T) {
	for _, s := range shortSurfaces() {
		ok := isSurfaceSlowly(s)
		if got := impl.SurfaceOk(s); got != ok {
			t.Errorf("SurfaceOk(%v) = %t", s, got)
		}
		want := 0
		if ok {
			want = len(s.Right)
		}
		if got := impl.CountSquares(s); got != want {
			t.Errorf("CountSquares(%v) = %d, want %d", s, got, want)
		}
	}
}

func TestSurfaceOkOfEachNumberOfSquares(t *testing.T) {
	for n := 1; n <= 30; n++ {
		for _, s := range []impl.Surface{surfaceWith(circling(n, 1), counting(n)), surfaceWith(counting(n), circling(n, 1)), zigzag(n)} {
			want := 0
			if n <= 24 {
				want = n
			}
			if got := impl.CountSquares(s); got != want || impl.SurfaceOk(s) != (n <= 24) {
				t.Errorf("CountSquares(%v) = %d, want %d", s, got, want)
			}
		}
	}
}

func TestCountSquares(t *testing.T) {
	for _, s := range validSurfaces() {
		if got := impl.CountSquares(s); got != len(s.Right) {
			t.Errorf("CountSquares(%v) = %d", s, got)
		}
	}
	for _, s := range invalidSurfaces() {
		if got := impl.CountSquares(s); got != 0 {
			t.Errorf("CountSquares(%v) = %d", s, got)
		}
	}
}

func TestNamesFrom(t *testing.T) {
	ell := surfaceWith([]int{1, 0, 2}, []int{2, 1, 0})
	// Right and Up of 0 lead to two different squares, and Right and Up of
	// these to four different ones.
	tree := surfaceWith([]int{6, 0, 2, 4, 3, 5, 1}, []int{3, 1, 0, 2, 4, 6, 5})
	cases := []struct {
		s      impl.Surface
		square int
		want   []int
	}{
		{surfaceWith([]int{0}, []int{0}), 0, []int{0}},
		{surfaceWith([]int{1, 0}, []int{0, 1}), 1, []int{1, 0}},
		{ell, 0, []int{0, 1, 2}},
		{ell, 1, []int{1, 0, 2}},
		{ell, 2, []int{1, 2, 0}},
		{surfaceWith([]int{2, 1, 0}, []int{1, 0, 2}), 0, []int{0, 2, 1}},
		{zigzag(5), 0, []int{0, 1, 2, 3, 4}},
		{zigzag(5), 4, []int{4, 3, 2, 1, 0}},
		{tree, 0, []int{0, 3, 6, 2, 5, 4, 1}},
		{surfaceWith(circling(24, 1), counting(24)), 23, circling(24, 1)},
		{surfaceWith(counting(24), circling(24, 23)), 0, []int{0, 23, 22, 21, 20, 19, 18, 17, 16, 15, 14, 13, 12, 11, 10, 9, 8, 7, 6, 5, 4, 3, 2, 1}},
	}
	for _, c := range cases {
		if got := impl.NamesFrom(c.s, c.square); !slices.Equal(got, c.want) {
			t.Errorf("NamesFrom(%v, %d) = %v, want %v", c.s, c.square, got, c.want)
		}
	}
}

func TestNamesFromEachSquare(t *testing.T) {
	for _, s := range validSurfaces() {
		n := len(s.Right)
		for square := range n {
			want := namesSlowly(s, square)
			if got := impl.NamesFrom(s, square); !slices.Equal(got, want) {
				t.Errorf("NamesFrom(%v, %d) = %v, want %v", s, square, got, want)
			}
		}
		for _, square := range []int{-1, n, n + 1, -n, 24, 25, math.MaxInt, math.MinInt} {
			if square >= 0 && square < n {
				continue
			}
			if got := impl.NamesFrom(s, square); len(got) != 0 {
				t.Errorf("NamesFrom(%v, %d) = %v", s, square, got)
			}
		}
	}
	for _, s := range invalidSurfaces() {
		for _, square := range []int{-1, 0, 1, len(s.Right) - 1, len(s.Right)} {
			if got := impl.NamesFrom(s, square); len(got) != 0 {
				t.Errorf("NamesFrom(%v, %d) = %v", s, square, got)
			}
		}
	}
}

func TestRenameSurface(t *testing.T) {
	cases := []struct {
		s     impl.Surface
		names []int
		want  impl.Surface
	}{
		{surfaceWith([]int{0}, []int{0}), []int{0}, surfaceWith([]int{0}, []int{0})},
		{surfaceWith([]int{1, 0, 2}, []int{2, 1, 0}), []int{2, 0, 1}, surfaceWith([]int{2, 1, 0}, []int{0, 2, 1})},
		{surfaceWith([]int{1, 0, 2}, []int{2, 1, 0}), []int{1, 2, 0}, surfaceWith([]int{0, 2, 1}, []int{1, 0, 2})},
		{surfaceWith([]int{1, 2, 0, 3}, []int{3, 1, 2, 0}), []int{3, 1, 2, 0}, surfaceWith([]int{0, 2, 3, 1}, []int{3, 1, 2, 0})},
	}
	for _, c := range cases {
		if got, ok := impl.RenameSurface(c.s, c.names); !equalSurfaces(got, c.want) || !ok {
			t.Errorf("RenameSurface(%v, %v) = %v, %t, want %v", c.s, c.names, got, ok, c.want)
		}
	}
}

func TestRenameSurfaceWithManyNames(t *testing.T) {
	for _, s := range validSurfaces() {
		for _, names := range someNames(len(s.Right)) {
			got, ok := impl.RenameSurface(s, names)
			if want := renamedSlowly(s, names); !equalSurfaces(got, want) || !ok {
				t.Errorf("RenameSurface(%v, %v) = %v, %t, want %v", s, names, got, ok, want)
			}
			back, ok := impl.RenameSurface(got, impl.InversePerm(names))
			if !equalSurfaces(back, s) || !ok {
				t.Errorf("%v with the names %v and back is %v", s, names, back)
			}
		}
	}
}

func TestRenameSurfaceRefusesInvalidArguments(t *testing.T) {
	check := func(s impl.Surface, names []int) {
		if got, ok := impl.RenameSurface(s, names); !isNoSurface(got) || ok {
			t.Errorf("RenameSurface(%v, %v) = %v, %t", s, names, got, ok)
		}
	}
	for _, s := range longSurfaces() {
		for n := range 30 {
			if n != len(s.Right) {
				check(s, counting(n))
			}
		}
		for _, bad := range someInvalid() {
			check(s, bad)
		}
		for i := range s.Right {
			twice := counting(len(s.Right))
			twice[i] = (i + 1) % len(twice)
			check(s, twice)
		}
	}
	for _, n := range []int{1, 2, 3} {
		for _, s := range surfacesSlowly(n) {
			for _, names := range listsOver(-1, n, n) {
				if !isPermSlowly(names) {
					check(s, names)
				}
			}
			check(s, nil)
			check(s, counting(n-1))
			check(s, counting(n+1))
		}
	}
	for _, s := range invalidSurfaces() {
		check(s, nil)
		check(s, counting(len(s.Right)))
		check(s, counting(len(s.Up)))
	}
}

func TestCanonOf(t *testing.T) {
	cases := []struct{ s, want impl.Surface }{
		{surfaceWith([]int{0}, []int{0}), surfaceWith([]int{0}, []int{0})},
		{surfaceWith([]int{1, 0}, []int{1, 0}), surfaceWith([]int{1, 0}, []int{1, 0})},
		{surfaceWith([]int{1, 0, 2}, []int{2, 1, 0}), surfaceWith([]int{0, 2, 1}, []int{1, 0, 2})},
		// The forms with the least Right differ in Up.
		{surfaceWith([]int{1, 2, 0}, []int{2, 1, 0}), surfaceWith([]int{1, 2, 0}, []int{0, 2, 1})},
		{surfaceWith([]int{1, 0, 3, 2}, []int{2, 1, 0, 3}), surfaceWith([]int{1, 0, 3, 2}, []int{0, 2, 1, 3})},
		{surfaceWith([]int{1, 2, 3, 0}, []int{1, 0, 2, 3}), surfaceWith([]int{1, 2, 3, 0}, []int{0, 1, 3, 2})},
		// Each of these is less than all forms with names from a square.
		{surfaceWith([]int{0, 1, 3, 2}, []int{2, 3, 0, 1}), surfaceWith([]int{0, 2, 1, 3}, []int{1, 0, 3, 2})},
		{surfaceWith([]int{0, 1, 3, 2}, []int{2, 3, 1, 0}), surfaceWith([]int{0, 2, 1, 3}, []int{1, 3, 0, 2})},
		{surfaceWith([]int{1, 2, 3, 0}, []int{3, 0, 1, 2}), surfaceWith([]int{1, 3, 0, 2}, []int{2, 0, 3, 1})},
		{surfaceWith(circling(24, 5), counting(24)), surfaceWith(circling(24, 1), counting(24))},
		{surfaceWith(counting(24), circling(24, 23)), surfaceWith(counting(24), circling(24, 1))},
	}
	for _, c := range cases {
		if got, ok := impl.CanonOf(c.s); !equalSurfaces(got, c.want) || !ok {
			t.Errorf("CanonOf(%v) = %v, %t, want %v", c.s, got, ok, c.want)
		}
	}
	for _, s := range invalidSurfaces() {
		if got, ok := impl.CanonOf(s); !isNoSurface(got) || ok {
			t.Errorf("CanonOf(%v) = %v, %t", s, got, ok)
		}
	}
}

// TestCanonOfComparesRightFirst has two forms: with the names from 2, Right is
// less, and with those from 1, Up is.
func TestCanonOfComparesRightFirst(t *testing.T) {
	s := surfaceWith([]int{1, 0, 2}, []int{2, 1, 0})
	lessRight := surfaceWith([]int{0, 2, 1}, []int{1, 0, 2})
	lessUp := surfaceWith([]int{1, 0, 2}, []int{0, 2, 1})
	if got, _ := impl.RenameSurface(s, impl.NamesFrom(s, 2)); !equalSurfaces(got, lessRight) {
		t.Errorf("the names from 2 give %v", got)
	}
	if got, _ := impl.RenameSurface(s, impl.NamesFrom(s, 1)); !equalSurfaces(got, lessUp) {
		t.Errorf("the names from 1 give %v", got)
	}
	if got, _ := impl.CanonOf(s); !equalSurfaces(got, lessRight) {
		t.Errorf("CanonOf(%v) = %v", s, got)
	}
}

func TestCanonOfIsTheLeastForm(t *testing.T) {
	for _, s := range validSurfaces() {
		want := slices.MinFunc(formsSlowly(s), compareSurfaces)
		got, ok := impl.CanonOf(s)
		if !equalSurfaces(got, want) || !ok {
			t.Errorf("CanonOf(%v) = %v, %t, want %v", s, got, ok, want)
		}
		if again, ok := impl.CanonOf(got); !equalSurfaces(again, got) || !ok {
			t.Errorf("CanonOf(%v) = %v, %t, but it is a canonical form", got, again, ok)
		}
	}
}

// TestRenamingsKeepTheCanonicalForm also checks the functions that compare or
// count by it.
func TestRenamingsKeepTheCanonicalForm(t *testing.T) {
	for _, s := range validSurfaces() {
		want, _ := impl.CanonOf(s)
		symmetries := impl.CountSymmetries(s)
		for _, names := range someNames(len(s.Right)) {
			renamed := renamedSlowly(s, names)
			if got, ok := impl.CanonOf(renamed); !equalSurfaces(got, want) || !ok {
				t.Errorf("CanonOf(%v) = %v, %t, want %v as for %v", renamed, got, ok, want, s)
			}
			if got := impl.CountSymmetries(renamed); got != symmetries {
				t.Errorf("CountSymmetries(%v) = %d, want %d as for %v", renamed, got, symmetries, s)
			}
			if !impl.AreIsomorphic(s, renamed) || !impl.AreIsomorphic(renamed, s) {
				t.Errorf("AreIsomorphic(%v, %v) = false", s, renamed)
			}
		}
		if !impl.AreIsomorphic(s, want) {
			t.Errorf("AreIsomorphic(%v, %v) = false", s, want)
		}
	}
}

// leastRenaming returns the least of all renamings of a small surface: like
// the canonical form, it is the same exactly for isomorphic surfaces, but it
// is found without NamesFrom.
func leastRenaming(s impl.Surface) impl.Surface {
	var all []impl.Surface
	for _, names := range permsOf(len(s.Right)) {
		all = append(all, renamedSlowly(s, names))
	}
	return slices.MinFunc(all, compareSurfaces)
}

func TestSurfacesAreIsomorphicExactlyIfTheyHaveTheSameForm(t *testing.T) {
	for n, want := range []int{0, 1, 3, 7, 26} {
		var forms, leasts []impl.Surface
		for _, s := range surfacesSlowly(n) {
			form, _ := impl.CanonOf(s)
			least := leastRenaming(s)
			i := slices.IndexFunc(forms, func(f impl.Surface) bool { return equalSurfaces(f, form) })
			j := slices.IndexFunc(leasts, func(l impl.Surface) bool { return equalSurfaces(l, least) })
			if i != j {
				t.Fatalf("%v has the canonical form %v and the least renaming %v", s, form, least)
			}
			if i < 0 {
				forms, leasts = append(forms, form), append(leasts, least)
				i = len(forms) - 1
			}
			for k, f := range forms {
				if got := impl.AreIsomorphic(s, f); got != (k == i) {
					t.Errorf("AreIsomorphic(%v, %v) = %t", s, f, got)
				}
				if got := impl.AreIsomorphic(f, s); got != (k == i) {
					t.Errorf("AreIsomorphic(%v, %v) = %t", f, s, got)
				}
			}
		}
		if len(forms) != want {
			t.Errorf("the surfaces of %d squares have %d canonical forms, want %d", n, len(forms), want)
		}
	}
}

func TestSameSurface(t *testing.T) {
	ell := surfaceWith([]int{1, 0, 2}, []int{2, 1, 0})
	cases := []struct {
		a, b impl.Surface
		want bool
	}{
		{impl.Surface{}, impl.Surface{}, true},
		{impl.Surface{}, surfaceWith([]int{}, []int{}), true},
		{surfaceWith([]int{}, nil), surfaceWith(nil, []int{}), true},
		{impl.Surface{}, surfaceWith([]int{0}, []int{0}), false},
		{impl.Surface{}, surfaceWith([]int{0}, nil), false},
		{impl.Surface{}, surfaceWith(nil, []int{0}), false},
		{surfaceWith([]int{0}, nil), surfaceWith(nil, []int{0}), false},
		{ell, cloneSurface(ell), true},
		{ell, surfaceWith(ell.Up, ell.Right), false},
		{ell, surfaceWith(ell.Right, ell.Right), false},
		{ell, surfaceWith(ell.Up, ell.Up), false},
		{ell, surfaceWith([]int{2, 1, 0}, []int{0, 2, 1}), false},
		{ell, surfaceWith([]int{1, 0, 2}, []int{2, 1}), false},
		{ell, surfaceWith([]int{1, 0}, []int{2, 1, 0}), false},
		{surfaceWith([]int{7, -7}, []int{math.MaxInt}), surfaceWith([]int{7, -7}, []int{math.MaxInt}), true},
		{surfaceWith([]int{7, -7}, []int{math.MaxInt}), surfaceWith([]int{7, -7}, []int{math.MinInt}), false},
		{surfaceWith(counting(30), counting(40)), surfaceWith(counting(30), counting(40)), true},
		{surfaceWith(counting(30), counting(40)), surfaceWith(counting(30), counting(41)), false},
	}
	for _, c := range cases {
		if got := impl.SameSurface(c.a, c.b); got != c.want {
			t.Errorf("SameSurface(%v, %v) = %t", c.a, c.b, got)
		}
		if got := impl.SameSurface(c.b, c.a); got != c.want {
			t.Errorf("SameSurface(%v, %v) = %t", c.b, c.a, got)
		}
	}
}

func TestAreIsomorphic(t *testing.T) {
	ell := surfaceWith([]int{1, 0, 2}, []int{2, 1, 0})
	cases := []struct {
		a, b impl.Surface
		want bool
	}{
		{surfaceWith([]int{0}, []int{0}), surfaceWith([]int{0}, []int{0}), true},
		{ell, ell, true},
		{ell, surfaceWith([]int{2, 1, 0}, []int{0, 2, 1}), true},
		{ell, surfaceWith([]int{1, 2, 0}, []int{0, 2, 1}), false},
		{ell, surfaceWith([]int{0, 2, 1}, []int{1, 2, 0}), false},
		{surfaceWith([]int{1, 0}, []int{0, 1}), surfaceWith([]int{0, 1}, []int{1, 0}), false},
		{surfaceWith([]int{1, 0}, []int{0, 1}), surfaceWith([]int{1, 0}, []int{1, 0}), false},
		{surfaceWith([]int{1, 2, 0}, []int{1, 2, 0}), surfaceWith([]int{1, 2, 0}, []int{2, 0, 1}), false},
		{surfaceWith([]int{1, 2, 0}, []int{1, 2, 0}), surfaceWith([]int{2, 0, 1}, []int{2, 0, 1}), true},
		{surfaceWith(circling(24, 1), circling(24, 5)), surfaceWith(circling(24, 7), circling(24, 11)), true},
		{surfaceWith(circling(24, 1), circling(24, 5)), surfaceWith(circling(24, 5), circling(24, 7)), false},
		{surfaceWith(circling(24, 1), counting(24)), surfaceWith(circling(23, 1), counting(23)), false},
		{zigzag(24), zigzag(23), false},
		{zigzag(2), zigzag(3), false},
		{zigzag(1), zigzag(2), false},
	}
	for _, c := range cases {
		if got := impl.AreIsomorphic(c.a, c.b); got != c.want {
			t.Errorf("AreIsomorphic(%v, %v) = %t", c.a, c.b, got)
		}
		if got := impl.AreIsomorphic(c.b, c.a); got != c.want {
			t.Errorf("AreIsomorphic(%v, %v) = %t", c.b, c.a, got)
		}
	}
}

func TestAreIsomorphicNeedsTheSameNumberOfSquares(t *testing.T) {
	for n := 1; n <= 24; n++ {
		for m := 1; m <= 24; m++ {
			a, b := surfaceWith(circling(n, 1), counting(n)), surfaceWith(circling(m, m-1), counting(m))
			if got := impl.AreIsomorphic(a, b); got != (n == m) {
				t.Errorf("AreIsomorphic(%v, %v) = %t", a, b, got)
			}
		}
	}
}

func TestAreIsomorphicRefusesInvalidSurfaces(t *testing.T) {
	for _, bad := range invalidSurfaces() {
		if impl.AreIsomorphic(bad, bad) || impl.AreIsomorphic(bad, impl.Surface{}) || impl.AreIsomorphic(impl.Surface{}, bad) {
			t.Errorf("AreIsomorphic of %v and an invalid surface is true", bad)
		}
		for _, s := range append(longSurfaces(), surfaceWith([]int{0}, []int{0}), surfaceWith([]int{1, 0, 2}, []int{2, 1, 0})) {
			if impl.AreIsomorphic(s, bad) || impl.AreIsomorphic(bad, s) {
				t.Errorf("AreIsomorphic of %v and %v is true", s, bad)
			}
		}
	}
}

func TestCountSymmetries(t *testing.T) {
	cases := []struct {
		s    impl.Surface
		want int
	}{
		{surfaceWith([]int{0}, []int{0}), 1},
		{surfaceWith([]int{1, 0}, []int{0, 1}), 2},
		{surfaceWith([]int{1, 0, 2}, []int{2, 1, 0}), 1},
		{surfaceWith([]int{1, 0, 3, 2}, []int{2, 3, 0, 1}), 4},
		{surfaceWith([]int{1, 0, 3, 2}, []int{0, 2, 1, 3}), 2},
		{surfaceWith([]int{1, 0, 3, 2}, []int{0, 2, 3, 1}), 1},
		{surfaceWith([]int{1, 2, 3, 0}, []int{0, 3, 2, 1}), 2},
		{surfaceWith([]int{1, 2, 3, 0}, []int{0, 2, 3, 1}), 1},
		{surfaceWith(circling(24, 8), circling(24, 9)), 24},
		{zigzag(24), 2},
		{zigzag(23), 1},
	}
	for _, c := range cases {
		if got := impl.CountSymmetries(c.s); got != c.want {
			t.Errorf("CountSymmetries(%v) = %d, want %d", c.s, got, c.want)
		}
	}
	for _, s := range invalidSurfaces() {
		if got := impl.CountSymmetries(s); got != 0 {
			t.Errorf("CountSymmetries(%v) = %d", s, got)
		}
	}
}

func TestCountSymmetriesCountsTheFormsThatAreLeast(t *testing.T) {
	for _, s := range validSurfaces() {
		forms := formsSlowly(s)
		least := slices.MinFunc(forms, compareSurfaces)
		want := len(slices.DeleteFunc(forms, func(f impl.Surface) bool { return !equalSurfaces(f, least) }))
		if got := impl.CountSymmetries(s); got != want {
			t.Errorf("CountSymmetries(%v) = %d, want %d", s, got, want)
		}
	}
}

func TestCountSymmetriesCountsTheNamesThatChangeNothing(t *testing.T) {
	for n := 1; n <= 4; n++ {
		for _, s := range surfacesSlowly(n) {
			want := 0
			for _, names := range permsOf(n) {
				if equalSurfaces(renamedSlowly(s, names), s) {
					want++
				}
			}
			if got := impl.CountSymmetries(s); got != want {
				t.Errorf("CountSymmetries(%v) = %d, want %d", s, got, want)
			}
		}
	}
}

func TestTorusOf(t *testing.T) {
	cases := []struct {
		width, height int
		right, up     []int
	}{
		{1, 1, []int{0}, []int{0}},
		{2, 1, []int{1, 0}, []int{0, 1}},
		{1, 2, []int{0, 1}, []int{1, 0}},
		{2, 2, []int{1, 0, 3, 2}, []int{2, 3, 0, 1}},
		{3, 2, []int{1, 2, 0, 4, 5, 3}, []int{3, 4, 5, 0, 1, 2}},
		{2, 3, []int{1, 0, 3, 2, 5, 4}, []int{2, 3, 4, 5, 0, 1}},
		{24, 1, circling(24, 1), counting(24)},
		{1, 24, counting(24), circling(24, 1)},
		{4, 6, []int{1, 2, 3, 0, 5, 6, 7, 4, 9, 10, 11, 8, 13, 14, 15, 12, 17, 18, 19, 16, 21, 22, 23, 20}, circling(24, 4)},
	}
	for _, c := range cases {
		want := surfaceWith(c.right, c.up)
		if got, ok := impl.TorusOf(c.width, c.height); !equalSurfaces(got, want) || !ok {
			t.Errorf("TorusOf(%d, %d) = %v, %t, want %v", c.width, c.height, got, ok, want)
		}
	}
}

// torusSlowly finds the neighbors by the places of the squares.
func torusSlowly(width int, height int) impl.Surface {
	var s impl.Surface
	for square := range width * height {
		right, up := square+1, square+width
		if right%width == 0 {
			right -= width
		}
		if up >= width*height {
			up -= width * height
		}
		s.Right, s.Up = append(s.Right, right), append(s.Up, up)
	}
	return s
}

func TestTorusOfAllSizes(t *testing.T) {
	for width := -3; width <= 30; width++ {
		for height := -3; height <= 30; height++ {
			got, ok := impl.TorusOf(width, height)
			if width < 1 || height < 1 || width*height > 24 {
				if !isNoSurface(got) || ok {
					t.Errorf("TorusOf(%d, %d) = %v, %t", width, height, got, ok)
				}
				continue
			}
			if !equalSurfaces(got, torusSlowly(width, height)) || !ok {
				t.Errorf("TorusOf(%d, %d) = %v, %t", width, height, got, ok)
			}
			if impl.CountSquares(got) != width*height || impl.CountSymmetries(got) != width*height {
				t.Errorf("TorusOf(%d, %d) has %d squares and %d symmetries", width, height, impl.CountSquares(got), impl.CountSymmetries(got))
			}
		}
	}
}

// greatInts returns numbers whose sums or products do not fit into an int;
// the product of the third and 3 would be 2, and that of math.MaxInt and
// itself 1.
func greatInts() []int {
	return []int{math.MaxInt, math.MaxInt - 1, 6148914691236517206, 1 << 62, 1<<62 + 1, 1 << 32, 1<<32 + 1, 1 << 31, 1000000, 25}
}

func TestTorusOfGreatSizes(t *testing.T) {
	for _, great := range greatInts() {
		others := append(greatInts(), 1, 2, 3, 4, 8, 24, 0, -1, -2, -24, math.MinInt, math.MinInt+1)
		for _, other := range others {
			for _, pair := range [][2]int{{great, other}, {other, great}, {-great, other}, {other, -great}, {-great, -other}} {
				if got, ok := impl.TorusOf(pair[0], pair[1]); !isNoSurface(got) || ok {
					t.Errorf("TorusOf(%d, %d) = %v, %t", pair[0], pair[1], got, ok)
				}
			}
		}
	}
}

func TestEllOf(t *testing.T) {
	cases := []struct {
		arm, leg  int
		right, up []int
	}{
		{1, 1, []int{0}, []int{0}},
		{2, 1, []int{1, 0}, []int{0, 1}},
		{1, 2, []int{0, 1}, []int{1, 0}},
		{2, 2, []int{1, 0, 2}, []int{2, 1, 0}},
		{3, 2, []int{1, 2, 0, 3}, []int{3, 1, 2, 0}},
		{2, 3, []int{1, 0, 2, 3}, []int{2, 1, 3, 0}},
		{3, 4, []int{1, 2, 0, 3, 4, 5}, []int{3, 1, 2, 4, 5, 0}},
		{1, 4, []int{0, 1, 2, 3}, []int{1, 2, 3, 0}},
		{4, 1, []int{1, 2, 3, 0}, []int{0, 1, 2, 3}},
		{24, 1, circling(24, 1), counting(24)},
		{1, 24, counting(24), circling(24, 1)},
		{23, 2, append(circling(23, 1), 23), append(append([]int{23}, counting(23)[1:]...), 0)},
	}
	for _, c := range cases {
		want := surfaceWith(c.right, c.up)
		if got, ok := impl.EllOf(c.arm, c.leg); !equalSurfaces(got, want) || !ok {
			t.Errorf("EllOf(%d, %d) = %v, %t, want %v", c.arm, c.leg, got, ok, want)
		}
	}
}

// ellSlowly glues the squares of the row and of the column, each listed from
// its beginning.
func ellSlowly(arm int, leg int) impl.Surface {
	n := arm + leg - 1
	s := surfaceWith(counting(n), counting(n))
	row := counting(arm)
	for i, x := range row {
		s.Right[x] = row[(i+1)%len(row)]
	}
	column := append([]int{0}, counting(n)[arm:]...)
	for i, x := range column {
		s.Up[x] = column[(i+1)%len(column)]
	}
	return s
}

func TestEllOfAllSizes(t *testing.T) {
	for arm := -3; arm <= 30; arm++ {
		for leg := -3; leg <= 30; leg++ {
			got, ok := impl.EllOf(arm, leg)
			if arm < 1 || leg < 1 || arm+leg-1 > 24 {
				if !isNoSurface(got) || ok {
					t.Errorf("EllOf(%d, %d) = %v, %t", arm, leg, got, ok)
				}
				continue
			}
			if !equalSurfaces(got, ellSlowly(arm, leg)) || !ok {
				t.Errorf("EllOf(%d, %d) = %v, %t", arm, leg, got, ok)
			}
			symmetries := 1
			if arm == 1 || leg == 1 {
				symmetries = arm * leg
			}
			if impl.CountSquares(got) != arm+leg-1 || impl.CountSymmetries(got) != symmetries {
				t.Errorf("EllOf(%d, %d) has %d squares and %d symmetries", arm, leg, impl.CountSquares(got), impl.CountSymmetries(got))
			}
		}
	}
}

func TestEllOfGreatSizes(t *testing.T) {
	for _, great := range greatInts() {
		others := append(greatInts(), 1, 2, 3, 4, 8, 24, 0, -1, -2, -24, -great, 1-great, 2-great, math.MinInt, math.MinInt+1)
		for _, other := range others {
			for _, pair := range [][2]int{{great, other}, {other, great}, {-great, other}, {other, -great}, {-great, -other}} {
				if got, ok := impl.EllOf(pair[0], pair[1]); !isNoSurface(got) || ok {
					t.Errorf("EllOf(%d, %d) = %v, %t", pair[0], pair[1], got, ok)
				}
			}
		}
	}
}

// TestSurfacesDoNotDependOnTheOrderOfMaps repeats calls, since the order in
// which a map is ranged over differs from time to time.
func TestSurfacesDoNotDependOnTheOrderOfMaps(t *testing.T) {
	torus, _ := impl.TorusOf(6, 4)
	for _, s := range append(longSurfaces(), torus, surfaceWith([]int{1, 0, 3, 2}, []int{2, 1, 0, 3})) {
		form, _ := impl.CanonOf(s)
		symmetries := impl.CountSymmetries(s)
		names := impl.NamesFrom(s, 1)
		for range 50 {
			if got, _ := impl.CanonOf(s); !equalSurfaces(got, form) {
				t.Fatalf("CanonOf(%v) = %v and %v", s, form, got)
			}
			if got := impl.CountSymmetries(s); got != symmetries {
				t.Fatalf("CountSymmetries(%v) = %d and %d", s, symmetries, got)
			}
			if got := impl.NamesFrom(s, 1); !slices.Equal(got, names) {
				t.Fatalf("NamesFrom(%v, 1) = %v and %v", s, names, got)
			}
		}
	}
}

// surfaceCalls makes the calls of the layer with two surfaces, as Right and Up
// of each, and names.
func surfaceCalls(lists [][]int) map[string]func() [][]int {
	a, b, names := surfaceWith(lists[0], lists[1]), surfaceWith(lists[2], lists[3]), lists[4]
	both := func(s impl.Surface, _ bool) [][]int { return [][]int{s.Right, s.Up} }
	return map[string]func() [][]int{
		"SurfaceOk":       func() [][]int { impl.SurfaceOk(a); return nil },
		"CountSquares":    func() [][]int { impl.CountSquares(a); return nil },
		"NamesFrom":       func() [][]int { return [][]int{impl.NamesFrom(a, 0), impl.NamesFrom(a, len(names)-1)} },
		"RenameSurface":   func() [][]int { return both(impl.RenameSurface(a, names)) },
		"CanonOf":         func() [][]int { return both(impl.CanonOf(a)) },
		"SameSurface":     func() [][]int { impl.SameSurface(a, b); return nil },
		"AreIsomorphic":   func() [][]int { impl.AreIsomorphic(a, b); return nil },
		"CountSymmetries": func() [][]int { impl.CountSymmetries(a); return nil },
		"TorusOf":         func() [][]int { return both(impl.TorusOf(len(lists[0]), 1)) },
		"EllOf":           func() [][]int { return both(impl.EllOf(len(lists[0]), 1)) },
	}
}

func TestSurfacesKeepTheRulesOfMemory(t *testing.T) {
	ell := surfaceWith([]int{1, 0, 2}, []int{2, 1, 0})
	one := surfaceWith([]int{0}, []int{0})
	torus := surfaceWith(circling(24, 8), circling(24, 9))
	for _, c := range []struct {
		a, b  impl.Surface
		names []int
	}{
		{impl.Surface{}, impl.Surface{}, nil},
		{one, one, []int{0}},
		{ell, surfaceWith([]int{2, 1, 0}, []int{0, 2, 1}), []int{2, 0, 1}},
		{ell, ell, counting(3)},
		{surfaceWith([]int{0, 2, 1}, []int{1, 0, 2}), ell, counting(3)},
		{surfaceWith([]int{1, 2, 0}, []int{1, 2, 0}), surfaceWith([]int{1, 2, 0}, []int{0, 1, 2}), []int{1, 2, 0}},
		{torus, torus, counting(24)},
		{zigzag(24), torus, circling(24, 7)},
		{ell, surfaceWith([]int{0, 0}, []int{1, 0}), []int{0, 0, 1}},
		{surfaceWith([]int{0, 1}, []int{0, 1}), ell, []int{0, 1}},
		{surfaceWith(circling(25, 1), counting(25)), ell, counting(25)},
	} {
		checkMemory(t, [][]int{c.a.Right, c.a.Up, c.b.Right, c.b.Up, c.names}, surfaceCalls)
	}
}

// TestOneListAsRightAndUp gives the same memory twice: the result must still
// have two lists of its own.
func TestOneListAsRightAndUp(t *testing.T) {
	list := []int{2, 0, 1}
	s := surfaceWith(list, list)
	renamed, _ := impl.RenameSurface(s, list)
	form, _ := impl.CanonOf(s)
	for _, c := range []struct {
		got  impl.Surface
		want []int
	}{{renamed, []int{2, 0, 1}}, {form, []int{1, 2, 0}}} {
		if !equalSurfaces(c.got, surfaceWith(c.want, c.want)) {
			t.Errorf("the result is %v, want %v twice", c.got, c.want)
		}
		spoil(c.got.Right, -1)
		if !slices.Equal(c.got.Up, c.want) || !slices.Equal(list, []int{2, 0, 1}) {
			t.Errorf("a change of Right changed Up, %v, or the argument, %v", c.got.Up, list)
		}
	}
	if impl.CountSquares(s) != 3 || impl.CountSymmetries(s) != 3 || !impl.AreIsomorphic(s, s) || !impl.SameSurface(s, s) {
		t.Errorf("%v has %d squares and %d symmetries", s, impl.CountSquares(s), impl.CountSymmetries(s))
	}
}
