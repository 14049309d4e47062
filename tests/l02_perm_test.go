package tests

import (
	"math"
	"slices"
	"testing"

	"loop.example/g00928/impl"
)

// someInvalid returns lists that are no permutations of at most 24 elements.
func someInvalid() [][]int {
	twiceLate := counting(24)
	twiceLate[23] = 22
	return [][]int{
		{1}, {-1}, {2}, {0, 0}, {1, 1}, {0, 2}, {2, 0}, {-1, 0}, {0, -1},
		{0, 1, 3}, {3, 0, 1}, {0, 1, 1}, {1, 0, 0, 1}, {1, 2, 3}, {0, 1, 24},
		{math.MaxInt}, {math.MinInt}, {0, math.MaxInt}, {math.MinInt, 1},
		twiceLate, append(counting(23), 24), append(counting(23), -1),
		counting(25), circling(25, 1), counting(100), make([]int, 24), make([]int, 25),
	}
}

// someLong returns permutations of 23 and 24 elements.
func someLong() [][]int {
	backwards := counting(24)
	slices.Reverse(backwards)
	mixed := make([]int, 24)
	for i := range mixed {
		mixed[i] = (i*7 + 5) % 24
	}
	return [][]int{
		counting(23), circling(23, 5), counting(24), circling(24, 1), circling(24, 23), circling(24, 9), backwards, mixed,
	}
}

// someValid returns all permutations of at most 4 elements and some long ones.
func someValid() [][]int {
	list := [][]int{nil}
	for n := range 5 {
		list = append(list, permsOf(n)...)
	}
	return append(list, someLong()...)
}

func TestMaxSquares(t *testing.T) {
	if impl.MaxSquares != 24 {
		t.Errorf("MaxSquares = %d", impl.MaxSquares)
	}
}

func TestPermOk(t *testing.T) {
	for _, p := range someValid() {
		if !impl.PermOk(p) {
			t.Errorf("PermOk(%v) = false", p)
		}
	}
	for _, p := range someInvalid() {
		if impl.PermOk(p) {
			t.Errorf("PermOk(%v) = true", p)
		}
	}
}

func TestPermOkOfAllShortLists(t *testing.T) {
	for n := range 5 {
		for _, p := range listsOver(-1, n+1, n) {
			if got := impl.PermOk(p); got != isPermSlowly(p) {
				t.Errorf("PermOk(%v) = %t", p, got)
			}
		}
	}
}

func TestPermOkOfEachLength(t *testing.T) {
	for n := range 60 {
		if got := impl.PermOk(counting(n)); got != (n <= 24) {
			t.Errorf("PermOk of %d elements = %t", n, got)
		}
	}
}

func TestPermOkSeesAWrongElementAnywhere(t *testing.T) {
	for n := 1; n <= 24; n++ {
		for i := range n {
			for _, wrong := range []int{-1, n, (i + 1) % n, n + 1, math.MaxInt, math.MinInt} {
				p := counting(n)
				p[i] = wrong
				if want := wrong == i; impl.PermOk(p) != want {
					t.Errorf("PermOk(%v) = %t", p, !want)
				}
			}
		}
	}
}

func TestIdentityPerm(t *testing.T) {
	for n := range 25 {
		if got := impl.IdentityPerm(n); !slices.Equal(got, counting(n)) {
			t.Errorf("IdentityPerm(%d) = %v", n, got)
		}
	}
	for _, n := range []int{-1, -2, -24, 25, 26, 1000, math.MaxInt, math.MinInt} {
		if got := impl.IdentityPerm(n); len(got) != 0 {
			t.Errorf("IdentityPerm(%d) = %v", n, got)
		}
	}
}

func TestInversePerm(t *testing.T) {
	cases := []struct{ p, want []int }{
		{nil, nil},
		{[]int{}, nil},
		{[]int{0}, []int{0}},
		{[]int{1, 0}, []int{1, 0}},
		{[]int{1, 2, 0}, []int{2, 0, 1}},
		{[]int{1, 2, 0, 3}, []int{2, 0, 1, 3}},
		{[]int{4, 2, 0, 1, 3}, []int{2, 3, 1, 4, 0}},
		{circling(24, 5), circling(24, 19)},
	}
	for _, c := range cases {
		if got := impl.InversePerm(c.p); !slices.Equal(got, c.want) {
			t.Errorf("InversePerm(%v) = %v, want %v", c.p, got, c.want)
		}
	}
	for _, p := range someInvalid() {
		if got := impl.InversePerm(p); len(got) != 0 {
			t.Errorf("InversePerm(%v) = %v", p, got)
		}
	}
}

func TestInversePermLeadsBackBothWays(t *testing.T) {
	for _, p := range someValid() {
		back := impl.InversePerm(p)
		if !impl.PermOk(back) || len(back) != len(p) {
			t.Fatalf("InversePerm(%v) = %v", p, back)
		}
		for i, x := range p {
			if back[x] != i || p[back[i]] != i {
				t.Errorf("InversePerm(%v) = %v", p, back)
			}
		}
		same := impl.IdentityPerm(len(p))
		if got := impl.ThenPerm(p, back); !slices.Equal(got, same) {
			t.Errorf("%v and then its inverse is %v", p, got)
		}
		if got := impl.ThenPerm(back, p); !slices.Equal(got, same) {
			t.Errorf("%v after its inverse is %v", p, got)
		}
		if got := impl.InversePerm(back); !slices.Equal(got, p) {
			t.Errorf("the inverse of the inverse of %v is %v", p, got)
		}
	}
}

func TestThenPerm(t *testing.T) {
	cases := []struct{ p, q, want []int }{
		{nil, nil, nil},
		{nil, []int{}, nil},
		{[]int{0}, []int{0}, []int{0}},
		{[]int{1, 2, 0, 3}, []int{3, 1, 2, 0}, []int{1, 2, 3, 0}},
		{[]int{3, 1, 2, 0}, []int{1, 2, 0, 3}, []int{3, 2, 0, 1}},
		{[]int{1, 0, 2}, []int{0, 2, 1}, []int{2, 0, 1}},
		{[]int{0, 2, 1}, []int{1, 0, 2}, []int{1, 2, 0}},
		{circling(24, 20), circling(24, 7), circling(24, 3)},
	}
	for _, c := range cases {
		if got := impl.ThenPerm(c.p, c.q); !slices.Equal(got, c.want) {
			t.Errorf("ThenPerm(%v, %v) = %v, want %v", c.p, c.q, got, c.want)
		}
	}
}

// checkPairs calls check with all pairs of permutations of the same length, up
// to 4 elements, and with pairs of 24 elements.
func checkPairs(check func(p []int, q []int)) {
	for _, p := range someValid() {
		for _, q := range someValid() {
			if len(p) == len(q) {
				check(p, q)
			}
		}
	}
}

func TestThenPermIsFirstPThenQ(t *testing.T) {
	checkPairs(func(p []int, q []int) {
		both := impl.ThenPerm(p, q)
		if len(both) != len(p) {
			t.Fatalf("ThenPerm(%v, %v) = %v", p, q, both)
		}
		for i := range both {
			if both[i] != q[p[i]] {
				t.Errorf("ThenPerm(%v, %v) = %v", p, q, both)
			}
		}
	})
}

func TestPermsFormAGroup(t *testing.T) {
	checkPairs(func(p []int, q []int) {
		both := impl.ThenPerm(p, q)
		if !impl.PermOk(both) {
			t.Errorf("ThenPerm(%v, %v) = %v", p, q, both)
		}
		same := impl.IdentityPerm(len(p))
		if !slices.Equal(impl.ThenPerm(p, same), p) || !slices.Equal(impl.ThenPerm(same, p), p) {
			t.Errorf("the identity changes %v", p)
		}
		back := impl.ThenPerm(impl.InversePerm(q), impl.InversePerm(p))
		if got := impl.InversePerm(both); !slices.Equal(got, back) {
			t.Errorf("the inverse of ThenPerm(%v, %v) is %v", p, q, got)
		}
	})
	for _, p := range permsOf(4) {
		for _, q := range permsOf(4) {
			for _, r := range permsOf(4) {
				left := impl.ThenPerm(impl.ThenPerm(p, q), r)
				right := impl.ThenPerm(p, impl.ThenPerm(q, r))
				if !slices.Equal(left, right) {
					t.Errorf("%v, %v and %v give %v and %v", p, q, r, left, right)
				}
			}
		}
	}
}

// checkRefused calls check with pairs of lists of which one or both are
// invalid, or the lengths differ.
func checkRefused(check func(p []int, q []int)) {
	for _, bad := range someInvalid() {
		check(bad, bad)
		for _, p := range [][]int{nil, {0}, {1, 0}, counting(len(bad)), circling(len(bad), 1)} {
			check(p, bad)
			check(bad, p)
		}
	}
	for n := range 27 {
		for m := range 27 {
			if n != m {
				check(counting(n), counting(m))
				check(circling(n, 1), circling(m, 1))
			}
		}
	}
}

func TestThenPermRefusesInvalidPairs(t *testing.T) {
	checkRefused(func(p []int, q []int) {
		if got := impl.ThenPerm(p, q); len(got) != 0 {
			t.Errorf("ThenPerm(%v, %v) = %v", p, q, got)
		}
	})
}

func TestCyclesOf(t *testing.T) {
	cases := []struct {
		p    []int
		want [][]int
	}{
		{nil, nil},
		{[]int{}, nil},
		{[]int{0}, [][]int{{0}}},
		{[]int{0, 1, 2}, [][]int{{0}, {1}, {2}}},
		{[]int{1, 0}, [][]int{{0, 1}}},
		{[]int{1, 2, 0, 3}, [][]int{{0, 1, 2}, {3}}},
		{[]int{2, 0, 1, 3}, [][]int{{0, 2, 1}, {3}}},
		{[]int{0, 3, 4, 1, 2}, [][]int{{0}, {1, 3}, {2, 4}}},
		{[]int{5, 4, 3, 2, 1, 0}, [][]int{{0, 5}, {1, 4}, {2, 3}}},
		{[]int{3, 1, 5, 4, 0, 2}, [][]int{{0, 3, 4}, {1}, {2, 5}}},
		{circling(24, 1), [][]int{counting(24)}},
		{circling(24, 8), [][]int{{0, 8, 16}, {1, 9, 17}, {2, 10, 18}, {3, 11, 19}, {4, 12, 20}, {5, 13, 21}, {6, 14, 22}, {7, 15, 23}}},
	}
	for _, c := range cases {
		if got := impl.CyclesOf(c.p); !slices.EqualFunc(got, c.want, slices.Equal) {
			t.Errorf("CyclesOf(%v) = %v, want %v", c.p, got, c.want)
		}
	}
	for _, p := range someInvalid() {
		if got := impl.CyclesOf(p); len(got) != 0 {
			t.Errorf("CyclesOf(%v) = %v", p, got)
		}
	}
}

func TestCyclesOfTheIdentityAndOfOneLongCycle(t *testing.T) {
	for n := 1; n <= 24; n++ {
		cycles := impl.CyclesOf(counting(n))
		if len(cycles) != n {
			t.Errorf("the identity of %d elements has %d cycles", n, len(cycles))
		}
		for i, cycle := range cycles {
			if !slices.Equal(cycle, []int{i}) {
				t.Errorf("the identity of %d elements has the cycle %v", n, cycle)
			}
		}
		cycles = impl.CyclesOf(circling(n, n-1))
		if len(cycles) != 1 || len(cycles[0]) != n {
			t.Fatalf("the cycle of %d elements has the cycles %v", n, cycles)
		}
		for i, x := range cycles[0] {
			if x != (n-i)%n {
				t.Errorf("the cycle of %d elements is %v", n, cycles[0])
			}
		}
	}
}

func TestCyclesFollowThePermAndComeInOrder(t *testing.T) {
	for _, p := range someValid() {
		var met []int
		last := -1
		for _, cycle := range impl.CyclesOf(p) {
			if len(cycle) == 0 || cycle[0] != slices.Min(cycle) || cycle[0] <= last {
				t.Fatalf("%v has the cycle %v after that of %d", p, cycle, last)
			}
			last = cycle[0]
			for i, x := range cycle {
				if p[x] != cycle[(i+1)%len(cycle)] {
					t.Errorf("%v has the cycle %v", p, cycle)
				}
			}
			met = append(met, cycle...)
		}
		slices.Sort(met)
		if !slices.Equal(met, counting(len(p))) {
			t.Errorf("the cycles of %v have the elements %v", p, met)
		}
	}
}

func TestRenamePerm(t *testing.T) {
	cases := []struct{ p, names, want []int }{
		{nil, nil, nil},
		{[]int{}, nil, nil},
		{[]int{0}, []int{0}, []int{0}},
		{[]int{1, 0, 2}, []int{2, 1, 0}, []int{0, 2, 1}},
		{[]int{1, 0, 2}, []int{1, 2, 0}, []int{0, 2, 1}},
		{[]int{1, 0, 2}, []int{2, 0, 1}, []int{2, 1, 0}},
		{[]int{1, 2, 0, 3}, []int{3, 1, 2, 0}, []int{0, 2, 3, 1}},
		{[]int{1, 2, 3, 0}, []int{1, 2, 0, 3}, []int{3, 2, 0, 1}},
		{circling(24, 5), circling(24, 7), circling(24, 5)},
	}
	for _, c := range cases {
		if got := impl.RenamePerm(c.p, c.names); !slices.Equal(got, c.want) {
			t.Errorf("RenamePerm(%v, %v) = %v, want %v", c.p, c.names, got, c.want)
		}
	}
	checkRefused(func(p []int, names []int) {
		if got := impl.RenamePerm(p, names); len(got) != 0 {
			t.Errorf("RenamePerm(%v, %v) = %v", p, names, got)
		}
	})
}

// cycleLengths returns the lengths of the cycles in ascending order.
func cycleLengths(p []int) []int {
	var lengths []int
	for _, cycle := range impl.CyclesOf(p) {
		lengths = append(lengths, len(cycle))
	}
	slices.Sort(lengths)
	return lengths
}

func TestRenamePermKeepsWhatNamesDoNotChange(t *testing.T) {
	checkPairs(func(p []int, names []int) {
		renamed := impl.RenamePerm(p, names)
		if !impl.PermOk(renamed) || len(renamed) != len(p) {
			t.Fatalf("RenamePerm(%v, %v) = %v", p, names, renamed)
		}
		for i := range p {
			if renamed[names[i]] != names[p[i]] {
				t.Errorf("RenamePerm(%v, %v) = %v", p, names, renamed)
			}
		}
		if got, want := cycleLengths(renamed), cycleLengths(p); !slices.Equal(got, want) {
			t.Errorf("RenamePerm(%v, %v) has cycles of the lengths %v, not %v", p, names, got, want)
		}
		if got := impl.RenamePerm(renamed, impl.InversePerm(names)); !slices.Equal(got, p) {
			t.Errorf("%v with the names %v and back is %v", p, names, got)
		}
		if got := impl.RenamePerm(p, counting(len(p))); !slices.Equal(got, p) {
			t.Errorf("%v with its own names is %v", p, got)
		}
	})
}

func TestIsTransitive(t *testing.T) {
	cases := []struct {
		p, q []int
		want bool
	}{
		{nil, nil, false},
		{[]int{}, nil, false},
		{[]int{}, []int{}, false},
		{[]int{0}, []int{0}, true},
		{[]int{0, 1}, []int{0, 1}, false},
		{[]int{1, 0}, []int{0, 1}, true},
		{[]int{0, 1}, []int{1, 0}, true},
		{[]int{1, 0, 2}, []int{2, 1, 0}, true},
		{[]int{1, 0, 2}, []int{0, 1, 2}, false},
		{[]int{0, 2, 1}, []int{0, 2, 1}, false},
		{[]int{0, 2, 1}, []int{1, 0, 2}, true},
		{[]int{1, 0, 3, 2}, []int{1, 0, 3, 2}, false},
		{[]int{1, 0, 3, 2}, []int{0, 2, 1, 3}, true},
		{[]int{1, 0, 3, 2, 4}, []int{0, 2, 1, 3, 4}, false},
		{[]int{1, 0, 3, 2, 5, 4}, []int{0, 2, 1, 4, 3, 5}, true},
		{counting(24), counting(24), false},
		{circling(24, 1), counting(24), true},
		{counting(24), circling(24, 23), true},
		{circling(24, 2), circling(24, 4), false},
		{circling(24, 2), circling(24, 3), true},
		{circling(24, 8), circling(24, 9), true},
		{circling(24, 8), circling(24, 12), false},
		{counting(25), circling(25, 1), false},
		{circling(25, 1), circling(25, 1), false},
	}
	for _, c := range cases {
		if got := impl.IsTransitive(c.p, c.q); got != c.want {
			t.Errorf("IsTransitive(%v, %v) = %t", c.p, c.q, got)
		}
	}
	checkRefused(func(p []int, q []int) {
		if impl.IsTransitive(p, q) {
			t.Errorf("IsTransitive(%v, %v) = true", p, q)
		}
	})
}

// TestIsTransitiveOfAZigzag checks that all 24 elements are found when p and q
// swap neighbors in turn, so that each step to a new one needs the other.
func TestIsTransitiveOfAZigzag(t *testing.T) {
	p, q := counting(24), counting(24)
	for i := 0; i+1 < 24; i++ {
		swapped := p
		if i%2 == 1 {
			swapped = q
		}
		swapped[i], swapped[i+1] = i+1, i
		if got, want := impl.IsTransitive(p, q), i == 22; got != want {
			t.Errorf("IsTransitive(%v, %v) = %t", p, q, got)
		}
	}
}

// isTransitiveSlowly merges the classes of i, p[i] and q[i] until nothing
// changes, for comparison.
func isTransitiveSlowly(p []int, q []int) bool {
	class := counting(len(p))
	for range p {
		for i := range p {
			least := min(class[i], class[p[i]], class[q[i]])
			class[i], class[p[i]], class[q[i]] = least, least, least
		}
	}
	return len(p) > 0 && slices.Max(class) == 0
}

func TestIsTransitiveOfAllPairs(t *testing.T) {
	checkPairs(func(p []int, q []int) {
		want := isTransitiveSlowly(p, q)
		if got := impl.IsTransitive(p, q); got != want {
			t.Errorf("IsTransitive(%v, %v) = %t", p, q, got)
		}
		if got := impl.IsTransitive(q, p); got != want {
			t.Errorf("IsTransitive(%v, %v) = %t", q, p, got)
		}
	})
}

func TestSameList(t *testing.T) {
	cases := []struct {
		a, b []int
		want bool
	}{
		{nil, nil, true},
		{nil, []int{}, true},
		{[]int{}, []int{}, true},
		{nil, []int{0}, false},
		{[]int{}, []int{0}, false},
		{[]int{1}, []int{1}, true},
		{[]int{1}, []int{2}, false},
		{[]int{1, 2}, []int{1, 2}, true},
		{[]int{1, 2}, []int{2, 1}, false},
		{[]int{1, 2}, []int{1}, false},
		{[]int{1, 2}, []int{1, 2, 0}, false},
		{[]int{0}, []int{0, 0}, false},
		{[]int{1, 2, 3}, []int{1, 2, 4}, false},
		{[]int{1, 2, 3}, []int{0, 2, 3}, false},
		{[]int{-5, -5}, []int{-5, -5}, true},
		{[]int{math.MinInt, math.MaxInt}, []int{math.MinInt, math.MaxInt}, true},
		{[]int{math.MinInt}, []int{math.MaxInt}, false},
		{counting(100), counting(100), true},
		{counting(100), counting(99), false},
		{counting(2)[:1], []int{0}, true},
	}
	for _, c := range cases {
		if got := impl.SameList(c.a, c.b); got != c.want {
			t.Errorf("SameList(%v, %v) = %t", c.a, c.b, got)
		}
		if got := impl.SameList(c.b, c.a); got != c.want {
			t.Errorf("SameList(%v, %v) = %t", c.b, c.a, got)
		}
	}
}

// permCalls makes the calls of the layer with the two lists.
func permCalls(lists [][]int) map[string]func() [][]int {
	p, q := lists[0], lists[1]
	one := func(list []int) [][]int { return [][]int{list} }
	return map[string]func() [][]int{
		"PermOk":       func() [][]int { impl.PermOk(p); return nil },
		"IdentityPerm": func() [][]int { return one(impl.IdentityPerm(len(p))) },
		"InversePerm":  func() [][]int { return one(impl.InversePerm(p)) },
		"ThenPerm":     func() [][]int { return one(impl.ThenPerm(p, q)) },
		"CyclesOf":     func() [][]int { return impl.CyclesOf(p) },
		"RenamePerm":   func() [][]int { return one(impl.RenamePerm(p, q)) },
		"IsTransitive": func() [][]int { impl.IsTransitive(p, q); return nil },
		"SameList":     func() [][]int { impl.SameList(p, q); return nil },
	}
}

func TestPermsKeepTheRulesOfMemory(t *testing.T) {
	for _, pair := range [][][]int{
		{{}, {}},
		{{0}, {0}},
		{{0, 1, 2}, {0, 1, 2}},
		{{1, 2, 0, 3}, {3, 1, 2, 0}},
		{{1, 0, 3, 2, 4}, counting(5)},
		{circling(24, 8), circling(24, 5)},
		{counting(24), counting(24)},
		{{1, 1, 0}, {2, 1, 0}},
		{{0, 2, 1}, {0, 1, 5}},
		{counting(25), circling(25, 1)},
	} {
		checkMemory(t, pair, permCalls)
	}
}

func TestOneListAsBothArguments(t *testing.T) {
	p := []int{1, 2, 0, 3}
	if got := impl.ThenPerm(p, p); !slices.Equal(got, []int{2, 0, 1, 3}) {
		t.Errorf("ThenPerm(%v, %v) = %v", p, p, got)
	}
	if got := impl.RenamePerm(p, p); !slices.Equal(got, p) {
		t.Errorf("RenamePerm(%v, %v) = %v", p, p, got)
	}
	if impl.IsTransitive(p, p) || !impl.SameList(p, p) {
		t.Errorf("IsTransitive or SameList of %v twice is wrong", p)
	}
}
