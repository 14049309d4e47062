package tests

import (
	"math"
	"slices"
	"strings"
	"sync"
	"testing"

	"loop.example/g00928/impl"
)

type pathCase struct {
	s            impl.Surface
	square, p, q int
	rounds       int
	text         string
	squares      []int
	visits       []int
}

// pathCases were made apart from the program.
func pathCases() []pathCase {
	one := surfaceWith([]int{0}, []int{0})
	torus := torusSlowly(3, 2)
	small := surfaceWith([]int{1, 0, 2}, []int{2, 1, 0})
	ell := surfaceWith([]int{1, 2, 0, 3}, []int{3, 1, 2, 0})
	long := ellSlowly(5, 6)
	two := surfaceWith([]int{4, 2, 5, 3, 1, 7, 6, 0}, []int{4, 0, 2, 5, 7, 1, 3, 6})
	four := surfaceWith([]int{1, 2, 3, 0, 5, 6, 7, 4}, []int{4, 7, 6, 5, 2, 1, 0, 3})
	return []pathCase{
		{one, 0, 1, 0, 1, "r", []int{0}, []int{1}},
		{one, 0, 0, 1, 1, "u", []int{0}, []int{1}},
		{one, 0, 3, 2, 1, "rruru", []int{0, 0, 0, 0, 0}, []int{5}},
		{one, 0, 11, 1, 1, "rrrrrrrrrrru", []int{0, 0, 0, 0, 0, 0, 0, 0, 0, 0, 0, 0}, []int{12}},
		{torus, 0, 1, 0, 3, "rrr", []int{0, 1, 2}, []int{1, 1, 1, 0, 0, 0}},
		{torus, 4, 0, 1, 2, "uu", []int{4, 1}, []int{0, 1, 0, 0, 1, 0}},
		{torus, 4, 2, 1, 6, "rrurrurrurrurrurru", []int{4, 5, 3, 0, 1, 2, 5, 3, 4, 1, 2, 0, 3, 4, 5, 2, 0, 1}, []int{3, 3, 3, 3, 3, 3}},
		{torus, 2, 3, 2, 1, "rruru", []int{2, 0, 1, 4, 5}, []int{1, 1, 1, 0, 1, 1}},
		{torus, 5, 1, 1, 6, "rurururururu", []int{5, 3, 0, 1, 4, 5, 2, 0, 3, 4, 1, 2}, []int{2, 2, 2, 2, 2, 2}},
		{torus, 1, 1, 3, 6, "ruuuruuuruuuruuuruuuruuu", []int{1, 2, 5, 2, 5, 3, 0, 3, 0, 1, 4, 1, 4, 5, 2, 5, 2, 0, 3, 0, 3, 4, 1, 4}, []int{4, 4, 4, 4, 4, 4}},
		{small, 0, 1, 1, 3, "rururu", []int{0, 1, 1, 0, 2, 2}, []int{2, 2, 2}},
		{small, 2, 1, 1, 3, "rururu", []int{2, 2, 0, 1, 1, 0}, []int{2, 2, 2}},
		{small, 2, 1, 0, 1, "r", []int{2}, []int{0, 0, 1}},
		{small, 0, 1, 0, 2, "rr", []int{0, 1}, []int{1, 1, 0}},
		{small, 1, 0, 1, 1, "u", []int{1}, []int{0, 1, 0}},
		{small, 1, 2, 1, 1, "rru", []int{1, 0, 1}, []int{1, 2, 0}},
		{small, 0, 3, 2, 1, "rruru", []int{0, 1, 0, 2, 2}, []int{2, 1, 2}},
		{ell, 3, 1, 0, 1, "r", []int{3}, []int{0, 0, 0, 1}},
		{ell, 0, 1, 0, 3, "rrr", []int{0, 1, 2}, []int{1, 1, 1, 0}},
		{ell, 2, 0, 1, 1, "u", []int{2}, []int{0, 0, 1, 0}},
		{ell, 3, 0, 1, 2, "uu", []int{3, 0}, []int{1, 0, 0, 1}},
		{ell, 1, 2, 1, 4, "rrurrurrurru", []int{1, 2, 0, 3, 3, 3, 0, 1, 2, 2, 0, 1}, []int{3, 3, 3, 3}},
		{ell, 0, 3, 1, 2, "rrrurrru", []int{0, 1, 2, 0, 3, 3, 3, 3}, []int{2, 1, 1, 4}},
		{ell, 1, 3, 1, 1, "rrru", []int{1, 2, 0, 1}, []int{1, 2, 1, 0}},
		{ell, 2, 3, 2, 1, "rruru", []int{2, 0, 1, 1, 2}, []int{1, 2, 2, 0}},
		{ell, 0, 1, 2, 3, "ruuruuruu", []int{0, 1, 1, 1, 2, 2, 2, 0, 3}, []int{2, 3, 3, 1}},
		{long, 4, 2, 3, 4, "ruruururuururuururuu", []int{4, 0, 5, 5, 6, 7, 7, 8, 8, 9, 0, 1, 1, 2, 2, 2, 3, 3, 4, 4}, []int{2, 2, 3, 2, 3, 2, 1, 2, 2, 1}},
		{long, 9, 1, 3, 2, "ruuuruuu", []int{9, 9, 0, 5, 6, 6, 7, 8}, []int{1, 0, 0, 0, 0, 1, 2, 1, 1, 2}},
		{two, 1, 1, 1, 2, "ruru", []int{1, 2, 2, 5}, []int{0, 1, 2, 0, 0, 1, 0, 0}},
		{two, 5, 7, 5, 3, "rrururrurururrururrurururrururrururu", []int{5, 7, 0, 4, 1, 0, 4, 1, 0, 4, 7, 0, 4, 1, 2, 2, 5, 1, 2, 5, 1, 2, 2, 5, 1, 2, 5, 1, 2, 2, 5, 7, 6, 6, 3, 3}, []int{4, 7, 8, 2, 4, 6, 2, 3}},
		{two, 0, 7, 5, 1, "rrururrururu", []int{0, 4, 1, 0, 4, 7, 0, 4, 7, 0, 4, 1}, []int{4, 2, 0, 0, 4, 0, 0, 2}},
		{two, 7, 2, 1, 1, "rru", []int{7, 0, 4}, []int{1, 0, 0, 0, 1, 0, 0, 1}},
		{four, 6, 5, 7, 4, "rururuururuurururuururuurururuururuurururuururuu", []int{6, 7, 3, 0, 4, 5, 1, 7, 4, 2, 3, 5, 1, 2, 6, 7, 3, 0, 4, 2, 3, 5, 6, 0, 4, 5, 1, 2, 6, 7, 3, 5, 6, 0, 1, 7, 3, 0, 4, 5, 1, 2, 6, 0, 1, 7, 4, 2}, []int{6, 6, 6, 6, 6, 6, 6, 6}},
		{four, 0, 1, 1, 4, "rurururu", []int{0, 1, 7, 4, 2, 3, 5, 6}, []int{1, 1, 1, 1, 1, 1, 1, 1}},
		{zigzag(7), 3, 2, 3, 2, "ruruururuu", []int{3, 2, 1, 0, 0, 0, 1, 2, 3, 4}, []int{3, 2, 2, 2, 1, 0, 0}},
		{zigzag(7), 1, 2, 3, 1, "ruruu", []int{1, 0, 0, 1, 2}, []int{2, 2, 1, 0, 0, 0, 0}},
		{zigzag(7), 6, 0, 1, 2, "uu", []int{6, 5}, []int{0, 0, 0, 0, 0, 1, 1}},
		{zigzag(7), 0, 1, 1, 7, "rururururururu", []int{0, 1, 2, 3, 4, 5, 6, 6, 5, 4, 3, 2, 1, 0}, []int{2, 2, 2, 2, 2, 2, 2}},
	}
}

// pathSquaresSlowly goes letter by letter until it is at the beginning again
// after a whole round.
func pathSquaresSlowly(s impl.Surface, square int, p int, q int) []int {
	var squares []int
	word := pathSlowly(p, q)
	for x, steps := square, 0; steps == 0 || x != square || steps%(p+q) != 0; steps++ {
		squares = append(squares, x)
		x = neighborSlowly(s, x, word[steps%(p+q)])
	}
	return squares
}

func neighborSlowly(s impl.Surface, square int, letter byte) int {
	if letter == 'r' {
		return s.Right[square]
	}
	return s.Up[square]
}

// pathCaseSlowly is for valid surfaces, squares that they have, and slopes.
func pathCaseSlowly(s impl.Surface, square int, p int, q int) pathCase {
	c := pathCase{s: s, square: square, p: p, q: q, squares: pathSquaresSlowly(s, square, p, q)}
	c.rounds = len(c.squares) / (p + q)
	for range c.rounds {
		c.text += pathSlowly(p, q)
	}
	c.visits = make([]int, len(s.Right))
	for _, x := range c.squares {
		c.visits[x]++
	}
	return c
}

func checkPath(t *testing.T, c pathCase) {
	t.Helper()
	if got, ok := impl.PathSquares(c.s, c.square, c.p, c.q); !slices.Equal(got, c.squares) || !ok {
		t.Errorf("PathSquares(%v, %d, %d, %d) = %v, %t, want %v", c.s, c.square, c.p, c.q, got, ok, c.squares)
	}
	if got := impl.PathRounds(c.s, c.square, c.p, c.q); got != c.rounds {
		t.Errorf("PathRounds(%v, %d, %d, %d) = %d, want %d", c.s, c.square, c.p, c.q, got, c.rounds)
	}
	if got := impl.PathText(c.s, c.square, c.p, c.q); got != c.text {
		t.Errorf("PathText(%v, %d, %d, %d) = %q, want %q", c.s, c.square, c.p, c.q, got, c.text)
	}
	if got := impl.Visits(c.s, c.square, c.p, c.q); !slices.Equal(got, c.visits) {
		t.Errorf("Visits(%v, %d, %d, %d) = %v, want %v", c.s, c.square, c.p, c.q, got, c.visits)
	}
}

func mustSquares(t *testing.T, s impl.Surface, square int, p int, q int) []int {
	t.Helper()
	squares, ok := impl.PathSquares(s, square, p, q)
	if !ok {
		t.Fatalf("PathSquares(%v, %d, %d, %d) fails", s, square, p, q)
	}
	return squares
}

// everyPath calls check with paths of all slopes and from all squares. For each
// square of a large list of surfaces, it takes one slope after the other.
func everyPath(check func(s impl.Surface, square int, p int, q int)) {
	slopes := slopeCases()
	next := 0
	for _, s := range directionSurfaces() {
		for square := range s.Right {
			c := slopes[next%len(slopes)]
			next++
			check(s, square, c.p, c.q)
		}
	}
	for _, d := range directionCases() {
		for square := range d.s.Right {
			for _, c := range slopes {
				check(d.s, square, c.p, c.q)
			}
		}
	}
}

func TestPaths(t *testing.T) {
	for _, c := range pathCases() {
		checkPath(t, c)
	}
}

func TestPathsOfManySurfaces(t *testing.T) {
	everyPath(func(s impl.Surface, square int, p int, q int) {
		checkPath(t, pathCaseSlowly(s, square, p, q))
	})
}

func TestPathsOfSmallSurfaces(t *testing.T) {
	for n := range 4 {
		for _, s := range surfacesSlowly(n) {
			for square := range n {
				for _, c := range slopeCases() {
					checkPath(t, pathCaseSlowly(s, square, c.p, c.q))
				}
			}
		}
	}
}

func TestPathsComeBackAfterTheirRounds(t *testing.T) {
	everyPath(func(s impl.Surface, square int, p int, q int) {
		squares := mustSquares(t, s, square, p, q)
		rounds := impl.PathRounds(s, square, p, q)
		if rounds < 1 || len(squares) != rounds*len(impl.SlopeWord(p, q)) || len(squares) != rounds*(p+q) || squares[0] != square {
			t.Fatalf("PathSquares(%v, %d, %d, %d) = %v for %d rounds", s, square, p, q, squares, rounds)
		}
		for i := p + q; i < len(squares); i += p + q {
			if squares[i] == square {
				t.Errorf("PathSquares(%v, %d, %d, %d) = %v is back after %d letters", s, square, p, q, squares, i)
			}
		}
	})
}

func TestStepsFollowTheirLetters(t *testing.T) {
	everyPath(func(s impl.Surface, square int, p int, q int) {
		squares, text := mustSquares(t, s, square, p, q), impl.PathText(s, square, p, q)
		if len(text) != len(squares) {
			t.Fatalf("PathText(%v, %d, %d, %d) = %q, but the squares are %v", s, square, p, q, text, squares)
		}
		for i, x := range squares {
			next := squares[(i+1)%len(squares)]
			if got := neighborSlowly(s, x, text[i]); got != next {
				t.Errorf("PathSquares(%v, %d, %d, %d) = %v: the letter %c leads from %d to %d", s, square, p, q, squares, text[i], x, got)
			}
		}
	})
}

func TestPathTextRepeatsTheWord(t *testing.T) {
	everyPath(func(s impl.Surface, square int, p int, q int) {
		text, rounds := impl.PathText(s, square, p, q), impl.PathRounds(s, square, p, q)
		if text != strings.Repeat(impl.SlopeWord(p, q), rounds) {
			t.Errorf("PathText(%v, %d, %d, %d) = %q for %d rounds", s, square, p, q, text, rounds)
		}
		if right, up := strings.Count(text, "r"), strings.Count(text, "u"); right != rounds*p || up != rounds*q {
			t.Errorf("PathText(%v, %d, %d, %d) = %q has %d letters r and %d letters u", s, square, p, q, text, right, up)
		}
	})
}

func TestVisitsCountTheSquares(t *testing.T) {
	everyPath(func(s impl.Surface, square int, p int, q int) {
		visits, squares := impl.Visits(s, square, p, q), mustSquares(t, s, square, p, q)
		if len(visits) != len(s.Right) || sumOf(visits) != len(impl.PathText(s, square, p, q)) {
			t.Fatalf("Visits(%v, %d, %d, %d) = %v for the squares %v", s, square, p, q, visits, squares)
		}
		for x, n := range visits {
			for _, y := range squares {
				if x == y {
					n--
				}
			}
			if n != 0 {
				t.Errorf("Visits(%v, %d, %d, %d) = %v for the squares %v", s, square, p, q, visits, squares)
			}
		}
	})
}

// TestPathRoundsAreCycles also has the first square of each round: they are the
// cycle of the square.
func TestPathRoundsAreCycles(t *testing.T) {
	everyPath(func(s impl.Surface, square int, p int, q int) {
		way := mustPath(t, s, p, q)
		cycle := []int{square}
		for x := way[square]; x != square; x = way[x] {
			cycle = append(cycle, x)
		}
		if got := impl.PathRounds(s, square, p, q); got != len(cycle) {
			t.Errorf("PathRounds(%v, %d, %d, %d) = %d, want the length of %v", s, square, p, q, got, cycle)
		}
		var firsts []int
		for i, x := range mustSquares(t, s, square, p, q) {
			if i%(p+q) == 0 {
				firsts = append(firsts, x)
			}
		}
		if !slices.Equal(firsts, cycle) {
			t.Errorf("the rounds of %d on %v for %d, %d begin at %v, want %v", square, s, p, q, firsts, cycle)
		}
	})
}

// TestPathsFromLaterRoundsAreTheSame but for where they begin. It takes the
// second and the last round.
func TestPathsFromLaterRoundsAreTheSame(t *testing.T) {
	everyPath(func(s impl.Surface, square int, p int, q int) {
		squares, visits := mustSquares(t, s, square, p, q), impl.Visits(s, square, p, q)
		for _, i := range []int{(p + q) % len(squares), len(squares) - p - q} {
			want := slices.Concat(squares[i:], squares[:i])
			if got := mustSquares(t, s, squares[i], p, q); !slices.Equal(got, want) {
				t.Errorf("PathSquares(%v, %d, %d, %d) = %v, want %v", s, squares[i], p, q, got, want)
			}
			if got := impl.Visits(s, squares[i], p, q); !slices.Equal(got, visits) {
				t.Errorf("Visits(%v, %d, %d, %d) = %v, want %v", s, squares[i], p, q, got, visits)
			}
		}
	})
}

// TestAllPathsVisitEverySquareEquallyOften takes one path for each cycle: every
// letter of the word leads the squares to all of them.
func TestAllPathsVisitEverySquareEquallyOften(t *testing.T) {
	for _, s := range fewSurfaces() {
		for _, c := range slopeCases() {
			begun := make([]bool, len(s.Right))
			total := make([]int, len(s.Right))
			for square := range s.Right {
				if begun[square] {
					continue
				}
				squares := mustSquares(t, s, square, c.p, c.q)
				for i := 0; i < len(squares); i += c.p + c.q {
					begun[squares[i]] = true
				}
				for x, n := range impl.Visits(s, square, c.p, c.q) {
					total[x] += n
				}
			}
			if want := slices.Repeat([]int{c.p + c.q}, len(s.Right)); !slices.Equal(total, want) {
				t.Errorf("all paths of %v for %d, %d visit the squares %v times", s, c.p, c.q, total)
			}
		}
	}
}

// TestPathsGoAroundTheirCylinders has as many rounds as the cylinder of the
// path, in its direction, is wide; in each cylinder, a path begins at as many
// squares as it has.
func TestPathsGoAroundTheirCylinders(t *testing.T) {
	for _, s := range fewSurfaces() {
		for _, c := range slopeCases() {
			var rounds, widths []int
			for square := range s.Right {
				rounds = append(rounds, impl.PathRounds(s, square, c.p, c.q))
			}
			for _, cylinder := range mustCylindersIn(t, s, c.p, c.q) {
				widths = append(widths, slices.Repeat([]int{cylinder.Width}, cylinder.Width*cylinder.Height)...)
			}
			slices.Sort(rounds)
			slices.Sort(widths)
			if !slices.Equal(rounds, widths) {
				t.Errorf("the paths of %v for %d, %d have %v rounds, but the widths are %v", s, c.p, c.q, rounds, widths)
			}
		}
	}
}

// TestPathsOfOneLetter are the rows and the columns.
func TestPathsOfOneLetter(t *testing.T) {
	for _, s := range directionSurfaces() {
		for square := range s.Right {
			row := rowSlowly(s, square)
			column := rowSlowly(surfaceWith(s.Up, s.Right), square)
			if got := mustSquares(t, s, square, 1, 0); !slices.Equal(got, row) {
				t.Errorf("PathSquares(%v, %d, 1, 0) = %v, want %v", s, square, got, row)
			}
			if got := mustSquares(t, s, square, 0, 1); !slices.Equal(got, column) {
				t.Errorf("PathSquares(%v, %d, 0, 1) = %v, want %v", s, square, got, column)
			}
			right, up := impl.PathText(s, square, 1, 0), impl.PathText(s, square, 0, 1)
			if right != strings.Repeat("r", len(row)) || up != strings.Repeat("u", len(column)) {
				t.Errorf("the texts of %d on %v are %q and %q", square, s, right, up)
			}
		}
	}
}

// TestPathsOfTori finds the squares by their coordinates. Two of these tori have
// the longest paths of all: 24 rounds of 12 letters.
func TestPathsOfTori(t *testing.T) {
	longest := 0
	for width := 1; width <= 24; width++ {
		for height := 1; width*height <= 24; height++ {
			s := torusSlowly(width, height)
			for i, slope := range slopeCases() {
				c := pathCase{s: s, square: i % (width * height), p: slope.p, q: slope.q, rounds: 1}
				for c.rounds*c.p%width != 0 || c.rounds*c.q%height != 0 {
					c.rounds++
				}
				c.text = strings.Repeat(slope.path, c.rounds)
				c.visits = make([]int, width*height)
				x, y := c.square%width, c.square/width
				for j := range c.text {
					c.squares = append(c.squares, y%height*width+x%width)
					c.visits[y%height*width+x%width]++
					x += strings.Count(c.text[j:j+1], "r")
					y += strings.Count(c.text[j:j+1], "u")
				}
				checkPath(t, c)
				longest = max(longest, len(c.text))
			}
		}
	}
	if longest != 288 {
		t.Errorf("the longest path has %d letters", longest)
	}
}

func TestRenamingsKeepThePaths(t *testing.T) {
	everyPath(func(s impl.Surface, square int, p int, q int) {
		names := mixedUp(len(s.Right))
		c := pathCaseSlowly(s, square, p, q)
		renamed := pathCase{s: renamedSlowly(s, names), square: names[square], p: p, q: q, rounds: c.rounds, text: c.text}
		renamed.visits = make([]int, len(names))
		for _, x := range c.squares {
			renamed.squares = append(renamed.squares, names[x])
		}
		for x, n := range c.visits {
			renamed.visits[names[x]] = n
		}
		checkPath(t, renamed)
	})
}

// wrongSquares returns numbers that are no squares of a surface with n of them.
func wrongSquares(n int) []int {
	list := []int{-1, -2, -n, -n - 1, n, n + 1, 2 * n, math.MinInt, math.MinInt + 1, 1<<32 | 1, -1 << 32}
	for _, great := range greatInts() {
		list = append(list, great, -great)
	}
	return slices.DeleteFunc(list, func(x int) bool { return 0 <= x && x < n })
}

func checkNoPath(t *testing.T, s impl.Surface, square int, p int, q int) {
	t.Helper()
	if got, ok := impl.PathSquares(s, square, p, q); len(got) != 0 || ok {
		t.Errorf("PathSquares(%v, %d, %d, %d) = %v, %t", s, square, p, q, got, ok)
	}
	if got := impl.PathRounds(s, square, p, q); got != 0 {
		t.Errorf("PathRounds(%v, %d, %d, %d) = %d", s, square, p, q, got)
	}
	if got := impl.PathText(s, square, p, q); got != "" {
		t.Errorf("PathText(%v, %d, %d, %d) = %q", s, square, p, q, got)
	}
	if got := impl.Visits(s, square, p, q); len(got) != 0 {
		t.Errorf("Visits(%v, %d, %d, %d) = %v", s, square, p, q, got)
	}
}

func TestInvalidSurfacesHaveNoPaths(t *testing.T) {
	slopes := [][2]int{{1, 0}, {0, 1}, {1, 1}, {3, 2}, {1, 11}, {11, 1}, {2, 2}, {0, 0}, {-1, 2}}
	for _, s := range invalidSurfaces() {
		squares := append(wrongSquares(max(len(s.Right), len(s.Up))), wrongSquares(0)...)
		for square := range max(1, len(s.Right), len(s.Up)) {
			squares = append(squares, square)
		}
		for _, square := range squares {
			for _, x := range slopes {
				checkNoPath(t, s, square, x[0], x[1])
			}
		}
	}
}

func TestWrongSquaresHaveNoPaths(t *testing.T) {
	for _, s := range append(directionSurfaces(), longSurfaces()...) {
		for _, square := range wrongSquares(len(s.Right)) {
			for _, x := range [][2]int{{1, 0}, {0, 1}, {5, 7}, {2, 2}} {
				checkNoPath(t, s, square, x[0], x[1])
			}
		}
	}
	for _, c := range directionCases() {
		for _, square := range wrongSquares(len(c.s.Right)) {
			for _, slope := range slopeCases() {
				checkNoPath(t, c.s, square, slope.p, slope.q)
			}
		}
	}
}

func TestWrongSlopesHaveNoPaths(t *testing.T) {
	for _, c := range directionCases() {
		last := len(c.s.Right) - 1
		for _, w := range wrongSlopes() {
			checkNoPath(t, c.s, 0, w[0], w[1])
			checkNoPath(t, c.s, last, w[0], w[1])
			checkNoPath(t, c.s, last+1, w[0], w[1])
		}
		for p := -3; p <= 26; p++ {
			for q := -3; q <= 26; q++ {
				if !isSlopeSlowly(p, q) {
					checkNoPath(t, c.s, 0, p, q)
				} else {
					checkPath(t, pathCaseSlowly(c.s, last, p, q))
				}
			}
		}
	}
}

func TestPathsOfAllShortLists(t *testing.T) {
	slopes := [][2]int{{1, 0}, {0, 1}, {2, 3}}
	for _, s := range shortSurfaces() {
		for square := -1; square <= 3; square++ {
			x := slopes[(square+1)%len(slopes)]
			if isSurfaceSlowly(s) && 0 <= square && square < len(s.Right) {
				checkPath(t, pathCaseSlowly(s, square, x[0], x[1]))
			} else {
				checkNoPath(t, s, square, x[0], x[1])
			}
		}
	}
}

// isBalancedSlowly compares the windows two by two and counts each of them
// anew, letter by letter; it also has windows of whole rounds and more.
func isBalancedSlowly(word string) bool {
	for i := range len(word) {
		if word[i] != 'r' && word[i] != 'u' {
			return false
		}
	}
	for length := range 2*len(word) + 1 {
		for a := range len(word) {
			for b := range a {
				difference := 0
				for i := range length {
					if word[(a+i)%len(word)] == 'r' {
						difference++
					}
					if word[(b+i)%len(word)] == 'r' {
						difference--
					}
				}
				if difference < -1 || difference > 1 {
					return false
				}
			}
		}
	}
	return len(word) <= 40
}

// isBalancedInside has only windows that do not cross the end of the word.
func isBalancedInside(word string) bool {
	for length := range len(word) {
		least, most := length, 0
		for from := 0; from+length <= len(word); from++ {
			count := strings.Count(word[from:from+length], "r")
			least, most = min(least, count), max(most, count)
		}
		if most-least > 1 {
			return false
		}
	}
	return true
}

// evenWord returns the word of n letters with k letters r that are as far from
// each other as they can be: it is balanced.
func evenWord(n int, k int) string {
	word := ""
	for i := range n {
		if (i+1)*k/n > i*k/n {
			word += "r"
		} else {
			word += "u"
		}
	}
	return word
}

// rotations returns the words that begin at each letter and go on around.
func rotations(word string) []string {
	var list []string
	for i := range len(word) {
		list = append(list, word[i:]+word[:i])
	}
	return list
}

func backwards(word string) string {
	letters := []byte(word)
	slices.Reverse(letters)
	return string(letters)
}

// exchanged has the letters r and u in place of each other.
func exchanged(word string) string {
	return strings.NewReplacer("r", "u", "u", "r").Replace(word)
}

func checkBalanced(t *testing.T, word string, want bool) {
	t.Helper()
	if got := impl.IsBalanced(word); got != want {
		t.Errorf("IsBalanced(%q) = %t, want %t", word, got, want)
	}
}

func TestIsBalanced(t *testing.T) {
	for _, word := range []string{"", "r", "u", "rr", "uu", "ru", "ur", "rru", "ruru", "rurru", "rruru", "rrurru", "uuuuuuu", "ruuuuuu", "rurrurr"} {
		checkBalanced(t, word, true)
	}
	for _, word := range []string{"rruu", "ruur", "uurr", "urru", "rrruu", "rrurrurr", "uuruuruu", "rurruu", "rrrrururu", "rurrururr"} {
		checkBalanced(t, word, false)
	}
}

// TestIsBalancedAcrossTheEnd has words whose windows differ too much only where
// the word goes on at its beginning.
func TestIsBalancedAcrossTheEnd(t *testing.T) {
	for _, word := range []string{
		"ruur", // one window across the end is rr, and one inside is uu
		"rrurrurr",
		"uuruuruu",
		"rrurrurrurr",
		"rururruru" + "rr",
		"rrrurrrurrr",
		"ururururuu",
		strings.Repeat("rru", 12) + "rr",
		strings.Repeat("ru", 18) + "rurr",
		"u" + strings.Repeat("ru", 19) + "u",
	} {
		checkBalanced(t, word, false)
		if !isBalancedInside(word) {
			t.Errorf("%q is not even balanced inside", word)
		}
	}
	only := 0
	for _, word := range wordsOver("ru", 12) {
		if isBalancedInside(word) && !isBalancedSlowly(word) {
			only++
			checkBalanced(t, word, false)
		}
	}
	if only == 0 {
		t.Error("no word is balanced only inside")
	}
}

func TestIsBalancedOfAllShortWords(t *testing.T) {
	for _, word := range wordsOver("ru", 12) {
		checkBalanced(t, word, isBalancedSlowly(word))
	}
	for _, word := range wordsOver("rux", 7) {
		checkBalanced(t, word, isBalancedSlowly(word))
	}
}

// TestThereAreFewBalancedWords: up to rotation, there is one for each number of
// letters r, and it has as many rotations as letters until it is repeated.
func TestThereAreFewBalancedWords(t *testing.T) {
	counts := map[int]int{}
	for _, word := range wordsOver("ru", 13) {
		if impl.IsBalanced(word) {
			counts[len(word)]++
		}
	}
	for n := 0; n <= 13; n++ {
		want := 1
		for k := 1; k <= n; k++ {
			want += n / divisor(n, k)
		}
		if counts[n] != want {
			t.Errorf("%d words of %d letters are balanced, want %d", counts[n], n, want)
		}
	}
}

func TestBalancedWordsOfAllLengths(t *testing.T) {
	for n := 1; n <= 43; n++ {
		for k := 0; k <= n; k++ {
			word := evenWord(n, k)
			for i, w := range rotations(word) {
				if i%5 == k%5 {
					checkBalanced(t, w, n <= 40)
				}
			}
			checkBalanced(t, backwards(word), n <= 40)
			checkBalanced(t, exchanged(word), n <= 40)
		}
	}
}

// TestNeighborsOfBalancedWords exchanges two letters next to each other, which
// can make other words, balanced or not.
func TestNeighborsOfBalancedWords(t *testing.T) {
	for _, n := range []int{20, 39, 40} {
		kept, lost := 0, 0
		for k := 0; k <= n; k += 3 {
			word := []byte(evenWord(n, k))
			for i := k % 4; i < n; i += 4 {
				other := slices.Clone(word)
				other[i], other[(i+1)%n] = word[(i+1)%n], word[i]
				want := isBalancedSlowly(string(other))
				checkBalanced(t, string(other), want)
				if want {
					kept++
				} else {
					lost++
				}
			}
		}
		if kept == 0 || lost == 0 {
			t.Errorf("of %d letters, %d words are balanced and %d are not", n, kept, lost)
		}
	}
}

func TestIsBalancedOfTheLongestWords(t *testing.T) {
	for _, word := range []string{"r", "u", "ru", "ur", "rruru", "ruuuuuuu", "rrrurrruru"} {
		checkBalanced(t, strings.Repeat(word, 40/len(word)), isBalancedSlowly(word))
		for n := 41; n <= 50; n++ {
			checkBalanced(t, strings.Repeat(word, n)[:n], false)
		}
	}
	one := strings.Repeat("r", 39) + "u"
	for _, w := range rotations(one) {
		checkBalanced(t, w, true)
		checkBalanced(t, exchanged(w), true)
		checkBalanced(t, w+"r", false)
		checkBalanced(t, "r"+w, false)
		checkBalanced(t, w+"x", false)
		checkBalanced(t, w[:39]+"x", false)
	}
	// Windows of nearly the whole word, across the end, and of half of it.
	checkBalanced(t, strings.Repeat("r", 38)+"uu", false)
	checkBalanced(t, "u"+strings.Repeat("r", 38)+"u", false)
	checkBalanced(t, strings.Repeat("r", 19)+"u"+strings.Repeat("r", 19)+"u", true)
	checkBalanced(t, strings.Repeat("r", 20)+"u"+strings.Repeat("r", 18)+"u", false)
	for _, n := range []int{41, 42, 80, 1000, 100000} {
		checkBalanced(t, strings.Repeat("r", n), false)
		checkBalanced(t, strings.Repeat("u", n), false)
		checkBalanced(t, strings.Repeat("ru", n), false)
	}
}

// otherLetters returns strings of one byte or rune that are neither r nor u.
func otherLetters() []string {
	list := []string{"é", "ŕ", "ü", "ｒ", "\u0072\u0301", "\u2028", "\U0001F600"}
	for b := range 256 {
		if b != 'r' && b != 'u' {
			list = append(list, byteText(b))
		}
	}
	return list
}

func TestIsBalancedOfOtherLetters(t *testing.T) {
	for _, other := range otherLetters() {
		for _, word := range []string{"", "r", "u", "ru", "rruru", "ruururuu", "uuuuuuuuuuuuuuuuuuuuuuuuuuuuuuuuuuu"} {
			for i := 0; i <= len(word); i += 1 + len(word)/3 {
				checkBalanced(t, word[:i]+other+word[i:], false)
			}
			checkBalanced(t, word+other, false)
		}
	}
	for _, word := range []string{"R", "U", "RU", "l", "d", "rl", "ud", "T", "s", " ", "r u", " ru", "ru ", "ru\n", "-", "0", "rù", "\xff", "r\xffu", "\x00"} {
		checkBalanced(t, word, false)
	}
}

func TestSlopeWordsAreBalanced(t *testing.T) {
	for _, c := range slopeCases() {
		for _, word := range append(rotations(c.path), backwards(c.path), exchanged(c.path), impl.SlopeWord(c.p, c.q)) {
			checkBalanced(t, word, true)
			for n := range 45 {
				checkBalanced(t, strings.Repeat(word, n), n*len(word) <= 40)
			}
		}
	}
}

func TestPathTextsAreBalanced(t *testing.T) {
	short, long := 0, 0
	everyPath(func(s impl.Surface, square int, p int, q int) {
		text := impl.PathText(s, square, p, q)
		checkBalanced(t, text, len(text) <= 40)
		if len(text) <= 40 {
			short++
		} else {
			long++
		}
	})
	if short == 0 || long == 0 {
		t.Errorf("%d texts have at most 40 letters, and %d have more", short, long)
	}
}

func checkSlopeFrom(t *testing.T, word string, p int, q int, ok bool) {
	t.Helper()
	if gotP, gotQ, gotOk := impl.SlopeFrom(word); gotP != p || gotQ != q || gotOk != ok {
		t.Errorf("SlopeFrom(%q) = %d, %d, %t, want %d, %d, %t", word, gotP, gotQ, gotOk, p, q, ok)
	}
}

func checkNoSlope(t *testing.T, word string) {
	t.Helper()
	checkSlopeFrom(t, word, 0, 0, false)
}

// slopesOfWords returns the slope of each word that has one.
func slopesOfWords() map[string][2]int {
	slopes := map[string][2]int{}
	for _, c := range slopeCases() {
		slopes[c.path] = [2]int{c.p, c.q}
	}
	return slopes
}

func TestSlopeFrom(t *testing.T) {
	for _, c := range slopeCases() {
		checkSlopeFrom(t, c.path, c.p, c.q, true)
		checkSlopeFrom(t, impl.SlopeWord(c.p, c.q), c.p, c.q, true)
	}
	for p := 0; p <= 12; p++ {
		for q := 0; p+q <= 12; q++ {
			if isSlopeSlowly(p, q) {
				checkSlopeFrom(t, pathSlowly(p, q), p, q, true)
			}
		}
	}
}

func TestSlopeFromOfAllShortWords(t *testing.T) {
	slopes := slopesOfWords()
	for _, word := range wordsOver("ru", 13) {
		slope, ok := slopes[word]
		checkSlopeFrom(t, word, slope[0], slope[1], ok)
	}
	for _, word := range wordsOver("rux", 7) {
		slope, ok := slopes[word]
		checkSlopeFrom(t, word, slope[0], slope[1], ok)
	}
}

// TestSlopeFromOfOtherOrders: none but the first of the rotations begins at the
// line, and the words backwards are above it.
func TestSlopeFromOfOtherOrders(t *testing.T) {
	for _, c := range slopeCases() {
		for _, word := range rotations(c.path)[1:] {
			checkNoSlope(t, word)
		}
		if len(c.path) > 1 {
			checkNoSlope(t, backwards(c.path))
			checkNoSlope(t, exchanged(c.path))
			if sorted := strings.Repeat("r", c.p) + strings.Repeat("u", c.q); sorted != c.path {
				checkNoSlope(t, sorted)
			}
		}
		for i := range c.path {
			for j := range i {
				letters := []byte(c.path)
				letters[i], letters[j] = letters[j], letters[i]
				if word := string(letters); word != c.path {
					checkNoSlope(t, word)
				}
			}
		}
	}
}

func TestSlopeFromOfRepeatedWords(t *testing.T) {
	for _, c := range slopeCases() {
		for n := 2; n <= 30; n++ {
			checkNoSlope(t, strings.Repeat(c.path, n))
		}
		checkNoSlope(t, c.path+"r")
		checkNoSlope(t, "u"+c.path)
	}
}

// TestSlopeFromOfLongWords has the words of slopes that are too steep or too
// flat for SlopeOk, and words that are far longer.
func TestSlopeFromOfLongWords(t *testing.T) {
	for p := 0; p <= 30; p++ {
		for q := 0; q <= 30; q++ {
			if p+q > 12 {
				checkNoSlope(t, pathSlowly(p, q))
				checkNoSlope(t, evenWord(p+q, p))
			}
		}
	}
	for _, n := range []int{13, 40, 41, 1000, 100000} {
		for _, word := range []string{"r", "u", "ru", "rru", "rruru"} {
			checkNoSlope(t, strings.Repeat(word, n))
			checkNoSlope(t, strings.Repeat("r", n)+word)
		}
	}
}

// TestSlopeFromOfOtherLetters puts them to the words of slopes, and in place of
// a letter.
func TestSlopeFromOfOtherLetters(t *testing.T) {
	checkNoSlope(t, "")
	for _, other := range otherLetters() {
		checkNoSlope(t, other)
		for i, c := range slopeCases() {
			at := i % len(c.path)
			checkNoSlope(t, c.path[:at]+other+c.path[at:])
			checkNoSlope(t, c.path[:at]+other+c.path[at+1:])
			checkNoSlope(t, c.path+other)
			checkNoSlope(t, other+c.path)
		}
	}
	for _, c := range slopeCases() {
		checkNoSlope(t, strings.ToUpper(c.path))
	}
}

// TestWordsOfPathsTellTheirSlope takes the first round of a path.
func TestWordsOfPathsTellTheirSlope(t *testing.T) {
	everyPath(func(s impl.Surface, square int, p int, q int) {
		text, rounds := impl.PathText(s, square, p, q), impl.PathRounds(s, square, p, q)
		checkSlopeFrom(t, text[:len(text)/rounds], p, q, true)
		if rounds > 1 {
			checkNoSlope(t, text)
		}
	})
}

// pathCalls makes the calls of the layer with a surface, as Right and Up.
func pathCalls(lists [][]int) map[string]func() [][]int {
	s := surfaceWith(lists[0], lists[1])
	calls := map[string]func() [][]int{}
	for _, c := range [][3]int{{0, 1, 0}, {0, 0, 1}, {0, 3, 2}, {1, 11, 1}, {1, 2, 2}, {-1, 1, 1}, {24, 1, 1}, {0, 0, 0}} {
		square, p, q := c[0], c[1], c[2]
		name := strings.Join([]string{impl.FormatInt(square), impl.FormatInt(p), impl.FormatInt(q)}, " ")
		calls["PathSquares "+name] = func() [][]int {
			squares, _ := impl.PathSquares(s, square, p, q)
			return [][]int{squares}
		}
		calls["Visits "+name] = func() [][]int { return [][]int{impl.Visits(s, square, p, q)} }
		calls["PathRounds "+name] = func() [][]int { impl.PathRounds(s, square, p, q); return nil }
		calls["PathText "+name] = func() [][]int { impl.PathText(s, square, p, q); return nil }
	}
	return calls
}

func TestPathsKeepTheRulesOfMemory(t *testing.T) {
	surfaces := append(invalidSurfaces(), longSurfaces()...)
	for _, c := range pathCases() {
		surfaces = append(surfaces, c.s)
	}
	for _, s := range surfaces {
		checkMemory(t, [][]int{s.Right, s.Up}, pathCalls)
	}
}

// TestPathsOfOneListAsRightAndUp gives the same memory twice.
func TestPathsOfOneListAsRightAndUp(t *testing.T) {
	list := []int{1, 2, 3, 0}
	s := surfaceWith(list, list)
	for _, c := range []pathCase{
		{s, 2, 1, 0, 4, "rrrr", []int{2, 3, 0, 1}, []int{1, 1, 1, 1}},
		{s, 1, 1, 1, 2, "ruru", []int{1, 2, 3, 0}, []int{1, 1, 1, 1}},
		{s, 3, 1, 3, 1, "ruuu", []int{3, 0, 1, 2}, []int{1, 1, 1, 1}},
		{s, 0, 1, 2, 4, "ruuruuruuruu", []int{0, 1, 2, 3, 0, 1, 2, 3, 0, 1, 2, 3}, []int{3, 3, 3, 3}},
	} {
		checkPath(t, c)
		spoil(mustSquares(t, s, c.square, c.p, c.q), -1)
		spoil(impl.Visits(s, c.square, c.p, c.q), -1)
		if !slices.Equal(list, []int{1, 2, 3, 0}) {
			t.Fatalf("a change of a path for %d, %d changed the argument: %v", c.p, c.q, list)
		}
		checkPath(t, c)
	}
}

// TestPathsAreTheSameAtEveryRun repeats calls, also at the same time.
func TestPathsAreTheSameAtEveryRun(t *testing.T) {
	for _, c := range pathCases() {
		var calls sync.WaitGroup
		for range 4 {
			calls.Go(func() {
				for range 3 {
					checkPath(t, c)
					checkBalanced(t, c.text, isBalancedSlowly(c.text))
					checkSlopeFrom(t, pathSlowly(c.p, c.q), c.p, c.q, true)
				}
			})
		}
		calls.Wait()
	}
}
