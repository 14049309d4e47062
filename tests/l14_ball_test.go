package tests

import (
	"math"
	"sync"
	"testing"

	"loop.example/g00928/impl"
)

func ballAt(x int, y int, dx int, dy int) impl.Ball { return impl.Ball{X: x, Y: y, DX: dx, DY: dy} }

func ballFrom(n [4]int) impl.Ball { return ballAt(n[0], n[1], n[2], n[3]) }

// ballCase has the numbers of the ball after the steps in laterSteps.
type ballCase struct {
	a, b          int
	x             impl.Ball
	later         [6][4]int
	period        int
	across, along int
	corner        int
}

func laterSteps() [6]int { return [6]int{1, 2, 3, 10, 9999, 10000} }

// ballCases were made apart from the program.
func ballCases() []ballCase {
	return []ballCase{
		{1, 1, ballAt(0, 0, 1, 1), [6][4]int{{1, 1, -1, -1}, {0, 0, 1, 1}, {1, 1, -1, -1}, {0, 0, 1, 1}, {1, 1, -1, -1}, {0, 0, 1, 1}}, 2, 2, 2, 0},
		{1, 1, ballAt(1, 0, -1, 1), [6][4]int{{0, 1, 1, -1}, {1, 0, -1, 1}, {0, 1, 1, -1}, {1, 0, -1, 1}, {0, 1, 1, -1}, {1, 0, -1, 1}}, 2, 2, 2, 0},
		{1, 1, ballAt(1, 1, -1, -1), [6][4]int{{0, 0, 1, 1}, {1, 1, -1, -1}, {0, 0, 1, 1}, {1, 1, -1, -1}, {0, 0, 1, 1}, {1, 1, -1, -1}}, 2, 2, 2, 0},
		{1, 4, ballAt(0, 2, 1, -1), [6][4]int{{1, 1, -1, -1}, {0, 0, 1, 1}, {1, 1, -1, 1}, {0, 0, 1, 1}, {1, 3, -1, -1}, {0, 2, 1, -1}}, 8, 8, 2, 2},
		{1, 4, ballAt(1, 4, -1, -1), [6][4]int{{0, 3, 1, -1}, {1, 2, -1, -1}, {0, 1, 1, -1}, {1, 2, -1, -1}, {0, 3, 1, 1}, {1, 4, -1, -1}}, 8, 8, 2, 0},
		{5, 1, ballAt(2, 0, -1, 1), [6][4]int{{1, 1, -1, -1}, {0, 0, 1, 1}, {1, 1, 1, -1}, {2, 0, -1, 1}, {3, 1, -1, -1}, {2, 0, -1, 1}}, 10, 2, 10, 2},
		{5, 1, ballAt(5, 1, -1, -1), [6][4]int{{4, 0, -1, 1}, {3, 1, -1, -1}, {2, 0, -1, 1}, {5, 1, -1, -1}, {4, 0, 1, 1}, {5, 1, -1, -1}}, 10, 2, 10, 0},
		{2, 2, ballAt(1, 1, 1, 1), [6][4]int{{2, 2, -1, -1}, {1, 1, -1, -1}, {0, 0, 1, 1}, {1, 1, -1, -1}, {0, 0, 1, 1}, {1, 1, 1, 1}}, 4, 2, 2, 1},
		{2, 2, ballAt(1, 0, -1, 1), [6][4]int{{0, 1, 1, 1}, {1, 2, 1, -1}, {2, 1, -1, -1}, {1, 2, 1, -1}, {2, 1, -1, -1}, {1, 0, -1, 1}}, 4, 2, 2, -1},
		{2, 2, ballAt(1, 1, 1, -1), [6][4]int{{2, 0, -1, 1}, {1, 1, -1, 1}, {0, 2, 1, -1}, {1, 1, -1, 1}, {0, 2, 1, -1}, {1, 1, 1, -1}}, 4, 2, 2, 1},
		{3, 2, ballAt(1, 0, 1, 1), [6][4]int{{2, 1, 1, 1}, {3, 2, -1, -1}, {2, 1, -1, -1}, {1, 2, -1, -1}, {2, 1, -1, -1}, {1, 0, -1, 1}}, 12, 4, 6, 2},
		{3, 2, ballAt(0, 0, 1, 1), [6][4]int{{1, 1, 1, 1}, {2, 2, 1, -1}, {3, 1, -1, -1}, {2, 2, -1, -1}, {3, 1, -1, -1}, {2, 0, -1, 1}}, 12, 4, 6, 0},
		{3, 2, ballAt(3, 1, -1, -1), [6][4]int{{2, 0, -1, 1}, {1, 1, -1, 1}, {0, 2, 1, -1}, {1, 1, 1, 1}, {0, 2, 1, -1}, {1, 1, 1, -1}}, 12, 4, 6, 3},
		{3, 2, ballAt(2, 1, 1, -1), [6][4]int{{3, 0, -1, 1}, {2, 1, -1, 1}, {1, 2, -1, -1}, {0, 1, 1, 1}, {1, 2, -1, -1}, {0, 1, 1, -1}}, 12, 4, 6, 1},
		{4, 2, ballAt(1, 0, 1, 1), [6][4]int{{2, 1, 1, 1}, {3, 2, 1, -1}, {4, 1, -1, -1}, {3, 2, 1, -1}, {0, 1, 1, -1}, {1, 0, 1, 1}}, 8, 2, 4, -1},
		{4, 2, ballAt(2, 0, -1, 1), [6][4]int{{1, 1, -1, 1}, {0, 2, 1, -1}, {1, 1, 1, -1}, {0, 2, 1, -1}, {3, 1, -1, -1}, {2, 0, -1, 1}}, 8, 2, 4, 2},
		{4, 2, ballAt(3, 1, 1, 1), [6][4]int{{4, 2, -1, -1}, {3, 1, -1, -1}, {2, 0, -1, 1}, {3, 1, -1, -1}, {2, 0, 1, 1}, {3, 1, 1, 1}}, 8, 2, 4, 1},
		{4, 6, ballAt(0, 3, 1, 1), [6][4]int{{1, 4, 1, 1}, {2, 5, 1, 1}, {3, 6, 1, -1}, {2, 1, 1, 1}, {1, 6, -1, -1}, {0, 5, 1, -1}}, 24, 6, 4, -1},
		{4, 6, ballAt(1, 5, 1, -1), [6][4]int{{2, 4, 1, -1}, {3, 3, 1, -1}, {4, 2, -1, -1}, {3, 5, 1, 1}, {0, 2, 1, -1}, {1, 1, 1, -1}}, 24, 6, 4, 11},
		{4, 6, ballAt(4, 2, -1, 1), [6][4]int{{3, 3, -1, 1}, {2, 4, -1, 1}, {1, 5, -1, 1}, {2, 0, -1, 1}, {3, 5, 1, 1}, {4, 6, -1, -1}}, 24, 6, 4, 4},
		{7, 5, ballAt(3, 2, -1, 1), [6][4]int{{2, 3, -1, 1}, {1, 4, -1, 1}, {0, 5, 1, -1}, {7, 2, -1, 1}, {0, 1, 1, 1}, {1, 2, 1, 1}}, 70, 10, 14, 3},
		{8, 8, ballAt(3, 5, 1, -1), [6][4]int{{4, 4, 1, -1}, {5, 3, 1, -1}, {6, 2, 1, -1}, {3, 5, -1, 1}, {2, 6, 1, -1}, {3, 5, 1, -1}}, 16, 2, 2, 5},
		{8, 8, ballAt(3, 5, -1, -1), [6][4]int{{2, 4, -1, -1}, {1, 3, -1, -1}, {0, 2, 1, -1}, {7, 5, 1, 1}, {4, 6, -1, -1}, {3, 5, -1, -1}}, 16, 2, 2, -1},
		{6, 9, ballAt(6, 9, -1, -1), [6][4]int{{5, 8, -1, -1}, {4, 7, -1, -1}, {3, 6, -1, -1}, {4, 1, 1, 1}, {3, 0, -1, 1}, {2, 1, -1, 1}}, 36, 6, 4, 0},
		{6, 9, ballAt(2, 5, 1, 1), [6][4]int{{3, 6, 1, 1}, {4, 7, 1, 1}, {5, 8, 1, 1}, {0, 3, 1, -1}, {5, 4, 1, -1}, {6, 3, -1, -1}}, 36, 6, 4, 4},
		{50, 49, ballAt(0, 0, 1, 1), [6][4]int{{1, 1, 1, 1}, {2, 2, 1, 1}, {3, 3, 1, 1}, {10, 10, 1, 1}, {1, 3, -1, 1}, {0, 4, 1, 1}}, 4900, 98, 100, 0},
		{50, 49, ballAt(0, 1, 1, 1), [6][4]int{{1, 2, 1, 1}, {2, 3, 1, 1}, {3, 4, 1, 1}, {10, 11, 1, 1}, {1, 4, -1, 1}, {0, 5, 1, 1}}, 4900, 98, 100, 2400},
		{50, 49, ballAt(50, 24, -1, -1), [6][4]int{{49, 23, -1, -1}, {48, 22, -1, -1}, {47, 21, -1, -1}, {40, 14, -1, -1}, {49, 21, 1, -1}, {50, 20, -1, -1}}, 4900, 98, 100, 1200},
		{50, 49, ballAt(49, 48, 1, 1), [6][4]int{{50, 49, -1, -1}, {49, 48, -1, -1}, {48, 47, -1, -1}, {41, 40, -1, -1}, {48, 47, 1, -1}, {49, 46, 1, -1}}, 4900, 98, 100, 1},
		{49, 50, ballAt(25, 50, -1, -1), [6][4]int{{24, 49, -1, -1}, {23, 48, -1, -1}, {22, 47, -1, -1}, {15, 40, -1, -1}, {22, 49, -1, 1}, {21, 50, -1, -1}}, 4900, 100, 98, 1250},
		{50, 50, ballAt(25, 25, 1, 1), [6][4]int{{26, 26, 1, 1}, {27, 27, 1, 1}, {28, 28, 1, 1}, {35, 35, 1, 1}, {24, 24, 1, 1}, {25, 25, 1, 1}}, 100, 2, 2, 25},
		{50, 50, ballAt(25, 26, 1, 1), [6][4]int{{26, 27, 1, 1}, {27, 28, 1, 1}, {28, 29, 1, 1}, {35, 36, 1, 1}, {24, 25, 1, 1}, {25, 26, 1, 1}}, 100, 2, 2, -1},
		{50, 50, ballAt(0, 50, 1, -1), [6][4]int{{1, 49, 1, -1}, {2, 48, 1, -1}, {3, 47, 1, -1}, {10, 40, 1, -1}, {1, 49, -1, 1}, {0, 50, 1, -1}}, 100, 2, 2, 0},
		{50, 1, ballAt(49, 0, 1, 1), [6][4]int{{50, 1, -1, -1}, {49, 0, -1, 1}, {48, 1, -1, -1}, {41, 0, -1, 1}, {48, 1, 1, -1}, {49, 0, 1, 1}}, 100, 2, 100, 1},
		{1, 50, ballAt(1, 49, -1, 1), [6][4]int{{0, 50, 1, -1}, {1, 49, -1, -1}, {0, 48, 1, -1}, {1, 41, -1, -1}, {0, 48, 1, 1}, {1, 49, -1, 1}}, 100, 100, 2, 1},
		{48, 36, ballAt(7, 19, -1, 1), [6][4]int{{6, 20, -1, 1}, {5, 21, -1, 1}, {4, 22, -1, 1}, {3, 29, 1, 1}, {8, 10, 1, 1}, {9, 11, 1, 1}}, 288, 6, 8, -1},
		{48, 36, ballAt(7, 18, -1, 1), [6][4]int{{6, 19, -1, 1}, {5, 20, -1, 1}, {4, 21, -1, 1}, {3, 28, 1, 1}, {8, 9, 1, 1}, {9, 10, 1, 1}}, 288, 6, 8, -1},
		{47, 43, ballAt(46, 1, 1, -1), [6][4]int{{47, 0, -1, 1}, {46, 1, -1, 1}, {45, 2, -1, 1}, {38, 9, -1, 1}, {13, 22, -1, 1}, {12, 23, -1, 1}}, 4042, 86, 94, 1},
	}
}

// isMoveSlowly tells whether a place and a direction can be those of a ball on
// a table of this length.
func isMoveSlowly(length int, place int, d int) bool {
	switch {
	case length < 1 || length > 50 || place < 0 || place > length:
		return false
	case place == 0:
		return d == 1
	case place == length:
		return d == -1
	default:
		return d == 1 || d == -1
	}
}

func isBallSlowly(a int, b int, x impl.Ball) bool {
	return isMoveSlowly(a, x.X, x.DX) && isMoveSlowly(b, x.Y, x.DY)
}

func stepSlowly(a int, b int, x impl.Ball) impl.Ball {
	x.X += x.DX
	x.Y += x.DY
	if x.X == a {
		x.DX = -1
	}
	if x.X == 0 {
		x.DX = 1
	}
	if x.Y == b {
		x.DY = -1
	}
	if x.Y == 0 {
		x.DY = 1
	}
	return x
}

func isAtUpright(a int, x impl.Ball) bool { return x.X == 0 || x.X == a }

func isAtLevel(b int, x impl.Ball) bool { return x.Y == 0 || x.Y == b }

// foldedTo returns the place and the direction of a ball that has gone so many
// places from 0 on a line, which is folded at each multiple of the length.
func foldedTo(length int, gone int) (int, int) {
	for gone >= 2*length {
		gone -= 2 * length
	}
	if gone < length {
		return gone, 1
	}
	return 2*length - gone, -1
}

// goneSlowly returns how far a ball has gone since it was at 0.
func goneSlowly(length int, place int, d int) int {
	gone := 0
	for {
		if x, e := foldedTo(length, gone); x == place && e == d {
			return gone
		}
		gone++
	}
}

// laterSlowly unfolds the table, on which the ball goes straight on.
func laterSlowly(a int, b int, x impl.Ball, steps int) impl.Ball {
	var later impl.Ball
	later.X, later.DX = foldedTo(a, goneSlowly(a, x.X, x.DX)+steps)
	later.Y, later.DY = foldedTo(b, goneSlowly(b, x.Y, x.DY)+steps)
	return later
}

func commonMultiple(a int, b int) int {
	multiple := a
	for multiple%b != 0 {
		multiple += a
	}
	return multiple
}

// ballCaseSlowly goes step by step. It is for valid balls.
func ballCaseSlowly(a int, b int, x impl.Ball) ballCase {
	c := ballCase{a: a, b: b, x: x, period: 2 * commonMultiple(a, b), corner: -1}
	for i, steps := range laterSteps() {
		later := laterSlowly(a, b, x, steps)
		c.later[i] = [4]int{later.X, later.Y, later.DX, later.DY}
	}
	if isAtUpright(a, x) && isAtLevel(b, x) {
		c.corner = 0
	}
	for steps := 1; steps <= c.period; steps++ {
		x = stepSlowly(a, b, x)
		if isAtUpright(a, x) {
			c.across++
		}
		if isAtLevel(b, x) {
			c.along++
		}
		if isAtUpright(a, x) && isAtLevel(b, x) && c.corner < 0 {
			c.corner = steps
		}
	}
	return c
}

func checkBall(t *testing.T, c ballCase) {
	t.Helper()
	if !impl.BallOk(c.a, c.b, c.x) {
		t.Errorf("BallOk(%d, %d, %v) is false", c.a, c.b, c.x)
	}
	if got, ok := impl.BallStep(c.a, c.b, c.x); got != ballFrom(c.later[0]) || !ok {
		t.Errorf("BallStep(%d, %d, %v) = %v, %t, want %v", c.a, c.b, c.x, got, ok, c.later[0])
	}
	checkLater(t, c.a, c.b, c.x, 0, c.x)
	for i, steps := range laterSteps() {
		checkLater(t, c.a, c.b, c.x, steps, ballFrom(c.later[i]))
	}
	checkLater(t, c.a, c.b, c.x, c.period, c.x)
	if got := impl.BallPeriod(c.a, c.b); got != c.period {
		t.Errorf("BallPeriod(%d, %d) = %d, want %d", c.a, c.b, got, c.period)
	}
	if across, along := impl.BouncesIn(c.a, c.b, c.x); across != c.across || along != c.along {
		t.Errorf("BouncesIn(%d, %d, %v) = %d, %d, want %d, %d", c.a, c.b, c.x, across, along, c.across, c.along)
	}
	if got := impl.StepsToCorner(c.a, c.b, c.x); got != c.corner {
		t.Errorf("StepsToCorner(%d, %d, %v) = %d, want %d", c.a, c.b, c.x, got, c.corner)
	}
}

func checkLater(t *testing.T, a int, b int, x impl.Ball, steps int, want impl.Ball) {
	t.Helper()
	if got, ok := impl.BallAfter(a, b, x, steps); got != want || !ok {
		t.Errorf("BallAfter(%d, %d, %v, %d) = %v, %t, want %v", a, b, x, steps, got, ok, want)
	}
}

// checkNoBall is for balls that are not valid.
func checkNoBall(t *testing.T, a int, b int, x impl.Ball) {
	t.Helper()
	if impl.BallOk(a, b, x) {
		t.Errorf("BallOk(%d, %d, %v) is true", a, b, x)
	}
	if got, ok := impl.BallStep(a, b, x); got != (impl.Ball{}) || ok {
		t.Errorf("BallStep(%d, %d, %v) = %v, %t", a, b, x, got, ok)
	}
	for _, steps := range []int{0, 1, 10000, -1} {
		checkNoLater(t, a, b, x, steps)
	}
	if across, along := impl.BouncesIn(a, b, x); across != 0 || along != 0 {
		t.Errorf("BouncesIn(%d, %d, %v) = %d, %d", a, b, x, across, along)
	}
	if got := impl.StepsToCorner(a, b, x); got != -1 {
		t.Errorf("StepsToCorner(%d, %d, %v) = %d", a, b, x, got)
	}
}

func checkNoLater(t *testing.T, a int, b int, x impl.Ball, steps int) {
	t.Helper()
	if got, ok := impl.BallAfter(a, b, x, steps); got != (impl.Ball{}) || ok {
		t.Errorf("BallAfter(%d, %d, %v, %d) = %v, %t", a, b, x, steps, got, ok)
	}
}

func mustStep(t *testing.T, a int, b int, x impl.Ball) impl.Ball {
	t.Helper()
	next, ok := impl.BallStep(a, b, x)
	if !ok {
		t.Fatalf("BallStep(%d, %d, %v) fails", a, b, x)
	}
	return next
}

func mustLater(t *testing.T, a int, b int, x impl.Ball, steps int) impl.Ball {
	t.Helper()
	later, ok := impl.BallAfter(a, b, x, steps)
	if !ok {
		t.Fatalf("BallAfter(%d, %d, %v, %d) fails", a, b, x, steps)
	}
	return later
}

// allBalls returns all balls of a table.
func allBalls(a int, b int) []impl.Ball {
	var balls []impl.Ball
	for x := 0; x <= a; x++ {
		for y := 0; y <= b; y++ {
			for _, d := range [][2]int{{1, 1}, {1, -1}, {-1, 1}, {-1, -1}} {
				if ball := ballAt(x, y, d[0], d[1]); isBallSlowly(a, b, ball) {
					balls = append(balls, ball)
				}
			}
		}
	}
	return balls
}

// greatTables returns tables of the greatest size, with and without divisors in
// common, and narrow ones.
func greatTables() [][2]int {
	return [][2]int{{50, 50}, {50, 49}, {49, 50}, {50, 1}, {1, 50}, {50, 2}, {2, 49}, {50, 25}, {25, 50}, {48, 36}, {47, 43}, {49, 42}, {50, 45}, {32, 48}}
}

// everySmallBall calls check with all balls of all tables with sides up to 10.
func everySmallBall(check func(a int, b int, x impl.Ball)) {
	for a := 1; a <= 10; a++ {
		for b := 1; b <= 10; b++ {
			for _, x := range allBalls(a, b) {
				check(a, b, x)
			}
		}
	}
}

// everyBall also has some balls of great tables: those in the corners or next
// to them, and some others.
func everyBall(check func(a int, b int, x impl.Ball)) {
	everySmallBall(check)
	for _, c := range greatTables() {
		a, b := c[0], c[1]
		for i, x := range allBalls(a, b) {
			isNear := (x.X < 2 || x.X > a-2) && (x.Y < 2 || x.Y > b-2)
			if isNear || i%331 == 0 {
				check(a, b, x)
			}
		}
	}
}

func TestMaxTable(t *testing.T) {
	if impl.MaxTable != 50 {
		t.Errorf("MaxTable is %d", impl.MaxTable)
	}
}

func TestBalls(t *testing.T) {
	for _, c := range ballCases() {
		checkBall(t, c)
	}
}

func TestBallsOfManyTables(t *testing.T) {
	everyBall(func(a int, b int, x impl.Ball) { checkBall(t, ballCaseSlowly(a, b, x)) })
}

// TestBallsAtSides has each side and each corner, first with the direction into
// the table and then with the others.
func TestBallsAtSides(t *testing.T) {
	for _, c := range [][2]int{{1, 1}, {1, 2}, {2, 1}, {3, 2}, {2, 5}, {50, 50}, {50, 49}, {1, 50}} {
		a, b := c[0], c[1]
		for _, ends := range [][4]int{{0, 0, 1, 1}, {a, 0, -1, 1}, {0, b, 1, -1}, {a, b, -1, -1}} {
			x, y, dx, dy := ends[0], ends[1], ends[2], ends[3]
			checkBall(t, ballCaseSlowly(a, b, ballAt(x, y, dx, dy)))
			checkNoBall(t, a, b, ballAt(x, y, -dx, dy))
			checkNoBall(t, a, b, ballAt(x, y, dx, -dy))
			checkNoBall(t, a, b, ballAt(x, y, -dx, -dy))
			for between := 1; between < a; between++ {
				checkBall(t, ballCaseSlowly(a, b, ballAt(between, y, 1, dy)))
				checkBall(t, ballCaseSlowly(a, b, ballAt(between, y, -1, dy)))
				checkNoBall(t, a, b, ballAt(between, y, 1, -dy))
				checkNoBall(t, a, b, ballAt(between, y, -1, -dy))
			}
			for between := 1; between < b; between++ {
				checkBall(t, ballCaseSlowly(a, b, ballAt(x, between, dx, 1)))
				checkBall(t, ballCaseSlowly(a, b, ballAt(x, between, dx, -1)))
				checkNoBall(t, a, b, ballAt(x, between, -dx, 1))
				checkNoBall(t, a, b, ballAt(x, between, -dx, -1))
			}
		}
	}
}

func TestBallsWithWrongNumbers(t *testing.T) {
	right := ballAt(2, 1, 1, -1)
	checkBall(t, ballCaseSlowly(4, 3, right))
	for _, wrong := range []int{math.MinInt, math.MinInt + 1, -51, -2, 0, 2, 3, 51, math.MaxInt - 1, math.MaxInt} {
		checkNoBall(t, 4, 3, ballAt(2, 1, wrong, -1))
		checkNoBall(t, 4, 3, ballAt(2, 1, 1, wrong))
		checkNoBall(t, 4, 3, ballAt(0, 1, wrong, -1))
		checkNoBall(t, 4, 3, ballAt(2, 3, 1, wrong))
	}
	for _, wrong := range []int{math.MinInt, math.MinInt + 1, -50, -2, -1, 5, 6, 8, 50, 51, math.MaxInt - 1, math.MaxInt} {
		checkNoBall(t, 4, 3, ballAt(wrong, 1, 1, -1))
		checkNoBall(t, 4, 3, ballAt(wrong, 1, -1, -1))
		checkNoBall(t, 4, 3, ballAt(2, wrong, 1, 1))
		checkNoBall(t, 4, 3, ballAt(2, wrong, 1, -1))
	}
	for _, wrong := range wrongLengths() {
		checkNoBall(t, wrong, 3, right)
		checkNoBall(t, 4, wrong, right)
		checkNoBall(t, wrong, wrong, right)
	}
	checkNoBall(t, 0, 0, impl.Ball{})
	checkNoBall(t, 1, 1, impl.Ball{})
	checkNoBall(t, 0, 0, ballAt(0, 0, 1, 1))
	checkNoBall(t, 51, 51, ballAt(51, 51, -1, -1))
}

func wrongLengths() []int {
	list := []int{math.MinInt, math.MinInt + 1, -50, -4, -2, -1, 0, 51, 52, 100, math.MaxInt}
	for _, great := range greatInts() {
		if great > 50 {
			list = append(list, great, -great)
		}
	}
	return list
}

// TestBallsOfAllNumbers puts numbers at and beyond their bounds together in all
// ways.
func TestBallsOfAllNumbers(t *testing.T) {
	lengths := []int{math.MinInt, -1, 0, 1, 2, 50, 51, math.MaxInt}
	directions := []int{math.MinInt, -2, -1, 0, 1, 2, math.MaxInt}
	valid := 0
	for _, a := range lengths {
		for _, b := range lengths {
			for _, x := range placesAround(a) {
				for _, y := range placesAround(b) {
					for _, dx := range directions {
						for _, dy := range directions {
							ball := ballAt(x, y, dx, dy)
							if isBallSlowly(a, b, ball) {
								valid++
								checkBall(t, ballCaseSlowly(a, b, ball))
							} else {
								checkNoBall(t, a, b, ball)
							}
						}
					}
				}
			}
		}
	}
	if valid == 0 {
		t.Error("none of the balls is valid")
	}
}

// placesAround has places at and next to both ends and at the greatest
// distances, also from a length that is as great.
func placesAround(length int) []int {
	return []int{math.MinInt, -1, 0, 1, length - 1, length, length + 1, math.MaxInt}
}

// TestBallStepNextToSides has balls one step ahead of a side and of a corner,
// and just behind them.
func TestBallStepNextToSides(t *testing.T) {
	for _, c := range []struct {
		a, b    int
		x, want impl.Ball
	}{
		{5, 4, ballAt(1, 2, -1, 1), ballAt(0, 3, 1, 1)},
		{5, 4, ballAt(1, 2, -1, -1), ballAt(0, 1, 1, -1)},
		{5, 4, ballAt(4, 2, 1, 1), ballAt(5, 3, -1, 1)},
		{5, 4, ballAt(4, 2, 1, -1), ballAt(5, 1, -1, -1)},
		{5, 4, ballAt(2, 1, 1, -1), ballAt(3, 0, 1, 1)},
		{5, 4, ballAt(2, 1, -1, -1), ballAt(1, 0, -1, 1)},
		{5, 4, ballAt(2, 3, 1, 1), ballAt(3, 4, 1, -1)},
		{5, 4, ballAt(2, 3, -1, 1), ballAt(1, 4, -1, -1)},
		{5, 4, ballAt(1, 1, -1, -1), ballAt(0, 0, 1, 1)},
		{5, 4, ballAt(4, 1, 1, -1), ballAt(5, 0, -1, 1)},
		{5, 4, ballAt(1, 3, -1, 1), ballAt(0, 4, 1, -1)},
		{5, 4, ballAt(4, 3, 1, 1), ballAt(5, 4, -1, -1)},
		{5, 4, ballAt(0, 2, 1, 1), ballAt(1, 3, 1, 1)},
		{5, 4, ballAt(5, 2, -1, -1), ballAt(4, 1, -1, -1)},
		{5, 4, ballAt(5, 4, -1, -1), ballAt(4, 3, -1, -1)},
		{5, 4, ballAt(0, 1, 1, -1), ballAt(1, 0, 1, 1)},
		{5, 4, ballAt(1, 0, -1, 1), ballAt(0, 1, 1, 1)},
		{5, 5, ballAt(4, 5, 1, -1), ballAt(5, 4, -1, -1)},
		{1, 4, ballAt(0, 1, 1, 1), ballAt(1, 2, -1, 1)},
		{1, 4, ballAt(1, 3, -1, 1), ballAt(0, 4, 1, -1)},
		{4, 1, ballAt(2, 1, 1, -1), ballAt(3, 0, 1, 1)},
		{4, 1, ballAt(3, 0, 1, 1), ballAt(4, 1, -1, -1)},
		{1, 1, ballAt(0, 1, 1, -1), ballAt(1, 0, -1, 1)},
		{50, 50, ballAt(49, 49, 1, 1), ballAt(50, 50, -1, -1)},
		{50, 50, ballAt(49, 1, 1, -1), ballAt(50, 0, -1, 1)},
		{50, 50, ballAt(48, 49, 1, 1), ballAt(49, 50, 1, -1)},
	} {
		if got, ok := impl.BallStep(c.a, c.b, c.x); got != c.want || !ok {
			t.Errorf("BallStep(%d, %d, %v) = %v, %t, want %v", c.a, c.b, c.x, got, ok, c.want)
		}
	}
}

// TestStepsStayOnTheTable has all balls of great tables: each comes from one
// ball and is followed by one.
func TestStepsStayOnTheTable(t *testing.T) {
	check := func(a int, b int) {
		balls := allBalls(a, b)
		if len(balls) != 4*a*b {
			t.Fatalf("%d balls are on the table %d, %d", len(balls), a, b)
		}
		reached := map[impl.Ball]bool{}
		for _, x := range balls {
			next := mustStep(t, a, b, x)
			if next != stepSlowly(a, b, x) || !impl.BallOk(a, b, next) {
				t.Errorf("BallStep(%d, %d, %v) = %v", a, b, x, next)
			}
			reached[next] = true
		}
		if len(reached) != len(balls) {
			t.Errorf("only %d of %d balls are reached on the table %d, %d", len(reached), len(balls), a, b)
		}
	}
	for _, c := range greatTables() {
		check(c[0], c[1])
	}
	for a := 1; a <= 12; a++ {
		for b := 1; b <= 12; b++ {
			check(a, b)
		}
	}
}

func TestBallAfterRepeatsBallStep(t *testing.T) {
	everySmallBall(func(a int, b int, x impl.Ball) {
		later := x
		for steps := range 2*a*b + 3 {
			checkLater(t, a, b, x, steps, later)
			later = mustStep(t, a, b, later)
		}
	})
	for _, c := range ballCases() {
		later := c.x
		for steps := range 10001 {
			if steps%997 == 0 || steps > 9997 || steps < 3 {
				checkLater(t, c.a, c.b, c.x, steps, later)
			}
			later = mustStep(t, c.a, c.b, later)
		}
	}
}

func TestBallAfterInParts(t *testing.T) {
	for _, c := range ballCases() {
		for _, first := range []int{0, 1, 7, 500, c.period, 9999, 10000} {
			middle := mustLater(t, c.a, c.b, c.x, first)
			for _, rest := range []int{0, 1, 50, 10000 - first} {
				if first+rest <= 10000 {
					checkLater(t, c.a, c.b, middle, rest, mustLater(t, c.a, c.b, c.x, first+rest))
				}
			}
		}
	}
}

func TestBallAfterOfWrongSteps(t *testing.T) {
	wrong := []int{-1, -2, -10000, -10001, 10001, 10002, 20000, math.MinInt, math.MinInt + 1, math.MaxInt, math.MaxInt - 1}
	for _, great := range greatInts() {
		if great > 10000 {
			wrong = append(wrong, great, -great)
		}
	}
	for _, c := range ballCases() {
		for _, steps := range wrong {
			checkNoLater(t, c.a, c.b, c.x, steps)
			checkNoLater(t, 0, c.b, c.x, steps)
		}
	}
}

func TestBallPeriod(t *testing.T) {
	for _, c := range [][3]int{
		{1, 1, 2}, {1, 2, 4}, {2, 1, 4}, {2, 2, 4}, {3, 2, 12}, {4, 6, 24}, {6, 4, 24}, {6, 9, 36}, {8, 8, 16}, {5, 7, 70},
		{10, 15, 60}, {12, 18, 72}, {36, 48, 288}, {50, 1, 100}, {1, 50, 100}, {50, 50, 100}, {50, 25, 100}, {49, 49, 98},
		{50, 49, 4900}, {49, 50, 4900}, {50, 48, 2400}, {47, 43, 4042},
	} {
		if got := impl.BallPeriod(c[0], c[1]); got != c[2] {
			t.Errorf("BallPeriod(%d, %d) = %d, want %d", c[0], c[1], got, c[2])
		}
	}
	for a := 1; a <= 50; a++ {
		for b := 1; b <= 50; b++ {
			if got := impl.BallPeriod(a, b); got != 2*commonMultiple(a, b) {
				t.Errorf("BallPeriod(%d, %d) = %d, want %d", a, b, got, 2*commonMultiple(a, b))
			}
		}
	}
}

func TestBallPeriodOfWrongLengths(t *testing.T) {
	for _, wrong := range wrongLengths() {
		for _, other := range append(wrongLengths(), 1, 2, 3, 25, 49, 50) {
			for _, c := range [][2]int{{wrong, other}, {other, wrong}} {
				if got := impl.BallPeriod(c[0], c[1]); got != 0 {
					t.Errorf("BallPeriod(%d, %d) = %d", c[0], c[1], got)
				}
			}
		}
	}
}

// TestNoBallIsBackEarlier has each ball of small tables as before after the
// period, and after no number of steps that is less.
func TestNoBallIsBackEarlier(t *testing.T) {
	everySmallBall(func(a int, b int, x impl.Ball) { checkPeriod(t, a, b, x) })
}

// TestPeriodsOfAllTables has a ball of each table.
func TestPeriodsOfAllTables(t *testing.T) {
	for a := 1; a <= 50; a++ {
		for b := 1; b <= 50; b++ {
			balls := allBalls(a, b)
			checkPeriod(t, a, b, balls[(17*a+5*b)%len(balls)])
		}
	}
}

func checkPeriod(t *testing.T, a int, b int, x impl.Ball) {
	t.Helper()
	period := impl.BallPeriod(a, b)
	later := mustStep(t, a, b, x)
	steps := 1
	for later != x && steps <= period {
		later = mustStep(t, a, b, later)
		steps++
	}
	if steps != period {
		t.Errorf("the ball %v is back on the table %d, %d after %d steps, but BallPeriod is %d", x, a, b, steps, period)
	}
	checkLater(t, a, b, x, period, x)
}

// TestBouncesIn counts along BallStep, the place after the last step included.
func TestBouncesIn(t *testing.T) {
	everyBall(func(a int, b int, x impl.Ball) {
		across, along := 0, 0
		later := x
		for range impl.BallPeriod(a, b) {
			later = mustStep(t, a, b, later)
			if isAtUpright(a, later) {
				across++
			}
			if isAtLevel(b, later) {
				along++
			}
		}
		if gotAcross, gotAlong := impl.BouncesIn(a, b, x); gotAcross != across || gotAlong != along {
			t.Errorf("BouncesIn(%d, %d, %v) = %d, %d, want %d, %d", a, b, x, gotAcross, gotAlong, across, along)
		}
	})
}

// TestBouncesAreAsThePeriodSays: there are a steps from an upright side to the
// other, and b from a level one, so that all balls of a table have as many.
func TestBouncesAreAsThePeriodSays(t *testing.T) {
	everyBall(func(a int, b int, x impl.Ball) {
		across, along := impl.BouncesIn(a, b, x)
		if period := impl.BallPeriod(a, b); across*a != period || along*b != period {
			t.Errorf("BouncesIn(%d, %d, %v) = %d, %d in %d steps", a, b, x, across, along, period)
		}
	})
}

func TestStepsToCorner(t *testing.T) {
	for _, c := range []struct {
		a, b int
		x    impl.Ball
		want int
	}{
		{4, 6, ballAt(0, 0, 1, 1), 0},
		{4, 6, ballAt(4, 0, -1, 1), 0},
		{4, 6, ballAt(0, 6, 1, -1), 0},
		{4, 6, ballAt(4, 6, -1, -1), 0},
		{4, 6, ballAt(1, 1, 1, 1), 11},
		{4, 6, ballAt(1, 1, -1, -1), 1},
		{4, 6, ballAt(2, 0, 1, 1), 6},
		{4, 6, ballAt(0, 2, 1, 1), 4},
		{4, 6, ballAt(0, 1, 1, 1), -1},
		{4, 6, ballAt(1, 0, 1, 1), -1},
		{4, 6, ballAt(2, 1, 1, 1), -1},
		{1, 1, ballAt(0, 0, 1, 1), 0},
		{1, 9, ballAt(0, 4, 1, 1), 5},
		{1, 9, ballAt(0, 4, 1, -1), 4},
		{9, 1, ballAt(8, 0, -1, 1), 8},
		{50, 50, ballAt(0, 0, 1, 1), 0},
		{50, 50, ballAt(1, 1, 1, 1), 49},
		{50, 50, ballAt(1, 0, 1, 1), -1},
		{50, 49, ballAt(1, 1, 1, 1), 2449},
		{50, 49, ballAt(49, 48, -1, -1), 2449},
		{49, 50, ballAt(1, 1, 1, 1), 2449},
	} {
		if got := impl.StepsToCorner(c.a, c.b, c.x); got != c.want {
			t.Errorf("StepsToCorner(%d, %d, %v) = %d, want %d", c.a, c.b, c.x, got, c.want)
		}
	}
}

// TestCornersOnTheWay follows each ball: each step takes 1 away, down to 0, and
// a ball that never is in a corner keeps -1.
func TestCornersOnTheWay(t *testing.T) {
	everySmallBall(func(a int, b int, x impl.Ball) {
		steps, next := impl.StepsToCorner(a, b, x), impl.StepsToCorner(a, b, mustStep(t, a, b, x))
		isInCorner := isAtUpright(a, x) && isAtLevel(b, x)
		if isInCorner != (steps == 0) || steps > 0 && next != steps-1 || steps < 0 && (steps != -1 || next != -1) {
			t.Errorf("StepsToCorner(%d, %d, %v) = %d, and %d a step later", a, b, x, steps, next)
		}
		if isInCorner && next != commonMultiple(a, b)-1 {
			t.Errorf("after the corner %v of the table %d, %d, the next one takes %d steps more", x, a, b, next)
		}
	})
}

// TestWhichBallsReachACorner: those that have gone equally far from 0 in both
// directions, but for a multiple of the greatest divisor in common.
func TestWhichBallsReachACorner(t *testing.T) {
	reached, missed := 0, 0
	everyBall(func(a int, b int, x impl.Ball) {
		apart := goneSlowly(a, x.X, x.DX) - goneSlowly(b, x.Y, x.DY)
		want := apart%divisor(a, b) == 0
		if got := impl.StepsToCorner(a, b, x); (got >= 0) != want || got < -1 || got >= commonMultiple(a, b) {
			t.Errorf("StepsToCorner(%d, %d, %v) = %d, but the ball reaches a corner is %t", a, b, x, got, want)
		}
		if want {
			reached++
		} else {
			missed++
		}
	})
	if reached == 0 || missed == 0 {
		t.Errorf("%d balls reach a corner, and %d do not", reached, missed)
	}
}

func TestPhaseOf(t *testing.T) {
	for _, c := range [][4]int{
		{1, 0, 1, 0}, {1, 0, -1, 0}, {1, 1, 1, 1}, {1, 1, -1, 1},
		{2, 0, 1, 0}, {2, 1, 1, 1}, {2, 2, 1, 2}, {2, 2, -1, 2}, {2, 1, -1, 3}, {2, 0, -1, 0},
		{3, 1, 1, 1}, {3, 1, -1, 5}, {3, 2, -1, 4}, {3, 3, -1, 3}, {3, 3, 1, 3},
		{49, 48, -1, 50}, {49, 0, -1, 0}, {49, 49, 1, 49},
		{50, 0, 1, 0}, {50, 49, 1, 49}, {50, 50, 1, 50}, {50, 50, -1, 50}, {50, 1, -1, 99}, {50, 0, -1, 0},
	} {
		if got := impl.PhaseOf(c[0], c[1], c[2]); got != c[3] {
			t.Errorf("PhaseOf(%d, %d, %d) = %d, want %d", c[0], c[1], c[2], got, c[3])
		}
	}
}

// TestPhasesOfAllLengths: the phase is how far the ball has gone, also for the
// directions out of the table, in which it turns back at once.
func TestPhasesOfAllLengths(t *testing.T) {
	for a := 1; a <= 50; a++ {
		for x := 0; x <= a; x++ {
			for _, d := range []int{1, -1} {
				inwards := d
				if x == 0 {
					inwards = 1
				}
				if x == a {
					inwards = -1
				}
				if got := impl.PhaseOf(a, x, d); got != goneSlowly(a, x, inwards) {
					t.Errorf("PhaseOf(%d, %d, %d) = %d, want %d", a, x, d, got, goneSlowly(a, x, inwards))
				}
			}
		}
	}
}

func TestPhaseOfWrongNumbers(t *testing.T) {
	check := func(a int, x int, d int) {
		if got := impl.PhaseOf(a, x, d); got != -1 {
			t.Errorf("PhaseOf(%d, %d, %d) = %d", a, x, d, got)
		}
	}
	for _, a := range []int{1, 2, 3, 25, 49, 50} {
		for _, x := range []int{0, 1, a} {
			for _, d := range []int{math.MinInt, math.MinInt + 1, -50, -3, -2, 0, 2, 3, 50, math.MaxInt - 1, math.MaxInt} {
				check(a, x, d)
			}
		}
		for _, x := range []int{math.MinInt, math.MinInt + 1, -a, -1, a + 1, 2*a + 1, 2*a + 2, 51, math.MaxInt - 1, math.MaxInt} {
			for _, d := range []int{1, -1, 0} {
				check(a, x, d)
			}
		}
	}
	for _, a := range wrongLengths() {
		for _, x := range []int{0, 1, -1, 50, a - 1, a, a + 1, math.MinInt, math.MaxInt} {
			for _, d := range []int{1, -1, 0, math.MinInt, math.MaxInt} {
				check(a, x, d)
			}
		}
	}
}

// TestPhasesGrowByOne in each step, modulo twice the side.
func TestPhasesGrowByOne(t *testing.T) {
	everyBall(func(a int, b int, x impl.Ball) {
		next := mustStep(t, a, b, x)
		upright, nextUpright := impl.PhaseOf(a, x.X, x.DX), impl.PhaseOf(a, next.X, next.DX)
		level, nextLevel := impl.PhaseOf(b, x.Y, x.DY), impl.PhaseOf(b, next.Y, next.DY)
		if nextUpright != (upright+1)%(2*a) || nextLevel != (level+1)%(2*b) {
			t.Errorf("on the table %d, %d, the phases of %v are %d and %d, and %d and %d a step later", a, b, x, upright, level, nextUpright, nextLevel)
		}
	})
}

func TestPhasesAfterManySteps(t *testing.T) {
	for _, c := range ballCases() {
		for steps := 0; steps <= 10000; steps += 625 {
			later := mustLater(t, c.a, c.b, c.x, steps)
			upright, level := impl.PhaseOf(c.a, c.x.X, c.x.DX), impl.PhaseOf(c.b, c.x.Y, c.x.DY)
			if got := impl.PhaseOf(c.a, later.X, later.DX); got != (upright+steps)%(2*c.a) {
				t.Errorf("on the table %d, %d, the phase of %v across is %d after %d steps", c.a, c.b, c.x, got, steps)
			}
			if got := impl.PhaseOf(c.b, later.Y, later.DY); got != (level+steps)%(2*c.b) {
				t.Errorf("on the table %d, %d, the phase of %v along is %d after %d steps", c.a, c.b, c.x, got, steps)
			}
		}
	}
}

// TestBallsOfEqualPhasesAreEqual: the phases number all balls of a table.
func TestBallsOfEqualPhasesAreEqual(t *testing.T) {
	for _, c := range append(greatTables(), [2]int{1, 1}, [2]int{2, 1}, [2]int{3, 4}) {
		a, b := c[0], c[1]
		seen := map[[2]int]bool{}
		for _, x := range allBalls(a, b) {
			phases := [2]int{impl.PhaseOf(a, x.X, x.DX), impl.PhaseOf(b, x.Y, x.DY)}
			if phases[0] < 0 || phases[0] >= 2*a || phases[1] < 0 || phases[1] >= 2*b || seen[phases] {
				t.Errorf("on the table %d, %d, the ball %v has the phases %v", a, b, x, phases)
			}
			seen[phases] = true
		}
	}
}

// exchangedBall exchanges across and along, and mirroredBall left and right.
func exchangedBall(x impl.Ball) impl.Ball { return ballAt(x.Y, x.X, x.DY, x.DX) }

func mirroredBall(a int, x impl.Ball) impl.Ball { return ballAt(a-x.X, x.Y, -x.DX, x.DY) }

// returningBall goes back the way that the ball came. At a side, it is the ball
// itself that comes back.
func returningBall(a int, b int, x impl.Ball) impl.Ball {
	if !isAtUpright(a, x) {
		x.DX = -x.DX
	}
	if !isAtLevel(b, x) {
		x.DY = -x.DY
	}
	return x
}

func TestExchangedBalls(t *testing.T) {
	everyBall(func(a int, b int, x impl.Ball) {
		y := exchangedBall(x)
		for _, steps := range []int{1, 5, 101} {
			checkLater(t, b, a, y, steps, exchangedBall(mustLater(t, a, b, x, steps)))
		}
		across, along := impl.BouncesIn(a, b, x)
		if gotAcross, gotAlong := impl.BouncesIn(b, a, y); gotAcross != along || gotAlong != across {
			t.Errorf("BouncesIn(%d, %d, %v) = %d, %d, want %d, %d", b, a, y, gotAcross, gotAlong, along, across)
		}
		if got, want := impl.StepsToCorner(b, a, y), impl.StepsToCorner(a, b, x); got != want {
			t.Errorf("StepsToCorner(%d, %d, %v) = %d, want %d", b, a, y, got, want)
		}
	})
}

func TestMirroredBalls(t *testing.T) {
	everyBall(func(a int, b int, x impl.Ball) {
		y := mirroredBall(a, x)
		for _, steps := range []int{1, 5, 101} {
			checkLater(t, a, b, y, steps, mirroredBall(a, mustLater(t, a, b, x, steps)))
		}
		if got, want := impl.StepsToCorner(a, b, y), impl.StepsToCorner(a, b, x); got != want {
			t.Errorf("StepsToCorner(%d, %d, %v) = %d, want %d", a, b, y, got, want)
		}
	})
}

func TestBallsReturn(t *testing.T) {
	everyBall(func(a int, b int, x impl.Ball) {
		for _, steps := range []int{1, 2, 7, 100} {
			back := returningBall(a, b, mustLater(t, a, b, x, steps))
			checkLater(t, a, b, back, steps, returningBall(a, b, x))
		}
	})
}

// TestBallsFromACornerReturnToIt: they are in another one after half a period.
func TestBallsFromACornerReturnToIt(t *testing.T) {
	for a := 1; a <= 50; a++ {
		for b := 1; b <= 50; b++ {
			half := impl.BallPeriod(a, b) / 2
			other := mustLater(t, a, b, ballAt(0, 0, 1, 1), half)
			if other == ballAt(0, 0, 1, 1) || impl.StepsToCorner(a, b, other) != 0 {
				t.Errorf("the ball from the corner of the table %d, %d is at %v after %d steps", a, b, other, half)
			}
			checkLater(t, a, b, other, half, ballAt(0, 0, 1, 1))
		}
	}
}

// TestBallsAreTheSameAtEveryRun repeats calls, also at the same time and after
// calls that fail.
func TestBallsAreTheSameAtEveryRun(t *testing.T) {
	cases := ballCases()
	for i, c := range cases {
		other := cases[len(cases)-1-i]
		var calls sync.WaitGroup
		for range 4 {
			calls.Go(func() {
				for range 3 {
					checkBall(t, c)
					checkNoBall(t, c.a, c.b, impl.Ball{X: -1})
					checkBall(t, other)
				}
			})
		}
		calls.Wait()
	}
}
