package tests

import (
	"math"
	"math/big"
	"slices"
	"sync"
	"testing"

	"loop.example/g00928/impl"
)

// mostPart is impl.MaxPart.
const mostPart = 1000000000000

func ratio(n int, d int) impl.Ratio { return impl.Ratio{N: n, D: d} }

// noRatio is what the functions return where there is no fraction.
func noRatio() impl.Ratio { return impl.Ratio{} }

// valueOf is for fractions with a positive D.
func valueOf(r impl.Ratio) *big.Rat { return big.NewRat(int64(r.N), int64(r.D)) }

// ratioSlowly returns the fraction with this value, or the zero value if its
// numbers are too great.
func ratioSlowly(value *big.Rat) impl.Ratio {
	most := big.NewInt(mostPart)
	if value.Num().CmpAbs(most) > 0 || value.Denom().Cmp(most) > 0 {
		return noRatio()
	}
	return ratio(int(value.Num().Int64()), int(value.Denom().Int64()))
}

// isRatioSlowly takes the greatest common divisor of great numbers.
func isRatioSlowly(r impl.Ratio) bool {
	if r.D < 1 || r.D > mostPart || r.N < -mostPart || r.N > mostPart {
		return false
	}
	n, d := big.NewInt(int64(r.N)), big.NewInt(int64(r.D))
	return new(big.Int).GCD(nil, nil, n.Abs(n), d).Cmp(big.NewInt(1)) == 0
}

// sumSlowly is for any two fractions.
func sumSlowly(a impl.Ratio, b impl.Ratio) impl.Ratio {
	if !isRatioSlowly(a) || !isRatioSlowly(b) {
		return noRatio()
	}
	return ratioSlowly(new(big.Rat).Add(valueOf(a), valueOf(b)))
}

// partNumbers are numbers around the bounds, and some whose last bits are those
// of numbers within them.
func partNumbers() []int {
	list := []int{0, math.MinInt, math.MinInt + 1, math.MinInt + mostPart, math.MaxInt - mostPart, 1<<32 + 1, 1<<40 - 1, 999999999989, mostPart / 2, mostPart / 3}
	for _, n := range append(greatInts(), 1, 2, 3, 4, 6, 7, 10, 12, 24, 1<<39, mostPart-2, mostPart-1, mostPart, mostPart+1, mostPart+2, 2*mostPart, 1<<40, math.MaxInt) {
		list = append(list, n, -n)
	}
	return list
}

func TestMaxPart(t *testing.T) {
	if impl.MaxPart != mostPart {
		t.Errorf("MaxPart = %d", impl.MaxPart)
	}
}

func validRatios() []impl.Ratio {
	return []impl.Ratio{
		ratio(0, 1), ratio(1, 1), ratio(-1, 1), ratio(2, 1), ratio(1, 2), ratio(-1, 2), ratio(3, 2), ratio(-3, 2), ratio(2, 3), ratio(-7, 3), ratio(25, 24), ratio(24, 25),
		ratio(mostPart, 1), ratio(-mostPart, 1), ratio(mostPart-1, 1), ratio(1-mostPart, 1), ratio(1, mostPart), ratio(-1, mostPart), ratio(3, mostPart), ratio(-2, mostPart-1), ratio(1, mostPart-1),
		ratio(mostPart-1, mostPart), ratio(1-mostPart, mostPart), ratio(mostPart, mostPart-1), ratio(-mostPart, mostPart-1), ratio(mostPart, 3), ratio(-mostPart, 3), ratio(mostPart, 999999999989), ratio(3, 1<<39), ratio(1<<39, 3),
		ratio(999983000000, 999999), ratio(1<<32, 1<<32+1), ratio(mostPart/2, 1), ratio(1, mostPart/2), ratio(999999999989, mostPart),
	}
}

func invalidRatios() []impl.Ratio {
	return []impl.Ratio{
		noRatio(), ratio(1, 0), ratio(-1, 0), ratio(mostPart, 0), ratio(0, -1), ratio(1, -1), ratio(-1, -1), ratio(1, -2), ratio(-1, -2), ratio(3, -2), ratio(0, 2), ratio(0, 3), ratio(0, mostPart), ratio(0, -mostPart),
		ratio(2, 2), ratio(-2, 2), ratio(2, 4), ratio(-2, 4), ratio(4, 2), ratio(-4, 2), ratio(3, 9), ratio(12, 18), ratio(-25, 35), ratio(mostPart, 2), ratio(-mostPart, 2), ratio(2, mostPart), ratio(-5, mostPart), ratio(mostPart, mostPart), ratio(-mostPart, mostPart), ratio(999999999999, 999999999999), ratio(999999999998, mostPart),
		ratio(mostPart+1, 1), ratio(-mostPart-1, 1), ratio(mostPart+1, 2), ratio(1, mostPart+1), ratio(-1, mostPart+1), ratio(mostPart+1, mostPart), ratio(mostPart, mostPart+1), ratio(mostPart+2, mostPart+1), ratio(0, mostPart+1),
		ratio(1, -mostPart), ratio(1, -mostPart-1), ratio(1, math.MaxInt), ratio(1, math.MinInt), ratio(math.MaxInt, 1), ratio(math.MinInt, 1), ratio(math.MinInt+1, 1), ratio(math.MinInt, -1), ratio(math.MinInt, math.MinInt), ratio(math.MaxInt, math.MaxInt), ratio(math.MinInt, math.MaxInt), ratio(math.MaxInt, math.MinInt), ratio(0, math.MaxInt), ratio(0, math.MinInt),
		ratio(math.MinInt, 0), ratio(math.MaxInt, 0), ratio(1<<62, 3), ratio(1<<62+1, 1<<62),
	}
}

func TestRatioOk(t *testing.T) {
	for _, r := range validRatios() {
		if !impl.RatioOk(r) {
			t.Errorf("RatioOk(%v) = false", r)
		}
	}
	for _, r := range invalidRatios() {
		if impl.RatioOk(r) {
			t.Errorf("RatioOk(%v) = true", r)
		}
	}
}

func TestRatioOkAtTheBounds(t *testing.T) {
	for _, n := range partNumbers() {
		for _, d := range partNumbers() {
			r := ratio(n, d)
			if got := impl.RatioOk(r); got != isRatioSlowly(r) {
				t.Errorf("RatioOk(%v) = %t", r, got)
			}
		}
	}
}

// TestSmallRatios tries all divisors, and takes the fractions with the same
// value by multiplying crosswise.
func TestSmallRatios(t *testing.T) {
	for n := -40; n <= 40; n++ {
		for d := -3; d <= 40; d++ {
			want := d > 0
			for divisor := 2; divisor <= 40; divisor++ {
				if n%divisor == 0 && d%divisor == 0 {
					want = false
				}
			}
			if got := impl.RatioOk(ratio(n, d)); got != want {
				t.Errorf("RatioOk(%d, %d) = %t", n, d, got)
			}
			got := impl.RatioOf(n, d)
			if d <= 0 && got != noRatio() || d > 0 && (!impl.RatioOk(got) || got.N*d != n*got.D) {
				t.Errorf("RatioOf(%d, %d) = %v", n, d, got)
			}
			if want && got != ratio(n, d) {
				t.Errorf("RatioOf(%d, %d) = %v, but it is valid as it is", n, d, got)
			}
		}
	}
}

func TestRatioOf(t *testing.T) {
	cases := []struct {
		n, d int
		want impl.Ratio
	}{
		{1, 2, ratio(1, 2)}, {2, 4, ratio(1, 2)}, {-2, 4, ratio(-1, 2)}, {4, 2, ratio(2, 1)}, {-4, 2, ratio(-2, 1)}, {6, 4, ratio(3, 2)}, {-6, 4, ratio(-3, 2)}, {5, 1, ratio(5, 1)}, {35, 25, ratio(7, 5)},
		{0, 1, ratio(0, 1)}, {0, 5, ratio(0, 1)}, {0, mostPart, ratio(0, 1)}, {7, 7, ratio(1, 1)}, {-7, 7, ratio(-1, 1)}, {1, 24, ratio(1, 24)}, {24, 1, ratio(24, 1)}, {18, 24, ratio(3, 4)},
		{mostPart, 1, ratio(mostPart, 1)}, {-mostPart, 1, ratio(-mostPart, 1)}, {1, mostPart, ratio(1, mostPart)}, {-1, mostPart, ratio(-1, mostPart)}, {mostPart, mostPart, ratio(1, 1)}, {-mostPart, mostPart, ratio(-1, 1)},
		{mostPart, 2, ratio(500000000000, 1)}, {2, mostPart, ratio(1, 500000000000)}, {-mostPart, 3, ratio(-mostPart, 3)}, {mostPart, 999999999999, ratio(mostPart, 999999999999)}, {-mostPart, 999999999998, ratio(-500000000000, 499999999999)},
		{999999999999, mostPart, ratio(999999999999, mostPart)}, {999999000000, mostPart, ratio(999999, 1000000)}, {mostPart, 1 << 12, ratio(244140625, 1)}, {1 << 39, 1 << 38, ratio(2, 1)}, {-1 << 39, 3 << 37, ratio(-4, 3)},
		{0, 0, noRatio()}, {1, 0, noRatio()}, {-1, 0, noRatio()}, {4, -2, noRatio()}, {-4, -2, noRatio()}, {0, -1, noRatio()}, {0, -5, noRatio()}, {1, -1, noRatio()},
		{mostPart + 1, 1, noRatio()}, {-mostPart - 1, 1, noRatio()}, {1, mostPart + 1, noRatio()}, {0, mostPart + 1, noRatio()}, {mostPart, mostPart + 1, noRatio()}, {mostPart + 1, mostPart + 1, noRatio()},
		// The value is valid, but not the arguments.
		{2 * mostPart, 2, noRatio()}, {-2 * mostPart, 4, noRatio()}, {2, 2 * mostPart, noRatio()}, {2 * mostPart, 2 * mostPart, noRatio()}, {-1, -2, noRatio()},
		{math.MinInt, 1, noRatio()}, {math.MaxInt, 1, noRatio()}, {1, math.MaxInt, noRatio()}, {1, math.MinInt, noRatio()}, {math.MinInt, math.MinInt, noRatio()}, {math.MaxInt, math.MaxInt, noRatio()}, {math.MinInt, -1, noRatio()}, {0, math.MinInt, noRatio()}, {math.MinInt, 0, noRatio()}, {math.MinInt, 1 << 20, noRatio()},
	}
	for _, c := range cases {
		if got := impl.RatioOf(c.n, c.d); got != c.want {
			t.Errorf("RatioOf(%d, %d) = %v, want %v", c.n, c.d, got, c.want)
		}
	}
}

func TestRatioOfAtTheBounds(t *testing.T) {
	for _, n := range partNumbers() {
		for _, d := range partNumbers() {
			got := impl.RatioOf(n, d)
			if n < -mostPart || n > mostPart || d < 1 || d > mostPart {
				if got != noRatio() {
					t.Errorf("RatioOf(%d, %d) = %v", n, d, got)
				}
				continue
			}
			if want := ratioSlowly(big.NewRat(int64(n), int64(d))); got != want || !impl.RatioOk(got) {
				t.Errorf("RatioOf(%d, %d) = %v, want %v", n, d, got, want)
			}
		}
	}
}

// checkSum also has the summands in the other order.
func checkSum(t *testing.T, a impl.Ratio, b impl.Ratio, want impl.Ratio) {
	t.Helper()
	if got := impl.RatioSum(a, b); got != want {
		t.Errorf("RatioSum(%v, %v) = %v, want %v", a, b, got, want)
	}
	if got := impl.RatioSum(b, a); got != want {
		t.Errorf("RatioSum(%v, %v) = %v, want %v", b, a, got, want)
	}
	if want != noRatio() && !impl.RatioOk(want) {
		t.Errorf("the sum %v of %v and %v is not valid", want, a, b)
	}
}

type sumCase struct{ a, b, sum impl.Ratio }

// minus returns the same sum on the other side of 0.
func (c sumCase) minus() sumCase {
	return sumCase{ratio(-c.a.N, c.a.D), ratio(-c.b.N, c.b.D), ratio(-c.sum.N, c.sum.D)}
}

func smallSumCases() []sumCase {
	return []sumCase{
		{ratio(1, 6), ratio(1, 3), ratio(1, 2)},
		{ratio(1, 2), ratio(1, 2), ratio(1, 1)},
		{ratio(1, 2), ratio(1, 3), ratio(5, 6)},
		{ratio(3, 4), ratio(5, 6), ratio(19, 12)},
		{ratio(7, 2), ratio(-1, 2), ratio(3, 1)},
		{ratio(-7, 2), ratio(1, 3), ratio(-19, 6)},
		{ratio(-1, 6), ratio(1, 2), ratio(1, 3)},
		{ratio(2, 1), ratio(3, 1), ratio(5, 1)},
		{ratio(5, 3), ratio(-8, 3), ratio(-1, 1)},
		{ratio(11, 10), ratio(1, 15), ratio(7, 6)},
		// 0 and sums of 0.
		{ratio(0, 1), ratio(0, 1), ratio(0, 1)},
		{ratio(0, 1), ratio(5, 7), ratio(5, 7)},
		{ratio(0, 1), ratio(mostPart, 1), ratio(mostPart, 1)},
		{ratio(0, 1), ratio(1, mostPart), ratio(1, mostPart)},
		{ratio(0, 1), ratio(mostPart, mostPart-1), ratio(mostPart, mostPart-1)},
		{ratio(3, 7), ratio(-3, 7), ratio(0, 1)},
		{ratio(mostPart, 1), ratio(-mostPart, 1), ratio(0, 1)},
		{ratio(1, mostPart), ratio(-1, mostPart), ratio(0, 1)},
		{ratio(mostPart, mostPart-1), ratio(-mostPart, mostPart-1), ratio(0, 1)},
		{ratio(mostPart-1, mostPart), ratio(1-mostPart, mostPart), ratio(0, 1)},
	}
}

// boundSumCases are just within and just beyond MaxPart, in N and in D.
func boundSumCases() []sumCase {
	return []sumCase{
		{ratio(999999999999, 1), ratio(1, 1), ratio(mostPart, 1)},
		{ratio(500000000000, 1), ratio(500000000000, 1), ratio(mostPart, 1)},
		{ratio(mostPart, 1), ratio(-1, 1), ratio(999999999999, 1)},
		{ratio(mostPart, 1), ratio(1, 1), noRatio()},
		{ratio(mostPart, 1), ratio(mostPart, 1), noRatio()},
		{ratio(500000000000, 1), ratio(500000000001, 1), noRatio()},
		{ratio(333333333333, 1), ratio(1, 3), ratio(mostPart, 3)},
		{ratio(333333333333, 1), ratio(2, 3), noRatio()},
		{ratio(333333333334, 1), ratio(-2, 3), ratio(mostPart, 3)},
		{ratio(333333333334, 1), ratio(-1, 3), noRatio()},
		{ratio(mostPart, 1), ratio(-1, 2), noRatio()},
		{ratio(mostPart, 1), ratio(1, mostPart), noRatio()},
		{ratio(mostPart, 1), ratio(-1, mostPart), noRatio()},
		{ratio(mostPart, 3), ratio(-1, 3), ratio(333333333333, 1)},
		{ratio(mostPart, 3), ratio(1, 3), noRatio()},
		{ratio(mostPart, 3), ratio(2, 3), ratio(333333333334, 1)},
		{ratio(1, 4096), ratio(1, 244140625), ratio(244144721, mostPart)},
		{ratio(1, 4096), ratio(-1, 244140625), ratio(244136529, mostPart)},
		{ratio(1, 8192), ratio(1, 244140625), noRatio()},
		{ratio(1, 10001), ratio(1, 99990001), noRatio()},
		{ratio(1, 2), ratio(1, 499999999999), ratio(500000000001, 999999999998)},
		{ratio(1, 2), ratio(1, 500000000001), noRatio()},
		{ratio(1, mostPart), ratio(1, 999999999999), noRatio()},
		{ratio(1, mostPart), ratio(-1, 999999999998), noRatio()},
		{ratio(1, mostPart), ratio(1, 3), noRatio()},
		{ratio(mostPart, 999999999999), ratio(-1, 999999999999), ratio(1, 1)},
		{ratio(mostPart, 999999999999), ratio(1, 999999999999), noRatio()},
		{ratio(999999999998, 999999999999), ratio(1, 999999999999), ratio(1, 1)},
		{ratio(1, 1), ratio(1, 999999999999), ratio(mostPart, 999999999999)},
		{ratio(1, 1), ratio(1, mostPart), noRatio()},
		{ratio(1, 1), ratio(-1, mostPart), ratio(999999999999, mostPart)},
		{ratio(2, 1), ratio(-1, mostPart), noRatio()},
		// In 64 bits, the numerator of the sum is 1.
		{ratio(1<<32, 1), ratio(1, 1<<32), noRatio()},
		{ratio(1<<39, 1), ratio(1, 1<<39), noRatio()},
		{ratio(1000000, 1), ratio(1, 999999), ratio(999999000001, 999999)},
		{ratio(1000000, 1), ratio(1, 1000001), noRatio()},
		{ratio(1000000, 1), ratio(-1, 1000000), ratio(999999999999, 1000000)},
	}
}

// divisorSumCases have products of 40 to 83 bits, because the denominators have
// a great common divisor; the last ones are those of which the common
// denominator is the greatest.
func divisorSumCases() []sumCase {
	return []sumCase{
		{ratio(1, mostPart), ratio(1, mostPart), ratio(1, 500000000000)},
		{ratio(999999999999, mostPart), ratio(1, mostPart), ratio(1, 1)},
		{ratio(999999999999, mostPart), ratio(999999999999, mostPart), ratio(999999999999, 500000000000)},
		{ratio(999999999999, mostPart), ratio(-1, mostPart), ratio(499999999999, 500000000000)},
		{ratio(999999999997, mostPart), ratio(499999999999, 500000000000), ratio(399999999999, 200000000000)},
		// The product of the denominators is 0 in 64 bits, or another number
		// than it is.
		{ratio(1, 1<<32), ratio(1, 1<<32), ratio(1, 1<<31)},
		{ratio(1, 1<<36), ratio(1, 1<<36), ratio(1, 1<<35)},
		{ratio(3, 1<<39), ratio(1, 1<<39), ratio(1, 1<<37)},
		{ratio(1, 1<<39), ratio(-1, 1<<38), ratio(-1, 1<<39)},
		{ratio(1<<39-1, 1<<39), ratio(1, 1<<39), ratio(1, 1)},
		{ratio(1, 3<<32), ratio(1, 3<<33), ratio(1, 1<<33)},
		{ratio(499991499999, 999983000000), ratio(499988617697, 999982000017), ratio(999996617647, 999999000000)},
		{ratio(499991499999, 999983000000), ratio(-999982882354, 999982000017), ratio(-500000382353, 999999000000)},
		{ratio(999982999999, 999983000000), ratio(-999982882354, 999982000017), ratio(-882353, 999999000000)},
		{ratio(999982999999, 999983000000), ratio(499988617697, 999982000017), noRatio()},
		{ratio(999982999999, 999983000000), ratio(999999117374, 999982000017), noRatio()},
		{ratio(1, 999983000000), ratio(-999982117663, 999982000017), ratio(-999999117647, 999999000000)},
		{ratio(1, 999983000000), ratio(999999882065, 999982000017), noRatio()},
		{ratio(999998999999, 999999000000), ratio(-999982000033, 999982000017), ratio(-17, 999983000000)},
		{ratio(999999999999, 999981999937), ratio(-999986333290, 999985999949), ratio(17666369, 999962000357)},
		{ratio(1, 999981999937), ratio(999999833323, 999985999949), ratio(999975833400, 999962000357)},
	}
}

func sumCases() []sumCase {
	return slices.Concat(smallSumCases(), boundSumCases(), divisorSumCases())
}

func TestRatioSum(t *testing.T) {
	for _, c := range sumCases() {
		checkSum(t, c.a, c.b, c.sum)
		other := c.minus()
		checkSum(t, other.a, other.b, other.sum)
	}
}

func TestRatioSumOfInvalidFractions(t *testing.T) {
	for _, bad := range invalidRatios() {
		for _, r := range append(validRatios(), invalidRatios()...) {
			checkSum(t, bad, r, noRatio())
		}
	}
}

func TestRatioSumOfAllPairs(t *testing.T) {
	list := validRatios()
	for _, c := range sumCases() {
		list = append(list, c.a, c.minus().b)
	}
	for n := -7; n <= 7; n++ {
		for d := 1; d <= 7; d++ {
			list = append(list, impl.RatioOf(n, d))
		}
	}
	for _, a := range list {
		for _, b := range list {
			checkSum(t, a, b, sumSlowly(a, b))
		}
	}
}

// drawing mixes the bits of a state, so that the numbers are the same at every
// run.
type drawing struct{ state uint64 }

// below draws a number from 0 up to n.
func (d *drawing) below(n int) int {
	d.state += 0x9e3779b97f4a7c15
	x := (d.state ^ d.state>>30) * 0xbf58476d1ce4e5b9
	x = (x ^ x>>27) * 0x94d049bb133111eb
	return int((x ^ x>>31) % uint64(n))
}

// upTo draws a number from 1 to most with any number of bits.
func (d *drawing) upTo(most int) int { return 1 + d.below(min(most, 1<<d.below(41))) }

// over draws a valid fraction with a divisor of this denominator, which is most
// often the denominator itself.
func (d *drawing) over(denominator int) impl.Ratio {
	n := d.upTo(mostPart)
	if d.below(2) == 0 {
		n = -n
	}
	return ratioSlowly(big.NewRat(int64(n), int64(denominator)))
}

// freely draws two fractions without regard to each other.
func (d *drawing) freely() (impl.Ratio, impl.Ratio) {
	return d.over(d.upTo(mostPart)), d.over(d.upTo(mostPart))
}

// withDivisor draws two fractions with a common divisor of their denominators.
func (d *drawing) withDivisor() (impl.Ratio, impl.Ratio) {
	common := d.upTo(mostPart)
	return d.over(common * d.upTo(mostPart/common)), d.over(common * d.upTo(mostPart/common))
}

// withSum draws a fraction and a sum until the other summand is valid.
func (d *drawing) withSum() (impl.Ratio, impl.Ratio) {
	for {
		a, b := d.withDivisor()
		rest := ratioSlowly(new(big.Rat).Sub(valueOf(b), valueOf(a)))
		if rest != noRatio() {
			return a, rest
		}
	}
}

// cancelling draws two fractions whose denominators have the factor common,
// which their sum has not: the numerator of b is such that it cancels out. No
// two of the factors have a divisor in common.
func (d *drawing) cancelling(common int, left int, right int) (impl.Ratio, impl.Ratio) {
	inverse := int(new(big.Int).ModInverse(big.NewInt(int64(left)), big.NewInt(int64(common))).Int64())
	most := mostPart/common - 1
	for {
		a := ratio(1+d.below(mostPart), common*left)
		n := common - a.N%common*right%common*inverse%common
		b := ratio(n+(d.below(2*most)-most)*common, common*right)
		if isRatioSlowly(a) && isRatioSlowly(b) {
			return a, b
		}
	}
}

// sumKinds counts what was drawn: valid and other sums, and among the valid ones
// those of which the products have more than 63 and more than 64 bits.
type sumKinds struct{ valid, other, long, longer int }

func (k *sumKinds) count(a impl.Ratio, b impl.Ratio, sum impl.Ratio) {
	if sum == noRatio() {
		k.other++
		return
	}
	k.valid++
	product := func(x int, y int) *big.Int { return new(big.Int).Mul(big.NewInt(int64(x)), big.NewInt(int64(y))) }
	bits := min(product(a.D, b.D).BitLen(), product(a.N, b.D).BitLen(), product(b.N, a.D).BitLen())
	if bits > 63 {
		k.long++
	}
	if bits > 64 {
		k.longer++
	}
}

func TestRatioSumOfDrawnFractions(t *testing.T) {
	d := &drawing{}
	ways := []func() (impl.Ratio, impl.Ratio){
		d.freely,
		d.withDivisor,
		d.withSum,
		func() (impl.Ratio, impl.Ratio) { return d.cancelling(999983, 1000000, 999999) },
		func() (impl.Ratio, impl.Ratio) { return d.cancelling(999999, 1000000, 999983) },
		func() (impl.Ratio, impl.Ratio) { return d.cancelling(1000000, 999999, 999983) },
		func() (impl.Ratio, impl.Ratio) { return d.cancelling(999979, 999983, 1000003) },
		func() (impl.Ratio, impl.Ratio) { return d.cancelling(49999991, 19997, 20000) },
	}
	var all sumKinds
	for i, way := range ways {
		before := all
		for range 4000 {
			a, b := way()
			sum := sumSlowly(a, b)
			all.count(a, b, sum)
			checkSum(t, a, b, sum)
		}
		if all.valid-before.valid < 1000 {
			t.Errorf("in the way %d, few sums are valid: %+v and then %+v", i, before, all)
		}
	}
	if all.other < 4000 || all.long < 4000 || all.longer < 4000 {
		t.Errorf("sums of all kinds should be drawn: %+v", all)
	}
}

// TestASummandTakenAwayAgain comes back to the other one.
func TestASummandTakenAwayAgain(t *testing.T) {
	d := &drawing{}
	for range 4000 {
		a, b := d.withSum()
		sum := impl.RatioSum(a, b)
		checkSum(t, sum, ratio(-b.N, b.D), a)
		checkSum(t, sum, ratio(-a.N, a.D), b)
	}
}

// moduliSlowly divides and adds without any bounds.
func moduliSlowly(list []impl.Cylinder) *big.Rat {
	sum := new(big.Rat)
	for _, c := range list {
		sum.Add(sum, big.NewRat(int64(c.Height), int64(c.Width)))
	}
	return sum
}

func TestModuliOf(t *testing.T) {
	cases := []struct {
		s    impl.Surface
		want impl.Ratio
	}{
		{surfaceWith([]int{0}, []int{0}), ratio(1, 1)},
		{surfaceWith([]int{1, 0}, []int{0, 1}), ratio(1, 2)},
		{surfaceWith([]int{0, 1}, []int{1, 0}), ratio(2, 1)},
		{surfaceWith([]int{1, 0}, []int{1, 0}), ratio(1, 2)},
		{torusSlowly(3, 2), ratio(2, 3)},
		{torusSlowly(2, 3), ratio(3, 2)},
		{torusSlowly(4, 6), ratio(3, 2)},
		{torusSlowly(6, 4), ratio(2, 3)},
		{torusSlowly(4, 4), ratio(1, 1)},
		{torusSlowly(24, 1), ratio(1, 24)},
		{torusSlowly(1, 24), ratio(24, 1)},
		{surfaceWith([]int{1, 0, 2}, []int{2, 1, 0}), ratio(3, 2)},
		{surfaceWith([]int{0, 2, 1}, []int{1, 2, 0}), ratio(3, 2)},
		{surfaceWith([]int{1, 2, 0}, []int{0, 2, 1}), ratio(1, 3)},
		{surfaceWith([]int{1, 2, 0, 3}, []int{3, 1, 2, 0}), ratio(4, 3)},
		{surfaceWith([]int{1, 0, 2, 3, 4}, []int{2, 1, 3, 4, 0}), ratio(7, 2)},
		{surfaceWith([]int{1, 2, 0, 4, 3}, []int{3, 1, 2, 0, 4}), ratio(5, 6)},
		{surfaceWith([]int{1, 2, 3, 0, 5, 6, 7, 4, 9, 8, 11, 10, 13, 12}, []int{4, 5, 6, 7, 8, 9, 2, 3, 10, 11, 12, 13, 0, 1}), ratio(2, 1)},
		{surfaceWith([]int{1, 2, 3, 0, 5, 6, 7, 4}, []int{4, 7, 6, 5, 2, 1, 0, 3}), ratio(1, 2)},
		{surfaceWith([]int{1, 2, 3, 4, 0, 6, 7, 8, 9, 5}, []int{5, 6, 7, 8, 9, 4, 3, 2, 1, 0}), ratio(2, 5)},
		{zigzag(7), ratio(5, 2)},
		{zigzag(24), ratio(6, 1)},
		{ellSlowly(12, 13), ratio(145, 12)},
		{ellSlowly(23, 2), ratio(24, 23)},
		{ellSlowly(2, 23), ratio(45, 2)},
		{twoRows(11, 13), ratio(24, 143)},
		{twoRows(9, 15), ratio(8, 45)},
		{unevenRows(), ratio(1513, 840)},
	}
	for _, c := range cases {
		for _, names := range someNames(len(c.s.Right)) {
			s := renamedSlowly(c.s, names)
			if got := impl.ModuliOf(s); got != c.want {
				t.Errorf("ModuliOf(%v) = %v, want %v", s, got, c.want)
			}
		}
	}
}

// checkModuli compares with the cylinders that are given, with those of the
// package, and with RatioSum, from the first one on and backwards.
func checkModuli(t *testing.T, s impl.Surface, list []impl.Cylinder) {
	t.Helper()
	got := impl.ModuliOf(s)
	if want := ratioSlowly(moduliSlowly(list)); got != want || !impl.RatioOk(got) {
		t.Errorf("ModuliOf(%v) = %v, want %v", s, got, want)
	}
	if want := ratioSlowly(moduliSlowly(mustCylinders(t, s))); got != want {
		t.Errorf("ModuliOf(%v) = %v, want %v as CylindersOf has it", s, got, want)
	}
	forth, back := ratio(0, 1), ratio(0, 1)
	for i, c := range list {
		last := list[len(list)-1-i]
		forth = impl.RatioSum(forth, impl.RatioOf(c.Height, c.Width))
		back = impl.RatioSum(back, impl.RatioOf(last.Height, last.Width))
	}
	if got != forth || got != back {
		t.Errorf("ModuliOf(%v) = %v, but RatioSum makes %v and backwards %v", s, got, forth, back)
	}
}

func TestModuliOfManySurfaces(t *testing.T) {
	for _, s := range cylinderSurfaces() {
		checkModuli(t, s, cylindersSlowly(s))
	}
	for _, c := range largeStacks() {
		checkModuli(t, c.s, c.cylinders)
	}
	for width := 1; width <= 24; width++ {
		for height := 1; width*height <= 24; height++ {
			checkModuli(t, torusSlowly(width, height), cylindersWith(width, height))
		}
	}
	for arm := 2; arm <= 23; arm++ {
		for leg := 2; arm+leg <= 25; leg++ {
			checkModuli(t, ellSlowly(arm, leg), cylindersWith(arm, 1, 1, leg-1))
		}
	}
}

// TestShearsAndNamesKeepTheModuli also makes a half turn.
func TestShearsAndNamesKeepTheModuli(t *testing.T) {
	for _, s := range cylinderSurfaces() {
		want := impl.ModuliOf(s)
		for _, word := range []string{"T", "t", "SS", "TTT", "tSSt"} {
			if got := impl.ModuliOf(mustRun(t, s, word)); got != want {
				t.Errorf("ModuliOf(%v) after %s = %v, want %v as before", s, word, got, want)
			}
		}
		if renamed := renamedSlowly(s, mixedUp(len(s.Right))); impl.ModuliOf(renamed) != want {
			t.Errorf("ModuliOf(%v) = %v, want %v as for %v", renamed, impl.ModuliOf(renamed), want, s)
		}
	}
}

// stratumPartSlowly is for lists of small numbers. It has no bounds.
func stratumPartSlowly(stratum []int) *big.Rat {
	sum := new(big.Rat)
	for _, d := range stratum {
		sum.Add(sum, big.NewRat(int64(d*(d+2)), int64(d+1)))
	}
	return sum.Mul(sum, big.NewRat(1, 12))
}

func TestStratumPart(t *testing.T) {
	cases := []struct {
		stratum []int
		want    impl.Ratio
	}{
		{nil, ratio(0, 1)},
		{[]int{}, ratio(0, 1)},
		{make([]int, 0, 5), ratio(0, 1)},
		{[]int{1}, ratio(1, 8)},
		{[]int{2}, ratio(2, 9)},
		{[]int{3}, ratio(5, 16)},
		{[]int{4}, ratio(2, 5)},
		{[]int{23}, ratio(575, 288)},
		{[]int{24}, ratio(52, 25)},
		{[]int{1, 1}, ratio(1, 4)},
		{[]int{2, 2}, ratio(4, 9)},
		{[]int{3, 1}, ratio(7, 16)},
		{[]int{1, 3}, ratio(7, 16)},
		{[]int{6, 6}, ratio(8, 7)},
		{[]int{1, 2, 3}, ratio(95, 144)},
		{[]int{3, 1, 2}, ratio(95, 144)},
		{[]int{1, 1, 1, 1}, ratio(1, 2)},
		{slices.Repeat([]int{1}, 23), ratio(23, 8)},
		{slices.Repeat([]int{1}, 24), ratio(3, 1)},
		{slices.Repeat([]int{2}, 24), ratio(16, 3)},
		{slices.Repeat([]int{22}, 24), ratio(1056, 23)},
		{slices.Repeat([]int{24}, 24), ratio(1248, 25)},
		{[]int{10, 12, 16, 18, 22, 24, 15, 8}, ratio(506600398357, 45893390400)},
		{counting(24)[1:], ratio(105736754645, 4283383104)},
		// The elements are not in descending order, and the sum is just valid.
		{[]int{13, 15, 22, 23, 10, 10, 6, 21, 22, 13, 16, 23, 8, 12, 15, 18, 20, 14, 16, 22, 14, 13, 6}, ratio(999620326993, 32125373280)},
		{[]int{20, 15, 18, 8, 21, 12, 6, 16, 13, 6, 22, 14}, ratio(974885408423, 64250746560)},
	}
	for _, c := range cases {
		if got := impl.StratumPart(c.stratum); got != c.want {
			t.Errorf("StratumPart(%v) = %v, want %v", c.stratum, got, c.want)
		}
	}
}

func TestStratumPartOfWrongLists(t *testing.T) {
	wrong := []int{0, -1, -2, -3, -24, 25, 26, 100, math.MinInt, math.MinInt + 1, math.MinInt + 2, 1<<32 + 2, 1<<8 + 1, -1 << 32}
	for _, d := range append(wrong, greatInts()...) {
		for n := range 24 {
			list := slices.Repeat([]int{2}, n+1)
			for i := range list {
				list[i] = d
				if got := impl.StratumPart(list); got != noRatio() {
					t.Errorf("StratumPart(%v) = %v", list, got)
				}
				list[i] = 2
			}
		}
	}
	for _, n := range []int{25, 26, 27, 48, 100, 1000} {
		for _, d := range []int{1, 2, 24, 0, -1, 25} {
			if got := impl.StratumPart(slices.Repeat([]int{d}, n)); got != noRatio() {
				t.Errorf("StratumPart(%d times %d) = %v", n, d, got)
			}
		}
	}
	for _, list := range [][]int{{0}, {0, 0}, {2, 0}, {0, 2}, {1, -1}, {-1, 1}, {25}, {24, 25}, {math.MinInt, math.MaxInt}, make([]int, 24), append(slices.Repeat([]int{1}, 24), 0)} {
		if got := impl.StratumPart(list); got != noRatio() {
			t.Errorf("StratumPart(%v) = %v", list, got)
		}
	}
}

// TestStratumPartWithASumThatIsNotValid has lists with such a sum at their end,
// at an earlier element only, and with a twelfth that would be valid.
func TestStratumPartWithASumThatIsNotValid(t *testing.T) {
	lists := [][]int{
		{18, 24, 12, 22, 20, 15, 16, 21},
		{10, 12, 16, 18, 22, 24, 15, 8, 6},
		{16, 18, 15, 23, 12, 8, 20, 15, 12, 10, 24, 2, 8, 21, 24, 1, 22, 6, 14, 10},
		counting(25)[1:],
		// The last sum is valid.
		{10, 24, 22, 14, 22, 12, 15, 12, 13, 16, 18, 20},
		{18, 12, 18, 20, 22, 8, 16, 3, 24, 21, 12, 3, 14, 2},
		{2, 23, 2, 10, 15, 20, 5, 11, 3, 16, 14, 4, 24, 6, 12, 2, 18, 22, 6},
		{16, 24, 20, 22, 18, 10, 13, 18, 20, 12, 13, 14, 23, 21, 13, 13, 1, 15, 12, 24},
		{1, 15, 2, 24, 23, 16, 21, 18, 13, 21, 16, 13, 23, 3, 5, 6, 16, 5, 22, 21, 1, 12, 3, 16},
	}
	for _, list := range lists {
		if got := impl.StratumPart(list); got != noRatio() {
			t.Errorf("StratumPart(%v) = %v", list, got)
		}
	}
	// The order decides.
	cases := []struct {
		bad, good []int
		want      impl.Ratio
	}{
		{[]int{21, 12, 22, 16, 18, 24, 13, 13, 20, 15, 15, 13}, []int{18, 13, 22, 15, 20, 12, 21, 15, 13, 24, 16, 13}, ratio(951695373329, 53542288800)},
		{[]int{23, 16, 22, 18, 12, 10, 6, 14, 18, 15, 22, 8, 22, 15}, []int{23, 15, 16, 15, 22, 18, 22, 12, 22, 6, 18, 14, 8, 10}, ratio(156644889421, 8031343320)},
	}
	for _, c := range cases {
		if !slices.Equal(slices.Sorted(slices.Values(c.bad)), slices.Sorted(slices.Values(c.good))) {
			t.Errorf("%v and %v have different elements", c.bad, c.good)
		}
		if got := impl.StratumPart(c.bad); got != noRatio() {
			t.Errorf("StratumPart(%v) = %v", c.bad, got)
		}
		if got := impl.StratumPart(c.good); got != c.want {
			t.Errorf("StratumPart(%v) = %v, want %v", c.good, got, c.want)
		}
	}
}

// checkStratumPart adds the elements one by one, each sum within its bounds.
func checkStratumPart(t *testing.T, stratum []int) {
	t.Helper()
	want := ratioSlowly(stratumPartSlowly(stratum))
	for n := range stratum {
		if twelve := stratumPartSlowly(stratum[:n+1]); ratioSlowly(twelve.Mul(twelve, big.NewRat(12, 1))) == noRatio() {
			want = noRatio()
		}
	}
	if got := impl.StratumPart(stratum); got != want {
		t.Errorf("StratumPart(%v) = %v, want %v", stratum, got, want)
	}
}

func TestStratumPartOfManyLists(t *testing.T) {
	for length := range 4 {
		for _, list := range listsOver(1, 24, length) {
			if length < 3 || slices.IsSorted(list) {
				checkStratumPart(t, list)
			}
		}
	}
	for d := 1; d <= 24; d++ {
		for n := range 25 {
			checkStratumPart(t, slices.Repeat([]int{d}, n))
		}
	}
	for _, s := range turnSurfaces() {
		checkStratumPart(t, stratumSlowly(s))
	}
	draw := &drawing{}
	for range 3000 {
		list := make([]int, draw.below(25))
		for i := range list {
			list[i] = 1 + draw.below(24)
		}
		checkStratumPart(t, list)
	}
}

// exponentCase is a surface with the sum of its exponents.
type exponentCase struct {
	s    impl.Surface
	want impl.Ratio
}

// exponentCases are in the order of their genus. From genus 3 on, the sums are
// those that are known for the strata 4 (9/5 if the surface is hyperelliptic
// and 8/5 otherwise), 2, 1, 1 (11/6) and 6 (16/7 if it is hyperelliptic), and
// for the two surfaces with but one exponent that is not 0, in the strata 1, 1,
// 1, 1 and 2, 2, 2 (1).
func exponentCases() []exponentCase {
	return []exponentCase{
		{surfaceWith([]int{0}, []int{0}), ratio(1, 1)},
		{surfaceWith([]int{1, 0}, []int{0, 1}), ratio(1, 1)},
		{surfaceWith([]int{1, 0, 3, 2}, []int{2, 3, 0, 1}), ratio(1, 1)},
		{surfaceWith(circling(24, 1), counting(24)), ratio(1, 1)},
		{surfaceWith(circling(24, 8), circling(24, 9)), ratio(1, 1)},
		{surfaceWith([]int{1, 0, 2}, []int{2, 1, 0}), ratio(4, 3)},
		{surfaceWith([]int{1, 2, 0, 3}, []int{3, 1, 2, 0}), ratio(4, 3)},
		{surfaceWith([]int{1, 2, 3, 4, 5, 0, 6}, []int{6, 1, 2, 3, 4, 5, 0}), ratio(4, 3)},
		{surfaceWith([]int{0, 2, 1, 3}, []int{1, 0, 3, 2}), ratio(3, 2)},
		{surfaceWith([]int{0, 1, 3, 4, 5, 6, 2}, []int{1, 2, 3, 4, 0, 5, 6}), ratio(3, 2)},
		{surfaceWith([]int{1, 2, 3, 4, 0}, []int{1, 0, 4, 3, 2}), ratio(9, 5)},
		{surfaceWith([]int{1, 0, 3, 4, 5, 6, 2}, []int{0, 2, 1, 5, 6, 3, 4}), ratio(9, 5)},
		{surfaceWith([]int{0, 2, 1, 4, 3, 6, 5}, []int{1, 0, 3, 5, 6, 2, 4}), ratio(9, 5)},
		{surfaceWith([]int{0, 2, 3, 1, 4}, []int{1, 0, 2, 4, 3}), ratio(8, 5)},
		{surfaceWith([]int{1, 2, 3, 4, 5, 0}, []int{0, 2, 1, 4, 5, 3}), ratio(8, 5)},
		{surfaceWith([]int{0, 2, 3, 4, 5, 6, 1}, []int{1, 0, 2, 5, 4, 3, 6}), ratio(11, 6)},
		{surfaceWith([]int{1, 3, 5, 6, 2, 7, 0, 4}, []int{2, 4, 3, 7, 6, 1, 5, 0}), ratio(1, 1)},
		{surfaceWith([]int{0, 2, 4, 5, 6, 3, 1}, []int{1, 3, 4, 6, 2, 5, 0}), ratio(16, 7)},
		{surfaceWith([]int{1, 3, 4, 6, 8, 9, 5, 10, 11, 0, 2, 7}, []int{2, 4, 5, 7, 6, 8, 10, 0, 3, 11, 9, 1}), ratio(1, 1)},
	}
}

func mustSum(t *testing.T, s impl.Surface) impl.Ratio {
	t.Helper()
	sum, ok := impl.ExponentSum(s)
	if !ok || !impl.RatioOk(sum) {
		t.Fatalf("ExponentSum(%v) = %v, %t", s, sum, ok)
	}
	return sum
}

func checkExponents(t *testing.T, s impl.Surface, want impl.Ratio) {
	t.Helper()
	if got, ok := impl.ExponentSum(s); got != want || !ok {
		t.Errorf("ExponentSum(%v) = %v, %t, want %v", s, got, ok, want)
	}
}

func checkNoExponents(t *testing.T, s impl.Surface) {
	t.Helper()
	if got, ok := impl.ExponentSum(s); got != noRatio() || ok {
		t.Errorf("ExponentSum(%v) = %v, %t", s, got, ok)
	}
}

func TestExponentSum(t *testing.T) {
	for _, c := range exponentCases() {
		for _, names := range someNames(len(c.s.Right)) {
			checkExponents(t, renamedSlowly(c.s, names), c.want)
		}
	}
}

// exponentsSlowly adds without any bounds.
func exponentsSlowly(s impl.Surface) *big.Rat {
	orbit := orbitSlowly(s)
	sum := new(big.Rat)
	for _, m := range orbit {
		sum.Add(sum, moduliSlowly(cylindersSlowly(m.form)))
	}
	sum.Mul(sum, big.NewRat(1, int64(len(orbit))))
	return sum.Add(sum, stratumPartSlowly(stratumSlowly(s)))
}

func TestExponentSumOfManySurfaces(t *testing.T) {
	for _, s := range orbitSurfaces() {
		checkExponents(t, s, ratioSlowly(exponentsSlowly(s)))
	}
	for _, s := range append(formsWith(4), formsWith(5)...) {
		checkExponents(t, s, ratioSlowly(exponentsSlowly(s)))
	}
}

// TestExponentSumIsMadeOfItsParts makes the mean of the surfaces that OrbitOf
// has with the other functions.
func TestExponentSumIsMadeOfItsParts(t *testing.T) {
	for _, s := range orbitSurfaces() {
		list := mustOrbit(t, s)
		sum := ratio(0, 1)
		for _, x := range list {
			sum = impl.RatioSum(sum, impl.ModuliOf(x))
		}
		mean := impl.RatioOf(sum.N, sum.D*len(list))
		want := impl.RatioSum(impl.StratumPart(impl.StratumOf(s)), mean)
		checkExponents(t, s, want)
	}
}

func TestExponentSumOfTori(t *testing.T) {
	for width := 1; width <= 24; width++ {
		for height := 1; width*height <= 24; height++ {
			straight := torusSlowly(width, height)
			checkExponents(t, straight, ratio(1, 1))
			for twist := range width {
				// The upper row is glued to the lower one with a twist.
				s := cloneSurface(straight)
				for x := range width {
					s.Up[(height-1)*width+x] = (x + twist) % width
				}
				checkExponents(t, s, ratio(1, 1))
			}
		}
	}
	for n := 1; n <= 4; n++ {
		for _, s := range impl.SurfacesIn(n, nil) {
			checkExponents(t, s, ratio(1, 1))
		}
	}
}

func TestExponentSumOfListedSurfaces(t *testing.T) {
	counts := map[impl.Ratio]int{}
	for n := 1; n <= 4; n++ {
		for _, s := range impl.SurfacesWith(n) {
			counts[mustSum(t, s)]++
		}
		for _, s := range impl.SurfacesIn(n, []int{2}) {
			checkExponents(t, s, ratio(4, 3))
		}
		for _, s := range impl.SurfacesIn(n, []int{1, 1}) {
			checkExponents(t, s, ratio(3, 2))
		}
	}
	if len(counts) != 3 || counts[ratio(1, 1)] != 15 || counts[ratio(4, 3)] != 12 || counts[ratio(3, 2)] != 10 {
		t.Errorf("the listed surfaces have the sums %v", counts)
	}
}

// TestExponentSumOfElls fails where the orbit has more than MaxOrbit surfaces.
func TestExponentSumOfElls(t *testing.T) {
	for arm := 2; arm <= 23; arm++ {
		for leg := 2; arm+leg <= 25; leg++ {
			if ellIndex(arm, leg) <= 120 {
				checkExponents(t, ellSlowly(arm, leg), ratio(4, 3))
			} else {
				checkNoExponents(t, ellSlowly(arm, leg))
			}
		}
	}
}

// differentOf drops those of the surfaces that differ from an earlier one only in
// the names of their squares.
func differentOf(list []impl.Surface) []impl.Surface {
	met := map[string]bool{}
	return slices.DeleteFunc(list, func(s impl.Surface) bool {
		text := listText([]impl.Surface{formSlowly(s)})
		again := met[text]
		met[text] = true
		return again
	})
}

// TestExponentSumOfGenusTwo has surfaces of up to 24 squares, glued from
// cylinders, and counts those of each stratum.
func TestExponentSumOfGenusTwo(t *testing.T) {
	large := map[impl.Ratio]int{}
	for _, s := range differentOf(cylinderSurfaces()) {
		if genusSlowly(s) != 2 {
			continue
		}
		want := ratio(4, 3)
		if slices.Equal(stratumSlowly(s), []int{1, 1}) {
			want = ratio(3, 2)
		}
		got, ok := impl.ExponentSum(s)
		if ok && got != want || !ok && (got != noRatio() || impl.IndexOf(s) >= 0) {
			t.Errorf("ExponentSum(%v) = %v, %t, want %v", s, got, ok, want)
		}
		if ok && len(s.Right) > 5 {
			large[got]++
		}
	}
	if len(large) != 2 || large[ratio(4, 3)] < 20 || large[ratio(3, 2)] < 20 {
		t.Errorf("the surfaces of more than 5 squares have the sums %v", large)
	}
}

// quarterOfFixed adds 1 over the angle of each point that stays under a half
// turn, and divides the sum by 4.
func quarterOfFixed(s impl.Surface, a []int) *big.Rat {
	fixed := fixedSlowly(s, a)
	sum := big.NewRat(int64(fixed[0]+fixed[1]+fixed[2]), 1)
	for _, corner := range impl.CornersOf(s) {
		opposite := slices.Index(s.Up, slices.Index(s.Right, a[corner[0]]))
		if slices.Contains(corner, opposite) {
			sum.Add(sum, big.NewRat(1, int64(len(corner))))
		}
	}
	return sum.Mul(sum, big.NewRat(1, 4))
}

// TestExponentSumOfHyperellipticSurfaces has a theorem about them: the points
// that stay under the half turn with the quotient of genus 0 give the sum. It is
// also known by itself for a surface whose only corner that is not regular stays,
// and for one with two of them that are exchanged.
func TestExponentSumOfHyperellipticSurfaces(t *testing.T) {
	genera := map[impl.Ratio]bool{}
	for _, s := range differentOf(turnSurfaces()) {
		if impl.IndexOf(s) < 0 {
			continue
		}
		for _, a := range turnsSlowly(s) {
			if !isOwnInverse(a) || quotientSlowly(t, s, a) != 0 {
				continue
			}
			sum := quarterOfFixed(s, a)
			checkExponents(t, s, ratioSlowly(sum))
			g, stratum := int64(genusSlowly(s)), stratumSlowly(s)
			genera[ratio(int(g), len(stratum))] = true
			if len(stratum) == 1 && sum.Cmp(big.NewRat(g*g, 2*g-1)) != 0 {
				t.Errorf("the sum for %v in the stratum %v is %v", s, stratum, sum)
			}
			if len(stratum) == 2 && sum.IsInt() && sum.Cmp(big.NewRat(g+1, 2)) != 0 {
				t.Errorf("the sum for %v in the stratum %v is %v", s, stratum, sum)
			}
		}
	}
	if len(genera) < 16 {
		t.Errorf("there are hyperelliptic surfaces of %d kinds only: %v", len(genera), genera)
	}
}

func TestSurfacesOfOneOrbitHaveTheSameExponentSum(t *testing.T) {
	for _, c := range orbitCases() {
		want := mustSum(t, c.s)
		list := mustOrbit(t, c.s)
		for _, i := range sample(len(list)) {
			checkExponents(t, list[i], want)
			checkExponents(t, renamedSlowly(list[i], mixedUp(len(list[i].Right))), want)
		}
		for _, word := range append(longWords(), "T", "t", "S", "s", "SS", "TS", "tsTS") {
			checkExponents(t, mustRun(t, c.s, word), want)
		}
	}
	for n := 1; n <= 4; n++ {
		for _, orbit := range impl.OrbitsWith(n) {
			for _, s := range orbit {
				checkExponents(t, s, mustSum(t, orbit[0]))
			}
		}
	}
}

func TestExponentSumOfFullOrbits(t *testing.T) {
	for _, c := range fullOrbitCases() {
		want := ratioSlowly(exponentsSlowly(c.s))
		checkExponents(t, c.s, want)
		list := mustOrbit(t, c.s)
		checkExponents(t, list[119], want)
		checkExponents(t, renamedSlowly(list[60], mixedUp(len(c.s.Right))), want)
	}
}

func TestExponentSumOfTooLargeOrbits(t *testing.T) {
	for _, c := range largeOrbits() {
		checkNoExponents(t, c.s)
		checkNoExponents(t, renamedSlowly(c.s, mixedUp(len(c.s.Right))))
		checkNoExponents(t, mustRun(t, c.s, "TST"))
		if !impl.RatioOk(impl.ModuliOf(c.s)) {
			t.Errorf("ModuliOf(%v) = %v", c.s, impl.ModuliOf(c.s))
		}
	}
}

func TestInvalidSurfacesHaveNoSums(t *testing.T) {
	for _, s := range append(invalidSurfaces(), shortSurfaces()...) {
		if isSurfaceSlowly(s) {
			checkModuli(t, s, cylindersSlowly(s))
			continue
		}
		if got := impl.ModuliOf(s); got != noRatio() {
			t.Errorf("ModuliOf(%v) = %v", s, got)
		}
		checkNoExponents(t, s)
	}
}

// exponentCalls makes the calls of the layer with a surface, as Right and Up,
// and a stratum. No result has a slice.
func exponentCalls(lists [][]int) map[string]func() [][]int {
	s, stratum := surfaceWith(lists[0], lists[1]), lists[2]
	return map[string]func() [][]int{
		"ModuliOf":    func() [][]int { impl.ModuliOf(s); return nil },
		"StratumPart": func() [][]int { impl.StratumPart(stratum); return nil },
		"ExponentSum": func() [][]int { impl.ExponentSum(s); return nil },
	}
}

func TestExponentsKeepTheRulesOfMemory(t *testing.T) {
	strata := [][]int{nil, {2}, {1, 1}, {1, 3, 2}, {24, 1, 24}, {0, 2}, {2, 25}, {-1}, counting(25)[1:], slices.Repeat([]int{2}, 24), slices.Repeat([]int{2}, 25)}
	for i, c := range append(orbitCases(), fullOrbitCases()[0]) {
		checkMemory(t, [][]int{c.s.Right, c.s.Up, strata[i%len(strata)]}, exponentCalls)
	}
	for i, s := range append(invalidSurfaces(), unevenRows(), largeOrbits()[0].s) {
		checkMemory(t, [][]int{s.Right, s.Up, strata[i%len(strata)]}, exponentCalls)
	}
}

// TestExponentsOfOneListAsAllArguments gives the same memory three times.
func TestExponentsOfOneListAsAllArguments(t *testing.T) {
	list := []int{1, 2, 0}
	s := surfaceWith(list, list)
	checkExponents(t, s, ratio(1, 1))
	if got := impl.ModuliOf(s); got != ratio(1, 3) {
		t.Errorf("ModuliOf(%v) = %v", s, got)
	}
	if got := impl.StratumPart(list[:2]); got != ratio(25, 72) {
		t.Errorf("StratumPart(%v) = %v", list[:2], got)
	}
	if !slices.Equal(list, []int{1, 2, 0}) {
		t.Errorf("the argument became %v", list)
	}
}

// TestSumsAreTheSameAtEveryRun repeats calls, also at the same time.
func TestSumsAreTheSameAtEveryRun(t *testing.T) {
	var calls sync.WaitGroup
	for range 8 {
		calls.Go(func() {
			for range 3 {
				for _, c := range exponentCases() {
					checkExponents(t, c.s, c.want)
				}
				for _, c := range sumCases() {
					checkSum(t, c.a, c.b, c.sum)
				}
				for _, s := range []impl.Surface{{}, largeOrbits()[0].s} {
					checkNoExponents(t, s)
				}
			}
		})
	}
	calls.Wait()
}

func TestNothingGoesOnAfterSums(t *testing.T) {
	checkNothingGoesOn(t, func() {
		for _, c := range exponentCases() {
			checkExponents(t, c.s, c.want)
		}
		for _, c := range largeOrbits() {
			checkNoExponents(t, c.s)
		}
		checkNoExponents(t, impl.Surface{})
	})
}
