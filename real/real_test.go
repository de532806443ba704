package real_test

import (
	"math"
	"math/big"
	"math/rand"
	"slices"
	"testing"

	"conventicle/real"
)

var (
	nan     = math.NaN()
	minus0  = math.Copysign(0, -1)
	least   = math.SmallestNonzeroFloat64
	most    = math.MaxFloat64
	inf     = math.Inf(1)
	minInf  = math.Inf(-1)
	loudNaN = math.Float64frombits(0x7FF0000000000001)
	negNaN  = math.Float64frombits(0xFFF8000000000001)
	fullNaN = math.Float64frombits(0xFFFFFFFFFFFFFFFF)
)

// noNumbers are no numbers, of bits that differ.
func noNumbers() []float64 { return []float64{nan, loudNaN, negNaN, fullNaN} }

// numbers stand in order, and none is there twice.
func numbers() []float64 {
	return []float64{
		minInf, -most, -1e300, -1 << 53, -3, -2, math.Nextafter(-1, -2), -1, math.Nextafter(-1, 0), -0.5,
		-0x1p-1022, math.Nextafter(-0x1p-1022, 0), -2 * least, -least,
		minus0, 0,
		least, 2 * least, math.Nextafter(0x1p-1022, 0), 0x1p-1022,
		0.5, math.Nextafter(1, 0), 1, math.Nextafter(1, 2), 2, 3, 1 << 53, 1e300, most, inf,
	}
}

// chance answers numbers that are the same in each run.
func chance() *rand.Rand { return rand.New(rand.NewSource(4)) }

func someReal(r *rand.Rand) float64 { return math.Float64frombits(r.Uint64()) }

// wantReal asks for the very bits: so 0 is not -0, and one that is no number is
// not another one.
func wantReal(t *testing.T, got, want float64, of ...any) {
	t.Helper()
	if math.Float64bits(got) != math.Float64bits(want) {
		t.Errorf("of %v: %v (%x), want %v (%x)", of, got, math.Float64bits(got), want, math.Float64bits(want))
	}
}

func wantOrder(t *testing.T, x, y float64, want int) {
	t.Helper()
	if got := real.Order(x, y); got != want {
		t.Errorf("Order(%v, %v): %d, want %d", x, y, got, want)
	}
}

// P4.1: Order, Max

func TestOrderOfNumbers(t *testing.T) {
	row := numbers()
	for i, x := range row {
		for k, y := range row {
			wantOrder(t, x, y, min(max(i-k, -1), 1))
		}
	}
}

func TestOrderOfNoNumber(t *testing.T) {
	for _, x := range noNumbers() {
		for _, y := range noNumbers() {
			wantOrder(t, x, y, 0)
		}
		for _, y := range numbers() {
			wantOrder(t, x, y, -1)
			wantOrder(t, y, x, 1)
		}
	}
}

func TestOrderOfNoughts(t *testing.T) {
	wantOrder(t, minus0, 0, -1)
	wantOrder(t, 0, minus0, 1)
	wantOrder(t, minus0, minus0, 0)
	wantOrder(t, 0, 0, 0)
}

func TestMax(t *testing.T) {
	for _, c := range []struct {
		l    []float64
		want float64
	}{
		{nil, minInf},
		{[]float64{}, minInf},
		{[]float64{2}, 2},
		{[]float64{1, 3, 2}, 3},
		{[]float64{-1, -3, -2}, -1},
		{[]float64{3, inf, most}, inf},
		{[]float64{minInf}, minInf},
		{[]float64{minInf, -most}, -most},
		{[]float64{minus0}, minus0},
		{[]float64{minus0, 0}, 0},
		{[]float64{0, minus0}, 0},
		{[]float64{minus0, -1}, minus0},
		{[]float64{nan, minInf}, minInf},
		{[]float64{minInf, loudNaN}, minInf},
		{[]float64{nan, -3, fullNaN}, -3},
	} {
		wantReal(t, real.Max(c.l), c.want, c.l)
	}
}

func TestMaxOfNoNumberIsTheOneOfMath(t *testing.T) {
	for _, x := range noNumbers() {
		wantReal(t, real.Max([]float64{x}), nan, math.Float64bits(x))
		wantReal(t, real.Max([]float64{x, fullNaN, x}), nan, math.Float64bits(x))
	}
}

func TestMaxIsTheLastOfTheRow(t *testing.T) {
	r := chance()
	for range 300 {
		row := numbers()[:1+r.Intn(30)]
		last := row[len(row)-1]
		row = append(row, noNumbers()[:r.Intn(5)]...)
		r.Shuffle(len(row), func(i, k int) { row[i], row[k] = row[k], row[i] })
		wantReal(t, real.Max(row), last, row)
	}
}

func TestMaxLeavesTheList(t *testing.T) {
	space := []float64{3, loudNaN, minus0, 1, 9}
	before := slices.Clone(space)
	real.Max(space[:4])
	for i := range space {
		wantReal(t, space[i], before[i], "place", i)
	}
}

// P4.2: Clean

func TestClean(t *testing.T) {
	for _, c := range []struct{ x, low, high, want float64 }{
		{5, 0, 9, 5},
		{0, 0, 9, 0},
		{9, 0, 9, 9},
		{-5, 0, 9, 0},
		{-least, 0, 9, 0},
		{15, 0, 9, 9},
		{math.Nextafter(9, 10), 0, 9, 9},
		{inf, 0, 9, 9},
		{minInf, -2, 9, -2},
		{inf, 0, inf, inf},
		{minInf, minInf, 0, minInf},
		{7, 3, 3, 3},
		{1, 3, 3, 3},
		{3, 3, 3, 3},
		{-4, -9, -2, -4},
		{0, 5, 9, 5},
		{minus0, 5, 9, 5},
		{0, -9, -5, -5},
		{minus0, -9, -5, -5},
	} {
		wantReal(t, real.Clean(c.x, c.low, c.high), c.want, c.x, c.low, c.high)
	}
}

func TestCleanWithLowAboveHigh(t *testing.T) {
	for _, x := range append(numbers(), noNumbers()...) {
		wantReal(t, real.Clean(x, 7, 3), 7, x)
		wantReal(t, real.Clean(x, inf, minInf), inf, x)
		wantReal(t, real.Clean(x, least, minus0), least, x)
	}
}

func TestCleanOfNoNumber(t *testing.T) {
	for _, none := range noNumbers() {
		wantReal(t, real.Clean(none, 2, 9), 2, "x")
		wantReal(t, real.Clean(none, minus0, 9), minus0, "x")
		for _, x := range numbers() {
			wantReal(t, real.Clean(x, 2, none), 2, x, "high")
			wantReal(t, real.Clean(x, none, 9), none, x, "low")
			wantReal(t, real.Clean(x, none, minInf), none, x, "low")
			wantReal(t, real.Clean(x, none, fullNaN), none, x, "low and high")
		}
	}
}

func TestCleanOfNoughts(t *testing.T) {
	for _, c := range []struct{ x, low, high, want float64 }{
		{minus0, -1, 1, 0},
		{0, -1, 1, 0},
		{minus0, 0, 1, 0},
		{minus0, minus0, 1, 0},
		{minus0, -1, minus0, 0},
		{minus0, 0, minus0, 0},
		{0, minus0, minus0, 0},
		{-3, minus0, 1, minus0}, // an end is told as it is
		{3, -1, minus0, minus0},
		{3, 0, minus0, minus0}, // 0 is not above -0
	} {
		wantReal(t, real.Clean(c.x, c.low, c.high), c.want, c.x, c.low, c.high)
	}
}

// P4.3: Blend

func TestBlend(t *testing.T) {
	for _, c := range []struct{ old, x, part, want float64 }{
		{10, 20, 0.25, 12.5},
		{20, 10, 0.25, 17.5},
		{-8, 8, 0.5, 0},
		{minus0, minus0, 0.5, minus0},
		{0, 8, least, 8 * least},
	} {
		wantReal(t, real.Blend(c.old, c.x, c.part), c.want, c.old, c.x, c.part)
	}
}

func TestBlendByAPartAtTheEnds(t *testing.T) {
	for _, old := range numbers() {
		for _, x := range numbers() {
			for _, part := range append(noNumbers(), 0, minus0, -least, -3, minInf) {
				wantReal(t, real.Blend(old, x, part), old, old, x, part)
			}
			for _, part := range []float64{1, math.Nextafter(1, 2), 5, inf} {
				wantReal(t, real.Blend(old, x, part), x, old, x, part)
			}
		}
	}
}

func TestBlendOfNoNumber(t *testing.T) {
	for _, none := range noNumbers() {
		for _, part := range []float64{nan, minInf, -1, 0, least, 0.5, 1, 2, inf} {
			for _, y := range numbers() {
				wantReal(t, real.Blend(y, none, part), y, y, part)
				wantReal(t, real.Blend(none, y, part), y, y, part)
			}
			for _, old := range noNumbers() {
				wantReal(t, real.Blend(old, none, part), old, "both", part)
			}
		}
	}
}

func TestBlendOfInfinities(t *testing.T) {
	for _, part := range []float64{least, 0.25, 0.5, math.Nextafter(1, 0)} {
		wantReal(t, real.Blend(inf, minInf, part), 0, part)
		wantReal(t, real.Blend(minInf, inf, part), 0, part)
		wantReal(t, real.Blend(inf, inf, part), inf, part)
		wantReal(t, real.Blend(minInf, minInf, part), minInf, part)
		wantReal(t, real.Blend(inf, -most, part), inf, part)
		wantReal(t, real.Blend(most, minInf, part), minInf, part)
	}
}

func rounded(x float64) *big.Float { return big.NewFloat(x).SetPrec(53) }

func told(x *big.Float) float64 {
	f, _ := x.Float64()
	return f
}

func times(x, y float64) float64 { return told(rounded(0).Mul(rounded(x), rounded(y))) }
func plus(x, y float64) float64  { return told(rounded(0).Add(rounded(x), rounded(y))) }
func by(x, y float64) float64    { return told(rounded(0).Quo(rounded(x), rounded(y))) }

func TestBlendRoundsEachStep(t *testing.T) {
	r, joined, other := chance(), 0, 0
	for range 3000 {
		old, x, part := 100*r.NormFloat64(), 100*r.NormFloat64(), r.Float64()
		rest := plus(1, -part)
		want := plus(times(part, x), times(rest, old))
		wantReal(t, real.Blend(old, x, part), want, old, x, part)
		if math.FMA(part, x, times(rest, old)) != want || math.FMA(rest, old, times(part, x)) != want {
			joined++
		}
		if plus(old, times(part, plus(x, -old))) != want {
			other++
		}
	}
	if joined < 100 || other < 100 {
		t.Errorf("too few that tell: %d, %d", joined, other)
	}
}

// P4.4: Bits

func TestBits(t *testing.T) {
	for _, c := range [][2]int{{0, 0}, {-1, 0}, {-2, 0}, {-64, 0}, {math.MinInt, 0}, {1, 1}, {2, 2}, {3, 2}, {4, 3}, {7, 3}, {8, 4}, {63, 6}, {64, 7}, {65, 7}, {math.MaxInt, 63}} {
		if got := real.Bits(c[0]); got != c[1] {
			t.Errorf("Bits(%d): %d, want %d", c[0], got, c[1])
		}
	}
}

func TestBitsBesidePowersOfTwo(t *testing.T) {
	for i := 1; i < 63; i++ {
		power := 1 << i
		for _, c := range [][2]int{{power - 1, i}, {power, i + 1}, {power + 1, i + 1}, {-power, 0}} {
			if got := real.Bits(c[0]); got != c[1] {
				t.Errorf("Bits(%d): %d, want %d", c[0], got, c[1])
			}
		}
	}
}

// P4.5: Wait

func TestWait(t *testing.T) {
	for _, c := range []struct {
		base              float64
		nodes, told, most int
		want              float64
	}{
		{2, 64, 0, 3, 14},
		{2, 64, -1, 3, 14},
		{2, 64, math.MinInt, 3, 14},
		{2, 64, 3, 3, 2},
		{2, 64, 4, 3, 2},
		{2, 64, math.MaxInt, 3, 2},
		{2, 64, 1, 2, 8},
		{1, 8, 1, 4, 3.25},
		{1, 8, 3, 4, 1.75},
		{0.5, 3, 1, 4, 0.875},
		{2, 63, 0, 3, 12},
		{2, 1, 0, 3, 2},
		{2, 1, 1, 3, 2},
		{0, 64, 0, 3, 0},
		{least, 64, 0, 3, 7 * least},
		{1000, math.MaxInt, 0, 3, 63000},
	} {
		wantReal(t, real.Wait(c.base, c.nodes, c.told, c.most), c.want, c)
	}
}

func TestWaitOfNoNodesIsTheBase(t *testing.T) {
	for _, nodes := range []int{0, -1, math.MinInt} {
		for _, told := range []int{-1, 0, 1, 2, 3, 4} {
			wantReal(t, real.Wait(2.5, nodes, told, 3), 2.5, nodes, told)
		}
	}
}

func TestWaitOfAllThatIsToldIsTheBase(t *testing.T) {
	r, off := chance(), 0
	for range 3000 {
		base, nodes, most := 1000*r.Float64(), 1+r.Intn(64), 1+r.Intn(9)
		wantReal(t, real.Wait(base, nodes, most, most), base, base, nodes, most)
		if greatest := times(base, float64(real.Bits(nodes))); plus(greatest, -plus(greatest, -base)) > base {
			off++
		}
	}
	if off < 100 {
		t.Errorf("too few that tell: %d", off)
	}
}

func TestWaitWithMostBelowOne(t *testing.T) {
	for _, most := range []int{0, -1, -5, math.MinInt} {
		for _, told := range []int{1, 2, math.MaxInt} {
			wantReal(t, real.Wait(2, 64, told, most), 2, told, most)
		}
		// What is told 0 times comes first in the promise.
		for _, told := range []int{0, -1, -9, math.MinInt} {
			wantReal(t, real.Wait(2, 64, told, most), 14, told, most)
		}
	}
	wantReal(t, real.Wait(2, 64, 1, 1), 2, "most 1")
	wantReal(t, real.Wait(2, 64, 0, 1), 14, "most 1")
}

func TestWaitOfABaseThatIsCleaned(t *testing.T) {
	for _, base := range append(noNumbers(), minInf, -2, -least, minus0, 0) {
		for told := -1; told < 5; told++ {
			wantReal(t, real.Wait(base, 64, told, 3), 0, base, told)
		}
	}
	for _, base := range []float64{1000, math.Nextafter(1000, 2000), 5000, most, inf} {
		wantReal(t, real.Wait(base, 1, 0, 3), 1000, base)
		wantReal(t, real.Wait(base, 64, 0, 3), 7000, base)
		wantReal(t, real.Wait(base, 64, 1, 2), 4000, base)
		wantReal(t, real.Wait(base, 64, 2, 2), 1000, base)
	}
	wantReal(t, real.Wait(math.Nextafter(1000, 0), 1, 0, 3), math.Nextafter(1000, 0), "below 1000")
}

func TestWaitRoundsEachStep(t *testing.T) {
	r, joined, later, cut := chance(), 0, 0, 0
	for range 3000 {
		base, nodes, most := 10*r.Float64(), 2+r.Intn(63), 2+r.Intn(99)
		n := 1 + r.Intn(most-1)
		greatest := times(base, float64(real.Bits(nodes)))
		more := plus(greatest, -base)
		part := by(float64(n), float64(most))
		plain := plus(greatest, -times(part, more))
		want := max(plain, base)
		wantReal(t, real.Wait(base, nodes, n, most), want, base, nodes, n, most)
		if max(math.FMA(-part, more, greatest), base) != want {
			joined++
		}
		if max(plus(greatest, -by(times(float64(n), more), float64(most))), base) != want {
			later++
		}
	}
	for range 3000 {
		base := 10 * r.Float64()
		greatest := times(base, 7)
		// So near to all that the quotient is 1: it may come out below the base.
		wantReal(t, real.Wait(base, 64, math.MaxInt-1, math.MaxInt), max(base, plus(greatest, -plus(greatest, -base))), base)
		if plus(greatest, -plus(greatest, -base)) < base {
			cut++
		}
	}
	if joined < 100 || later < 100 || cut < 100 {
		t.Errorf("too few that tell: %d, %d, %d", joined, later, cut)
	}
}

// P4.6: Ticks

func TestTicks(t *testing.T) {
	const top = 1 << 40
	for _, c := range []struct {
		x    float64
		want uint64
	}{
		{0, 0}, {minus0, 0}, {-least, 0}, {-0.5, 0}, {-1, 0}, {-1e300, 0}, {minInf, 0},
		{least, 1}, {0.1, 1}, {0.5, 1}, {math.Nextafter(1, 0), 1},
		{1, 1}, {math.Nextafter(1, 2), 2}, {1.5, 2}, {2, 2}, {2.25, 3}, {7.75, 8}, {1000, 1000},
		{top - 2, top - 2}, {top - 1.5, top - 1}, {top - 1, top - 1}, {math.Nextafter(top-1, top), top},
		{top - 0.5, top}, {math.Nextafter(top, 0), top}, {top, top}, {math.Nextafter(top, inf), top}, {top + 1, top},
		{1 << 63, top}, {1 << 64, top}, {1e300, top}, {most, top}, {inf, top},
	} {
		if got := real.Ticks(c.x); got != c.want {
			t.Errorf("Ticks(%v): %d, want %d", c.x, got, c.want)
		}
	}
	for _, x := range noNumbers() {
		if got := real.Ticks(x); got != 0 {
			t.Errorf("Ticks of no number: %d", got)
		}
	}
}

func TestTicksIsTheLeastThatIsNotLess(t *testing.T) {
	r := chance()
	for range 3000 {
		x := math.Ldexp(1-r.Float64(), r.Intn(41))
		n := real.Ticks(x)
		if float64(n) < x || float64(n)-1 >= x {
			t.Errorf("Ticks(%v): %d", x, n)
		}
	}
}

// P4.7: what follows

func TestOrderIsOneOfAllReals(t *testing.T) {
	r := chance()
	row := append(numbers(), noNumbers()...)
	for range 120 {
		row = append(row, someReal(r))
	}
	slices.SortFunc(row, real.Order)
	for i, x := range row {
		wantOrder(t, x, x, 0)
		for _, y := range row[i:] {
			// Of a row that is in order each is ahead of all that come, or the same:
			// so an order that goes round would be seen.
			ahead := real.Order(x, y)
			if ahead > 0 || ahead != -real.Order(y, x) {
				t.Errorf("Order(%v, %v): %d", x, y, ahead)
			}
			if x < y && ahead != -1 || x > y {
				t.Errorf("Order(%v, %v): %d, other than their numbers", x, y, ahead)
			}
			if same := math.Float64bits(x) == math.Float64bits(y) || x != x && y != y; same != (ahead == 0) {
				t.Errorf("Order(%v, %v): %d, and they are the same: %v", x, y, ahead, same)
			}
		}
	}
}

func TestWaitGoesDownFromTheGreatestToTheBase(t *testing.T) {
	r := chance()
	for range 2000 {
		base, nodes, most := someReal(r), int(r.Int63())>>r.Intn(63), int(r.Int63())>>r.Intn(63)
		if r.Intn(2) == 0 {
			base = 1200 * r.Float64()
		}
		floor, longest := real.Clean(base, 0, 1000), real.Wait(base, nodes, 0, most)
		last := longest
		for _, n := range toldRow(r, most) {
			w := real.Wait(base, nodes, n, most)
			if !(w >= floor) || !(w <= longest) || !(w <= last) {
				t.Fatalf("Wait(%v, %d, %d, %d): %v, after %v of %v to %v", base, nodes, n, most, w, last, floor, longest)
			}
			last = w
		}
		wantReal(t, last, floor, "all that was told")
	}
}

// toldRow are numbers that rise, from below 0 to above most.
func toldRow(r *rand.Rand, most int) []int {
	row := []int{math.MinInt, -1, 0, 1, 2, most / 2, most - 1, most, math.MaxInt}
	for range 20 {
		row = append(row, r.Intn(max(most, 1)))
	}
	slices.Sort(row)
	return row
}

func TestCallsAreTotal(t *testing.T) {
	r := chance()
	for range 20000 {
		x, y, z := someReal(r), someReal(r), someReal(r)
		n, m, k := int(r.Uint64()), int(r.Uint64()), int(r.Uint64())
		real.Order(x, y)
		real.Clean(x, y, z)
		real.Blend(x, y, z)
		if w := real.Wait(x, n, m, k); !(w >= 0 && w <= 64000) {
			t.Fatalf("Wait(%v, %d, %d, %d): %v", x, n, m, k, w)
		}
		if real.Bits(n) > 63 || real.Ticks(x) > 1<<40 {
			t.Fatalf("%v, %d", x, n)
		}
		real.Max([]float64{x, y, z})
	}
}
