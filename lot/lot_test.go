package lot_test

import (
	"math"
	"math/rand"
	"slices"
	"testing"

	"conventicle/lot"
)

func wantLeft(t *testing.T, d *lot.Lots, want int) {
	t.Helper()
	if got := d.Left(); got != want {
		t.Errorf("Left: %d, want %d", got, want)
	}
}

func wantNext(t *testing.T, d *lot.Lots, want ...uint64) {
	t.Helper()
	for i, w := range want {
		if got := d.Next(); got != w {
			t.Errorf("Next, the %dth: %d, want %d", i, got, w)
		}
	}
}

func wantList(t *testing.T, got []int, want ...int) {
	t.Helper()
	if !slices.Equal(got, want) {
		t.Errorf("%v, want %v", got, want)
	}
}

// chance answers numbers that are the same in each run.
func chance() *rand.Rand { return rand.New(rand.NewSource(3)) }

func someLots(r *rand.Rand, many int) []uint64 {
	lots := make([]uint64, many)
	for i := range lots {
		lots[i] = r.Uint64()
	}
	return lots
}

// from0 are the numbers 0 to n - 1.
func from0(n int) []int {
	l := make([]int, n)
	for i := range l {
		l[i] = i
	}
	return l
}

// plainShuffle exchanges places word for word as the document says it, with a
// lot of 0 where there is none.
func plainShuffle(lots []uint64, l []int) []int {
	s := slices.Clone(l)
	for i := len(s) - 1; i >= 1; i-- {
		draw := uint64(0)
		if len(lots) > 0 {
			draw, lots = lots[0], lots[1:]
		}
		k := draw % uint64(i+1)
		old := s[i]
		s[i] = s[k]
		s[k] = old
	}
	return s
}

// P3.1: New, Next, Left.

func TestNextInOrder(t *testing.T) {
	d := lot.New([]uint64{7, 0, math.MaxUint64, 7, 1 << 63})
	for i, want := range []uint64{7, 0, math.MaxUint64, 7, 1 << 63} {
		wantLeft(t, d, 5-i)
		wantNext(t, d, want)
	}
	wantLeft(t, d, 0)
}

func TestNextWhereNoneIsLeft(t *testing.T) {
	for _, lots := range [][]uint64{nil, {}, {5}} {
		d := lot.New(lots)
		for range lots {
			d.Next()
		}
		for range 3 {
			wantNext(t, d, 0)
			wantLeft(t, d, 0)
		}
	}
}

func TestLeftTakesNone(t *testing.T) {
	d := lot.New([]uint64{4, 5})
	for range 3 {
		wantLeft(t, d, 2)
	}
	wantNext(t, d, 4, 5)
}

func TestNextOfMany(t *testing.T) {
	lots := someLots(chance(), 500)
	d := lot.New(lots)
	wantNext(t, d, lots...)
	wantLeft(t, d, 0)
}

func TestLotsAreNotKept(t *testing.T) {
	lots := []uint64{1, 2, 3}
	d := lot.New(lots)
	lots[0], lots[2] = 90, 92
	wantNext(t, d, 1)
	lots[1] = 91
	wantNext(t, d, 2, 3)
}

func TestLotsAreNotChanged(t *testing.T) {
	whole := []uint64{1, 2, 3, 4}
	d := lot.New(whole[:3])
	d.Shuffle([]int{5, 6})
	d.Some([]int{5, 6}, 1)
	d.Below(9)
	d.Next()
	if !slices.Equal(whole, []uint64{1, 2, 3, 4}) {
		t.Errorf("%v", whole)
	}
	wantLeft(t, d, 0)
}

func TestLotsAreApart(t *testing.T) {
	lots := []uint64{1, 2, 3}
	one, other := lot.New(lots), lot.New(lots)
	wantNext(t, one, 1, 2)
	wantLeft(t, other, 3)
	wantNext(t, other, 1)
	wantNext(t, one, 3, 0)
	wantNext(t, other, 2, 3)
}

// P3.2: Below.

func TestBelow(t *testing.T) {
	for _, c := range []struct {
		lot  uint64
		n    int
		want int
	}{
		{0, 2, 0},
		{1, 2, 1},
		{2, 2, 0},
		{3, 2, 1},
		{4, 5, 4},
		{5, 5, 0},
		{12, 5, 2},
		{99, 100, 99},
		{1 << 63, 3, 2},
		{1 << 63, 10, 8},
		{math.MaxUint64, 2, 1},
		{math.MaxUint64, 10, 5},
		{math.MaxUint64, 7, 1},
		{math.MaxUint64, math.MaxInt, 1},
		{1 << 63, math.MaxInt, 1},
		{math.MaxInt, math.MaxInt, 0},
		{math.MaxInt - 1, math.MaxInt, math.MaxInt - 1},
	} {
		d := lot.New([]uint64{c.lot, 6})
		if got := d.Below(c.n); got != c.want {
			t.Errorf("lot %d: Below(%d): %d, want %d", c.lot, c.n, got, c.want)
		}
		wantLeft(t, d, 1)
	}
}

func TestBelowTwoTakesNoLot(t *testing.T) {
	d := lot.New([]uint64{5, 6})
	for _, n := range []int{1, 0, -1, -5, math.MinInt, math.MinInt + 1} {
		if got := d.Below(n); got != 0 {
			t.Errorf("Below(%d): %d", n, got)
		}
		wantLeft(t, d, 2)
	}
	wantNext(t, d, 5, 6)
}

func TestBelowWhereNoneIsLeft(t *testing.T) {
	d := lot.New([]uint64{8})
	for i, want := range []int{2, 0, 0} {
		if got := d.Below(3); got != want {
			t.Errorf("the %dth: %d, want %d", i, got, want)
		}
	}
	wantLeft(t, d, 0)
}

func TestBelowTakesTheNextOne(t *testing.T) {
	d := lot.New([]uint64{11, 12, 13, 14})
	wantNext(t, d, 11)
	if got := d.Below(10); got != 2 {
		t.Errorf("%d", got)
	}
	wantNext(t, d, 13)
	if got := d.Below(3); got != 2 {
		t.Errorf("%d", got)
	}
}

// P3.3: Shuffle, Some.

func TestShuffle(t *testing.T) {
	for _, c := range []struct {
		lots []uint64
		l    []int
		want []int
		left int
	}{
		{[]uint64{0, 0}, []int{1, 2, 3}, []int{2, 3, 1}, 0},
		{[]uint64{0, 1}, []int{1, 2, 3}, []int{3, 2, 1}, 0},
		{[]uint64{1, 0}, []int{1, 2, 3}, []int{3, 1, 2}, 0},
		{[]uint64{1, 1}, []int{1, 2, 3}, []int{1, 3, 2}, 0},
		{[]uint64{2, 0}, []int{1, 2, 3}, []int{2, 1, 3}, 0},
		{[]uint64{2, 1}, []int{1, 2, 3}, []int{1, 2, 3}, 0},
		{[]uint64{5, 3, 9}, []int{1, 2, 3}, []int{1, 2, 3}, 1},
		{[]uint64{4}, []int{1, 2, 3}, []int{3, 1, 2}, 0},
		{nil, []int{1, 2, 3}, []int{2, 3, 1}, 0},
		{nil, []int{1, 2, 3, 4}, []int{2, 3, 4, 1}, 0},
		{[]uint64{0, 7}, []int{4, 5}, []int{5, 4}, 1},
		{[]uint64{1, 7}, []int{4, 5}, []int{4, 5}, 1},
		{[]uint64{0, 0}, []int{8, 8, 8}, []int{8, 8, 8}, 0},
		{[]uint64{0, 0}, []int{math.MinInt, -1, math.MaxInt}, []int{-1, math.MaxInt, math.MinInt}, 0},
		{[]uint64{9}, []int{4}, []int{4}, 1},
		{[]uint64{9}, []int{}, nil, 1},
		{[]uint64{9}, nil, nil, 1},
	} {
		d := lot.New(c.lots)
		wantList(t, d.Shuffle(c.l), c.want...)
		wantLeft(t, d, c.left)
	}
}

func TestShuffleIsWhatTheWordsMake(t *testing.T) {
	r := chance()
	for n := range 80 {
		for _, many := range []int{0, n / 2, n, 2 * n} {
			lots, l := someLots(r, many), r.Perm(n)
			d := lot.New(lots)
			wantList(t, d.Shuffle(l), plainShuffle(lots, l)...)
			wantLeft(t, d, many-min(many, max(n-1, 0)))
		}
	}
}

func TestShuffleGoesOnWithTheNextLots(t *testing.T) {
	d := lot.New([]uint64{7, 0, 0, 2, 0, 9})
	wantNext(t, d, 7)
	wantList(t, d.Shuffle([]int{1, 2, 3}), 2, 3, 1)
	wantList(t, d.Shuffle([]int{1, 2, 3}), 2, 1, 3)
	wantNext(t, d, 9)
}

func TestSome(t *testing.T) {
	for _, c := range []struct {
		lots []uint64
		l    []int
		n    int
		want []int
		left int
	}{
		{[]uint64{0, 0, 5}, []int{1, 2, 3}, 1, []int{2}, 1},
		{[]uint64{0, 0, 5}, []int{1, 2, 3}, 2, []int{2, 3}, 1},
		{[]uint64{0, 0, 5}, []int{1, 2, 3}, 3, []int{2, 3, 1}, 1},
		{[]uint64{0, 0, 5}, []int{1, 2, 3}, 4, []int{2, 3, 1}, 1},
		{[]uint64{0, 0, 5}, []int{1, 2, 3}, math.MaxInt, []int{2, 3, 1}, 1},
		{[]uint64{0, 0, 5}, []int{1, 2, 3}, 0, nil, 3},
		{[]uint64{0, 0, 5}, []int{1, 2, 3}, -1, nil, 3},
		{[]uint64{0, 0, 5}, []int{1, 2, 3}, math.MinInt, nil, 3},
		{nil, []int{1, 2, 3}, 2, []int{2, 3}, 0},
		{[]uint64{5}, []int{8}, 1, []int{8}, 1},
		{[]uint64{5}, []int{8}, 9, []int{8}, 1},
		{[]uint64{5}, []int{}, 1, nil, 1},
		{[]uint64{5}, nil, 1, nil, 1},
		{[]uint64{5}, nil, 0, nil, 1},
	} {
		d := lot.New(c.lots)
		wantList(t, d.Some(c.l, c.n), c.want...)
		wantLeft(t, d, c.left)
	}
}

func TestSomeAreTheFirstOfShuffle(t *testing.T) {
	r := chance()
	for n := range 40 {
		lots, l := someLots(r, n), r.Perm(n)
		for many := 1; many <= n+2; many++ {
			one, other := lot.New(lots), lot.New(lots)
			wantList(t, one.Some(l, many), other.Shuffle(l)[:min(many, n)]...)
			wantLeft(t, one, other.Left())
		}
	}
}

func TestListsAreNotChanged(t *testing.T) {
	whole := []int{1, 2, 3, 4, 5}
	d := lot.New(nil)
	wantList(t, d.Shuffle(whole[:3]), 2, 3, 1)
	wantList(t, d.Some(whole[:3], 2), 2, 3)
	wantList(t, d.Some(whole[:3], 9), 2, 3, 1)
	d.Some(whole[:3], 0)
	wantList(t, whole, 1, 2, 3, 4, 5)
}

// call is one of the calls that are handed a list.
type call func(d *lot.Lots, l []int) []int

func calls() []call {
	return []call{
		(*lot.Lots).Shuffle,
		func(d *lot.Lots, l []int) []int { return d.Some(l, 3) },
		func(d *lot.Lots, l []int) []int { return d.Some(l, 2) },
	}
}

// fill puts a number at each place of l, and at those behind its length.
func fill(l []int, with int) {
	l = l[:cap(l)]
	for i := range l {
		l[i] = with
	}
}

func TestAnswersAreNewMemory(t *testing.T) {
	for _, c := range calls() {
		for _, length := range []int{1, 3} {
			whole := []int{1, 2, 3, 4, 5}
			d := lot.New([]uint64{2, 1, 2, 1})
			one := c(d, whole[:length])
			other := c(d, whole[:length])
			want := slices.Clone(other)
			fill(one, 90)
			wantList(t, whole, 1, 2, 3, 4, 5)
			wantList(t, other, want...)
			fill(whole, 91)
			wantList(t, other, want...)
		}
	}
}

// P3.4: What follows.

func TestShuffleKeepsTheThings(t *testing.T) {
	r := chance()
	for n := range 70 {
		l := make([]int, n)
		for i := range l {
			l[i] = r.Intn(1 + n/2)
		}
		got := lot.New(someLots(r, n)).Shuffle(l)
		slices.Sort(l)
		slices.Sort(got)
		wantList(t, got, l...)
	}
}

// rows are all rows of lots for n things: the first one below n, the last one
// below 2.
func rows(n int) [][]uint64 {
	all := [][]uint64{nil}
	for below := n; below >= 2; below-- {
		var longer [][]uint64
		for _, row := range all {
			for k := range below {
				longer = append(longer, append(slices.Clone(row), uint64(k)))
			}
		}
		all = longer
	}
	return all
}

func TestEachOrderComesOfOneRow(t *testing.T) {
	many := 1
	for n := range 8 {
		many *= max(n, 1)
		seen := map[[8]int]bool{}
		for _, row := range rows(n) {
			d := lot.New(row)
			var order [8]int
			copy(order[:], d.Shuffle(from0(n)))
			wantLeft(t, d, 0)
			if seen[order] {
				t.Errorf("%d things: %v comes twice", n, order)
			}
			seen[order] = true
		}
		if len(seen) != many {
			t.Errorf("%d things: %d orders, want %d", n, len(seen), many)
		}
	}
}

func TestSameLotsSameAnswers(t *testing.T) {
	lots := someLots(chance(), 60)
	one, other := lot.New(lots), lot.New(lots)
	for n := range 12 {
		wantList(t, one.Shuffle(from0(n)), other.Shuffle(from0(n))...)
		wantList(t, one.Some(from0(n), 2), other.Some(from0(n), 2)...)
		wantNext(t, one, other.Next())
	}
}
