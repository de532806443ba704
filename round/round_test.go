package round_test

import (
	"math"
	"math/rand"
	"slices"
	"testing"

	"conventicle/lot"
	"conventicle/round"
)

// standing tells a round in which just these are left, in this order.
func standing(t *testing.T, nodes ...int) *round.Round {
	t.Helper()
	r := &round.Round{}
	for i, node := range nodes {
		r.Join(node, lot.New([]uint64{uint64(i)}))
	}
	wantLeft(t, r, nodes...)
	return r
}

func wantLeft(t *testing.T, r *round.Round, want ...int) {
	t.Helper()
	if got := r.Left(); !slices.Equal(got, want) {
		t.Errorf("Left: %v, want %v", got, want)
	}
}

func wantNext(t *testing.T, r *round.Round, others []int, d *lot.Lots, want int) {
	t.Helper()
	if got, is := r.Next(others, d); got != want || !is {
		t.Errorf("Next(%v): %d, %t, want %d", others, got, is, want)
	}
}

func wantLots(t *testing.T, d *lot.Lots, want int) {
	t.Helper()
	if got := d.Left(); got != want {
		t.Errorf("%d lots are left, want %d", got, want)
	}
}

func wantHelpers(t *testing.T, others []int, not, n int, d *lot.Lots, want ...int) {
	t.Helper()
	if got := round.Helpers(others, not, n, d); !slices.Equal(got, want) {
		t.Errorf("Helpers(%v, %d, %d): %v, want %v", others, not, n, got, want)
	}
}

// chance answers numbers that are the same in each run.
func chance() *rand.Rand { return rand.New(rand.NewSource(9)) }

func someLots(c *rand.Rand, many int) []uint64 {
	lots := make([]uint64, many)
	for i := range lots {
		lots[i] = c.Uint64()
	}
	return lots
}

// someNodes are n of the 64 nodes, and rise.
func someNodes(c *rand.Rand, n int) []int {
	l := c.Perm(64)[:n]
	slices.Sort(l)
	return l
}

// row tells the numbers from up to below to.
func row(from, to int) []int {
	var l []int
	for n := from; n < to; n++ {
		l = append(l, n)
	}
	return l
}

// spoil writes over all of l, and over what is behind its length.
func spoil(l []int) {
	l = l[:cap(l)]
	for i := range l {
		l[i] = 99
	}
}

// P9.1: Next

func TestNextOfNoOthers(t *testing.T) {
	for _, left := range [][]int{nil, {4}, {4, 2, 63}} {
		r, d := standing(t, left...), lot.New([]uint64{1, 2, 3})
		for _, others := range [][]int{nil, {}} {
			if n, is := r.Next(others, d); n != 0 || is {
				t.Errorf("%v: %d, %t", left, n, is)
			}
			wantLeft(t, r, left...)
			wantLots(t, d, 3)
		}
	}
}

func TestNextWhereNobodyIsLeft(t *testing.T) {
	for _, x := range []struct {
		lots []uint64
		want []int
	}{
		{[]uint64{0, 0}, []int{2, 3, 1}},
		{[]uint64{0, 1}, []int{3, 2, 1}},
		{[]uint64{1, 0}, []int{3, 1, 2}},
		{[]uint64{1, 1}, []int{1, 3, 2}},
		{[]uint64{2, 0}, []int{2, 1, 3}},
		{[]uint64{2, 1}, []int{1, 2, 3}},
		{[]uint64{5, 7}, []int{1, 2, 3}},
		{[]uint64{math.MaxUint64, math.MaxUint64 - 1}, []int{2, 3, 1}},
	} {
		r, d := &round.Round{}, lot.New(append(x.lots, 8, 8))
		for i, want := range x.want {
			wantNext(t, r, []int{1, 2, 3}, d, want)
			wantLeft(t, r, x.want[i+1:]...)
			wantLots(t, d, 2)
		}
	}
}

func TestNextIsShuffledAnew(t *testing.T) {
	r, d := &round.Round{}, lot.New([]uint64{0, 0, 2, 1, 1, 0, 5})
	for i, want := range []int{2, 3, 1, 1, 2, 3, 3, 1, 2} {
		wantNext(t, r, []int{1, 2, 3}, d, want)
		wantLots(t, d, 5-i/3*2)
	}
	wantLeft(t, r)
}

func TestNextIsTheFirstOfShuffle(t *testing.T) {
	c := chance()
	for n := 1; n <= 64; n++ {
		for _, many := range []int{0, n / 2, n + 3} {
			others, lots := someNodes(c, n), someLots(c, many)
			r, d, e := &round.Round{}, lot.New(lots), lot.New(lots)
			shuffled := e.Shuffle(others)
			wantNext(t, r, others, d, shuffled[0])
			wantLeft(t, r, shuffled[1:]...)
			wantLots(t, d, e.Left())
		}
	}
}

// Where the first one that is left is one of others it is told, whoever else is
// left, or is one of others.
func TestNextWhereTheFirstIsOneOfOthers(t *testing.T) {
	for _, others := range [][]int{{5}, {0, 5}, {3, 5, 8}, {5, 63}, row(0, 64)} {
		r, d := standing(t, 5, 3, 9, 8), lot.New([]uint64{4, 4})
		wantNext(t, r, others, d, 5)
		wantLeft(t, r, 3, 9, 8)
		wantLots(t, d, 2)
	}
}

func TestNextWhereTheFirstOnesAreNoneOfOthers(t *testing.T) {
	for _, x := range []struct {
		others []int
		want   int
		left   []int
	}{
		{[]int{3}, 3, []int{9, 8, 1}},
		{[]int{1, 3, 8, 9}, 3, []int{9, 8, 1}},
		{[]int{9}, 9, []int{8, 1}},
		{[]int{1, 9}, 9, []int{8, 1}},
		{[]int{1, 2, 4, 8}, 8, []int{1}},
		{[]int{1}, 1, nil},
		{[]int{0, 1, 2}, 1, nil},
	} {
		r, d := standing(t, 5, 3, 9, 8, 1), lot.New([]uint64{4, 4})
		wantNext(t, r, x.others, d, x.want)
		wantLeft(t, r, x.left...)
		wantLots(t, d, 2)
	}
}

func TestNextWhereAllThatAreLeftAreNoneOfOthers(t *testing.T) {
	for _, left := range [][]int{{7}, {7, 0}, {63, 4, 0, 7}} {
		r, d := standing(t, left...), lot.New([]uint64{1, 1, 6})
		wantNext(t, r, []int{1, 2, 3}, d, 1)
		wantLeft(t, r, 3, 2)
		wantLots(t, d, 1)
	}
}

// One that is none of others goes as it comes to be the first one, no sooner.
func TestNextOfOneThatIsLeftBehind(t *testing.T) {
	r, d := standing(t, 1, 9, 2, 8), lot.New([]uint64{1, 1})
	wantNext(t, r, []int{1, 2}, d, 1)
	wantLeft(t, r, 9, 2, 8)
	wantNext(t, r, []int{1, 2}, d, 2)
	wantLeft(t, r, 8)
	wantLots(t, d, 2)
	wantNext(t, r, []int{1, 2}, d, 1)
	wantLeft(t, r, 2)
	wantLots(t, d, 1)
	// Who is one of others again by then is told.
	r = standing(t, 1, 9, 2)
	wantNext(t, r, []int{1, 2}, d, 1)
	wantNext(t, r, []int{2, 9}, d, 9)
	wantNext(t, r, []int{2}, d, 2)
	wantLeft(t, r)
	wantLots(t, d, 1)
}

// One that comes to others is told once those that are left were told, if it
// does not join.
func TestNextOfOneThatIsNotLeft(t *testing.T) {
	r, d := standing(t, 2, 1), lot.New([]uint64{2, 1})
	wantNext(t, r, []int{0, 1, 2}, d, 2)
	wantNext(t, r, []int{0, 1, 2}, d, 1)
	wantLots(t, d, 2)
	wantNext(t, r, []int{0, 1, 2}, d, 0)
	wantLeft(t, r, 1, 2)
}

func TestNextOfOneOtherAlone(t *testing.T) {
	for _, node := range []int{0, 1, 63} {
		r, d := &round.Round{}, lot.New([]uint64{5})
		for range 4 {
			wantNext(t, r, []int{node}, d, node)
			wantLeft(t, r)
			wantLots(t, d, 1)
		}
	}
}

func TestNextWhereNoLotsAreLeft(t *testing.T) {
	r, d := &round.Round{}, lot.New(nil)
	for range 3 {
		for _, want := range []int{2, 3, 4, 1} {
			wantNext(t, r, []int{1, 2, 3, 4}, d, want)
		}
	}
	// One lot, and none behind it.
	r, d = &round.Round{}, lot.New([]uint64{2})
	for _, want := range []int{2, 1, 3} {
		wantNext(t, r, []int{1, 2, 3}, d, want)
	}
}

// P9.2: Join, Left

func TestJoinOfOneThatIsLeftAlready(t *testing.T) {
	r, d := standing(t, 5, 0, 63), lot.New([]uint64{1, 2, 3})
	for _, node := range []int{5, 0, 63} {
		r.Join(node, d)
		wantLeft(t, r, 5, 0, 63)
		wantLots(t, d, 3)
	}
	r = standing(t, 0)
	r.Join(0, d)
	wantLeft(t, r, 0)
	wantLots(t, d, 3)
}

func TestJoinWhereNobodyIsLeft(t *testing.T) {
	d := lot.New([]uint64{1, 2})
	for _, node := range []int{0, 7, 63} {
		r := &round.Round{}
		r.Join(node, d)
		wantLeft(t, r, node)
		wantLots(t, d, 2) // one place alone: no lot tells it
	}
}

func TestJoinAtEachPlace(t *testing.T) {
	for _, x := range []struct {
		lot  uint64
		want []int
	}{
		{0, []int{9, 5, 0, 3}},
		{1, []int{5, 9, 0, 3}},
		{2, []int{5, 0, 9, 3}},
		{3, []int{5, 0, 3, 9}},
		{4, []int{9, 5, 0, 3}},
		{7, []int{5, 0, 3, 9}},
		{math.MaxUint64, []int{5, 0, 3, 9}},
		{math.MaxUint64 - 1, []int{5, 0, 9, 3}},
	} {
		r, d := standing(t, 5, 0, 3), lot.New([]uint64{x.lot, 1})
		r.Join(9, d)
		wantLeft(t, r, x.want...)
		wantLots(t, d, 1)
	}
}

func TestJoinOfOneAheadAndBehind(t *testing.T) {
	for at, want := range [][]int{{8, 4}, {4, 8}} {
		r, d := standing(t, 4), lot.New([]uint64{uint64(at)})
		r.Join(8, d)
		wantLeft(t, r, want...)
		wantLots(t, d, 0)
	}
}

func TestJoinWhereNoLotsAreLeft(t *testing.T) {
	r, d := &round.Round{}, lot.New(nil)
	for node := range 6 {
		r.Join(node, d)
	}
	wantLeft(t, r, 5, 4, 3, 2, 1, 0)
}

func TestJoinOfAllNodes(t *testing.T) {
	c := chance()
	r, plain := &round.Round{}, []int{}
	for i, node := range c.Perm(64) {
		draw := c.Uint64()
		r.Join(node, lot.New([]uint64{draw}))
		plain = slices.Insert(plain, int(draw%uint64(i+1)), node)
		wantLeft(t, r, plain...)
	}
}

// Who was told is left no more, so it may join again, and is told again then.
func TestJoinOfOneThatWasTold(t *testing.T) {
	r, d := &round.Round{}, lot.New([]uint64{0, 0, 1})
	wantNext(t, r, []int{1, 2, 3}, d, 2)
	r.Join(2, d)
	wantLeft(t, r, 3, 2, 1)
	wantLots(t, d, 0)
	for _, want := range []int{3, 2, 1} {
		wantNext(t, r, []int{1, 2, 3}, d, want)
	}
}

func TestJoinIsToldInThisRound(t *testing.T) {
	r, d := &round.Round{}, lot.New([]uint64{0, 0, 2})
	wantNext(t, r, []int{1, 2, 3}, d, 2)
	r.Join(9, d)
	for _, want := range []int{3, 1, 9} {
		wantNext(t, r, []int{1, 2, 3, 9}, d, want)
	}
	wantLeft(t, r)
}

func TestLeftOfANewRound(t *testing.T) {
	r := &round.Round{}
	for range 2 {
		if l := r.Left(); len(l) != 0 {
			t.Errorf("%v", l)
		}
	}
}

func TestLeftInOrderChangesNothing(t *testing.T) {
	r := standing(t, 9, 2, 30, 4)
	for range 3 {
		wantLeft(t, r, 9, 2, 30, 4)
	}
	wantNext(t, r, row(0, 64), lot.New(nil), 9)
	wantLeft(t, r, 2, 30, 4)
}

// P9.3: Helpers

func TestHelpers(t *testing.T) {
	others := []int{1, 2, 3, 4}
	for _, x := range []struct {
		not, n int
		lots   []uint64
		want   []int
		left   int
	}{
		{2, 1, []uint64{0, 0, 5}, []int{3}, 1},
		{2, 2, []uint64{0, 0, 5}, []int{3, 4}, 1},
		{2, 3, []uint64{0, 0, 5}, []int{3, 4, 1}, 1},
		{2, 4, []uint64{0, 0, 5}, []int{3, 4, 1}, 1},
		{2, math.MaxInt, []uint64{0, 0, 5}, []int{3, 4, 1}, 1},
		{1, 2, []uint64{2, 1, 5}, []int{2, 3}, 1},
		{4, 2, []uint64{2, 1, 5}, []int{1, 2}, 1},
		{4, 2, nil, []int{2, 3}, 0},
		{0, 2, []uint64{0, 0, 0, 5}, []int{2, 3}, 1},
		{5, 4, []uint64{3, 2, 1, 5}, []int{1, 2, 3, 4}, 1},
		{-1, 9, []uint64{3, 2, 1, 5}, []int{1, 2, 3, 4}, 1},
		{math.MinInt, 1, []uint64{3, 2, 0, 5}, []int{2}, 1},
		{math.MaxInt, 1, []uint64{3, 2, 0, 5}, []int{2}, 1},
	} {
		d := lot.New(x.lots)
		wantHelpers(t, others, x.not, x.n, d, x.want...)
		wantLots(t, d, x.left)
	}
}

func TestHelpersOfNone(t *testing.T) {
	d := lot.New([]uint64{7, 8, 9})
	for _, n := range []int{0, -1, -2, math.MinInt} {
		for _, not := range []int{2, 9} {
			wantHelpers(t, []int{1, 2, 3, 4}, not, n, d)
		}
	}
	for _, n := range []int{-1, 0, 1, 2, math.MaxInt} {
		wantHelpers(t, nil, 2, n, d)
		wantHelpers(t, []int{}, 0, n, d)
		wantHelpers(t, []int{2}, 2, n, d)
		wantHelpers(t, []int{0}, 0, n, d)
	}
	wantLots(t, d, 3)
}

func TestHelpersOfOneThatIsLeft(t *testing.T) {
	d := lot.New([]uint64{7, 8, 9})
	for _, n := range []int{1, 2, math.MaxInt} {
		wantHelpers(t, []int{2, 5}, 2, n, d, 5)
		wantHelpers(t, []int{2, 5}, 5, n, d, 2)
		wantHelpers(t, []int{0}, 5, n, d, 0)
	}
	wantLots(t, d, 3)
}

func TestHelpersAreSomeOfOthersButOne(t *testing.T) {
	c := chance()
	for range 500 {
		others := someNodes(c, c.Intn(65))
		not, n, lots := c.Intn(66)-1, c.Intn(70)-2, someLots(c, c.Intn(70))
		var may []int
		for _, node := range others {
			if node != not {
				may = append(may, node)
			}
		}
		d, e := lot.New(lots), lot.New(lots)
		wantHelpers(t, others, not, n, d, e.Some(may, n)...)
		wantLots(t, d, e.Left())
	}
}

// R3: what is handed in is neither changed nor kept, and answers are new.

func TestOthersAreNeitherChangedNorKept(t *testing.T) {
	whole := []int{1, 2, 3, 4, 5, 6}
	others := whole[:4]
	r, d := &round.Round{}, lot.New(nil)
	for range 6 {
		r.Next(others, d)
	}
	r.Join(9, lot.New([]uint64{1}))
	round.Helpers(others, 2, 2, d)
	round.Helpers(others, 9, 9, d)
	round.Helpers(others, 1, 0, d)
	if !slices.Equal(whole, []int{1, 2, 3, 4, 5, 6}) {
		t.Errorf("others were changed: %v", whole)
	}
	wantLeft(t, r, 4, 9, 1)
	spoil(others)
	wantLeft(t, r, 4, 9, 1)
	// One other alone is shuffled by no exchange, and is a copy all the same.
	one := []int{1}
	r = &round.Round{}
	r.Next(one, d)
	r.Join(2, d)
	spoil(one)
	wantLeft(t, r, 2)
}

func TestLeftIsNew(t *testing.T) {
	r := standing(t, 5, 3, 9)
	a, b := r.Left(), r.Left()
	spoil(a)
	if !slices.Equal(b, []int{5, 3, 9}) {
		t.Errorf("two answers share memory: %v", b)
	}
	wantLeft(t, r, 5, 3, 9)
	r.Join(7, lot.New([]uint64{1}))
	wantNext(t, r, row(0, 64), lot.New(nil), 5)
	if !slices.Equal(b, []int{5, 3, 9}) {
		t.Errorf("an answer was changed: %v", b)
	}
	spoil(r.Left())
	wantLeft(t, r, 7, 3, 9)
	// Behind its end there is nothing of the round's either.
	_ = append(r.Left(), 8)
	_ = append(r.Left()[:0], 8, 8, 8, 8)
	wantLeft(t, r, 7, 3, 9)
}

func TestHelpersAreNew(t *testing.T) {
	for _, not := range []int{2, 9} {
		others := []int{1, 2, 3, 4}
		a := round.Helpers(others, not, 2, lot.New(nil))
		b := round.Helpers(others, not, 2, lot.New(nil))
		want := slices.Clone(b)
		spoil(a)
		if !slices.Equal(b, want) || !slices.Equal(others, []int{1, 2, 3, 4}) {
			t.Errorf("%v, %v", b, others)
		}
		spoil(others)
		if !slices.Equal(b, want) {
			t.Errorf("others are kept: %v", b)
		}
	}
}

func TestRoundsAreTheirOwn(t *testing.T) {
	others := []int{1, 2, 3}
	a, b := &round.Round{}, &round.Round{}
	wantNext(t, a, others, lot.New(nil), 2)
	wantLeft(t, b)
	wantNext(t, b, others, lot.New([]uint64{2, 1}), 1)
	a.Join(9, lot.New(nil))
	wantLeft(t, a, 9, 3, 1)
	wantLeft(t, b, 2, 3)
}

// P9.4: what follows

func TestEachIsToldOnceBeforeAnyIsToldAgain(t *testing.T) {
	c := chance()
	for n := 1; n <= 64; n++ {
		others := someNodes(c, n)
		r, d := &round.Round{}, lot.New(someLots(c, 5*n))
		for range 6 {
			var told []int
			for range n {
				node, is := r.Next(others, d)
				if !is {
					t.Fatalf("%d others: none is told", n)
				}
				told = append(told, node)
			}
			slices.Sort(told)
			if !slices.Equal(told, others) {
				t.Fatalf("%v are told, want %v", told, others)
			}
			wantLeft(t, r)
		}
	}
}

// between tells how many are told between two times that one is told, at most, in
// so many times that each is told.
func between(others []int, d *lot.Lots, times int) int {
	r, last, most := &round.Round{}, map[int]int{}, 0
	for i := range times * len(others) {
		node, _ := r.Next(others, d)
		if at, is := last[node]; is {
			most = max(most, i-at-1)
		}
		last[node] = i
	}
	return most
}

func TestAtMostSoManyAreToldBetween(t *testing.T) {
	c := chance()
	for n := 1; n <= 64; n++ {
		others := someNodes(c, n)
		if most := between(others, lot.New(someLots(c, 20*n)), 20); most > 2*n-2 {
			t.Errorf("%d others: %d between", n, most)
		}
	}
}

// The first of a row may be the last of the next one: the bound is met.
func TestJustSoManyMayBeToldBetween(t *testing.T) {
	for n := 2; n <= 20; n++ {
		var lots []uint64
		for i := n - 1; i > 0; i-- {
			lots = append(lots, uint64(i)) // nothing is exchanged
		}
		// The first row is as others are; no lots are left for the second one, whose
		// last is the first of others.
		if most := between(row(0, n), lot.New(lots), 2); most != 2*n-2 {
			t.Errorf("%d others: %d between, want %d", n, most, 2*n-2)
		}
	}
}

// plain is a round that is as the promises' words: one step, and then the next.
type plain struct{ left []int }

func (p *plain) next(others []int, d *lot.Lots) (int, bool) {
	if len(others) == 0 {
		return 0, false
	}
	for len(p.left) > 0 && !slices.Contains(others, p.left[0]) {
		p.left = slices.Delete(p.left, 0, 1)
	}
	if len(p.left) == 0 {
		p.left = d.Shuffle(others)
	}
	first := p.left[0]
	p.left = slices.Delete(p.left, 0, 1)
	return first, true
}

func (p *plain) join(node int, d *lot.Lots) {
	if !slices.Contains(p.left, node) {
		p.left = slices.Insert(p.left, d.Below(len(p.left)+1), node)
	}
}

func TestAsThePromisesWords(t *testing.T) {
	c := chance()
	for range 100 {
		lots := someLots(c, c.Intn(300))
		r, d := &round.Round{}, lot.New(lots)
		p, e := &plain{}, lot.New(lots)
		others := someNodes(c, c.Intn(10))
		for range 100 {
			switch c.Intn(6) {
			case 0:
				others = someNodes(c, c.Intn(10))
			case 1:
				node := c.Intn(64)
				r.Join(node, d)
				p.join(node, e)
			case 2:
				if len(p.left) > 0 {
					node := p.left[c.Intn(len(p.left))]
					r.Join(node, d)
					p.join(node, e)
				}
			default:
				got, is := r.Next(others, d)
				want, may := p.next(others, e)
				if got != want || is != may {
					t.Fatalf("Next(%v): %d, %t, want %d, %t", others, got, is, want, may)
				}
			}
			wantLeft(t, r, p.left...)
			wantLots(t, d, e.Left())
			if t.Failed() {
				t.FailNow()
			}
		}
	}
}

// R1: calls end, and none panics, whatever they are given.
func TestCallsAreTotal(t *testing.T) {
	c := chance()
	r := &round.Round{}
	for range 300 {
		d := lot.New(someLots(c, c.Intn(9)))
		others := make([]int, c.Intn(9)) // neither nodes, nor rising, nor each once
		for i := range others {
			others[i] = int(c.Uint64()) >> c.Intn(64)
		}
		_, is := r.Next(others, d)
		if is != (len(others) > 0) {
			t.Fatalf("Next(%v): %t", others, is)
		}
		r.Join(int(c.Uint64())>>c.Intn(64), d)
		round.Helpers(others, int(c.Uint64())>>c.Intn(64), int(c.Uint64())>>c.Intn(64), d)
		r.Left()
	}
	for _, node := range []int{math.MinInt, -1, 64, math.MaxInt} {
		r = &round.Round{}
		r.Join(node, lot.New(nil))
		wantLeft(t, r, node)
		wantNext(t, r, []int{1, 2}, lot.New(nil), 2)
	}
}

// The examples of the chapter.

func TestExamples(t *testing.T) {
	r, d := &round.Round{}, lot.New([]uint64{0, 0})
	for _, want := range []int{2, 3, 1} {
		wantNext(t, r, []int{1, 2, 3}, d, want)
	}
}
