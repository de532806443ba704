package doubt_test

import (
	"math"
	"math/rand"
	"slices"
	"testing"

	"conventicle/api"
	"conventicle/doubt"
	"conventicle/real"
)

const last = uint64(math.MaxUint64)

func of(node int, inc uint64, state int) api.Update {
	return api.Update{Node: node, Inc: inc, State: state}
}

func suspect(node int, inc uint64) api.Update { return of(node, inc, api.Suspect) }

func dead(node int, inc uint64) api.Update { return of(node, inc, api.Dead) }

// chance answers numbers that are the same in each run.
func chance() *rand.Rand { return rand.New(rand.NewSource(10)) }

func wantRaise(t *testing.T, d *doubt.Doubts, u api.Update, from int, now uint64, nodes int, base float64, want bool, err api.Errno) {
	t.Helper()
	if is, e := d.Raise(u, from, now, nodes, base); is != want || e != err {
		t.Errorf("Raise(%v, %d, %d, %d, %g): %t, %d, want %t, %d", u, from, now, nodes, base, is, e, want, err)
	}
}

// raise raises a doubt among 64 nodes, of base 2: it waits 14, 10, 6 and then 2
// ticks, as 0, 1, 2 and more others tell it.
func raise(t *testing.T, d *doubt.Doubts, u api.Update, from int, now uint64) {
	t.Helper()
	wantRaise(t, d, u, from, now, 64, 2, true, api.OK)
}

func wantAll(t *testing.T, d *doubt.Doubts, want ...doubt.Doubt) {
	t.Helper()
	if got := d.All(); !slices.Equal(got, want) {
		t.Errorf("All: %v, want %v", got, want)
	}
}

func wantOver(t *testing.T, d *doubt.Doubts, now uint64, want ...api.Update) {
	t.Helper()
	if got := d.Over(now); !slices.Equal(got, want) {
		t.Errorf("Over(%d): %v, want %v", now, got, want)
	}
}

func wantDrop(t *testing.T, d *doubt.Doubts, node int, want bool) {
	t.Helper()
	if is := d.Drop(node); is != want {
		t.Errorf("Drop(%d): %t, want %t", node, is, want)
	}
}

// wantUntil asks for the end of the one doubt that there is.
func wantUntil(t *testing.T, d *doubt.Doubts, want uint64) {
	t.Helper()
	if l := d.All(); len(l) != 1 || l[0].Until != want {
		t.Errorf("All: %v, want one until %d", l, want)
	}
}

// noNodes are numbers that are no node's.
func noNodes() []int { return []int{math.MinInt, -65, -64, -2, -1, 64, 65, 128, 1 << 32, math.MaxInt} }

// P10.1: Raise

func TestRaiseOfWhatMayNotBe(t *testing.T) {
	for _, d := range []*doubt.Doubts{{}, {}} {
		var before []doubt.Doubt
		for round := range 2 {
			for _, node := range noNodes() {
				for _, inc := range []uint64{0, 5, last} {
					wantRaise(t, d, suspect(node, inc), 1, 7, 64, 2, false, api.ErrArg)
				}
			}
			for _, state := range []int{math.MinInt, -1, api.Alive, api.Left, api.Dead, 4, 5, math.MaxInt} {
				for _, inc := range []uint64{0, 5, 6, last} {
					wantRaise(t, d, of(3, inc, state), 1, 7, 64, 2, false, api.ErrArg)
					wantRaise(t, d, of(3, inc, state), 64, 7, 64, 2, false, api.ErrArg)
				}
			}
			for _, from := range noNodes() {
				for _, inc := range []uint64{0, 4, 5, 6, last} { // older, the same, newer than what is doubted
					wantRaise(t, d, suspect(3, inc), from, 7, 64, 2, false, api.ErrArg)
				}
			}
			wantAll(t, d, before...)
			if round == 0 {
				raise(t, d, suspect(3, 5), 2, 4)
				before = d.All()
			}
		}
	}
}

func TestRaiseOfAFirstDoubt(t *testing.T) {
	for _, x := range []struct {
		u     api.Update
		from  int
		now   uint64
		nodes int
		base  float64
		want  doubt.Doubt
	}{
		{suspect(3, 5), 1, 10, 64, 2, doubt.Doubt{U: suspect(3, 5), From: 2, Since: 10, Until: 24}},
		{suspect(0, 0), 0, 0, 64, 2, doubt.Doubt{U: suspect(0, 0), From: 1, Until: 14}},
		{suspect(63, last), 63, 1, 1, 1, doubt.Doubt{U: suspect(63, last), From: 1 << 63, Since: 1, Until: 2}},
		{suspect(4, 1), 4, 9, 3, 2.5, doubt.Doubt{U: suspect(4, 1), From: 16, Since: 9, Until: 14}},
		{suspect(4, 1), 62, 9, 4, 2.5, doubt.Doubt{U: suspect(4, 1), From: 1 << 62, Since: 9, Until: 17}},
		{suspect(4, 1), 0, 9, 1, 0.1, doubt.Doubt{U: suspect(4, 1), From: 1, Since: 9, Until: 10}},
	} {
		d := &doubt.Doubts{}
		wantRaise(t, d, x.u, x.from, x.now, x.nodes, x.base, true, api.OK)
		wantAll(t, d, x.want)
	}
}

func TestRaiseFromEachNode(t *testing.T) {
	d := &doubt.Doubts{}
	from := uint64(0)
	for node := range 64 {
		raise(t, d, suspect(9, 0), node, 100)
		from |= 1 << node
		until := []uint64{114, 110, 106, 102}[min(node, 3)]
		wantAll(t, d, doubt.Doubt{U: suspect(9, 0), From: from, Since: 100, Told: uint64(node), Until: until})
	}
	for node := range 64 {
		wantRaise(t, d, suspect(9, 0), node, 200, 1, 9, false, api.OK)
	}
	wantAll(t, d, doubt.Doubt{U: suspect(9, 0), From: last, Since: 100, Told: 63, Until: 102})
}

func TestRaiseFromOneWhoToldIt(t *testing.T) {
	for _, from := range []int{0, 1, 63} {
		d := &doubt.Doubts{}
		raise(t, d, suspect(3, 5), from, 10)
		want := d.All()
		for _, now := range []uint64{0, 9, 10, 11, 24, 25, last} {
			for _, base := range []float64{0, 2, 900} {
				wantRaise(t, d, suspect(3, 5), from, now, 3, base, false, api.OK)
				wantAll(t, d, want...)
			}
		}
		// Who told it behind another one did, too.
		raise(t, d, suspect(3, 5), 30, 11)
		want = d.All()
		for _, again := range []int{from, 30} {
			wantRaise(t, d, suspect(3, 5), again, 12, 3, 0, false, api.OK)
			wantAll(t, d, want...)
		}
	}
}

func TestRaiseFromAnotherOne(t *testing.T) {
	d := &doubt.Doubts{}
	raise(t, d, suspect(3, 5), 1, 10)
	for i, x := range []struct {
		from  int
		now   uint64
		band  uint64
		until uint64
	}{
		{0, 11, 3, 20},
		{63, 19, 3 | 1<<63, 16},
		{3, 9, 11 | 1<<63, 12}, // ahead of Since
		{4, 50, 27 | 1<<63, 12},
		{62, last, 27 | 3<<62, 12},
	} {
		raise(t, d, suspect(3, 5), x.from, x.now)
		wantAll(t, d, doubt.Doubt{U: suspect(3, 5), From: x.band, Since: 10, Told: uint64(i + 1), Until: x.until})
	}
}

// Of what nodes and base a doubt's end is reckoned is told by each call anew.
func TestRaiseIsOfItsOwnNodesAndBase(t *testing.T) {
	d := &doubt.Doubts{}
	wantRaise(t, d, suspect(3, 5), 1, 10, 64, 2, true, api.OK)
	wantUntil(t, d, 24)
	wantRaise(t, d, suspect(3, 5), 2, 10, 1, 2, true, api.OK)
	wantUntil(t, d, 12)
	wantRaise(t, d, suspect(3, 5), 3, 10, 64, 20, true, api.OK)
	wantUntil(t, d, 70)
	wantRaise(t, d, suspect(3, 5), 4, 10, 64, 20, true, api.OK)
	wantUntil(t, d, 30)
	wantRaise(t, d, suspect(3, 5), 5, 10, 64, 1000, true, api.OK)
	wantUntil(t, d, 1010)
}

func TestRaiseOfALowerIncarnation(t *testing.T) {
	for _, x := range []struct{ known, told uint64 }{{1, 0}, {5, 4}, {5, 0}, {last, last - 1}, {last, 0}} {
		d := &doubt.Doubts{}
		raise(t, d, suspect(3, x.known), 1, 10)
		want := d.All()
		for _, from := range []int{0, 1, 2, 63} {
			wantRaise(t, d, suspect(3, x.told), from, 12, 64, 2, false, api.ErrOld)
			wantAll(t, d, want...)
		}
	}
}

func TestRaiseOfAHigherIncarnation(t *testing.T) {
	for _, x := range []struct{ known, told uint64 }{{0, 1}, {4, 5}, {0, 5}, {last - 1, last}, {0, last}} {
		for _, from := range []int{0, 1, 2, 63} {
			d := &doubt.Doubts{}
			for teller := range 5 {
				raise(t, d, suspect(3, x.known), teller, 10)
			}
			wantUntil(t, d, 12)
			raise(t, d, suspect(3, x.told), from, 30)
			wantAll(t, d, doubt.Doubt{U: suspect(3, x.told), From: 1 << from, Since: 30, Until: 44})
			wantRaise(t, d, suspect(3, x.known), 50, 31, 64, 2, false, api.ErrOld)
			// Those who told the one ahead tell this one anew.
			raise(t, d, suspect(3, x.told), 4, 31)
			wantAll(t, d, doubt.Doubt{U: suspect(3, x.told), From: 1<<from | 1<<4, Since: 30, Told: 1, Until: 40})
		}
	}
}

// A doubt whose time is over stands till it is told that it is.
func TestRaiseOfOneWhoseTimeIsOver(t *testing.T) {
	d := &doubt.Doubts{}
	raise(t, d, suspect(3, 5), 1, 10)
	raise(t, d, suspect(3, 5), 2, 1000)
	wantAll(t, d, doubt.Doubt{U: suspect(3, 5), From: 6, Since: 10, Told: 1, Until: 20})
	wantRaise(t, d, suspect(3, 5), 2, 1000, 64, 2, false, api.OK)
	wantRaise(t, d, suspect(3, 4), 2, 1000, 64, 2, false, api.ErrOld)
	wantOver(t, d, 1000, dead(3, 5))
}

func TestRaiseOfSumsThatWouldBeTooGreat(t *testing.T) {
	for _, x := range []struct{ now, want uint64 }{
		{last - 15, last - 1}, {last - 14, last}, {last - 13, last}, {last - 1, last}, {last, last},
	} {
		d := &doubt.Doubts{}
		raise(t, d, suspect(3, 5), 1, x.now)
		wantUntil(t, d, x.want)
	}
	// From Since: by 10, by 6 and by 2.
	for _, x := range []struct{ now, one, two, three uint64 }{
		{last - 10, last, last - 4, last - 8},
		{last - 9, last, last - 3, last - 7},
		{last - 11, last - 1, last - 5, last - 9},
		{last - 6, last, last, last - 4},
		{last - 2, last, last, last},
		{last - 1, last, last, last},
		{last, last, last, last},
	} {
		d := &doubt.Doubts{}
		raise(t, d, suspect(3, 5), 1, x.now)
		for i, want := range []uint64{x.one, x.two, x.three} {
			raise(t, d, suspect(3, 5), 2+i, 0)
			wantUntil(t, d, want)
		}
	}
}

func TestRaiseOfBases(t *testing.T) {
	for _, x := range []struct {
		base             float64
		first, one, four uint64
	}{
		{math.NaN(), 10, 10, 10},
		{-1, 10, 10, 10},
		{-1e300, 10, 10, 10},
		{math.Inf(-1), 10, 10, 10},
		{math.Copysign(0, -1), 10, 10, 10},
		{0, 10, 10, 10},
		{math.SmallestNonzeroFloat64, 11, 11, 11},
		{1, 17, 15, 11},
		{1.5, 21, 18, 12}, // 10.5, 7.5 and 1.5
		{1000, 7010, 5010, 1010},
		{1000.5, 7010, 5010, 1010},
		{math.MaxFloat64, 7010, 5010, 1010},
		{math.Inf(1), 7010, 5010, 1010},
	} {
		d := &doubt.Doubts{}
		wantRaise(t, d, suspect(3, 5), 0, 10, 64, x.base, true, api.OK)
		wantUntil(t, d, x.first)
		wantRaise(t, d, suspect(3, 5), 1, 10, 64, x.base, true, api.OK)
		wantUntil(t, d, x.one)
		for from := 2; from < 5; from++ {
			wantRaise(t, d, suspect(3, 5), from, 10, 64, x.base, true, api.OK)
		}
		wantUntil(t, d, x.four)
	}
}

func TestRaiseOfNodes(t *testing.T) {
	for _, x := range []struct {
		nodes      int
		first, one uint64
	}{
		{math.MinInt, 13, 13}, {-1, 13, 13}, {0, 13, 13}, {1, 13, 13},
		{2, 16, 15}, {3, 16, 15}, {4, 19, 17}, {63, 28, 23}, {64, 31, 25}, {127, 31, 25}, {128, 34, 27},
		{math.MaxInt, 10 + 3*63, 10 + 189 - 62},
	} {
		d := &doubt.Doubts{}
		wantRaise(t, d, suspect(3, 5), 0, 10, x.nodes, 3, true, api.OK)
		wantUntil(t, d, x.first)
		wantRaise(t, d, suspect(3, 5), 1, 10, x.nodes, 3, true, api.OK)
		wantUntil(t, d, x.one)
	}
}

func TestRaiseOfOneNodeLeavesTheOthers(t *testing.T) {
	d := &doubt.Doubts{}
	raise(t, d, suspect(3, 5), 1, 10)
	raise(t, d, suspect(2, 9), 1, 11)
	raise(t, d, suspect(3, 5), 2, 12)
	raise(t, d, suspect(4, 0), 3, 13)
	wantAll(t, d,
		doubt.Doubt{U: suspect(2, 9), From: 2, Since: 11, Until: 25},
		doubt.Doubt{U: suspect(3, 5), From: 6, Since: 10, Told: 1, Until: 20},
		doubt.Doubt{U: suspect(4, 0), From: 8, Since: 13, Until: 27})
}

// P10.2: Drop, All

func TestDrop(t *testing.T) {
	d := &doubt.Doubts{}
	for _, node := range append(noNodes(), 0, 3, 63) {
		wantDrop(t, d, node, false)
	}
	raise(t, d, suspect(0, 1), 1, 10)
	raise(t, d, suspect(3, 5), 1, 10)
	raise(t, d, suspect(63, last), 1, 10)
	all := d.All()
	for _, node := range append(noNodes(), 1, 2, 4, 62) {
		wantDrop(t, d, node, false)
		wantAll(t, d, all...)
	}
	wantDrop(t, d, 3, true)
	wantAll(t, d, all[0], all[2])
	wantDrop(t, d, 3, false)
	wantDrop(t, d, 0, true)
	wantAll(t, d, all[2])
	wantDrop(t, d, 63, true)
	wantAll(t, d)
	wantDrop(t, d, 63, false)
}

func TestDropOfOneThatIsToldByMany(t *testing.T) {
	d := &doubt.Doubts{}
	for from := range 5 {
		raise(t, d, suspect(3, 5), from, 10)
	}
	wantDrop(t, d, 3, true)
	wantDrop(t, d, 3, false)
	wantAll(t, d)
}

func TestDroppedIsRaisedAnew(t *testing.T) {
	for _, inc := range []uint64{4, 5, 6} { // of a lower incarnation, too: what was dropped is forgotten
		d := &doubt.Doubts{}
		raise(t, d, suspect(3, 5), 1, 10)
		raise(t, d, suspect(3, 5), 2, 10)
		wantDrop(t, d, 3, true)
		raise(t, d, suspect(3, inc), 2, 40)
		wantAll(t, d, doubt.Doubt{U: suspect(3, inc), From: 4, Since: 40, Until: 54})
		wantDrop(t, d, 3, true)
	}
}

func TestAllOfNewDoubts(t *testing.T) {
	d := &doubt.Doubts{}
	for range 2 {
		wantAll(t, d)
	}
}

func TestAllRisesByNodes(t *testing.T) {
	d := &doubt.Doubts{}
	for i, node := range chance().Perm(64) {
		raise(t, d, suspect(node, uint64(99-node)), node, uint64(200-3*i))
		l := d.All()
		if len(l) != i+1 || !slices.IsSortedFunc(l, func(a, b doubt.Doubt) int { return a.U.Node - b.U.Node }) {
			t.Fatalf("%v", l)
		}
	}
	for node, x := range d.All() {
		if x.U != suspect(node, uint64(99-node)) || x.From != 1<<node || x.Told != 0 || x.Until != x.Since+14 {
			t.Errorf("%v", x)
		}
	}
}

func TestAllChangesNothing(t *testing.T) {
	d := &doubt.Doubts{}
	raise(t, d, suspect(8, 5), 1, 10)
	raise(t, d, suspect(3, 5), 1, 10)
	first := d.All()
	for range 3 {
		wantAll(t, d, first...)
	}
	wantOver(t, d, 24, dead(3, 5), dead(8, 5))
}

// P10.3: Over

func TestOverOfNone(t *testing.T) {
	d := &doubt.Doubts{}
	for _, now := range []uint64{0, 1, last} {
		wantOver(t, d, now)
	}
	raise(t, d, suspect(3, 5), 1, 10)
	all := d.All()
	for _, now := range []uint64{0, 9, 10, 11, 23} {
		wantOver(t, d, now)
		wantAll(t, d, all...)
	}
}

func TestOverByItsTime(t *testing.T) {
	for _, now := range []uint64{24, 25, 1000, last} {
		d := &doubt.Doubts{}
		raise(t, d, suspect(3, 5), 1, 10)
		wantOver(t, d, now, dead(3, 5))
		wantAll(t, d)
		wantOver(t, d, now)
		wantOver(t, d, last)
		wantDrop(t, d, 3, false)
	}
}

func TestOverAtOnce(t *testing.T) {
	d := &doubt.Doubts{}
	wantRaise(t, d, suspect(0, 0), 1, 0, 64, 0, true, api.OK)
	wantOver(t, d, 0, dead(0, 0))
	wantRaise(t, d, suspect(0, 0), 1, 1, 64, math.NaN(), true, api.OK)
	wantOver(t, d, 0)
	wantOver(t, d, 1, dead(0, 0))
}

func TestOverAtTheLastTick(t *testing.T) {
	d := &doubt.Doubts{}
	raise(t, d, suspect(63, last), 1, last)
	raise(t, d, suspect(7, 2), 1, last-3)
	wantOver(t, d, last-1)
	wantOver(t, d, last, dead(7, 2), dead(63, last))
	wantOver(t, d, last)
}

func TestOverOfSome(t *testing.T) {
	d := &doubt.Doubts{}
	raise(t, d, suspect(9, 1), 0, 12) // until 26
	raise(t, d, suspect(2, 2), 0, 10) // until 24
	raise(t, d, suspect(7, 3), 0, 11) // until 25
	raise(t, d, suspect(1, 4), 0, 12) // until 26
	raise(t, d, suspect(5, 5), 0, 20) // until 34
	raise(t, d, suspect(9, 1), 3, 12) // until 22
	wantOver(t, d, 21)
	wantOver(t, d, 24, dead(2, 2), dead(9, 1))
	all := d.All()
	if len(all) != 3 || all[0].U != suspect(1, 4) || all[1].U != suspect(5, 5) || all[2].U != suspect(7, 3) {
		t.Errorf("%v", all)
	}
	wantOver(t, d, 24)
	wantAll(t, d, all...)
	wantOver(t, d, 30, dead(1, 4), dead(7, 3))
	wantOver(t, d, last, dead(5, 5))
	wantAll(t, d)
}

func TestOverOfAllRisesByNodes(t *testing.T) {
	d := &doubt.Doubts{}
	var want []api.Update
	for node := range 64 {
		want = append(want, dead(node, uint64(99-node)))
	}
	for i, node := range chance().Perm(64) {
		raise(t, d, suspect(node, uint64(99-node)), 1, uint64(100-i))
	}
	wantOver(t, d, 114, want...)
	wantAll(t, d)
}

func TestOverIsOfTheIncarnationThatIsDoubted(t *testing.T) {
	d := &doubt.Doubts{}
	raise(t, d, suspect(3, 5), 1, 10)
	raise(t, d, suspect(3, 8), 1, 13)
	wantRaise(t, d, suspect(3, 7), 2, 13, 64, 2, false, api.ErrOld)
	wantOver(t, d, 26)
	wantOver(t, d, 27, dead(3, 8))
	wantOver(t, d, last)
}

func TestOverIsRaisedAnew(t *testing.T) {
	for _, inc := range []uint64{4, 5, 6} {
		d := &doubt.Doubts{}
		raise(t, d, suspect(3, 5), 1, 10)
		wantOver(t, d, 24, dead(3, 5))
		raise(t, d, suspect(3, inc), 1, 20)
		wantAll(t, d, doubt.Doubt{U: suspect(3, inc), From: 2, Since: 20, Until: 34})
		wantOver(t, d, 33)
		wantOver(t, d, 34, dead(3, inc))
	}
}

// Time need not rise: what is told is told by now alone.
func TestOverOfAnEarlierTime(t *testing.T) {
	d := &doubt.Doubts{}
	raise(t, d, suspect(3, 5), 1, 10)
	wantOver(t, d, 23)
	raise(t, d, suspect(4, 5), 1, 0)
	wantOver(t, d, 14, dead(4, 5))
	wantOver(t, d, 13)
	wantOver(t, d, 24, dead(3, 5))
}

// P10.4: what follows

func TestWithMoreItIsOverNoLater(t *testing.T) {
	c := chance()
	sooner := 0
	for range 2000 {
		nodes, base, since := c.Intn(70)-2, math.Exp(c.Float64()*16-8), c.Uint64()>>c.Intn(64)
		if c.Intn(4) == 0 {
			since = last - uint64(c.Intn(100))
		}
		d := &doubt.Doubts{}
		until := last
		for i, from := range c.Perm(64)[:6] {
			wantRaise(t, d, suspect(3, 5), from, since, nodes, base, true, api.OK)
			now := d.All()[0].Until
			if now > until || now < since {
				t.Fatalf("of %d nodes, %g, since %d: from %d to %d", nodes, base, since, until, now)
			}
			if i > 0 && now < until {
				sooner++
			}
			until = now
		}
	}
	if sooner < 500 {
		t.Errorf("too few that tell: %d", sooner)
	}
}

func TestOneThatIsDroppedIsNeverOver(t *testing.T) {
	c := chance()
	for range 300 {
		d := &doubt.Doubts{}
		for range 40 {
			d.Raise(suspect(c.Intn(64), uint64(c.Intn(3))), c.Intn(64), uint64(c.Intn(30)), 64, 2)
		}
		var want []api.Update
		for _, x := range d.All() {
			if c.Intn(2) == 0 {
				wantDrop(t, d, x.U.Node, true)
			} else {
				want = append(want, dead(x.U.Node, x.U.Inc))
			}
		}
		wantOver(t, d, last, want...)
	}
}

// R3: answers are new.

func TestAnswersAreNew(t *testing.T) {
	d := &doubt.Doubts{}
	for node := range 5 {
		raise(t, d, suspect(node, 1), 1, uint64(node))
	}
	a, b := d.All(), d.All()
	want := slices.Clone(b)
	for l := a[:cap(a)]; len(l) > 0; l = l[1:] {
		l[0] = doubt.Doubt{U: suspect(60, 60), From: 60, Since: 60, Told: 60}
	}
	_ = append(b[:2], doubt.Doubt{})
	wantAll(t, d, want...)
	over := d.Over(15)
	_ = append(over, dead(50, 50))
	over = over[:cap(over)]
	for i := range over {
		over[i] = dead(40, 40)
	}
	wantAll(t, d, want[2:]...)
	again := d.Over(16)
	if !slices.Equal(again, []api.Update{dead(2, 1)}) || over[0] != dead(40, 40) {
		t.Errorf("%v, %v", again, over)
	}
	wantOver(t, d, last, dead(3, 1), dead(4, 1))
	// What is over, or changed, is not seen in an answer of earlier.
	if b[0].U != suspect(0, 1) || b[4] != want[4] {
		t.Errorf("%v", b)
	}
}

func TestDoubtsAreTheirOwn(t *testing.T) {
	a, b := &doubt.Doubts{}, &doubt.Doubts{}
	raise(t, a, suspect(3, 5), 1, 10)
	wantAll(t, b)
	raise(t, b, suspect(3, 4), 2, 11)
	wantDrop(t, a, 3, true)
	wantAll(t, b, doubt.Doubt{U: suspect(3, 4), From: 4, Since: 11, Until: 25})
}

// plain holds doubts as the promises' words say it, in a row.
type plain []doubt.Doubt

func (p plain) until(since, told uint64, nodes int, base float64) uint64 {
	ticks := real.Ticks(real.Wait(base, nodes, int(told), 3))
	if since+ticks < since {
		return last
	}
	return since + ticks
}

func (p *plain) drop(node int) bool {
	n := len(*p)
	*p = slices.DeleteFunc(*p, func(x doubt.Doubt) bool { return x.U.Node == node })
	return len(*p) < n
}

func (p *plain) raise(u api.Update, from int, now uint64, nodes int, base float64) (bool, api.Errno) {
	if u.Node < 0 || u.Node > 63 || u.State != 1 || from < 0 || from > 63 {
		return false, 1
	}
	for i := range *p {
		x := &(*p)[i]
		if x.U.Node != u.Node || x.U.Inc < u.Inc {
			continue
		}
		if x.U.Inc > u.Inc {
			return false, 70
		}
		if x.From>>from&1 == 1 {
			return false, 0
		}
		x.From += 1 << from
		x.Told++
		x.Until = p.until(x.Since, x.Told, nodes, base)
		return true, 0
	}
	p.drop(u.Node)
	*p = append(*p, doubt.Doubt{U: u, From: 1 << from, Since: now, Until: p.until(now, 0, nodes, base)})
	return true, 0
}

func (p plain) all() []doubt.Doubt {
	var l []doubt.Doubt
	for node := range 64 {
		for _, x := range p {
			if x.U.Node == node {
				l = append(l, x)
			}
		}
	}
	return l
}

func (p *plain) over(now uint64) []api.Update {
	var l []api.Update
	for _, x := range p.all() {
		if x.Until <= now {
			p.drop(x.U.Node)
			l = append(l, api.Update{Node: x.U.Node, Inc: x.U.Inc, State: 3})
		}
	}
	return l
}

func TestAsThePromisesWords(t *testing.T) {
	c := chance()
	seen := map[string]int{}
	for range 60 {
		d, p := &doubt.Doubts{}, plain{}
		for tick := range 200 {
			now := uint64(tick)
			switch c.Intn(8) {
			case 0:
				node := c.Intn(12) - 1
				want := p.drop(node)
				if want {
					seen["drop"]++
				}
				wantDrop(t, d, node, want)
			case 1:
				want := p.over(now)
				seen["over"] += len(want)
				wantOver(t, d, now, want...)
			default:
				u, from := suspect(c.Intn(12)-1, uint64(c.Intn(3))), c.Intn(10)-1
				if c.Intn(10) == 0 {
					u.State, u.Node, from = c.Intn(6)-1, c.Intn(70)-3, c.Intn(70)-3
				}
				nodes := []int{-1, 0, 1, 3, 9, 64}[c.Intn(6)]
				base := []float64{-1, 0, 0.3, 2, 2, 2, 7.7, 2000, math.NaN()}[c.Intn(9)]
				is, e := p.raise(u, from, now, nodes, base)
				seen[map[api.Errno]string{0: "raise", 1: "arg", 70: "old"}[e]]++
				wantRaise(t, d, u, from, now, nodes, base, is, e)
			}
			wantAll(t, d, p.all()...)
			if t.Failed() {
				t.FailNow()
			}
		}
	}
	for _, what := range []string{"drop", "over", "raise", "arg", "old"} {
		if seen[what] < 100 {
			t.Errorf("too few that tell: %v", seen)
		}
	}
}

func TestCallsAreTotal(t *testing.T) {
	c := chance()
	d := &doubt.Doubts{}
	for range 3000 {
		anyInt := func() int { return int(c.Uint64()) >> c.Intn(64) }
		base := math.Float64frombits(c.Uint64())
		d.Raise(of(anyInt(), c.Uint64(), anyInt()), anyInt(), c.Uint64(), anyInt(), base)
		d.Raise(suspect(c.Intn(64), c.Uint64()>>c.Intn(64)), c.Intn(64), c.Uint64(), anyInt(), base)
		d.Drop(anyInt())
		if l := d.All(); len(l) > 64 {
			t.Fatalf("%d doubts", len(l))
		}
		if c.Intn(20) == 0 {
			d.Over(c.Uint64())
		}
	}
	d.Over(last)
	wantAll(t, d)
}

// The examples of the chapter.

func TestExamples(t *testing.T) {
	d := &doubt.Doubts{}
	wantRaise(t, d, suspect(3, 0), 1, 5, 1, 2, true, api.OK)
	wantOver(t, d, 6)
	wantOver(t, d, 7, dead(3, 0))
}
