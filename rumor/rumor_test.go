package rumor_test

import (
	"math"
	"math/rand"
	"slices"
	"testing"

	"conventicle/api"
	"conventicle/rumor"
)

const last = uint64(math.MaxUint64)

func of(node int, inc uint64, state int) api.Update {
	return api.Update{Node: node, Inc: inc, State: state}
}

func item(told, node int, inc uint64, state int) rumor.Item {
	return rumor.Item{U: of(node, inc, state), Told: told}
}

// noNodes are numbers that are no node's.
func noNodes() []int { return []int{math.MinInt, -65, -64, -2, -1, 64, 65, 128, 1 << 32, math.MaxInt} }

// mayNotBe are updates that tell nothing: of no node, of no state, of neither.
func mayNotBe() []api.Update {
	l := []api.Update{of(5, 9, -1), of(5, 9, 4), of(9, 9, -1), of(9, 9, 4), of(5, last, math.MaxInt), of(5, last, math.MinInt), of(64, last, 4), of(-1, 0, -1)}
	for _, node := range noNodes() {
		for state := api.Alive; state <= api.Dead; state++ {
			l = append(l, of(node, 0, state), of(node, last, state))
		}
	}
	return l
}

// chance answers numbers that are the same in each run.
func chance() *rand.Rand { return rand.New(rand.NewSource(8)) }

// queued tells a queue in which all of l were put.
func queued(t *testing.T, l ...api.Update) *rumor.Queue {
	t.Helper()
	q := &rumor.Queue{}
	for _, u := range l {
		wantPut(t, q, u, api.OK)
	}
	return q
}

// alive tells a queue with rumors of the nodes from up to below to.
func alive(t *testing.T, from, to int) *rumor.Queue {
	t.Helper()
	q := &rumor.Queue{}
	for node := from; node < to; node++ {
		wantPut(t, q, of(node, 0, api.Alive), api.OK)
	}
	return q
}

func wantPut(t *testing.T, q *rumor.Queue, u api.Update, want api.Errno) {
	t.Helper()
	if e := q.Put(u); e != want {
		t.Errorf("Put(%v): %d, want %d", u, e, want)
	}
}

func wantItems(t *testing.T, q *rumor.Queue, want ...rumor.Item) {
	t.Helper()
	if got := q.Items(); !slices.Equal(got, want) {
		t.Errorf("Items: %v, want %v", got, want)
	}
}

func wantTake(t *testing.T, q *rumor.Queue, n, nodes int, want ...api.Update) {
	t.Helper()
	if got := q.Take(n, nodes); !slices.Equal(got, want) {
		t.Errorf("Take(%d, %d): %v, want %v", n, nodes, got, want)
	}
}

// wantNodes asks for the nodes of all rumors, in the order of Items.
func wantNodes(t *testing.T, q *rumor.Queue, want ...int) {
	t.Helper()
	var got []int
	for _, i := range q.Items() {
		got = append(got, i.U.Node)
	}
	if !slices.Equal(got, want) {
		t.Errorf("nodes: %v, want %v", got, want)
	}
}

// row tells the numbers from up to below to.
func row(from, to int) []int {
	var l []int
	for n := from; n < to; n++ {
		l = append(l, n)
	}
	return l
}

// P8.1: Cap

func TestCap(t *testing.T) {
	for _, x := range []struct{ nodes, want int }{
		{math.MinInt, 1}, {-64, 1}, {-2, 1}, {-1, 1}, {0, 1},
		{1, 3}, {2, 6}, {3, 6}, {4, 9}, {5, 9}, {6, 9}, {7, 9}, {8, 12}, {9, 12},
		{63, 18}, {64, 21}, {65, 21}, {math.MaxInt, 189},
	} {
		if got := rumor.Cap(x.nodes); got != x.want {
			t.Errorf("Cap(%d): %d, want %d", x.nodes, got, x.want)
		}
	}
}

func TestCapBesidePowersOfTwo(t *testing.T) {
	for i := 1; i < 63; i++ {
		power := 1 << i
		for _, x := range []struct{ nodes, want int }{{power - 1, 3 * i}, {power, 3 * (i + 1)}, {power + 1, 3 * (i + 1)}, {-power, 1}} {
			if got := rumor.Cap(x.nodes); got != x.want {
				t.Errorf("Cap(%d): %d, want %d", x.nodes, got, x.want)
			}
		}
	}
}

// P8.2: Put

func TestPutOfWhatMayNotBe(t *testing.T) {
	empty, q := &rumor.Queue{}, queued(t, of(0, 0, api.Alive), of(5, 1, api.Suspect), of(63, last, api.Dead))
	wantTake(t, q, 1, 64, of(0, 0, api.Alive))
	before := q.Items()
	for _, u := range mayNotBe() {
		wantPut(t, empty, u, api.ErrArg)
		wantItems(t, empty)
		wantPut(t, q, u, api.ErrArg)
		wantItems(t, q, before...)
	}
}

func TestPutOfWhatMayNotBeInAFullQueue(t *testing.T) {
	q := alive(t, 0, 32)
	before := q.Items()
	for _, u := range mayNotBe() {
		wantPut(t, q, u, api.ErrArg)
		wantItems(t, q, before...)
	}
}

func TestPutOfANodeOfWhichNothingIsThere(t *testing.T) {
	for node := range 64 {
		for state := api.Alive; state <= api.Dead; state++ {
			for _, inc := range []uint64{0, 1, last} {
				q := queued(t, of(node, inc, state))
				wantItems(t, q, item(0, node, inc, state))
				// What is there of another node is no older one of this.
				other := of((node+1)%64, 0, api.Alive)
				wantPut(t, q, other, api.OK)
				if len(q.Items()) != 2 {
					t.Errorf("%v, and of %v: %v", of(node, inc, state), other, q.Items())
				}
			}
		}
	}
}

func TestPutOfANodeOfWhichSomethingIsThere(t *testing.T) {
	incs := []uint64{0, 1, 2, 1 << 63, last - 1, last}
	for i, a := range incs {
		for k, b := range incs {
			for known := api.Alive; known <= api.Dead; known++ {
				for told := api.Alive; told <= api.Dead; told++ {
					putOver(t, of(5, a, known), of(5, b, told), k > i || k == i && told > known)
				}
			}
		}
	}
}

// putOver puts told where known is there, and was told twice.
func putOver(t *testing.T, known, told api.Update, isNewer bool) {
	t.Helper()
	q := queued(t, known)
	q.Take(1, 64)
	q.Take(1, 64)
	wantPut(t, q, of(3, 0, api.Alive), api.OK)
	if isNewer {
		wantPut(t, q, told, api.OK)
		wantItems(t, q, item(0, 3, 0, api.Alive), rumor.Item{U: told})
	} else {
		wantPut(t, q, told, api.ErrOld)
		wantItems(t, q, item(0, 3, 0, api.Alive), rumor.Item{U: known, Told: 2})
	}
}

func TestPutInThePlaceOfAnotherWasToldNoTime(t *testing.T) {
	q := queued(t, of(1, 0, api.Alive), of(7, 0, api.Alive))
	for range 4 {
		q.Take(2, 64)
	}
	wantPut(t, q, of(7, 0, api.Suspect), api.OK)
	wantItems(t, q, item(0, 7, 0, api.Suspect), item(4, 1, 0, api.Alive))
	wantPut(t, q, of(7, 1, api.Alive), api.OK)
	wantItems(t, q, item(0, 7, 1, api.Alive), item(4, 1, 0, api.Alive))
	// It was told 4 times as another one: it is told 6 times all the same.
	told := 0
	for range 9 {
		told += len(q.Take(1, 2))
	}
	if told != 8 {
		t.Errorf("told %d times, want 6 times, and twice", told)
	}
}

func TestPutOfWhatIsGoneIsNew(t *testing.T) {
	q := queued(t, of(5, 3, api.Dead))
	wantTake(t, q, 1, 0, of(5, 3, api.Dead))
	wantItems(t, q)
	// Of what is gone nothing is known any more: also what is older may come.
	wantPut(t, q, of(5, 0, api.Alive), api.OK)
	wantItems(t, q, item(0, 5, 0, api.Alive))
}

func TestPutOfThe32nd(t *testing.T) {
	q := alive(t, 0, 31)
	wantPut(t, q, of(63, 0, api.Alive), api.OK)
	wantNodes(t, q, append(row(0, 31), 63)...)
}

func TestPutOfThe33rdThatGoesItself(t *testing.T) {
	q := alive(t, 0, 32)
	for _, node := range []int{32, 40, 63} {
		wantPut(t, q, of(node, 5, api.Dead), api.OK)
		wantNodes(t, q, row(0, 32)...)
	}
	// It is not there, so it is not old either.
	wantPut(t, q, of(40, 5, api.Dead), api.OK)
}

func TestPutOfThe33rdOfALesserNode(t *testing.T) {
	q := alive(t, 10, 42)
	wantPut(t, q, of(3, 0, api.Alive), api.OK)
	wantNodes(t, q, append([]int{3}, row(10, 41)...)...)
	wantPut(t, q, of(4, 0, api.Alive), api.OK)
	wantNodes(t, q, append([]int{3, 4}, row(10, 40)...)...)
	wantPut(t, q, of(39, 0, api.Suspect), api.OK)
	wantPut(t, q, of(38, 0, api.Alive), api.ErrOld)
	wantNodes(t, q, append([]int{3, 4}, row(10, 40)...)...)
}

func TestPutOfThe33rdWhereOneWasToldMostOften(t *testing.T) {
	q := alive(t, 0, 32)
	q.Take(1, 64) // 0
	wantPut(t, q, of(50, 0, api.Alive), api.OK)
	wantNodes(t, q, append(row(1, 32), 50)...)
}

func TestPutOfThe33rdWhereMoreWereToldMostOften(t *testing.T) {
	q := alive(t, 0, 32)
	q.Take(3, 64) // 0 to 2
	wantPut(t, q, of(50, 0, api.Alive), api.OK)
	wantNodes(t, q, append(row(3, 32), 50, 0, 1)...)
	wantPut(t, q, of(51, 0, api.Alive), api.OK)
	wantNodes(t, q, append(row(3, 32), 50, 51, 0)...)
	wantPut(t, q, of(52, 0, api.Alive), api.OK)
	wantNodes(t, q, append(row(3, 32), 50, 51, 52)...)
	wantPut(t, q, of(53, 0, api.Alive), api.OK)
	wantNodes(t, q, append(row(3, 32), 50, 51, 52)...)
}

// TestPutOfThe33rdGoesByTold has the greatest node told less often than others.
func TestPutOfThe33rdGoesByTold(t *testing.T) {
	q := queued(t, of(7, 0, api.Alive), of(9, 0, api.Alive))
	q.Take(2, 64)
	q.Take(1, 64) // 7 twice, 9 once
	for node := 20; node < 50; node++ {
		wantPut(t, q, of(node, 0, api.Alive), api.OK)
	}
	wantNodes(t, q, append(row(20, 50), 9, 7)...)
	wantPut(t, q, of(63, 0, api.Alive), api.OK)
	wantNodes(t, q, append(row(20, 50), 63, 9)...)
	wantPut(t, q, of(0, 0, api.Alive), api.OK)
	wantNodes(t, q, append(append([]int{0}, row(20, 50)...), 63)...)
}

// TestPutInAFullQueueOfANodeThatIsThere pushes nothing out: there are no more.
func TestPutInAFullQueueOfANodeThatIsThere(t *testing.T) {
	q := alive(t, 0, 32)
	q.Take(3, 64)
	wantPut(t, q, of(31, 1, api.Alive), api.OK)
	wantPut(t, q, of(1, 1, api.Alive), api.OK)
	wantPut(t, q, of(2, 0, api.Alive), api.ErrOld)
	want := []rumor.Item{item(0, 1, 1, api.Alive)}
	for node := 3; node < 31; node++ {
		want = append(want, item(0, node, 0, api.Alive))
	}
	wantItems(t, q, append(want, item(0, 31, 1, api.Alive), item(1, 0, 0, api.Alive), item(1, 2, 0, api.Alive))...)
}

// P8.3: Items

func TestItemsOfAnEmptyQueue(t *testing.T) {
	q := &rumor.Queue{}
	wantItems(t, q)
	wantTake(t, q, 3, 64)
	wantItems(t, q)
}

func TestItemsOfTheSameByRisingNodes(t *testing.T) {
	c := chance()
	for range 50 {
		nodes := c.Perm(64)[:c.Intn(33)]
		q := &rumor.Queue{}
		for _, node := range nodes {
			// Neither the incarnation nor the state is looked at.
			wantPut(t, q, of(node, uint64(c.Intn(9)), c.Intn(4)), api.OK)
		}
		slices.Sort(nodes)
		wantNodes(t, q, nodes...)
	}
}

func TestItemsByRisingTold(t *testing.T) {
	q := queued(t, of(2, 0, api.Alive))
	q.Take(1, 64)
	wantPut(t, q, of(9, 7, api.Dead), api.OK)
	wantPut(t, q, of(1, 0, api.Left), api.OK)
	q.Take(2, 64)
	wantItems(t, q, item(1, 1, 0, api.Left), item(1, 2, 0, api.Alive), item(1, 9, 7, api.Dead))
	q.Take(2, 64)
	wantItems(t, q, item(1, 9, 7, api.Dead), item(2, 1, 0, api.Left), item(2, 2, 0, api.Alive))
	wantPut(t, q, of(63, 0, api.Alive), api.OK)
	wantItems(t, q, item(0, 63, 0, api.Alive), item(1, 9, 7, api.Dead), item(2, 1, 0, api.Left), item(2, 2, 0, api.Alive))
	q.Take(1, 64)
	q.Take(1, 64)
	wantItems(t, q, item(1, 63, 0, api.Alive), item(2, 1, 0, api.Left), item(2, 2, 0, api.Alive), item(2, 9, 7, api.Dead))
}

func TestItemsChangesNothing(t *testing.T) {
	q := queued(t, of(4, 0, api.Alive), of(1, 0, api.Alive))
	for range 5 {
		wantItems(t, q, item(0, 1, 0, api.Alive), item(0, 4, 0, api.Alive))
	}
}

// P8.4: Take

func TestTakeOfNone(t *testing.T) {
	q := alive(t, 1, 4)
	before := q.Items()
	for _, n := range []int{0, -1, -2, -64, math.MinInt} {
		for _, nodes := range []int{math.MinInt, -1, 0, 1, 64, math.MaxInt} {
			wantTake(t, q, n, nodes)
			wantItems(t, q, before...)
		}
	}
}

func TestTakeOfFewer(t *testing.T) {
	q := alive(t, 1, 4)
	wantTake(t, q, 2, 64, of(1, 0, api.Alive), of(2, 0, api.Alive))
	wantItems(t, q, item(0, 3, 0, api.Alive), item(1, 1, 0, api.Alive), item(1, 2, 0, api.Alive))
	wantTake(t, q, 2, 64, of(3, 0, api.Alive), of(1, 0, api.Alive))
	wantItems(t, q, item(1, 2, 0, api.Alive), item(1, 3, 0, api.Alive), item(2, 1, 0, api.Alive))
	wantTake(t, q, 1, 64, of(2, 0, api.Alive))
}

func TestTakeOfAsManyAndOfMore(t *testing.T) {
	for _, n := range []int{3, 4, 33, 64, math.MaxInt} {
		q := queued(t, of(8, 2, api.Dead), of(6, 0, api.Left), of(7, 9, api.Suspect))
		wantTake(t, q, n, 64, of(6, 0, api.Left), of(7, 9, api.Suspect), of(8, 2, api.Dead))
		wantItems(t, q, item(1, 6, 0, api.Left), item(1, 7, 9, api.Suspect), item(1, 8, 2, api.Dead))
	}
}

func TestTakeOfAFullQueue(t *testing.T) {
	q := alive(t, 0, 32)
	if l := q.Take(math.MaxInt, 1); len(l) != 32 {
		t.Errorf("%d were taken", len(l))
	}
	if l := q.Take(31, 1); len(l) != 31 {
		t.Errorf("%d were taken", len(l))
	}
	if l := q.Take(31, 1); len(l) != 31 || l[0].Node != 31 || l[30].Node != 29 {
		t.Errorf("%v", l)
	}
	// 31, and 30, were told twice: all others three times, and are gone.
	wantItems(t, q, item(2, 30, 0, api.Alive), item(2, 31, 0, api.Alive))
}

func TestTakeTillCap(t *testing.T) {
	for _, nodes := range []int{math.MinInt, -1, 0, 1, 2, 3, 4, 7, 8, 63, 64, math.MaxInt} {
		q, most := queued(t, of(3, 1, api.Suspect)), rumor.Cap(nodes)
		for told := 1; told < most; told++ {
			wantTake(t, q, 1, nodes, of(3, 1, api.Suspect))
			wantItems(t, q, item(told, 3, 1, api.Suspect))
		}
		wantTake(t, q, 1, nodes, of(3, 1, api.Suspect))
		wantItems(t, q)
		wantTake(t, q, 1, nodes)
	}
}

// TestTakeWithFewerNodesThanAhead has one that was told more often than Cap is now:
// it is told once more, and goes then; what is not taken stays.
func TestTakeWithFewerNodesThanAhead(t *testing.T) {
	q := queued(t, of(3, 0, api.Alive), of(5, 0, api.Alive))
	for range 10 {
		q.Take(2, 64)
	}
	wantTake(t, q, 0, 1)
	wantItems(t, q, item(10, 3, 0, api.Alive), item(10, 5, 0, api.Alive))
	wantTake(t, q, 1, 1, of(3, 0, api.Alive))
	wantItems(t, q, item(10, 5, 0, api.Alive))
	wantTake(t, q, 1, 7, of(5, 0, api.Alive))
	wantItems(t, q)
}

func TestTakeWithMoreNodesThanAhead(t *testing.T) {
	q := queued(t, of(3, 0, api.Alive))
	wantTake(t, q, 1, 1, of(3, 0, api.Alive))
	wantTake(t, q, 1, 1, of(3, 0, api.Alive))
	wantTake(t, q, 1, 2, of(3, 0, api.Alive))
	wantItems(t, q, item(3, 3, 0, api.Alive))
	wantTake(t, q, 1, 1, of(3, 0, api.Alive))
	wantItems(t, q)
}

// TestTakeIsOneOrder takes by the order that Items has ahead of it: what is told
// once more by a take isn't told again by the same.
func TestTakeIsOneOrder(t *testing.T) {
	q := queued(t, of(1, 0, api.Alive))
	q.Take(1, 64)
	wantPut(t, q, of(5, 0, api.Alive), api.OK)
	wantPut(t, q, of(3, 0, api.Alive), api.OK)
	wantTake(t, q, 9, 64, of(3, 0, api.Alive), of(5, 0, api.Alive), of(1, 0, api.Alive))
	wantItems(t, q, item(1, 3, 0, api.Alive), item(1, 5, 0, api.Alive), item(2, 1, 0, api.Alive))
}

func TestAnswersAreNew(t *testing.T) {
	q := queued(t, of(1, 0, api.Alive), of(5, 0, api.Alive))
	items, taken := q.Items(), q.Take(2, 64)
	want := []rumor.Item{item(1, 1, 0, api.Alive), item(1, 5, 0, api.Alive)}
	spoil(items, rumor.Item{U: of(9, 9, 9), Told: 9})
	spoil(taken, of(9, 9, 9))
	wantItems(t, q, want...)
	spoil(q.Items(), rumor.Item{U: of(9, 9, 9), Told: 9})
	wantItems(t, q, want...)
	held := q.Items()
	again := q.Take(2, 64)
	wantPut(t, q, of(5, 1, api.Dead), api.OK)
	if !slices.Equal(held, want) || !slices.Equal(again, []api.Update{of(1, 0, api.Alive), of(5, 0, api.Alive)}) {
		t.Errorf("an answer was changed: %v, %v", held, again)
	}
}

// spoil writes over all of l, and over what is behind its length.
func spoil[T any](l []T, by T) {
	l = l[:cap(l)]
	for i := range l {
		l[i] = by
	}
}

func TestQueuesAreTheirOwn(t *testing.T) {
	a, b := &rumor.Queue{}, &rumor.Queue{}
	wantPut(t, a, of(1, 0, api.Alive), api.OK)
	wantItems(t, b)
	wantPut(t, b, of(1, 0, api.Alive), api.OK)
	a.Take(1, 64)
	wantItems(t, b, item(0, 1, 0, api.Alive))
	wantItems(t, a, item(1, 1, 0, api.Alive))
}

// P8.5: what follows

func TestWhatIsPutIsToldCapTimes(t *testing.T) {
	c := chance()
	for range 200 {
		nodes, most := c.Intn(70)-3, 1+c.Intn(32)
		q, told := &rumor.Queue{}, map[int]int{}
		put := c.Perm(64)[:most]
		for _, node := range put {
			wantPut(t, q, of(node, 1, api.Suspect), api.OK)
		}
		for range most * rumor.Cap(nodes) { // each take tells one at least, so that is enough
			for _, u := range q.Take(1+c.Intn(9), nodes) {
				told[u.Node]++
			}
			// What is old is told no more often for being put again.
			if l := q.Items(); len(l) > 0 {
				wantPut(t, q, l[c.Intn(len(l))].U, api.ErrOld)
			}
		}
		for _, node := range put {
			if told[node] != rumor.Cap(nodes) {
				t.Fatalf("%d of %d nodes: told %d times, want %d", node, nodes, told[node], rumor.Cap(nodes))
			}
		}
		if len(told) != most {
			t.Fatalf("%d were put, %d told", most, len(told))
		}
		wantItems(t, q)
	}
}

func TestNeverMoreThan32Wait(t *testing.T) {
	c := chance()
	for range 50 {
		q := &rumor.Queue{}
		for range 300 {
			q.Put(of(c.Intn(64), uint64(c.Intn(9)), c.Intn(4)))
			if c.Intn(20) == 0 {
				q.Take(c.Intn(9), c.Intn(70))
			}
			if l := q.Items(); len(l) > api.MaxQueue {
				t.Fatalf("%d wait", len(l))
			}
		}
	}
}

// plain is a queue that is as the promises' words: a list in the order of coming,
// that is searched for whatever comes next.
type plain []rumor.Item

func (p *plain) put(u api.Update) api.Errno {
	if u.Node < 0 || u.Node > 63 || u.State < 0 || u.State > 3 {
		return api.ErrArg
	}
	for i, x := range *p {
		if x.U.Node != u.Node {
			continue
		}
		if u.Inc < x.U.Inc || u.Inc == x.U.Inc && u.State <= x.U.State {
			return api.ErrOld
		}
		*p = slices.Delete(*p, i, i+1)
		break
	}
	*p = append(*p, rumor.Item{U: u})
	if len(*p) > 32 {
		worst := 0
		for i, x := range *p {
			w := (*p)[worst]
			if x.Told > w.Told || x.Told == w.Told && x.U.Node > w.U.Node {
				worst = i
			}
		}
		*p = slices.Delete(*p, worst, worst+1)
	}
	return api.OK
}

func (p plain) items() []rumor.Item {
	var l []rumor.Item
	for told := range 21 { // Cap of 64 nodes, the most that the test has
		for node := range 64 {
			for _, x := range p {
				if x.Told == told && x.U.Node == node {
					l = append(l, x)
				}
			}
		}
	}
	return l
}

func (p *plain) take(n, most int) []api.Update {
	var l []api.Update
	var left plain
	for i, x := range p.items() {
		if i < n {
			l = append(l, x.U)
			x.Told++
		}
		if i >= n || x.Told < most {
			left = append(left, x)
		}
	}
	*p = left
	return l
}

func TestAsThePromisesWords(t *testing.T) {
	c := chance()
	pushed := 0
	for range 40 {
		q, p := &rumor.Queue{}, plain{}
		for range 150 {
			if c.Intn(4) > 0 {
				u := of(c.Intn(66)-1, uint64(c.Intn(3)), c.Intn(6)-1)
				ahead := p.items()
				wantPut(t, q, u, p.put(u))
				if len(ahead) == 32 && len(p) == 32 && !slices.Contains(p, ahead[31]) && ahead[31].U.Node != u.Node {
					pushed++
				}
			} else {
				n, nodes := c.Intn(40)-2, []int{-1, 0, 1, 3, 9, 64}[c.Intn(6)]
				if c.Intn(3) > 0 {
					n, nodes = c.Intn(6), 64 // so that it gets full
				}
				wantTake(t, q, n, nodes, p.take(n, rumor.Cap(nodes))...)
			}
			wantItems(t, q, p.items()...)
			if t.Failed() {
				t.FailNow()
			}
		}
	}
	if pushed < 100 {
		t.Errorf("too few that tell: %d", pushed)
	}
}

// TestOneAnswer does the same to many queues: a map's own order must not be seen.
func TestOneAnswer(t *testing.T) {
	var first []api.Update
	for i := range 30 {
		q := &rumor.Queue{}
		var told []api.Update
		for node := 63; node >= 0; node-- {
			wantPut(t, q, of(node*37%64, 0, api.Alive), api.OK)
			told = append(told, q.Take(node%4, 3)...)
		}
		if i == 0 {
			first = told
		}
		if !slices.Equal(told, first) {
			t.Fatalf("%v, and %v", told, first)
		}
	}
}

func TestCallsAreTotal(t *testing.T) {
	c := chance()
	q := &rumor.Queue{}
	for range 3000 {
		q.Put(of(int(c.Uint64()), c.Uint64(), int(c.Uint64())))
		q.Put(of(c.Intn(64), c.Uint64(), c.Intn(4)))
		q.Take(int(c.Uint64())>>c.Intn(64), int(c.Uint64())>>c.Intn(64))
		if most := rumor.Cap(int(c.Uint64())); most < 1 || most > 189 {
			t.Fatalf("Cap: %d", most)
		}
		q.Items()
	}
}

// The examples of the chapter.

func TestExamples(t *testing.T) {
	q := queued(t, of(3, 0, api.Alive))
	for range 3 {
		wantTake(t, q, 1, 1, of(3, 0, api.Alive))
	}
	wantTake(t, q, 1, 1)
	wantItems(t, q)
}
