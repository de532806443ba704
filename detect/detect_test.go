package detect_test

import (
	"math"
	"math/rand"
	"reflect"
	"slices"
	"testing"

	"conventicle/api"
	"conventicle/detect"
	"conventicle/lot"
	"conventicle/round"
)

const last = uint64(math.MaxUint64)

func of(node int, inc uint64, state int) api.Update {
	return api.Update{Node: node, Inc: inc, State: state}
}

func alive(node int, inc uint64) api.Update { return of(node, inc, api.Alive) }

func suspect(node int, inc uint64) api.Update { return of(node, inc, api.Suspect) }

func gone(node int, inc uint64) api.Update { return of(node, inc, api.Left) }

func dead(node int, inc uint64) api.Update { return of(node, inc, api.Dead) }

func lots(l ...uint64) *lot.Lots { return lot.New(l) }

// chance answers numbers that are the same in each run.
func chance() *rand.Rand { return rand.New(rand.NewSource(11)) }

func someLots(c *rand.Rand, many int) []uint64 {
	l := make([]uint64, many)
	for i := range l {
		l[i] = c.Uint64()
	}
	return l
}

// noNodes are numbers that are no node's.
func noNodes() []int { return []int{math.MinInt, -65, -64, -2, -1, 64, 65, 128, 1 << 32, math.MaxInt} }

// mayNotBe are updates that tell nothing: of no node, of no state, of neither.
func mayNotBe() []api.Update {
	l := []api.Update{of(5, 9, -1), of(5, 9, 4), of(0, 9, 4), of(0, last, -1), of(9, 0, math.MaxInt), of(64, 0, 4)}
	for _, node := range noNodes() {
		for state := api.Alive; state <= api.Dead; state++ {
			l = append(l, of(node, 9, state), of(node, last, state))
		}
	}
	return l
}

// knowing tells a detector of the node me that was told all of l by it, with no lots.
func knowing(t *testing.T, me int, l ...api.Update) *detect.Detector {
	t.Helper()
	d := detect.New(me)
	for _, u := range l {
		wantKnow(t, d, u, lots(), api.OK)
	}
	return d
}

// among tells a detector of the node 0 that knows of the nodes up to below n, all
// Alive, and asks them by rising nodes, if it has no lots: each was joined behind
// those that were there.
func among(t *testing.T, n int) *detect.Detector {
	t.Helper()
	d := detect.New(0)
	for node := 1; node < n; node++ {
		wantKnow(t, d, alive(node, 0), lots(uint64(node-1)), api.OK)
	}
	return d
}

func wantKnow(t *testing.T, d *detect.Detector, u api.Update, l *lot.Lots, want api.Errno) {
	t.Helper()
	if e := d.Know(u, l); e != want {
		t.Errorf("Know(%v): %d, want %d", u, e, want)
	}
}

func wantLots(t *testing.T, l *lot.Lots, want int) {
	t.Helper()
	if got := l.Left(); got != want {
		t.Errorf("%d lots are left, want %d", got, want)
	}
}

func wantAll(t *testing.T, d *detect.Detector, want ...api.Update) {
	t.Helper()
	if got := d.All(); !slices.Equal(got, want) {
		t.Errorf("All: %v, want %v", got, want)
	}
}

// wantOf asks for just this of its node.
func wantOf(t *testing.T, d *detect.Detector, want api.Update) {
	t.Helper()
	if l := d.All(); !slices.Contains(l, want) {
		t.Errorf("All: %v, want one %v", l, want)
	}
}

func wantWatches(t *testing.T, d *detect.Detector, want ...detect.Watch) {
	t.Helper()
	if got := d.Watches(); !slices.Equal(got, want) {
		t.Errorf("Watches: %v, want %v", got, want)
	}
}

func wantErrands(t *testing.T, d *detect.Detector, want ...detect.Errand) {
	t.Helper()
	if got := d.Errands(); !slices.Equal(got, want) {
		t.Errorf("Errands: %v, want %v", got, want)
	}
}

func wantNow(t *testing.T, d *detect.Detector, want uint64) {
	t.Helper()
	if got := d.Now(); got != want {
		t.Errorf("Now: %d, want %d", got, want)
	}
}

// same tells whether two lists of notes are the same, News and all.
func same(a, b []detect.Note) bool {
	return slices.EqualFunc(a, b, func(a, b detect.Note) bool {
		return sameHead(a, b) && slices.Equal(a.News, b.News)
	})
}

func sameHead(a, b detect.Note) bool {
	a.News, b.News = nil, nil
	return reflect.DeepEqual(a, b)
}

func wantNotes(t *testing.T, got []detect.Note, want ...detect.Note) {
	t.Helper()
	if !same(got, want) {
		t.Errorf("notes: %v, want %v", got, want)
	}
}

// wantHeads asks for notes whatever their News are.
func wantHeads(t *testing.T, got []detect.Note, want ...detect.Note) {
	t.Helper()
	if !slices.EqualFunc(got, want, sameHead) {
		t.Errorf("notes: %v, want %v", got, want)
	}
}

func wantNews(t *testing.T, got detect.Note, want ...api.Update) {
	t.Helper()
	if !slices.Equal(got.News, want) {
		t.Errorf("News: %v, want %v", got.News, want)
	}
}

func wantHear(t *testing.T, d *detect.Detector, n detect.Note, l *lot.Lots, want api.Errno) []detect.Note {
	t.Helper()
	got, e := d.Hear(n, l)
	if e != want || e != api.OK && len(got) != 0 {
		t.Errorf("Hear(%v): %v, %d, want %d", n, got, e, want)
	}
	return got
}

// hear asks that a note is heard, with no lots, and tells what is said to it.
func hear(t *testing.T, d *detect.Detector, n detect.Note) []detect.Note {
	t.Helper()
	return wantHear(t, d, n, lots(), api.OK)
}

func ping(from, to int, seq uint64, news ...api.Update) detect.Note {
	return detect.Note{Kind: detect.Ping, From: from, To: to, Seq: seq, News: news}
}

func ack(from, to int, seq uint64, whose int, news ...api.Update) detect.Note {
	return detect.Note{Kind: detect.Ack, From: from, To: to, Seq: seq, For: whose, News: news}
}

func help(from, to int, seq uint64, whose int, news ...api.Update) detect.Note {
	return detect.Note{Kind: detect.Help, From: from, To: to, Seq: seq, For: whose, News: news}
}

// answered ticks so often, with no lots, and lets each ping be answered at once,
// without news.
func answered(t *testing.T, d *detect.Detector, ticks int) {
	t.Helper()
	for range ticks {
		for _, n := range d.Tick(lots()) {
			if n.Kind == detect.Ping {
				hear(t, d, ack(n.To, n.From, n.Seq, n.To))
			}
		}
	}
}

// wantTwins asks that two detectors are the same in all that they tell, and go on
// alike: for so long that a watch, an errand or a doubt that only one of them has
// would be seen.
func wantTwins(t *testing.T, what any, a, b *detect.Detector) {
	t.Helper()
	c := chance()
	for range 40 {
		if !slices.Equal(a.All(), b.All()) || !slices.Equal(a.Watches(), b.Watches()) || !slices.Equal(a.Errands(), b.Errands()) || a.Now() != b.Now() || a.Live() != b.Live() {
			t.Fatalf("%v: %v %v %v %d, and %v %v %v %d", what, a.All(), a.Watches(), a.Errands(), a.Now(), b.All(), b.Watches(), b.Errands(), b.Now())
		}
		l := someLots(c, 100)
		al, bl := lots(l...), lots(l...)
		an, bn := a.Tick(al), b.Tick(bl)
		if !same(an, bn) || al.Left() != bl.Left() {
			t.Fatalf("%v: %v, and %v", what, an, bn)
		}
	}
}

// busy tells a detector of the node 0 with something of each kind: watches, errands,
// doubts, rumors, and others in each state.
func busy(t *testing.T) *detect.Detector {
	t.Helper()
	d := knowing(t, 0, alive(1, 0), alive(2, 7), suspect(3, 4), gone(4, 3), dead(5, 1), alive(63, 0))
	for range 3 {
		d.Tick(lots(1, 2, 3, 4))
	}
	hear(t, d, help(1, 0, 77, 2))
	hear(t, d, help(2, 0, 78, 6))
	wantKnow(t, d, suspect(63, 0), lots(), api.OK)
	return d
}

// Kinds

func TestKinds(t *testing.T) {
	if detect.Ping != 1 || detect.Ack != 2 || detect.Help != 3 {
		t.Error(detect.Ping, detect.Ack, detect.Help)
	}
}

// P11.1: New

func TestNew(t *testing.T) {
	for me := range 64 {
		d := detect.New(me)
		if d == nil {
			t.Fatalf("New(%d) is nil", me)
		}
		wantAll(t, d, alive(me, 0))
		wantWatches(t, d)
		wantErrands(t, d)
		wantNow(t, d, 0)
		if d.Live() != 1<<me {
			t.Errorf("New(%d): Live %x", me, d.Live())
		}
	}
}

func TestNewOfNoNode(t *testing.T) {
	for _, me := range noNodes() {
		if detect.New(me) != nil {
			t.Errorf("New(%d) is a detector", me)
		}
	}
}

// TestNewIsToldOn asks that the own update of a new detector is a rumor, that is
// told 3 times the 2 bits of two nodes, as the other one is.
func TestNewIsToldOn(t *testing.T) {
	for _, me := range []int{0, 2, 63} {
		d := detect.New(me)
		for range 6 {
			l := hear(t, d, ping(5, me, 1))
			want := []api.Update{alive(me, 0), alive(me, 0), alive(5, 0)}
			slices.SortFunc(want[1:], func(a, b api.Update) int { return a.Node - b.Node })
			wantNotes(t, l, ack(me, 5, 1, me, want...))
		}
		wantNotes(t, hear(t, d, ping(5, me, 1)), ack(me, 5, 1, me, alive(me, 0)))
	}
}

func TestDetectorsAreTheirOwn(t *testing.T) {
	a, b := among(t, 3), among(t, 3)
	busy(t)
	wantKnow(t, a, dead(1, 0), lots(), api.OK)
	a.Tick(lots())
	a.Leave()
	wantTwins(t, "alone", b, among(t, 3))
}

// What is said: News

// TestNewsOfWhomItIsSaidTo asks that the one that a note is said to hears first what
// it has to refute: what is Suspect, or Dead.
func TestNewsOfWhomItIsSaidTo(t *testing.T) {
	for _, x := range []struct {
		known api.Update
		want  []api.Update
	}{
		{alive(3, 4), nil},
		{suspect(3, 4), []api.Update{suspect(3, 4)}},
		{gone(3, 4), nil},
		{dead(3, 4), []api.Update{dead(3, 4)}},
	} {
		d := knowing(t, 2, x.known)
		want := slices.Concat([]api.Update{alive(2, 0)}, x.want, []api.Update{alive(2, 0), x.known})
		wantNotes(t, hear(t, d, ping(3, 2, 9)), ack(2, 3, 9, 2, want...))
		wantNotes(t, hear(t, d, help(1, 2, 9, 3)), detect.Note{Kind: detect.Ping, From: 2, To: 3, Seq: 1, News: slices.Concat([]api.Update{alive(2, 0)}, x.want, []api.Update{alive(1, 0), alive(2, 0), x.known})})
		// what is known of another one stands among the rumors alone
		wantNotes(t, hear(t, d, ping(1, 2, 9)), ack(2, 1, 9, 2, alive(2, 0), alive(1, 0), alive(2, 0), x.known))
	}
}

func TestNewsAreEightInAll(t *testing.T) {
	var l []api.Update
	for node := 1; node < 30; node++ {
		l = append(l, alive(node, 0))
	}
	l[8] = suspect(9, 3) // of the node 9
	d := knowing(t, 0, l...)
	own := alive(0, 0)
	wantNews(t, hear(t, d, ping(8, 0, 1))[0], own, own, alive(1, 0), alive(2, 0), alive(3, 0), alive(4, 0), alive(5, 0), alive(6, 0))
	wantNews(t, hear(t, d, ping(9, 0, 1))[0], own, suspect(9, 3), alive(7, 0), alive(8, 0), suspect(9, 3), alive(10, 0), alive(11, 0), alive(12, 0))
	wantNews(t, hear(t, d, ping(10, 0, 1))[0], own, alive(13, 0), alive(14, 0), alive(15, 0), alive(16, 0), alive(17, 0), alive(18, 0), alive(19, 0))
}

// TestNewsAsOftenAsNodesAreLive asks that rumors are told the more often the more
// nodes are Live, with the node itself.
func TestNewsAsOftenAsNodesAreLive(t *testing.T) {
	for _, x := range []struct {
		l    []api.Update
		want int
	}{
		{[]api.Update{dead(1, 0)}, 3},
		{[]api.Update{gone(1, 0)}, 3},
		{[]api.Update{gone(1, 0), dead(2, 0), dead(3, 0)}, 3},
		{[]api.Update{suspect(1, 0)}, 6},
		{[]api.Update{alive(1, 0)}, 6},
		{[]api.Update{alive(1, 0), suspect(2, 0)}, 6},
		{[]api.Update{alive(1, 0), suspect(2, 0), dead(3, 0)}, 6},
		{[]api.Update{alive(1, 0), alive(2, 0), alive(3, 0)}, 9},
	} {
		d := knowing(t, 0, x.l...)
		told := 0
		for range 20 {
			if n := hear(t, d, ping(1, 0, 1))[0]; slices.Contains(n.News[1:], alive(0, 0)) {
				told++
			}
		}
		if told != x.want {
			t.Errorf("%v: told %d times, want %d", x.l, told, x.want)
		}
	}
}

// P11.2: to take in an update

func TestTakeInOfWhatMayNotBe(t *testing.T) {
	for _, u := range mayNotBe() {
		d, l := busy(t), lots(1, 2)
		wantKnow(t, d, u, l, api.ErrArg)
		wantLots(t, l, 2)
		wantTwins(t, u, d, busy(t))
	}
}

func TestTakeInOfTheLastIncarnation(t *testing.T) {
	for state := api.Alive; state <= api.Dead; state++ {
		d, l := busy(t), lots(1, 2)
		wantKnow(t, d, of(0, last, state), l, api.ErrLast)
		wantLots(t, l, 2)
		wantTwins(t, state, d, busy(t))
	}
	d := knowing(t, 0, dead(5, last)) // of another node it is one as any other
	wantAll(t, d, alive(0, 0), dead(5, last))
}

// TestTakeInOfWhatIsOld asks that what is old is passed by: the chapter names no
// error of its own for that.
func TestTakeInOfWhatIsOld(t *testing.T) {
	for _, u := range []api.Update{
		alive(0, 0), alive(1, 0), alive(2, 7), alive(2, 6), suspect(2, 6), dead(2, 6), alive(3, 4), dead(3, 3), suspect(3, 3),
		gone(4, 3), suspect(4, 3), alive(4, 3), dead(4, 2), dead(5, 1), gone(5, 1), suspect(5, 1), alive(5, 1), alive(63, 0),
	} {
		d, l := busy(t), lots(1, 2)
		wantKnow(t, d, u, l, api.OK)
		wantLots(t, l, 2)
		wantTwins(t, u, d, busy(t))
	}
}

func TestTakeInOfWhatIsRefuted(t *testing.T) {
	for _, x := range []struct {
		told api.Update
		then uint64
	}{
		{suspect(0, 0), 1}, {dead(0, 0), 1}, {gone(0, 4), 5}, {alive(0, 1), 2}, {dead(0, last-1), last},
	} {
		d := among(t, 2)
		for range 6 {
			hear(t, d, ping(1, 0, 1))
		}
		wantNews(t, hear(t, d, ping(1, 0, 1))[0], alive(0, 0)) // nothing waits any more
		l := lots(1)
		wantKnow(t, d, x.told, l, api.OK)
		wantLots(t, l, 1)
		mine := alive(0, x.then)
		wantAll(t, d, mine, alive(1, 0))
		for range 6 {
			wantNews(t, hear(t, d, ping(1, 0, 1))[0], mine, mine)
		}
		wantNews(t, hear(t, d, ping(1, 0, 1))[0], mine)
		answered(t, d, 20)
		wantAll(t, d, mine, alive(1, 0)) // it is no doubt
	}
}

// TestTakeInIsToldOn asks that all that is news is a rumor, and takes the place of
// the one ahead.
func TestTakeInIsToldOn(t *testing.T) {
	d := among(t, 2)
	for range 6 {
		hear(t, d, ping(1, 0, 1))
	}
	for _, u := range []api.Update{alive(9, 0), suspect(9, 0), gone(9, 0), dead(9, 0), alive(9, 1), dead(9, 1), suspect(9, 2)} {
		wantKnow(t, d, u, lots(), api.OK)
		wantNews(t, hear(t, d, ping(1, 0, 1))[0], alive(0, 0), u)
		wantKnow(t, d, u, lots(), api.OK) // it waits no anew
		wantNews(t, hear(t, d, ping(1, 0, 1))[0], alive(0, 0), u)
	}
}

// deadAt tells at which tick the node is Dead; 0, if it is not within 40. Pings are
// answered, but those of the node.
func deadAt(t *testing.T, d *detect.Detector, node int) uint64 {
	t.Helper()
	for range 40 {
		for _, n := range d.Tick(lots()) {
			if n.Kind == detect.Ping && n.To != node {
				hear(t, d, ack(n.To, n.From, n.Seq, n.To))
			}
		}
		for _, u := range d.All() {
			if u.Node == node && u.State == api.Dead {
				return d.Now()
			}
		}
	}
	return 0
}

func wantDeadAt(t *testing.T, d *detect.Detector, node int, want uint64) {
	t.Helper()
	if got := deadAt(t, d, node); got != want {
		t.Errorf("dead at %d, want %d", got, want)
	}
}

// TestTakeInOfSuspect asks for a doubt of base 2: 2 times the bits of how many are
// Live then.
func TestTakeInOfSuspect(t *testing.T) {
	for _, x := range []struct {
		others int // that are Alive, from 1 on
		want   uint64
	}{
		{0, 4}, {1, 4}, {2, 6}, {5, 6}, {6, 8}, {13, 8}, {14, 10}, {29, 10}, {30, 12}, {61, 12}, {62, 14},
	} {
		d := among(t, x.others+1)
		wantKnow(t, d, suspect(63, 8), lots(), api.OK)
		wantDeadAt(t, d, 63, x.want)
		wantOf(t, d, dead(63, 8))
	}
}

// TestTakeInOfSuspectLater asks that a doubt begins when it is taken in, and anew
// with a higher incarnation.
func TestTakeInOfSuspectLater(t *testing.T) {
	d := among(t, 8)
	answered(t, d, 10)
	wantKnow(t, d, suspect(3, 0), lots(), api.OK)
	answered(t, d, 7)
	wantOf(t, d, suspect(3, 0))
	wantKnow(t, d, suspect(3, 1), lots(), api.OK)
	wantDeadAt(t, d, 3, 25)
	wantOf(t, d, dead(3, 1))
}

// TestOneMoreTellsIt asks that a Suspect that is known already is told by one more:
// by another one it is over sooner, by the same one it is not.
func TestOneMoreTellsIt(t *testing.T) {
	for _, x := range []struct {
		from []int // 0 is the detector's own node
		want uint64
	}{
		{[]int{0}, 8}, {[]int{0, 0}, 8}, {[]int{1, 1, 1}, 8},
		{[]int{0, 1}, 6}, {[]int{1, 0}, 6}, {[]int{1, 2, 1, 2}, 6},
		{[]int{0, 1, 2}, 4}, {[]int{3, 0, 63}, 4}, {[]int{2, 3, 63}, 4},
		{[]int{0, 1, 2, 3}, 2}, {[]int{1, 2, 3, 63, 4, 0}, 2},
	} {
		d := knowing(t, 0, alive(1, 0), alive(2, 0), alive(3, 0), alive(4, 0), alive(5, 9), alive(6, 0), alive(63, 0))
		for _, from := range x.from {
			if from == 0 {
				wantKnow(t, d, suspect(5, 9), lots(), api.OK)
			} else {
				hear(t, d, ping(from, 0, 1, suspect(5, 9)))
			}
			wantOf(t, d, suspect(5, 9))
		}
		wantDeadAt(t, d, 5, x.want)
	}
}

// TestOneWhoTellsAnotherThing asks that only just what is known makes a doubt shorter.
func TestOneWhoTellsAnotherThing(t *testing.T) {
	for _, u := range []api.Update{suspect(5, 8), alive(5, 9), dead(5, 8), gone(5, 8), suspect(6, 0), of(5, 9, 4)} {
		d := knowing(t, 0, alive(1, 0), alive(2, 0), alive(3, 0), alive(4, 0), suspect(5, 9), alive(6, 1))
		for from := 1; from < 5; from++ {
			hear(t, d, ping(from, 0, 1, u))
		}
		wantDeadAt(t, d, 5, 6)
	}
}

// TestDoubtIsDropped asks that a doubt ends with whatever newer is told than a Suspect.
func TestDoubtIsDropped(t *testing.T) {
	for _, u := range []api.Update{alive(5, 10), gone(5, 9), dead(5, 9), gone(5, 10), dead(5, 10), alive(5, last)} {
		d := among(t, 5)
		wantKnow(t, d, suspect(5, 9), lots(), api.OK)
		answered(t, d, 5)
		wantOf(t, d, suspect(5, 9))
		wantKnow(t, d, u, lots(), api.OK)
		answered(t, d, 30)
		wantAll(t, d, alive(0, 0), alive(1, 0), alive(2, 0), alive(3, 0), alive(4, 0), u)
	}
}

// TestJoinsTheRound asks that who is Alive, and was not Live, is put into the round,
// at a place that a lot tells: there are as many places as are left, and one.
func TestJoinsTheRound(t *testing.T) {
	for _, known := range [][]api.Update{nil, {gone(9, 3)}, {dead(9, 3)}} {
		for lot, want := range [][]int{{9, 1, 2, 3}, {1, 9, 2, 3}, {1, 2, 9, 3}, {1, 2, 3, 9}} {
			d := among(t, 4)
			for _, u := range known {
				wantKnow(t, d, u, lots(), api.OK)
			}
			l := lots(uint64(lot)+4, 5)
			wantKnow(t, d, alive(9, 4), l, api.OK)
			wantLots(t, l, 1)
			var got []int
			for range 4 {
				n := d.Tick(lots())
				n = n[len(n)-1:]
				got = append(got, n[0].To)
				hear(t, d, ack(n[0].To, 0, n[0].Seq, n[0].To))
			}
			if !slices.Equal(got, want) {
				t.Errorf("%v, %d: %v, want %v", known, lot, got, want)
			}
		}
	}
}

func TestJoinsNoRound(t *testing.T) {
	for _, x := range []struct {
		known []api.Update
		told  api.Update
	}{
		{nil, suspect(9, 4)}, {nil, gone(9, 4)}, {nil, dead(9, 4)},
		{[]api.Update{dead(9, 3)}, suspect(9, 4)},
		{[]api.Update{alive(9, 3)}, alive(9, 4)},
		{[]api.Update{suspect(9, 3)}, alive(9, 4)},
	} {
		d := knowing(t, 0, slices.Concat(x.known, []api.Update{alive(1, 0), alive(2, 0), alive(3, 0)})...)
		l := lots(0, 0)
		wantKnow(t, d, x.told, l, api.OK)
		wantLots(t, l, 2)
	}
	// who is Live already is asked once
	d := knowing(t, 0, alive(9, 0))
	d.Tick(lots())
	wantKnow(t, d, alive(9, 1), lots(), api.OK)
	wantKnow(t, d, alive(8, 1), lots(), api.OK)
	if n := d.Tick(lots()); len(n) != 1 || n[0].To != 8 {
		t.Errorf("%v, want a ping to 8", n)
	}
}

// P11.3: Tick

func TestTickOfNobodyKnown(t *testing.T) {
	for _, l := range [][]api.Update{nil, {dead(1, 0)}, {gone(1, 0), dead(63, 4)}} {
		d := knowing(t, 0, l...)
		for now := range 10 {
			draws := lots(1, 2, 3)
			wantNotes(t, d.Tick(draws))
			wantLots(t, draws, 3)
			wantNow(t, d, uint64(now)+1)
			wantWatches(t, d)
		}
		wantAll(t, d, slices.Concat([]api.Update{alive(0, 0)}, l)...)
	}
}

func TestTickOfOneThatHasLeft(t *testing.T) {
	d := busy(t)
	all, watches, errands, now := d.All(), d.Watches(), d.Errands(), d.Now()
	d.Leave()
	for range 20 {
		l := lots(1, 2, 3)
		wantNotes(t, d.Tick(l))
		wantLots(t, l, 3)
	}
	wantAll(t, d, all...)
	wantWatches(t, d, watches...)
	wantErrands(t, d, errands...)
	wantNow(t, d, now)
}

func TestTickPings(t *testing.T) {
	d := among(t, 4)
	news := []api.Update{alive(0, 0), alive(0, 0), alive(1, 0), alive(2, 0), alive(3, 0)}
	var watches []detect.Watch
	for i := range 3 {
		n, seq := i%3+1, uint64(i)+1
		l := d.Tick(lots())
		wantNotes(t, l[len(l)-1:], ping(0, n, seq, news...))
		watches = append(watches, detect.Watch{Node: n, Seq: seq, At: seq})
		if i == 2 {
			watches[0].Helped = true
		}
		wantWatches(t, d, watches...)
		wantNow(t, d, seq)
	}
}

// TestTickPingsInRounds asks that each of the others is asked once, in the order that
// lots make, ahead of any of them again.
func TestTickPingsInRounds(t *testing.T) {
	c := chance()
	d := among(t, 9)
	answered(t, d, 8)
	r := &round.Round{}
	for i := range 80 {
		draws := someLots(c, 8)
		mine, theirs := lots(draws...), lots(draws...)
		want, _ := r.Next([]int{1, 2, 3, 4, 5, 6, 7, 8}, theirs)
		n := d.Tick(mine)
		if len(n) != 1 || n[0].To != want || n[0].Seq != uint64(i)+9 || mine.Left() != theirs.Left() {
			t.Fatalf("%v, want a ping to %d", n, want)
		}
		hear(t, d, ack(want, 0, n[0].Seq, want))
	}
}

// TestTickAsksHelpers asks that two others are asked for a node that did not answer
// for two ticks: once, by lots, ahead of the ping, with the watch's number.
func TestTickAsksHelpers(t *testing.T) {
	c := chance()
	for range 50 {
		d := among(t, 6)
		wantHeads(t, d.Tick(lots()), ping(0, 1, 1))
		answered(t, d, 1) // by 2, but 1 does not answer
		draws := someLots(c, 9)
		mine, theirs := lots(draws...), lots(draws...)
		helpers := round.Helpers([]int{1, 2, 3, 4, 5}, 1, 2, theirs)
		n := d.Tick(mine)
		wantHeads(t, n, help(0, helpers[0], 1, 1), help(0, helpers[1], 1, 1), ping(0, 3, 3))
		wantLots(t, mine, theirs.Left())
		wantWatches(t, d, detect.Watch{Node: 1, Seq: 1, At: 1, Helped: true}, detect.Watch{Node: 3, Seq: 3, At: 3})
		hear(t, d, ack(3, 0, 3, 3))
		n = d.Tick(lots(draws...))
		wantHeads(t, n, ping(0, 4, 4)) // once
	}
}

func TestTickAsksFewHelpers(t *testing.T) {
	// of one other alone there are none: it counts as asked all the same
	d := among(t, 2)
	d.Tick(lots())
	d.Tick(lots())
	wantWatches(t, d, detect.Watch{Node: 1, Seq: 1, At: 1}, detect.Watch{Node: 1, Seq: 2, At: 2})
	l := lots(1, 2)
	wantHeads(t, d.Tick(l), ping(0, 1, 3))
	wantLots(t, l, 2)
	wantWatches(t, d, detect.Watch{Node: 1, Seq: 1, At: 1, Helped: true}, detect.Watch{Node: 1, Seq: 2, At: 2}, detect.Watch{Node: 1, Seq: 3, At: 3})
	// who comes later is asked for the later one alone
	wantKnow(t, d, alive(2, 0), lots(), api.OK)
	wantHeads(t, d.Tick(lots()), help(0, 2, 2, 1), ping(0, 2, 4))
	// of two others there is one
	d = among(t, 3)
	d.Tick(lots())
	d.Tick(lots())
	wantHeads(t, d.Tick(lots()), help(0, 2, 1, 1), ping(0, 2, 3))
}

// TestTickAsksHelpersForWhoIsNotAlive asks that helpers are asked whatever is known of
// the node by then.
func TestTickAsksHelpersForWhoIsNotAlive(t *testing.T) {
	for _, u := range []api.Update{suspect(1, 0), gone(1, 0), dead(1, 0)} {
		d := among(t, 4)
		d.Tick(lots())
		wantKnow(t, d, u, lots(), api.OK)
		d.Tick(lots())
		wantHeads(t, d.Tick(lots()), help(0, 3, 1, 1), help(0, 2, 1, 1), ping(0, 3, 3))
	}
}

// TestTickEndsWatches asks that a watch of 4 ticks goes, and that its node is Suspect
// then, if it was Alive, of the incarnation that is known.
func TestTickEndsWatches(t *testing.T) {
	for _, x := range []struct {
		told []api.Update
		want api.Update
	}{
		{nil, suspect(1, 7)},
		{[]api.Update{alive(1, 9)}, suspect(1, 9)},
		{[]api.Update{alive(1, last)}, suspect(1, last)},
		{[]api.Update{suspect(1, 7)}, suspect(1, 7)},
		{[]api.Update{gone(1, 7)}, gone(1, 7)},
		{[]api.Update{dead(1, 7)}, dead(1, 7)},
		{[]api.Update{suspect(1, 8), alive(1, 9)}, suspect(1, 9)},
	} {
		d := knowing(t, 0, alive(1, 7))
		for node := 2; node < 20; node++ {
			wantKnow(t, d, alive(node, 0), lots(uint64(node-1)), api.OK)
		}
		d.Tick(lots())
		for _, u := range x.told {
			wantKnow(t, d, u, lots(), api.OK)
		}
		before := d.All()
		answered(t, d, 3)
		wantAll(t, d, before...)
		wantWatches(t, d, detect.Watch{Node: 1, Seq: 1, At: 1, Helped: true})
		answered(t, d, 1)
		wantWatches(t, d)
		wantOf(t, d, x.want)
	}
}

// TestTickTellsOnWhoIsSuspect asks that who did not answer is doubted, from the
// detector's own node, and that this is told on in the same tick.
func TestTickTellsOnWhoIsSuspect(t *testing.T) {
	d := among(t, 8)
	d.Tick(lots()) // to 1
	answered(t, d, 3)
	n := d.Tick(lots())
	wantHeads(t, n, ping(0, 5, 5))
	if !slices.Contains(n[0].News[1:], suspect(1, 0)) {
		t.Errorf("News: %v", n[0].News)
	}
	hear(t, d, ack(5, 0, 5, 5))
	// the own node told it already, and 2 tells it, too
	wantKnow(t, d, suspect(1, 0), lots(), api.OK)
	hear(t, d, ping(2, 0, 1, suspect(1, 0)))
	wantDeadAt(t, d, 1, 11)
}

// TestTickSuspectsAnew asks that a node that refuted is watched as any other one.
func TestTickSuspectsAnew(t *testing.T) {
	d := among(t, 2)
	for range 5 {
		d.Tick(lots())
	}
	wantOf(t, d, suspect(1, 0))
	hear(t, d, ping(1, 0, 1, alive(1, 1)))
	wantOf(t, d, alive(1, 1))
	d.Tick(lots())
	wantOf(t, d, suspect(1, 1)) // the ping of the tick 2
}

// TestTickEndsWatchesInOrder asks that each watch is seen to in the order in which
// they began: the first one ends ahead of what is said for the third one.
func TestTickEndsWatchesInOrder(t *testing.T) {
	d := among(t, 6)
	var n []detect.Note
	for range 5 {
		n = d.Tick(lots())
	}
	// 1 is Suspect, 3 (of the tick 3) asks for helpers: these are told of 1
	wantHeads(t, n, help(0, 2, 3, 3), help(0, 4, 3, 3), ping(0, 5, 5))
	for _, x := range n {
		if !slices.Contains(x.News, suspect(1, 0)) {
			t.Errorf("News: %v", x.News)
		}
	}
	wantWatches(t, d, detect.Watch{Node: 2, Seq: 2, At: 2, Helped: true}, detect.Watch{Node: 3, Seq: 3, At: 3, Helped: true}, detect.Watch{Node: 4, Seq: 4, At: 4}, detect.Watch{Node: 5, Seq: 5, At: 5})
}

func TestTickEndsErrands(t *testing.T) {
	d := among(t, 4)
	answered(t, d, 2)
	hear(t, d, help(1, 0, 7, 3))
	hear(t, d, help(2, 0, 8, 3))
	answered(t, d, 1)
	hear(t, d, help(2, 0, 9, 1))
	first, second, third := detect.Errand{Node: 3, Seq: 3, At: 2, From: 1, TheirSeq: 7}, detect.Errand{Node: 3, Seq: 4, At: 2, From: 2, TheirSeq: 8}, detect.Errand{Node: 1, Seq: 6, At: 3, From: 2, TheirSeq: 9}
	answered(t, d, 2)
	wantNow(t, d, 5)
	wantErrands(t, d, first, second, third)
	answered(t, d, 1)
	wantErrands(t, d, third)
	wantNotes(t, hear(t, d, ack(3, 0, 3, 3))) // it comes too late
	answered(t, d, 1)
	wantErrands(t, d)
	wantAll(t, d, alive(0, 0), alive(1, 0), alive(2, 0), alive(3, 0)) // nobody is doubted for that
}

// TestTickEndsDoubts asks that doubts that are over are told on as Dead, ahead of the
// ping of the same tick, and behind what is asked of helpers.
func TestTickEndsDoubts(t *testing.T) {
	d := among(t, 3)
	wantKnow(t, d, suspect(2, 0), lots(), api.OK) // over at 4
	hear(t, d, ping(1, 0, 1))
	d.Tick(lots())
	n := d.Tick(lots())
	wantHeads(t, n, ping(0, 2, 2))
	hear(t, d, ack(2, 0, 2, 2))
	hear(t, d, ack(1, 0, 1, 1))
	n = d.Tick(lots())
	wantHeads(t, n, ping(0, 2, 3))
	wantOf(t, d, suspect(2, 0))
	n = d.Tick(lots())
	wantHeads(t, n, ping(0, 1, 4))
	wantOf(t, d, dead(2, 0))
	if !slices.Contains(n[0].News, dead(2, 0)) {
		t.Errorf("News: %v", n[0].News)
	}
}

func TestTickInOrder(t *testing.T) {
	d := knowing(t, 0, alive(1, 0), suspect(2, 0)) // the doubt is over at 4 (of 3 nodes)
	d.Tick(lots())                                 // to 1
	hear(t, d, ack(1, 0, 1, 1))
	n := d.Tick(lots(0)) // a new row: 2, 1
	wantHeads(t, n, ping(0, 2, 2))
	hear(t, d, help(1, 0, 7, 1)) // at 2, of the number 3
	n = d.Tick(lots())           // to 1, at 3
	wantHeads(t, n, ping(0, 1, 4))
	wantErrands(t, d, detect.Errand{Node: 1, Seq: 3, At: 2, From: 1, TheirSeq: 7})
	// at 4: the watch of 2 (of the tick 2) asks 1; then 2 is Dead; then 1 alone is pinged
	n = d.Tick(lots())
	wantHeads(t, n, help(0, 1, 2, 2), ping(0, 1, 5))
	if slices.Contains(n[0].News, dead(2, 0)) || !slices.Contains(n[1].News, dead(2, 0)) {
		t.Errorf("News: %v, and %v", n[0].News, n[1].News)
	}
}

// TestTickAsksWhoIsDeadThen asks that one whose doubt is over is still asked to help in
// the same tick: doubts end behind the watches.
func TestTickAsksWhoIsDeadThen(t *testing.T) {
	d := among(t, 3)
	wantKnow(t, d, suspect(1, 0), lots(), api.OK) // over at 4
	answered(t, d, 1)
	wantHeads(t, d.Tick(lots()), ping(0, 2, 2)) // it does not answer
	wantHeads(t, d.Tick(lots(1)), ping(0, 1, 3))
	hear(t, d, ack(1, 0, 3, 1))
	wantHeads(t, d.Tick(lots()), help(0, 1, 2, 2), ping(0, 2, 4))
	wantAll(t, d, alive(0, 0), dead(1, 0), alive(2, 0))
}

// P11.4: Hear

func TestHearBehindLeave(t *testing.T) {
	for _, n := range []detect.Note{
		ping(1, 0, 1), ack(1, 0, 1, 1), help(1, 0, 1, 2), {}, {Kind: 9, From: 1}, ping(1, 5, 1), ping(0, 0, 1), ping(64, 0, 1), ack(1, 0, 1, -1),
		ping(1, 0, 1, dead(0, last)), ping(9, 0, 1, alive(7, 3)),
	} {
		d, l := busy(t), lots(1, 2)
		d.Leave()
		wantHear(t, d, n, l, api.ErrState)
		wantLots(t, l, 2)
		still := busy(t)
		if !slices.Equal(d.All(), still.All()) || !slices.Equal(d.Watches(), still.Watches()) || !slices.Equal(d.Errands(), still.Errands()) {
			t.Errorf("%v: %v %v %v", n, d.All(), d.Watches(), d.Errands())
		}
	}
}

func TestHearOfWhatMayNotBe(t *testing.T) {
	var l []detect.Note
	for _, kind := range []int{math.MinInt, -1, 0, 1, 2, 3, 4, math.MaxInt} {
		for _, node := range noNodes() {
			l = append(l, detect.Note{Kind: kind, From: node}, detect.Note{Kind: kind, From: 1, To: node}, detect.Note{Kind: kind, From: 1, For: node})
		}
		l = append(l, detect.Note{Kind: kind}, detect.Note{Kind: kind, From: 1, To: 2}, detect.Note{Kind: kind, From: 1, To: 1}, detect.Note{Kind: kind, From: 0, To: 1})
	}
	for i, n := range l {
		n.News = []api.Update{alive(9, 0), dead(0, last)}
		n.Seq = uint64(i % 6)
		d, draws := busy(t), lots(1, 2)
		wantHear(t, d, n, draws, api.ErrArg)
		wantLots(t, draws, 2)
		wantTwins(t, n, d, busy(t))
	}
}

func TestHearOfNoKind(t *testing.T) {
	for _, kind := range []int{math.MinInt, -1, 0, 4, 5, 14, 1 << 32, math.MaxInt} {
		for _, from := range []int{1, 9} { // known, and not
			d, draws := busy(t), lots(1, 2)
			wantHear(t, d, detect.Note{Kind: kind, From: from, To: 0, Seq: 1, For: 1, News: []api.Update{alive(9, 3), dead(0, last)}}, draws, api.ErrKind)
			wantLots(t, draws, 2)
			wantTwins(t, kind, d, busy(t))
		}
	}
}

// TestHearOfEachNode asks that notes are heard from and for all nodes, by all nodes.
func TestHearOfEachNode(t *testing.T) {
	for me := range 64 {
		for _, other := range []int{0, 1, 62, 63} {
			if me == other {
				continue
			}
			d := detect.New(me)
			wantHeads(t, hear(t, d, detect.Note{Kind: detect.Ping, From: other, To: me, Seq: last, For: other}), ack(me, other, last, me))
			wantHeads(t, hear(t, d, detect.Note{Kind: detect.Ping, From: other, To: me, Seq: 0, For: me}), ack(me, other, 0, me))
			wantHeads(t, hear(t, d, help(other, me, last, other)), ping(me, other, 1))
			wantErrands(t, d, detect.Errand{Node: other, Seq: 1, From: other, TheirSeq: last})
		}
	}
}

// TestHearFromOneThatIsNotKnown asks that it is Alive of 0 then, told on, and joined to
// the round; and that what it tells of itself is taken in behind that.
func TestHearFromOneThatIsNotKnown(t *testing.T) {
	for _, n := range []detect.Note{ping(9, 0, 1), ack(9, 0, 1, 9), help(9, 0, 1, 3)} {
		d, l := among(t, 4), lots(2, 5)
		wantHear(t, d, n, l, api.OK)
		wantLots(t, l, 1)
		wantAll(t, d, alive(0, 0), alive(1, 0), alive(2, 0), alive(3, 0), alive(9, 0))
		var to []int
		for range 4 {
			n := d.Tick(lots())
			to = append(to, n[len(n)-1].To)
			if !slices.Contains(n[0].News, alive(9, 0)) {
				t.Errorf("News: %v", n[0].News)
			}
		}
		if !slices.Equal(to, []int{1, 2, 9, 3}) {
			t.Errorf("pings to %v", to)
		}
	}
	for _, u := range []api.Update{alive(9, 3), suspect(9, 0), gone(9, 2), dead(9, 0)} {
		d, l := among(t, 4), lots(2, 5)
		wantHear(t, d, ping(9, 0, 1, u), l, api.OK)
		wantLots(t, l, 1) // it is joined as Alive, and once
		wantOf(t, d, u)
	}
}

func TestHearFromOneThatIsKnown(t *testing.T) {
	for _, u := range []api.Update{alive(9, 3), suspect(9, 3), gone(9, 3), dead(9, 3), dead(9, 0)} {
		d, l := knowing(t, 0, alive(1, 0), alive(2, 0), u), lots(2, 5)
		wantHear(t, d, ping(9, 0, 1), l, api.OK)
		wantLots(t, l, 2)
		wantAll(t, d, alive(0, 0), alive(1, 0), alive(2, 0), u)
	}
}

// TestHearTakesInNews asks that News are taken in one by one, in order, from who told
// them, and that what may not be, or is old, is passed by.
func TestHearTakesInNews(t *testing.T) {
	d, l := among(t, 4), lots(3, 0, 9, 9)
	news := []api.Update{alive(8, 0), of(64, 0, 0), alive(7, 2), of(7, 9, 4), dead(7, 1), dead(1, 4), of(-1, last, api.Dead), alive(1, 4), alive(1, 5), suspect(2, 0), gone(0, 3), gone(3, 0), suspect(3, 0)}
	got := wantHear(t, d, ping(2, 0, 6, news...), l, api.OK)
	wantAll(t, d, alive(0, 4), alive(1, 5), suspect(2, 0), gone(3, 0), alive(7, 2), alive(8, 0))
	wantLots(t, l, 2) // for 8 and 7: 1 is Alive again, but is left in the round still
	wantNotes(t, got, ack(0, 2, 6, 0, alive(0, 4), suspect(2, 0), alive(0, 4), alive(1, 5), suspect(2, 0), gone(3, 0), alive(7, 2), alive(8, 0)))
	hear(t, d, ping(2, 0, 6, suspect(2, 0))) // 2 told it already
	hear(t, d, ping(8, 0, 6, suspect(2, 0))) // 8 is one more: 8 less a third of 6, but of 5 nodes: 6 less a third of 4
	wantDeadAt(t, d, 2, 5)
}

// TestHearEndsAtALastIncarnation asks that nothing more is done then: what was taken in
// by then stays, what is behind it is not taken in, and nothing is said.
func TestHearEndsAtALastIncarnation(t *testing.T) {
	for state := api.Alive; state <= api.Dead; state++ {
		for _, x := range []struct {
			n    detect.Note
			then []api.Update // that the same note without the last incarnation tells
		}{
			{ping(1, 0, 1, of(0, last, state)), nil},
			{ping(1, 0, 1, alive(8, 1), of(64, 0, 0), of(0, last, state), alive(7, 0), dead(1, 0)), []api.Update{alive(8, 1)}},
			{help(1, 0, 1, 2, suspect(2, 7), of(0, last, state), alive(2, 8)), []api.Update{suspect(2, 7)}},
			{ack(1, 0, 4, 1, gone(0, 6), of(0, last, state), gone(0, 9)), []api.Update{gone(0, 6)}},
			{ack(2, 0, 4, 1, of(0, last, state), of(0, last, state)), nil},
			{ping(1, 0, 1, dead(0, last-1), of(0, last, api.Suspect)), []api.Update{dead(0, last-1)}},
		} {
			d, twin := busy(t), busy(t)
			wantHear(t, d, x.n, lots(), api.ErrLast)
			for _, u := range x.then {
				wantKnow(t, twin, u, lots(), api.OK)
			}
			if x.n.Kind == detect.Ack && len(d.Watches()) != 3 {
				t.Errorf("%v: %v", x.n, d.Watches())
			}
			wantTwins(t, x.n, d, twin)
		}
	}
	// who told it is known now, as it was not
	d := among(t, 2)
	wantHear(t, d, ping(9, 0, 1, dead(0, last), alive(8, 0)), lots(), api.ErrLast)
	wantAll(t, d, alive(0, 0), alive(1, 0), alive(9, 0))
}

func TestHearGoesOnBehindALastIncarnation(t *testing.T) {
	d := among(t, 2)
	wantHear(t, d, ping(1, 0, 1, dead(0, last)), lots(), api.ErrLast)
	wantHeads(t, hear(t, d, ping(1, 0, 1, dead(0, 4))), ack(0, 1, 1, 0))
	wantOf(t, d, alive(0, 5))
	hear(t, d, ping(1, 0, 1, dead(0, last-1), alive(0, last))) // it is just the own one
	wantOf(t, d, alive(0, last))
	wantHear(t, d, ping(1, 0, 1, suspect(0, last)), lots(), api.ErrLast)
	wantOf(t, d, alive(0, last))
}

func TestHearOfAPing(t *testing.T) {
	d := among(t, 3)
	d.Tick(lots())
	for _, seq := range []uint64{0, 1, 2, 77, last} {
		for whose := range 4 {
			n := ping(2, 0, seq)
			n.For = whose
			wantHeads(t, hear(t, d, n), ack(0, 2, seq, 0))
		}
	}
	wantWatches(t, d, detect.Watch{Node: 1, Seq: 1, At: 1})
	wantErrands(t, d)
	if n := d.Tick(lots()); len(n) != 1 || n[0].Seq != 2 {
		t.Errorf("%v, want the number 2", n)
	}
}

// withBoth tells a detector of the node 0 with watches of 1 and 2, by the numbers 1
// and 2, and errands of 3 and 4, by the numbers 3 and 4, for 1 and 2.
func withBoth(t *testing.T) *detect.Detector {
	t.Helper()
	d := among(t, 5)
	d.Tick(lots())
	d.Tick(lots())
	hear(t, d, help(1, 0, 70, 3))
	hear(t, d, help(2, 0, 80, 4))
	return d
}

func TestHearOfAnAck(t *testing.T) {
	watches := []detect.Watch{{Node: 1, Seq: 1, At: 1}, {Node: 2, Seq: 2, At: 2}}
	errands := []detect.Errand{{Node: 3, Seq: 3, At: 2, From: 1, TheirSeq: 70}, {Node: 4, Seq: 4, At: 2, From: 2, TheirSeq: 80}}
	for _, x := range []struct {
		name    string
		n       detect.Note
		watches []detect.Watch
		errands []detect.Errand
		said    []detect.Note
	}{
		{"of a watch", ack(1, 0, 1, 1), watches[1:], errands, nil},
		{"of a watch, by a helper", ack(3, 0, 1, 1), watches[1:], errands, nil},
		{"of a watch, by one that is not known", ack(33, 0, 1, 1), watches[1:], errands, nil},
		{"of the second watch", ack(2, 0, 2, 2), watches[:1], errands, nil},
		{"of a watch of another node", ack(1, 0, 1, 2), watches, errands, nil},
		{"of a watch of the other number", ack(1, 0, 2, 1), watches, errands, nil},
		{"of a watch, for the own node", ack(1, 0, 1, 0), watches, errands, nil},
		{"of an errand", ack(3, 0, 3, 3), watches, errands[1:], []detect.Note{ack(0, 1, 70, 3)}},
		{"of an errand, for any", ack(3, 0, 3, 9), watches, errands[1:], []detect.Note{ack(0, 1, 70, 3)}},
		{"of the second errand", ack(4, 0, 4, 4), watches, errands[:1], []detect.Note{ack(0, 2, 80, 4)}},
		{"of an errand, from another node", ack(4, 0, 3, 3), watches, errands, nil},
		{"of an errand, from the one that asked", ack(1, 0, 3, 3), watches, errands, nil},
		{"of an errand, by their number", ack(3, 0, 70, 3), watches, errands, nil},
		{"of neither", ack(1, 0, 5, 1), watches, errands, nil},
		{"of 0", ack(1, 0, 0, 1), watches, errands, nil},
		{"of the last number", ack(1, 0, last, 1), watches, errands, nil},
	} {
		d := withBoth(t)
		got := hear(t, d, x.n)
		if !slices.EqualFunc(got, x.said, sameHead) || !slices.Equal(d.Watches(), x.watches) || !slices.Equal(d.Errands(), x.errands) {
			t.Errorf("%s: %v, %v, %v", x.name, got, d.Watches(), d.Errands())
		}
		if got = hear(t, d, x.n); len(got) != 0 { // there is none any more
			t.Errorf("%s, again: %v", x.name, got)
		}
	}
}

// TestHearOfAnAckOfBoth asks that all that is told of one node by pings of two kinds is
// told by its own number: an Ack of an errand ends no watch.
func TestHearOfAnAckOfBoth(t *testing.T) {
	d := among(t, 3)
	d.Tick(lots()) // to 1
	hear(t, d, help(2, 0, 1, 1))
	wantErrands(t, d, detect.Errand{Node: 1, Seq: 2, At: 1, From: 2, TheirSeq: 1})
	wantHeads(t, hear(t, d, ack(1, 0, 2, 1)), ack(0, 2, 1, 1))
	wantErrands(t, d)
	wantWatches(t, d, detect.Watch{Node: 1, Seq: 1, At: 1})
	wantHeads(t, hear(t, d, ack(1, 0, 1, 1)))
	wantWatches(t, d)
}

// TestHearOfAnAckIsNoUpdate asks that an Ack makes nobody Alive: only news do.
func TestHearOfAnAckIsNoUpdate(t *testing.T) {
	d := among(t, 3)
	d.Tick(lots())
	wantKnow(t, d, suspect(1, 0), lots(), api.OK)
	hear(t, d, ack(1, 0, 1, 1))
	wantWatches(t, d)
	wantOf(t, d, suspect(1, 0))
	wantDeadAt(t, d, 1, 5)
}

func TestHearOfHelp(t *testing.T) {
	d := among(t, 4)
	d.Tick(lots())
	var errands []detect.Errand
	for i, x := range []struct {
		from  int
		seq   uint64
		whose int
	}{{2, 7, 3}, {2, 7, 3}, {1, 0, 2}, {3, last, 3}, {2, 1, 63}, {9, 4, 40}} {
		n := uint64(i) + 2
		wantHeads(t, hear(t, d, help(x.from, 0, x.seq, x.whose)), ping(0, x.whose, n))
		errands = append(errands, detect.Errand{Node: x.whose, Seq: n, At: 1, From: x.from, TheirSeq: x.seq})
		wantErrands(t, d, errands...)
	}
	wantWatches(t, d, detect.Watch{Node: 1, Seq: 1, At: 1})
	wantAll(t, d, alive(0, 0), alive(1, 0), alive(2, 0), alive(3, 0), alive(9, 0)) // who is pinged for another is not known by that
	n := d.Tick(lots())
	wantHeads(t, n, ping(0, n[0].To, 8))
}

func TestHearOfHelpForMe(t *testing.T) {
	d := among(t, 3)
	wantHeads(t, hear(t, d, help(2, 0, 7, 0)), ack(0, 2, 7, 0))
	wantHeads(t, hear(t, d, help(9, 0, last, 0)), ack(0, 9, last, 0))
	wantErrands(t, d)
	n := d.Tick(lots())
	wantHeads(t, n, ping(0, n[0].To, 1)) // no number was taken
}

func TestHearOfMoreHelpThanThereIsRoomFor(t *testing.T) {
	d := among(t, 4)
	var errands []detect.Errand
	for i := range 100 {
		from, whose := 1+i%2, 3+i%61
		wantHeads(t, hear(t, d, help(from, 0, uint64(i)+500, whose)), ping(0, whose, uint64(i)+1))
		errands = append(errands, detect.Errand{Node: whose, Seq: uint64(i) + 1, From: from, TheirSeq: uint64(i) + 500})
		errands = errands[max(0, len(errands)-32):]
		wantErrands(t, d, errands...)
		hear(t, d, help(from, 0, 1, 0)) // nothing goes for that
		wantErrands(t, d, errands...)
	}
	wantNotes(t, hear(t, d, ack(3+67%61, 0, 68, 0))) // the last one that went
	wantHeads(t, hear(t, d, ack(3+68%61, 0, 69, 0)), ack(0, 1, 568, 3+68%61))
	wantErrands(t, d, errands[1:]...)
}

// P11.5: Know, Leave, Live, All, Watches, Errands, Now

func TestKnow(t *testing.T) {
	d := detect.New(2)
	for _, u := range []api.Update{alive(63, 0), suspect(0, 4), gone(5, 1), dead(7, last), alive(1, 9)} {
		wantKnow(t, d, u, lots(), api.OK)
	}
	wantKnow(t, d, of(64, 0, 0), lots(), api.ErrArg)
	wantKnow(t, d, of(3, 0, 4), lots(), api.ErrArg)
	wantKnow(t, d, suspect(2, last), lots(), api.ErrLast)
	wantKnow(t, d, suspect(2, 3), lots(), api.OK)
	wantAll(t, d, suspect(0, 4), alive(1, 9), alive(2, 4), gone(5, 1), dead(7, last), alive(63, 0))
	if want := uint64(1<<63 | 7); d.Live() != want {
		t.Errorf("Live: %x, want %x", d.Live(), want)
	}
}

// TestKnowIsFromMe asks that what is known so is told by the detector's own node.
func TestKnowIsFromMe(t *testing.T) {
	d := among(t, 8)
	wantKnow(t, d, suspect(5, 0), lots(), api.OK)
	for range 5 {
		d.Tick(lots()) // the own watch of 5 tells nothing more
	}
	wantKnow(t, d, suspect(5, 0), lots(), api.OK)
	wantDeadAt(t, d, 5, 8)
}

func TestKnowBehindLeave(t *testing.T) {
	d := among(t, 2)
	d.Leave()
	wantKnow(t, d, dead(1, 0), lots(), api.OK)
	wantKnow(t, d, of(1, 9, 4), lots(), api.ErrArg)
	wantAll(t, d, alive(0, 0), dead(1, 0))
}

func TestLeave(t *testing.T) {
	for _, d := range []*detect.Detector{detect.New(0), busy(t)} {
		all, live := d.All(), d.Live()
		for i := range 4 {
			want := api.OK
			if i > 0 {
				want = api.ErrState
			}
			if e := d.Leave(); e != want {
				t.Errorf("Leave: %d, want %d", e, want)
			}
		}
		wantAll(t, d, all...)
		if d.Live() != live {
			t.Errorf("Live: %x, want %x", d.Live(), live)
		}
	}
}

// R3: what is handed in is neither changed nor kept, what is answered is new memory

func TestAnswersAreNew(t *testing.T) {
	for name, spoil := range map[string]func(d *detect.Detector){
		"All":     func(d *detect.Detector) { clear(d.All()) },
		"Watches": func(d *detect.Detector) { clear(d.Watches()) },
		"Errands": func(d *detect.Detector) { clear(d.Errands()) },
		"beyond": func(d *detect.Detector) {
			_, _ = append(d.Watches(), detect.Watch{}), append(d.Errands(), detect.Errand{})
		},
	} {
		d := busy(t)
		if len(d.All()) == 0 || len(d.Watches()) == 0 || len(d.Errands()) == 0 {
			t.Fatal("nothing is there to be spoilt")
		}
		spoil(d)
		wantTwins(t, name, d, busy(t))
	}
}

func TestNotesAreNew(t *testing.T) {
	d, twin := busy(t), busy(t)
	spoil := func(l []detect.Note) {
		for _, n := range l {
			clear(n.News[:cap(n.News)])
		}
		clear(l)
	}
	for range 5 {
		spoil(d.Tick(lots(1, 2)))
		twin.Tick(lots(1, 2))
		for _, n := range []detect.Note{ping(1, 0, 1, suspect(2, 7)), help(2, 0, 1, 1), ack(1, 0, 1, 1)} {
			spoil(hear(t, d, n))
			hear(t, twin, n)
		}
	}
	wantTwins(t, "spoilt", d, twin)
	// no two notes of one answer share their News
	d = among(t, 5)
	d.Tick(lots())
	d.Tick(lots())
	l := d.Tick(lots())
	if len(l) != 3 {
		t.Fatalf("%v, want three notes", l)
	}
	kept := slices.Clone(l[2].News)
	clear(l[0].News)
	clear(l[1].News)
	wantNews(t, l[2], kept...)
}

func TestHearNeitherChangesNorKeeps(t *testing.T) {
	row := []api.Update{alive(9, 9), dead(0, 3), of(64, 0, 0), suspect(4, 5), alive(3, 5), alive(7, 0)}
	kept := slices.Clone(row)
	d, twin := busy(t), busy(t)
	hear(t, d, help(1, 0, 9, 2, row[:4]...))
	hear(t, twin, help(1, 0, 9, 2, kept[:4]...))
	if !slices.Equal(row, kept) {
		t.Errorf("%v, want %v", row, kept)
	}
	clear(row)
	wantTwins(t, "cleared", d, twin)
}

// P11.6: what follows

// group is some detectors, and which of them are up.
type group struct {
	t  *testing.T
	c  *rand.Rand
	d  []*detect.Detector
	up uint64
}

// newGroup tells n detectors that know of one another.
func newGroup(t *testing.T, c *rand.Rand, n int) *group {
	g := &group{t: t, c: c, up: 1<<n - 1}
	for i := range n {
		d := detect.New(i)
		for k := range n {
			if e := d.Know(alive(k, 0), lots(c.Uint64())); e != api.OK {
				t.Fatal(e)
			}
		}
		g.d = append(g.d, d)
	}
	return g
}

func (g *group) isUp(node int) bool { return g.up>>node&1 == 1 }

// tick lets all that are up tick, one behind the other in any order, and all that is
// said arrive ahead of that of the next one, but what is lost.
func (g *group) tick(lost func(detect.Note) bool) {
	g.t.Helper()
	for _, i := range g.c.Perm(len(g.d)) {
		if !g.isUp(i) {
			continue
		}
		g.arrive(g.d[i].Tick(lots(someLots(g.c, 90)...)), lost)
	}
}

func (g *group) arrive(net []detect.Note, lost func(detect.Note) bool) {
	g.t.Helper()
	for len(net) > 0 {
		n := net[0]
		if len(n.News) > api.MaxNews || len(n.News) == 0 || n.News[0].Node != n.From || n.News[0].State != api.Alive {
			g.t.Fatalf("said: %v", n)
		}
		net = net[1:]
		if !g.isUp(n.To) || lost(n) {
			continue
		}
		l, e := g.d[n.To].Hear(n, lots(someLots(g.c, 90)...))
		if e != api.OK {
			g.t.Fatalf("Hear(%v): %d", n, e)
		}
		net = slices.Concat(net, l)
	}
}

func none(detect.Note) bool { return false }

// of tells what is known of node by those that are up, but by itself.
func (g *group) of(node int) []api.Update {
	var l []api.Update
	for i, d := range g.d {
		for _, u := range d.All() {
			if u.Node == node && i != node && g.isUp(i) {
				l = append(l, u)
			}
		}
	}
	return l
}

func (g *group) all(node int, fits func(api.Update) bool) bool {
	return !slices.ContainsFunc(g.of(node), func(u api.Update) bool { return !fits(u) })
}

func isFirst(u api.Update) bool { return u == alive(u.Node, 0) }

func isAlive(u api.Update) bool { return u.State == api.Alive }

func isDead(u api.Update) bool { return u.State == api.Dead }

func TestNobodyIsDoubtedWhereAllArrives(t *testing.T) {
	for n := 1; n <= 64; n += 1 + n/4 {
		g := newGroup(t, chance(), n)
		for range 60 {
			g.tick(none)
			for node := range n {
				if !g.all(node, isFirst) {
					t.Fatalf("%d of %d: %v", node, n, g.of(node))
				}
			}
		}
		for _, d := range g.d {
			wantWatches(t, d)
			wantErrands(t, d)
		}
	}
}

// TestNobodyIsDoubtedWhereAllArrivesLate asks that an answer in time is early enough:
// a ping is heard two ticks later, and its answer one tick behind that.
func TestNobodyIsDoubtedWhereAllArrivesLate(t *testing.T) {
	c := chance()
	g := newGroup(t, c, 6)
	var late [2][]detect.Note
	for range 100 {
		now := late[0]
		late[0], late[1] = late[1], nil
		for _, n := range now {
			l, e := g.d[n.To].Hear(n, lots(someLots(c, 20)...))
			if e != api.OK {
				t.Fatal(e)
			}
			late[0] = append(late[0], l...)
		}
		for _, d := range g.d {
			late[1] = append(late[1], d.Tick(lots(someLots(c, 20)...))...) // what it asks of helpers, too
		}
		for node := range 6 {
			if !g.all(node, isFirst) {
				t.Fatalf("%d: %v", node, g.of(node))
			}
		}
	}
}

// TestNobodyIsDoubtedWhoAnswersHelpers asks that a node is not doubted for a way on
// which all is lost: others ask for it.
func TestNobodyIsDoubtedWhoAnswersHelpers(t *testing.T) {
	g := newGroup(t, chance(), 6)
	between := func(n detect.Note) bool { return n.From == 1 && n.To == 2 || n.From == 2 && n.To == 1 }
	for range 200 {
		g.tick(between)
		for node := range 6 {
			if !g.all(node, isFirst) {
				t.Fatalf("%d: %v", node, g.of(node))
			}
		}
	}
}

func TestWhoIsDownIsDeadInTheEnd(t *testing.T) {
	for n := 2; n <= 12; n++ {
		for down := range n {
			g := newGroup(t, chance(), n)
			for range down {
				g.tick(none)
			}
			g.up &^= 1 << down
			for range 60 + 4*n {
				g.tick(none)
				for node := range n {
					if node != down && !g.all(node, isFirst) {
						t.Fatalf("%d of %d: %v", node, n, g.of(node))
					}
				}
			}
			if !g.all(down, isDead) {
				t.Errorf("%d of %d: %v", down, n, g.of(down))
			}
			for i, d := range g.d {
				if g.isUp(i) && d.Live() != g.up {
					t.Errorf("Live of %d: %x, want %x", i, d.Live(), g.up)
				}
			}
		}
	}
}

func TestWhoIsUpAgainIsAliveInTheEnd(t *testing.T) {
	c := chance()
	for n := 2; n <= 8; n++ {
		g := newGroup(t, c, n)
		g.up &^= 1
		for range 100 {
			g.tick(none)
		}
		if !g.all(0, isDead) {
			t.Fatalf("%v", g.of(0))
		}
		g.up |= 1
		for range 60 {
			g.tick(none)
		}
		mine := g.d[0].All()[0]
		if mine.Inc == 0 || !g.all(0, func(u api.Update) bool { return u == mine }) {
			t.Errorf("%v: %v", mine, g.of(0))
		}
		for _, d := range g.d {
			if d.Live() != g.up {
				t.Errorf("Live: %x", d.Live())
			}
		}
	}
}

// TestWrongDoubtIsRefuted asks that what is told wrongly of one that is up is refuted
// by it, and that in the end all take it for Alive, of one incarnation.
func TestWrongDoubtIsRefuted(t *testing.T) {
	c := chance()
	for range 60 {
		n := 2 + c.Intn(7)
		g := newGroup(t, c, n)
		whom, inc := c.Intn(n), uint64(c.Intn(3))
		by := (whom + 1 + c.Intn(n-1)) % n
		told := of(whom, inc, 1+c.Intn(3))
		if told.State == api.Left {
			told.State = api.Suspect // who left by itself is not asked any more
		}
		wantKnow(t, g.d[by], told, lots(), api.OK)
		for range 60 {
			g.tick(none)
			for node := range n {
				if node != whom && !g.all(node, isFirst) {
					t.Fatalf("%d: %v", node, g.of(node))
				}
			}
		}
		if want := alive(whom, inc+1); !g.all(whom, func(u api.Update) bool { return u == want }) {
			t.Errorf("%v, told by %d of %d: %v", told, by, n, g.of(whom))
		}
	}
}

// TestAllAreAliveBehindLoss asks that whatever was lost, all that are up are Alive for
// one another when nothing is lost any more.
func TestAllAreAliveBehindLoss(t *testing.T) {
	c := chance()
	doubted := 0
	for range 40 {
		n := 2 + c.Intn(7)
		g := newGroup(t, c, n)
		for range 40 {
			g.tick(func(detect.Note) bool { return c.Intn(3) > 0 })
			for i, d := range g.d {
				if u := d.All()[i]; u.Node != i || u.State != api.Alive {
					t.Fatalf("%d says %v", i, u)
				}
			}
		}
		for node := range n {
			if !g.all(node, isAlive) {
				doubted++
			}
		}
		// who takes all others for Dead asks nobody: those are told by the first ping
		for range 5 {
			for i := range n {
				for k := range n {
					if i != k {
						g.arrive([]detect.Note{ping(i, k, 0, g.d[i].All()[i])}, none)
					}
				}
			}
			for range 20 {
				g.tick(none)
			}
		}
		for node := range n {
			mine := g.d[node].All()[node]
			if !g.all(node, func(u api.Update) bool { return u == mine }) {
				t.Errorf("%d of %d, %v: %v", node, n, mine, g.of(node))
			}
		}
	}
	if doubted == 0 {
		t.Error("nobody was ever doubted")
	}
}

// R1: whatever is called, nothing panics, and limits hold

func TestAnyCalls(t *testing.T) {
	c := chance()
	node := func() int { return []int{0, 1, 2, 3, 5, 63, 64, -1}[c.Intn(8)] }
	update := func() api.Update {
		return of(node(), []uint64{0, 1, 2, 3, last - 1, last}[c.Intn(6)], c.Intn(6)-1)
	}
	for range 100 {
		d := detect.New(2)
		for range 300 {
			switch c.Intn(8) {
			case 0, 1:
				for _, n := range d.Tick(lots(someLots(c, c.Intn(9))...)) {
					if n.From != 2 || n.To == 2 || len(n.News) > api.MaxNews {
						t.Fatalf("said: %v", n)
					}
				}
			case 2:
				d.Know(update(), lots(someLots(c, c.Intn(3))...))
			default:
				var news []api.Update
				for range c.Intn(12) {
					news = append(news, update())
				}
				n := detect.Note{Kind: 1 + c.Intn(4), From: node(), To: 2, Seq: uint64(c.Intn(40)), For: node(), News: news}
				if said, e := d.Hear(n, lots(someLots(c, c.Intn(5))...)); e != api.OK && len(said) > 0 || len(said) > 1 {
					t.Fatalf("Hear(%v): %v, %d", n, said, e)
				}
			}
			if len(d.Errands()) > 32 || len(d.Watches()) > 4 || d.Live()&4 == 0 {
				t.Fatal(d.Errands(), d.Watches(), d.Live())
			}
		}
	}
}

// The examples of the chapter.

func TestExamples(t *testing.T) {
	wantNotes(t, detect.New(2).Tick(lots()))
}
