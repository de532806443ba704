package rank_test

import (
	"math"
	"math/rand"
	"slices"
	"testing"

	"conventicle/api"
	"conventicle/rank"
)

const last = uint64(math.MaxUint64)

func of(node int, inc uint64, state int) api.Update {
	return api.Update{Node: node, Inc: inc, State: state}
}

// states are all that there are, each above those ahead of it.
func states() []int { return []int{api.Alive, api.Suspect, api.Left, api.Dead} }

// noStates are numbers that are no state's.
func noStates() []int {
	return []int{math.MinInt, -256, -4, -3, -2, -1, 4, 5, 7, 256, 1 << 32, math.MaxInt}
}

// noNodes are numbers that are no node's.
func noNodes() []int { return []int{math.MinInt, -65, -64, -2, -1, 64, 65, 128, 1 << 32, math.MaxInt} }

// incs are incarnations, rising, of small ones, of great ones, and of those where
// a number of fewer bits, or with a sign, goes round.
func incs() []uint64 {
	return []uint64{0, 1, 2, 3, 4, 255, 256, 1<<31 - 1, 1 << 31, 1<<32 - 1, 1 << 32, 1<<53 + 1, 1<<63 - 1, 1 << 63, 1<<63 + 1, last - 1, last}
}

// ofNode are updates of one node, of all incarnations and states, each newer than
// those ahead of it.
func ofNode(node int) []api.Update {
	var l []api.Update
	for _, inc := range incs() {
		for _, state := range states() {
			l = append(l, of(node, inc, state))
		}
	}
	return l
}

// chance answers numbers that are the same in each run.
func chance() *rand.Rand { return rand.New(rand.NewSource(6)) }

// P6.1: May, Live

func TestMayAtEdges(t *testing.T) {
	for _, x := range []struct {
		node, state int
		want        bool
	}{
		{0, api.Alive, true}, {0, api.Suspect, true}, {0, api.Left, true}, {0, api.Dead, true},
		{63, api.Alive, true}, {63, api.Suspect, true}, {63, api.Left, true}, {63, api.Dead, true},
		{-1, api.Alive, false}, {-1, api.Dead, false}, {64, api.Alive, false}, {64, api.Dead, false},
		{0, -1, false}, {0, 4, false}, {63, -1, false}, {63, 4, false},
		{-1, -1, false}, {64, 4, false}, {-1, 4, false}, {64, -1, false},
	} {
		for _, inc := range incs() {
			if got := rank.May(of(x.node, inc, x.state)); got != x.want {
				t.Errorf("May of the node %d, of %d, in state %d: %v", x.node, inc, x.state, got)
			}
		}
	}
}

func TestMayOfEachNodeAndState(t *testing.T) {
	for node := -70; node <= 140; node++ {
		for state := -10; state <= 10; state++ {
			want := node >= 0 && node <= 63 && slices.Contains(states(), state)
			if got := rank.May(of(node, 1, state)); got != want {
				t.Errorf("May of the node %d in state %d: %v", node, state, got)
			}
		}
	}
	for _, node := range noNodes() {
		if rank.May(of(node, 1, api.Alive)) {
			t.Errorf("May of the node %d", node)
		}
	}
	for _, state := range noStates() {
		if rank.May(of(1, 1, state)) {
			t.Errorf("May in state %d", state)
		}
	}
}

func TestLive(t *testing.T) {
	for _, node := range append(noNodes(), 0, 1, 63) {
		for _, inc := range incs() {
			for i, state := range states() {
				if got := rank.Live(of(node, inc, state)); got != (i < 2) {
					t.Errorf("Live of the node %d, of %d, in state %d: %v", node, inc, state, got)
				}
			}
			for _, state := range noStates() {
				if rank.Live(of(node, inc, state)) {
					t.Errorf("Live of the node %d, of %d, in state %d", node, inc, state)
				}
			}
		}
	}
}

// P6.2: Newer

func TestNewerByState(t *testing.T) {
	for _, inc := range incs() {
		for i, a := range states() {
			for k, b := range states() {
				if got := rank.Newer(of(1, inc, a), of(1, inc, b)); got != (i > k) {
					t.Errorf("Newer of %d, %d than %d: %v", inc, a, b, got)
				}
			}
		}
	}
}

func TestNewerByIncarnation(t *testing.T) {
	for i, a := range incs() {
		for k, b := range incs() {
			if i == k {
				continue
			}
			for _, s := range states() {
				for _, z := range states() {
					if got := rank.Newer(of(1, a, s), of(1, b, z)); got != (i > k) {
						t.Errorf("Newer of %d, %d than of %d, %d: %v", a, s, b, z, got)
					}
				}
			}
		}
	}
}

func TestNewerExamples(t *testing.T) {
	for _, x := range []struct {
		a, b api.Update
		want bool
	}{
		{of(1, 3, api.Suspect), of(1, 3, api.Alive), true},
		{of(1, 3, api.Alive), of(1, 3, api.Suspect), false},
		{of(1, 4, api.Alive), of(1, 3, api.Dead), true},
		{of(1, 3, api.Dead), of(1, 4, api.Alive), false},
		{of(1, 3, api.Left), of(1, 3, api.Suspect), true},
		{of(1, 3, api.Dead), of(1, 3, api.Left), true},
		{of(1, 3, api.Left), of(1, 3, api.Dead), false},
		{of(1, 3, api.Dead), of(1, 3, api.Dead), false},
		{of(63, 0, api.Alive), of(63, 0, api.Alive), false},
		{of(0, last, api.Alive), of(0, 0, api.Dead), true},
		{of(0, 0, api.Dead), of(0, last, api.Alive), false},
	} {
		if got := rank.Newer(x.a, x.b); got != x.want {
			t.Errorf("Newer(%v, %v): %v", x.a, x.b, got)
		}
	}
}

// TestNewerOfAnything asks that what may not be is held against another update,
// too: by its incarnation, and by its State as a number.
func TestNewerOfAnything(t *testing.T) {
	for _, s := range append(states(), noStates()...) {
		for _, z := range append(states(), noStates()...) {
			if got := rank.Newer(of(-1, 5, s), of(-1, 5, z)); got != (s > z) {
				t.Errorf("Newer in state %d than in %d: %v", s, z, got)
			}
			if !rank.Newer(of(99, 6, s), of(99, 5, z)) || rank.Newer(of(99, 5, s), of(99, 6, z)) {
				t.Errorf("Newer of 6 than of 5, in the states %d and %d", s, z)
			}
		}
	}
}

// P6.3: Up

func TestUp(t *testing.T) {
	for _, x := range []struct {
		inc, want uint64
		e         api.Errno
	}{
		{0, 1, api.OK},
		{1, 2, api.OK},
		{5, 6, api.OK},
		{1<<31 - 1, 1 << 31, api.OK},
		{1<<32 - 1, 1 << 32, api.OK},
		{1 << 53, 1<<53 + 1, api.OK},
		{1<<63 - 1, 1 << 63, api.OK},
		{1 << 63, 1<<63 + 1, api.OK},
		{last - 2, last - 1, api.OK},
		{last - 1, last, api.OK},
		{last, 0, api.ErrLast},
	} {
		if got, e := rank.Up(x.inc); got != x.want || e != x.e {
			t.Errorf("Up(%d): %d, %d, want %d, %d", x.inc, got, e, x.want, x.e)
		}
	}
}

// P6.4: Refute

// wantRefute asks Refute, and holds its answer against what is wanted.
func wantRefute(t *testing.T, me int, inc uint64, u api.Update, want uint64, is bool, e api.Errno) {
	t.Helper()
	if got, ok, f := rank.Refute(me, inc, u); got != want || ok != is || f != e {
		t.Errorf("Refute(%d, %d, %v): %d, %v, %d, want %d, %v, %d", me, inc, u, got, ok, f, want, is, e)
	}
}

func TestRefuteOfAnotherNode(t *testing.T) {
	for _, u := range append(ofNode(2), ofNode(0)...) {
		wantRefute(t, 1, 4, u, 4, false, api.OK)
		wantRefute(t, 63, last, u, last, false, api.OK)
		wantRefute(t, -1, 4, u, 4, false, api.OK)
		wantRefute(t, 64, 4, u, 4, false, api.OK)
	}
}

func TestRefuteOfWhatMayNotBe(t *testing.T) {
	for _, inc := range incs() {
		for _, state := range noStates() {
			wantRefute(t, 1, 4, of(1, inc, state), 4, false, api.OK)
		}
		for _, node := range noNodes() {
			for _, state := range states() {
				wantRefute(t, node, 4, of(node, inc, state), 4, false, api.OK)
			}
		}
	}
}

func TestRefuteByIncarnation(t *testing.T) {
	for _, me := range []int{0, 1, 63} {
		for _, state := range states() {
			wantRefute(t, me, 4, of(me, 0, state), 4, false, api.OK)
			wantRefute(t, me, 4, of(me, 3, state), 4, false, api.OK)
			wantRefute(t, me, last, of(me, last-1, state), last, false, api.OK)
			wantRefute(t, me, 4, of(me, 5, state), 6, true, api.OK)
			wantRefute(t, me, 4, of(me, 1<<63, state), 1<<63+1, true, api.OK)
			wantRefute(t, me, 4, of(me, last-1, state), last, true, api.OK)
			wantRefute(t, me, 0, of(me, 1, state), 2, true, api.OK)
			wantRefute(t, me, 4, of(me, last, state), 4, false, api.ErrLast)
			wantRefute(t, me, last-1, of(me, last, state), last-1, false, api.ErrLast)
		}
	}
}

func TestRefuteOfItsOwnIncarnation(t *testing.T) {
	for _, inc := range []uint64{0, 4, 1 << 63, last - 1} {
		wantRefute(t, 1, inc, of(1, inc, api.Alive), inc, false, api.OK)
		wantRefute(t, 1, inc, of(1, inc, api.Suspect), inc+1, true, api.OK)
		wantRefute(t, 1, inc, of(1, inc, api.Left), inc+1, true, api.OK)
		wantRefute(t, 1, inc, of(1, inc, api.Dead), inc+1, true, api.OK)
	}
	wantRefute(t, 1, last, of(1, last, api.Alive), last, false, api.OK)
	wantRefute(t, 1, last, of(1, last, api.Suspect), last, false, api.ErrLast)
	wantRefute(t, 1, last, of(1, last, api.Left), last, false, api.ErrLast)
	wantRefute(t, 1, last, of(1, last, api.Dead), last, false, api.ErrLast)
}

// P6.5: Best

func TestBest(t *testing.T) {
	const dead = api.Dead
	for _, x := range []struct {
		name string
		l    []api.Update
		want api.Update
		is   bool
	}{
		{"of none", nil, api.Update{}, false},
		{"of an empty list", []api.Update{}, api.Update{}, false},
		{"none may be", []api.Update{of(64, 9, 0), of(-1, 9, dead), of(1, 9, 4), of(1, 9, -1)}, api.Update{}, false},
		{"of one", []api.Update{of(5, 9, dead)}, of(5, 9, dead), true},
		{"of what is all zeros", []api.Update{of(0, 0, 0)}, of(0, 0, 0), true},
		{"the first may not be", []api.Update{of(64, 9, 0), of(2, 1, 0), of(3, 9, 0), of(2, 2, 0)}, of(2, 2, 0), true},
		{"the first has a node, but no state", []api.Update{of(3, 9, 4), of(2, 1, 0), of(3, 5, 0), of(2, 2, 1)}, of(2, 2, 1), true},
		{"others between", []api.Update{of(1, 2, 1), of(2, 9, 0), of(1, 3, 0), of(0, 9, dead), of(1, 2, dead)}, of(1, 3, 0), true},
		{"others alone behind", []api.Update{of(1, 0, 0), of(2, 9, 0), of(0, 9, dead)}, of(1, 0, 0), true},
		{"two that are the same", []api.Update{of(1, 3, 1), of(1, 3, 1)}, of(1, 3, 1), true},
		{"the newer one ahead", []api.Update{of(1, 4, 0), of(1, 3, dead)}, of(1, 4, 0), true},
		{"the newer one behind", []api.Update{of(1, 3, dead), of(1, 4, 0)}, of(1, 4, 0), true},
		{"the newer state ahead", []api.Update{of(1, 3, dead), of(1, 3, 2), of(1, 3, 0)}, of(1, 3, dead), true},
		{"the newer state behind", []api.Update{of(1, 3, 0), of(1, 3, 1), of(1, 3, 2)}, of(1, 3, 2), true},
		{"the newest in the middle", []api.Update{of(1, 3, 0), of(1, last, 0), of(1, last-1, dead)}, of(1, last, 0), true},
		{"a newer one that may not be", []api.Update{of(1, 3, 0), of(1, 9, 7), of(1, 9, -1), of(1, 2, 1)}, of(1, 3, 0), true},
		{"the node 0", []api.Update{of(0, 0, 0), of(0, 0, 1), of(1, 1, 1)}, of(0, 0, 1), true},
		{"the node 63", []api.Update{of(63, 1, 0), of(63, 2, 0), of(62, 3, 0)}, of(63, 2, 0), true},
	} {
		if got, is := rank.Best(x.l); got != x.want || is != x.is {
			t.Errorf("%s: %v, %v, want %v, %v", x.name, got, is, x.want, x.is)
		}
	}
}

// TestBestOfAnyList asks each list for what the chapter says of the best one: it
// is there, it may be, it is of the node, and none of the node's is newer.
func TestBestOfAnyList(t *testing.T) {
	r := chance()
	for range 3000 {
		l := make([]api.Update, r.Intn(40))
		for i := range l {
			l[i] = of(r.Intn(6)-1, uint64(r.Intn(4)), r.Intn(6)-1)
		}
		kept := slices.Clone(l)
		best, is := rank.Best(l)
		if !slices.Equal(l, kept) {
			t.Fatalf("%v is now %v", kept, l)
		}
		first := slices.IndexFunc(l, rank.May)
		if is != (first >= 0) {
			t.Fatalf("Best(%v): %v", l, is)
		}
		if !is {
			if best != (api.Update{}) {
				t.Fatalf("Best(%v): %v, and false", l, best)
			}
			continue
		}
		if !slices.Contains(l, best) || !rank.May(best) || best.Node != l[first].Node {
			t.Fatalf("Best(%v): %v", l, best)
		}
		for _, u := range l {
			if rank.May(u) && u.Node == best.Node && rank.Newer(u, best) {
				t.Fatalf("Best(%v): %v, but %v is newer", l, best, u)
			}
		}
	}
}

func TestBestOfLongList(t *testing.T) {
	r := chance()
	for range 20 {
		var l []api.Update
		for i := range 500 {
			l = append(l, of(7, uint64(i/4), i%4), of(8, 9999, api.Dead))
		}
		r.Shuffle(len(l), func(i, k int) { l[i], l[k] = l[k], l[i] })
		l = append([]api.Update{of(7, 0, api.Alive)}, l...)
		if got, is := rank.Best(l); got != of(7, 124, api.Dead) || !is {
			t.Errorf("%v, %v", got, is)
		}
	}
}

// P6.6: what follows

func TestJustOneIsNewer(t *testing.T) {
	l := ofNode(9)
	for _, a := range l {
		for _, b := range l {
			one, other := rank.Newer(a, b), rank.Newer(b, a)
			if a == b && (one || other) {
				t.Errorf("%v is newer than itself", a)
			}
			if a != b && one == other {
				t.Errorf("of %v and %v: %v and %v", a, b, one, other)
			}
		}
	}
}

func TestNewerThroughOthers(t *testing.T) {
	l := ofNode(9)
	for _, a := range l {
		for _, b := range l {
			if !rank.Newer(a, b) {
				continue
			}
			for _, c := range l {
				if rank.Newer(b, c) && !rank.Newer(a, c) {
					t.Fatalf("%v, %v, %v", a, b, c)
				}
			}
		}
	}
}

func TestWhatRefutesIsNewer(t *testing.T) {
	refuted := 0
	for _, u := range ofNode(9) {
		for _, inc := range incs() {
			up, is, e := rank.Refute(9, inc, u)
			if !is {
				continue
			}
			refuted++
			if e != api.OK || up <= inc {
				t.Errorf("Refute(9, %d, %v): %d, %d", inc, u, up, e)
			}
			if says := of(9, up, api.Alive); !rank.Newer(says, u) || rank.Newer(u, says) {
				t.Errorf("%v does not refute %v", says, u)
			}
		}
	}
	if refuted == 0 {
		t.Error("nothing was refuted")
	}
}

// TestWhatDeniesIsRefuted asks that what a node leaves alone is not newer than
// what it says of itself, where there is an incarnation left to answer with.
func TestWhatDeniesIsRefuted(t *testing.T) {
	for _, u := range ofNode(9) {
		for _, inc := range incs() {
			_, is, e := rank.Refute(9, inc, u)
			if newer := rank.Newer(u, of(9, inc, api.Alive)); newer != (is || e == api.ErrLast) {
				t.Errorf("Refute(9, %d, %v): %v, %d", inc, u, is, e)
			}
		}
	}
}
