package roll_test

import (
	"math"
	"math/rand"
	"slices"
	"testing"

	"conventicle/api"
	"conventicle/rank"
	"conventicle/roll"
)

const last = uint64(math.MaxUint64)

func of(node int, inc uint64, state int) api.Update {
	return api.Update{Node: node, Inc: inc, State: state}
}

// noNodes are numbers that are no node's.
func noNodes() []int { return []int{math.MinInt, -65, -64, -2, -1, 64, 65, 128, 1 << 32, math.MaxInt} }

// mayNotBe are updates that tell nothing: of no node, of no state, of neither.
func mayNotBe() []api.Update {
	l := []api.Update{of(5, 9, -1), of(5, 9, 4), of(2, 9, -1), of(2, 9, 4), of(2, last, 4), of(64, last, 4), of(-1, 0, -1)}
	for _, node := range noNodes() {
		for state := api.Alive; state <= api.Dead; state++ {
			l = append(l, of(node, 9, state), of(node, last, state))
		}
	}
	return l
}

// chance answers numbers that are the same in each run.
func chance() *rand.Rand { return rand.New(rand.NewSource(7)) }

// heard tells a roll of the node me that has heard all of l, each of them new.
func heard(t *testing.T, me int, l ...api.Update) *roll.Roll {
	t.Helper()
	r := roll.New(me)
	for _, u := range l {
		if is, e := r.Hear(u); !is || e != api.OK {
			t.Fatalf("Hear(%v): %v, %d", u, is, e)
		}
	}
	return r
}

func wantHear(t *testing.T, r *roll.Roll, u api.Update, is bool, e api.Errno) {
	t.Helper()
	if got, err := r.Hear(u); got != is || err != e {
		t.Errorf("Hear(%v): %v, %d, want %v, %d", u, got, err, is, e)
	}
}

func wantList(t *testing.T, got []api.Update, want ...api.Update) {
	t.Helper()
	if !slices.Equal(got, want) {
		t.Errorf("%v, want %v", got, want)
	}
}

func wantGet(t *testing.T, r *roll.Roll, node int, u api.Update, is bool) {
	t.Helper()
	if got, ok := r.Get(node); got != u || ok != is {
		t.Errorf("Get(%d): %v, %v, want %v, %v", node, got, ok, u, is)
	}
}

func wantMerge(t *testing.T, r *roll.Roll, l []api.Update, want ...api.Update) {
	t.Helper()
	if got, e := r.Merge(l); !slices.Equal(got, want) || e != api.OK {
		t.Errorf("Merge(%v): %v, %d, want %v", l, got, e, want)
	}
}

// wantEnd asks that a merge ends at a last incarnation, and tells nothing else.
func wantEnd(t *testing.T, r *roll.Roll, l ...api.Update) {
	t.Helper()
	if got, e := r.Merge(l); len(got) != 0 || e != api.ErrLast {
		t.Errorf("Merge(%v): %v, %d, want %d", l, got, e, api.ErrLast)
	}
}

// P7.1: New

func TestNew(t *testing.T) {
	for me := range 64 {
		r := roll.New(me)
		if r == nil {
			t.Fatalf("New(%d) is nil", me)
		}
		mine := of(me, 0, api.Alive)
		wantList(t, r.All(), mine)
		if r.Mine() != mine || r.Live() != 1<<me || len(r.Others()) != 0 {
			t.Errorf("New(%d): %v, %x, %v", me, r.Mine(), r.Live(), r.Others())
		}
		for node := range 64 {
			if node == me {
				wantGet(t, r, node, mine, true)
			} else {
				wantGet(t, r, node, api.Update{}, false)
			}
		}
	}
}

func TestNewOfNoNode(t *testing.T) {
	for _, me := range noNodes() {
		if roll.New(me) != nil {
			t.Errorf("New(%d) is a roll", me)
		}
	}
}

func TestRollsAreTheirOwn(t *testing.T) {
	a, b := heard(t, 2, of(5, 1, api.Dead)), roll.New(2)
	wantHear(t, a, of(2, 3, api.Dead), false, api.OK)
	wantList(t, b.All(), of(2, 0, api.Alive))
	wantList(t, a.All(), of(2, 4, api.Alive), of(5, 1, api.Dead))
}

// P7.2: Hear

func TestHearOfWhatMayNotBe(t *testing.T) {
	r := heard(t, 2, of(0, 0, api.Alive), of(5, 1, api.Suspect), of(63, last, api.Dead))
	before := r.All()
	for _, u := range mayNotBe() {
		wantHear(t, r, u, false, api.ErrArg)
		wantList(t, r.All(), before...)
	}
}

func TestHearOfAnother(t *testing.T) {
	for _, x := range []struct {
		name    string
		known   api.Update
		told    api.Update
		isNewer bool
	}{
		{"the same", of(5, 3, api.Alive), of(5, 3, api.Alive), false},
		{"the same, Suspect", of(5, 3, api.Suspect), of(5, 3, api.Suspect), false},
		{"the same, Dead", of(5, 3, api.Dead), of(5, 3, api.Dead), false},
		{"a greater state", of(5, 3, api.Alive), of(5, 3, api.Suspect), true},
		{"Left above Suspect", of(5, 3, api.Suspect), of(5, 3, api.Left), true},
		{"Dead above Left", of(5, 3, api.Left), of(5, 3, api.Dead), true},
		{"Left below Dead", of(5, 3, api.Dead), of(5, 3, api.Left), false},
		{"a smaller state", of(5, 3, api.Suspect), of(5, 3, api.Alive), false},
		{"an older one, Dead", of(5, 3, api.Alive), of(5, 2, api.Dead), false},
		{"an older one, far", of(5, 3, api.Alive), of(5, 0, api.Dead), false},
		{"a newer one, Alive", of(5, 3, api.Dead), of(5, 4, api.Alive), true},
		{"a newer one, far", of(5, 3, api.Dead), of(5, 1<<63, api.Alive), true},
		{"the last one", of(5, last-1, api.Dead), of(5, last, api.Alive), true},
		{"behind the last one", of(5, last, api.Alive), of(5, last, api.Left), true},
		{"ahead of the last one", of(5, last, api.Alive), of(5, last-1, api.Dead), false},
		{"the first one", of(5, 0, api.Alive), of(5, 0, api.Alive), false},
		{"the node 0, all zeros", of(0, 0, api.Alive), of(0, 0, api.Alive), false},
		{"the node 63", of(63, 0, api.Alive), of(63, 0, api.Dead), true},
	} {
		r := heard(t, 2, of(4, 9, api.Left), x.known, of(6, 9, api.Left))
		want, e := x.known, api.ErrOld
		if x.isNewer {
			want, e = x.told, api.OK
		}
		if is, got := r.Hear(x.told); is != x.isNewer || got != e {
			t.Errorf("%s: %v, %d", x.name, is, got)
		}
		wantGet(t, r, x.known.Node, want, true)
		wantGet(t, r, 4, of(4, 9, api.Left), true)
		wantGet(t, r, 6, of(6, 9, api.Left), true)
		if r.Mine() != of(2, 0, api.Alive) || len(r.All()) != 4 {
			t.Errorf("%s: %v", x.name, r.All())
		}
	}
}

// TestHearOfAnyFirst asks that whatever may be is known where nothing was, as
// nothing is older than that.
func TestHearOfAnyFirst(t *testing.T) {
	for node := range 64 {
		for _, inc := range []uint64{0, 1, 1 << 63, last} {
			for state := api.Alive; state <= api.Dead; state++ {
				u := of(node, inc, state)
				r := heard(t, (node+1)%64, u)
				wantGet(t, r, node, u, true)
				wantHear(t, r, u, false, api.ErrOld)
			}
		}
	}
}

func TestHearOfMe(t *testing.T) {
	for _, me := range []int{0, 2, 63} {
		r := heard(t, me, of(5, 1, api.Suspect))
		for _, x := range []struct {
			inc   uint64
			state int
			e     api.Errno
			then  uint64
		}{
			{0, api.Alive, api.ErrOld, 0},
			{0, api.Suspect, api.OK, 1},
			{0, api.Suspect, api.ErrOld, 1},
			{1, api.Alive, api.ErrOld, 1},
			{0, api.Dead, api.ErrOld, 1},
			{1, api.Left, api.OK, 2},
			{2, api.Dead, api.OK, 3},
			{4, api.Alive, api.OK, 5},
			{9, api.Dead, api.OK, 10},
			{8, api.Dead, api.ErrOld, 10},
			{9, api.Dead, api.ErrOld, 10},
			{1 << 63, api.Suspect, api.OK, 1<<63 + 1},
			{last, api.Alive, api.ErrLast, 1<<63 + 1},
			{last, api.Dead, api.ErrLast, 1<<63 + 1},
			{last - 1, api.Alive, api.OK, last},
			{last - 1, api.Dead, api.ErrOld, last},
			{last, api.Alive, api.ErrOld, last},
			{last, api.Suspect, api.ErrLast, last},
			{last, api.Left, api.ErrLast, last},
			{last, api.Dead, api.ErrLast, last},
		} {
			wantHear(t, r, of(me, x.inc, x.state), false, x.e)
			mine := of(me, x.then, api.Alive)
			if r.Mine() != mine || len(r.All()) != 2 {
				t.Errorf("behind %d of %d: %v", x.state, x.inc, r.All())
			}
			wantGet(t, r, me, mine, true)
			wantGet(t, r, 5, of(5, 1, api.Suspect), true)
		}
	}
}

func TestHearOfMyLastIncarnation(t *testing.T) {
	for state := api.Alive; state <= api.Dead; state++ {
		r := roll.New(2)
		wantHear(t, r, of(2, last, state), false, api.ErrLast)
		wantList(t, r.All(), of(2, 0, api.Alive))
		wantHear(t, r, of(2, 0, api.Suspect), false, api.OK)
		wantList(t, r.All(), of(2, 1, api.Alive))
	}
}

// P7.3: Get, All, Live, Others, Mine

// inEachState tells a roll of the node 2 that knows of others in each State, heard
// of out of order.
func inEachState(t *testing.T) *roll.Roll {
	t.Helper()
	return heard(t, 2, of(63, 7, api.Suspect), of(9, 4, api.Dead), of(0, 0, api.Alive), of(8, 3, api.Left), of(1, 1, api.Suspect), of(62, last, api.Alive))
}

func TestAskedOfEachState(t *testing.T) {
	r := inEachState(t)
	wantList(t, r.All(), of(0, 0, api.Alive), of(1, 1, api.Suspect), of(2, 0, api.Alive), of(8, 3, api.Left), of(9, 4, api.Dead), of(62, last, api.Alive), of(63, 7, api.Suspect))
	if want := uint64(7 | 1<<62 | 1<<63); r.Live() != want {
		t.Errorf("Live: %x, want %x", r.Live(), want)
	}
	if want := []int{0, 1, 62, 63}; !slices.Equal(r.Others(), want) {
		t.Errorf("Others: %v, want %v", r.Others(), want)
	}
	if r.Mine() != of(2, 0, api.Alive) {
		t.Errorf("Mine: %v", r.Mine())
	}
}

func TestAskedAsStatesChange(t *testing.T) {
	r := inEachState(t)
	wantHear(t, r, of(0, 0, api.Dead), true, api.OK)
	wantHear(t, r, of(63, 7, api.Left), true, api.OK)
	wantHear(t, r, of(9, 5, api.Alive), true, api.OK)
	wantHear(t, r, of(8, 3, api.Dead), true, api.OK)
	wantHear(t, r, of(2, 0, api.Dead), false, api.OK)
	if want := uint64(6 | 1<<9 | 1<<62); r.Live() != want || !slices.Equal(r.Others(), []int{1, 9, 62}) {
		t.Errorf("Live: %x, want %x; Others: %v", r.Live(), want, r.Others())
	}
	if r.Mine() != of(2, 1, api.Alive) {
		t.Errorf("Mine: %v", r.Mine())
	}
}

func TestGet(t *testing.T) {
	r := inEachState(t)
	for _, u := range r.All() {
		wantGet(t, r, u.Node, u, true)
	}
	for _, node := range []int{3, 4, 7, 10, 61} {
		wantGet(t, r, node, api.Update{}, false)
	}
	for _, node := range noNodes() {
		wantGet(t, r, node, api.Update{}, false)
	}
}

func TestAskedOfAllNodes(t *testing.T) {
	for _, me := range []int{0, 31, 63} {
		r := roll.New(me)
		var want []api.Update
		var others []int
		for node := 63; node >= 0; node-- {
			if node != me {
				wantHear(t, r, of(node, uint64(node), api.Alive), true, api.OK)
			}
		}
		for node := range 64 {
			if node == me {
				want = append(want, of(me, 0, api.Alive))
			} else {
				want = append(want, of(node, uint64(node), api.Alive))
				others = append(others, node)
			}
		}
		wantList(t, r.All(), want...)
		if r.Live() != math.MaxUint64 || !slices.Equal(r.Others(), others) {
			t.Errorf("Live: %x, Others: %v", r.Live(), r.Others())
		}
	}
}

func TestAnswersAreNew(t *testing.T) {
	r := inEachState(t)
	all, others := r.All(), r.Others()
	clear(all)
	clear(others)
	if len(r.All()) != 7 || r.All()[6] != of(63, 7, api.Suspect) || !slices.Equal(r.Others(), []int{0, 1, 62, 63}) {
		t.Errorf("an answer that is changed changes the roll: %v, %v", r.All(), r.Others())
	}
	news, _ := r.Merge([]api.Update{of(20, 1, api.Alive), of(21, 1, api.Alive)})
	clear(news)
	wantGet(t, r, 20, of(20, 1, api.Alive), true)
	wantGet(t, r, 21, of(21, 1, api.Alive), true)
}

// P7.4: Merge

func TestMergeOfNothing(t *testing.T) {
	for _, r := range []*roll.Roll{roll.New(0), roll.New(2), inEachState(t)} {
		before := r.All()
		wantMerge(t, r, nil)
		wantMerge(t, r, []api.Update{})
		wantList(t, r.All(), before...)
		wantMerge(t, r, before)
		wantList(t, r.All(), before...)
	}
}

func TestMerge(t *testing.T) {
	for _, x := range []struct {
		name string
		l    []api.Update
		want []api.Update
	}{
		{"one that is new", []api.Update{of(5, 0, api.Alive)}, []api.Update{of(5, 0, api.Alive)}},
		{"new ones, out of order", []api.Update{of(40, 1, api.Dead), of(3, 0, api.Alive), of(20, 0, api.Left)}, []api.Update{of(3, 0, api.Alive), of(20, 0, api.Left), of(40, 1, api.Dead)}},
		{"old ones alone", []api.Update{of(9, 4, api.Dead), of(9, 3, api.Dead), of(63, 7, api.Alive), of(2, 0, api.Alive)}, nil},
		{"old ones between", []api.Update{of(9, 4, api.Left), of(10, 1, api.Alive), of(1, 0, api.Dead), of(0, 1, api.Alive), of(8, 3, api.Left)}, []api.Update{of(0, 1, api.Alive), of(10, 1, api.Alive)}},
		{"what may not be alone", mayNotBe(), nil},
		{"what may not be between", []api.Update{of(64, 1, api.Alive), of(10, 1, api.Alive), of(9, 9, 4), of(-1, last, api.Dead), of(0, 1, api.Alive), of(2, last, 4)}, []api.Update{of(0, 1, api.Alive), of(10, 1, api.Alive)}},
		{"one node twice, rising", []api.Update{of(10, 1, api.Alive), of(10, 1, api.Suspect), of(10, 2, api.Alive)}, []api.Update{of(10, 2, api.Alive)}},
		{"one node twice, falling", []api.Update{of(10, 2, api.Alive), of(10, 1, api.Suspect), of(10, 1, api.Alive)}, []api.Update{of(10, 2, api.Alive)}},
		{"one node twice, the same", []api.Update{of(10, 2, api.Alive), of(10, 2, api.Alive)}, []api.Update{of(10, 2, api.Alive)}},
		{"one that was known, twice", []api.Update{of(9, 5, api.Alive), of(9, 5, api.Dead)}, []api.Update{of(9, 5, api.Dead)}},
		{"a state alone", []api.Update{of(1, 1, api.Dead), of(0, 0, api.Suspect)}, []api.Update{of(0, 0, api.Suspect), of(1, 1, api.Dead)}},
		{"an incarnation alone", []api.Update{of(8, 4, api.Left)}, []api.Update{of(8, 4, api.Left)}},
		{"me, refuted", []api.Update{of(3, 1, api.Alive), of(2, 6, api.Dead), of(1, 2, api.Alive)}, []api.Update{of(1, 2, api.Alive), of(2, 7, api.Alive), of(3, 1, api.Alive)}},
		{"me, refuted alone", []api.Update{of(2, 0, api.Suspect)}, []api.Update{of(2, 1, api.Alive)}},
		{"me, refuted more than once", []api.Update{of(2, 0, api.Suspect), of(2, 1, api.Left), of(2, 0, api.Dead), of(2, 2, api.Alive)}, []api.Update{of(2, 2, api.Alive)}},
		{"me, up to the last one", []api.Update{of(2, last-1, api.Dead), of(2, last, api.Alive), of(3, 0, api.Alive)}, []api.Update{of(2, last, api.Alive), of(3, 0, api.Alive)}},
		{"another one's last one", []api.Update{of(3, last, api.Dead), of(62, last, api.Dead), of(4, 0, api.Alive)}, []api.Update{of(3, last, api.Dead), of(4, 0, api.Alive), of(62, last, api.Dead)}},
	} {
		r := inEachState(t)
		got, e := r.Merge(x.l)
		if !slices.Equal(got, x.want) || e != api.OK {
			t.Errorf("%s: %v, %d, want %v", x.name, got, e, x.want)
		}
		for _, u := range x.want {
			wantGet(t, r, u.Node, u, true)
		}
	}
}

// TestMergeOfAllZeros asks that what is all zeros is told where nothing was known
// of the node 0, and that nothing else is.
func TestMergeOfAllZeros(t *testing.T) {
	r := roll.New(1)
	wantMerge(t, r, []api.Update{of(0, 0, api.Alive)}, of(0, 0, api.Alive))
	wantMerge(t, r, []api.Update{of(0, 0, api.Alive)})
	wantMerge(t, r, []api.Update{of(0, 0, api.Suspect)}, of(0, 0, api.Suspect))
}

func TestMergeEndsAtMyLastIncarnation(t *testing.T) {
	for state := api.Alive; state <= api.Dead; state++ {
		r := inEachState(t)
		wantEnd(t, r, of(11, 0, api.Alive), of(2, 3, api.Dead), of(9, 4, api.Left), of(0, 1, api.Left), of(2, last, state), of(12, 0, api.Alive), of(1, 9, api.Alive))
		wantGet(t, r, 11, of(11, 0, api.Alive), true)
		wantGet(t, r, 0, of(0, 1, api.Left), true)
		wantGet(t, r, 2, of(2, 4, api.Alive), true)
		wantGet(t, r, 12, api.Update{}, false)
		wantGet(t, r, 1, of(1, 1, api.Suspect), true)
		if len(r.All()) != 8 {
			t.Errorf("All: %v", r.All())
		}
	}
}

func TestMergeEndsAtEnds(t *testing.T) {
	r := roll.New(2)
	wantEnd(t, r, of(2, last, api.Suspect))
	wantEnd(t, r, of(2, last, api.Suspect), of(3, 0, api.Alive))
	wantList(t, r.All(), of(2, 0, api.Alive))
	wantEnd(t, r, of(3, 0, api.Alive), of(2, last, api.Suspect))
	wantList(t, r.All(), of(2, 0, api.Alive), of(3, 0, api.Alive))
}

// TestMergeGoesOnBehindAnEnd asks that what was heard by an end is old in the next
// merge, and that all else is heard as ever.
func TestMergeGoesOnBehindAnEnd(t *testing.T) {
	r := roll.New(2)
	wantEnd(t, r, of(3, 0, api.Alive), of(2, last, api.Dead), of(4, 0, api.Alive))
	wantMerge(t, r, []api.Update{of(3, 0, api.Alive), of(2, 0, api.Dead), of(4, 0, api.Alive)}, of(2, 1, api.Alive), of(4, 0, api.Alive))
}

func TestMergeNeitherChangesNorKeeps(t *testing.T) {
	row := []api.Update{of(9, 9, api.Alive), of(2, 3, api.Dead), of(64, 0, api.Alive), of(4, 0, api.Suspect), of(3, 0, api.Alive), of(7, 0, api.Alive)}
	kept := slices.Clone(row)
	r := roll.New(2)
	news := []api.Update{of(2, 4, api.Alive), of(4, 0, api.Suspect), of(9, 9, api.Alive)}
	wantMerge(t, r, row[:4], news...)
	wantEnd(t, r, append(row[:4:4], of(2, last, api.Dead))...)
	wantList(t, row, kept...)
	clear(row)
	wantList(t, r.All(), news...)
}

// TestMergeIsHearOfEach holds lists of chance against Hear of each of them, up to
// the first that can't be refuted.
func TestMergeIsHearOfEach(t *testing.T) {
	c := chance()
	ends := 0
	for range 2000 {
		r, same := roll.New(3), roll.New(3)
		for range 4 {
			l := some(c, c.Intn(30))
			if c.Intn(4) == 0 {
				l = append(l, of(3, last, c.Intn(4)), of(c.Intn(6), 9, api.Dead))
			}
			before := same.All()
			want := api.OK
			for _, u := range l {
				if _, want = same.Hear(u); want == api.ErrLast {
					break
				}
				want = api.OK
			}
			var news []api.Update
			for _, u := range same.All() {
				if want == api.OK && !slices.Contains(before, u) {
					news = append(news, u)
				}
			}
			got, e := r.Merge(l)
			if !slices.Equal(got, news) || e != want || !slices.Equal(r.All(), same.All()) {
				t.Fatalf("Merge(%v): %v, %d, want %v, %d", l, got, e, news, want)
			}
			if e == api.ErrLast {
				ends++
			}
		}
	}
	if ends == 0 {
		t.Error("no merge ended at a last incarnation")
	}
}

func TestMergeOfLongList(t *testing.T) {
	c := chance()
	for range 20 {
		var l []api.Update
		for i := range 640 {
			l = append(l, of(i%64, uint64(i/64), api.Suspect))
		}
		c.Shuffle(len(l), func(i, k int) { l[i], l[k] = l[k], l[i] })
		r := roll.New(7)
		got, e := r.Merge(l)
		if len(got) != 64 || e != api.OK {
			t.Fatalf("%d, %d", len(got), e)
		}
		for node, u := range got {
			want := of(node, 9, api.Suspect)
			if node == 7 {
				want = of(7, 10, api.Alive)
			}
			if u != want {
				t.Errorf("%v, want %v", u, want)
			}
		}
		wantList(t, r.All(), got...)
	}
}

// P7.5: what follows

// some tells updates of few nodes and of few incarnations, so that many are told
// of one thing; some of them may not be.
func some(c *rand.Rand, many int) []api.Update {
	l := make([]api.Update, many)
	for i := range l {
		l[i] = of(c.Intn(8)-1, uint64(c.Intn(4)), c.Intn(6)-1)
	}
	return l
}

// newest tells of each node but me the best of l, by rising nodes.
func newest(me int, l []api.Update) []api.Update {
	var out []api.Update
	for node := range 64 {
		u, is := rank.Best(slices.DeleteFunc(slices.Clone(l), func(u api.Update) bool { return u.Node != node }))
		if is && node != me {
			out = append(out, u)
		}
	}
	return out
}

// but tells all that r knows of other nodes than me.
func but(me int, r *roll.Roll) []api.Update {
	return slices.DeleteFunc(r.All(), func(u api.Update) bool { return u.Node == me })
}

func TestNewestIsKnownInAnyOrder(t *testing.T) {
	c := chance()
	for range 500 {
		l := some(c, c.Intn(60))
		want := newest(3, l)
		for range 4 {
			r, merged := roll.New(3), roll.New(3)
			for _, u := range l {
				for range 1 + c.Intn(3) {
					r.Hear(u)
				}
			}
			for range 1 + c.Intn(3) {
				merged.Merge(l)
			}
			wantList(t, but(3, r), want...)
			wantList(t, but(3, merged), want...)
			c.Shuffle(len(l), func(i, k int) { l[i], l[k] = l[k], l[i] })
		}
	}
}

// TestAnyOrderOfFew goes through all orders of what may be told of one node.
func TestAnyOrderOfFew(t *testing.T) {
	l := []api.Update{of(5, 0, api.Alive), of(5, 0, api.Dead), of(5, 1, api.Alive), of(5, 1, api.Suspect), of(5, 1, api.Left), of(5, 1, 4)}
	var orders func(ahead, left []api.Update)
	orders = func(ahead, left []api.Update) {
		for i := range left {
			orders(append(slices.Clone(ahead), left[i]), slices.Delete(slices.Clone(left), i, i+1))
		}
		if len(left) > 0 {
			return
		}
		r := roll.New(3)
		wantMerge(t, r, ahead, of(5, 1, api.Left))
	}
	orders(nil, l)
}

func TestNeverDownOfItself(t *testing.T) {
	c := chance()
	for range 200 {
		me := c.Intn(64)
		r := roll.New(me)
		var inc uint64
		for range 100 {
			told := of(me, inc+uint64(c.Intn(5))-2, c.Intn(6)-1) // some go round to great ones
			if c.Intn(3) == 0 {
				r.Merge([]api.Update{of(c.Intn(64), 1, c.Intn(4)), told})
			} else {
				r.Hear(told)
			}
			mine := r.Mine()
			if mine.Node != me || mine.State != api.Alive || mine.Inc < inc {
				t.Fatalf("behind %v: %v", told, mine)
			}
			if r.Live()&(1<<me) == 0 || slices.Contains(r.Others(), me) {
				t.Fatalf("Live: %x, Others: %v", r.Live(), r.Others())
			}
			wantGet(t, r, me, mine, true)
			inc = mine.Inc
		}
	}
}

// The examples of the chapter.

func TestExamples(t *testing.T) {
	wantList(t, roll.New(2).All(), of(2, 0, api.Alive))
}
