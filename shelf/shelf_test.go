package shelf_test

import (
	"math"
	"math/rand"
	"slices"
	"strings"
	"testing"

	"conventicle/api"
	"conventicle/shelf"
)

const last = uint64(math.MaxUint64)

// say tells a message that no other number has.
func say(n uint64) api.Msg {
	return api.Msg{Sender: int(n % 64), Num: n*7 + 1, Text: strings.Repeat("x", int(n%65))}
}

// long tells a message whose Text has that many bytes.
func long(bytes int) api.Msg {
	return api.Msg{Sender: 2, Num: 3, Text: strings.Repeat("é", bytes)[:bytes]}
}

// of tells the spans of these ends: From, To, From, To and so on.
func of(ends ...uint64) []api.Span {
	l := []api.Span{}
	for i := 0; i+1 < len(ends); i += 2 {
		l = append(l, api.Span{From: ends[i], To: ends[i+1]})
	}
	return l
}

// run tells the numbers from from to to.
func run(from, to uint64) []uint64 {
	l := []uint64{}
	for n := from; n <= to; n++ {
		l = append(l, n)
	}
	return l
}

// made tells a shelf into which the numbers of l were put, in their order, trimmed
// up to low.
func made(t *testing.T, low uint64, l ...uint64) *shelf.Shelf {
	t.Helper()
	s := &shelf.Shelf{}
	for n := uint64(1); n <= low; n++ {
		wantPut(t, s, n, say(n), api.OK)
		wantTrim(t, s, n, api.OK)
	}
	for _, n := range l {
		wantPut(t, s, n, say(n), api.OK)
	}
	return s
}

func wantPut(t *testing.T, s *shelf.Shelf, n uint64, m api.Msg, e api.Errno) {
	t.Helper()
	if got := s.Put(n, m); got != e {
		t.Errorf("Put(%d, %v): %d, want %d", n, m, got, e)
	}
}

func wantTrim(t *testing.T, s *shelf.Shelf, to uint64, e api.Errno) {
	t.Helper()
	if got := s.Trim(to); got != e {
		t.Errorf("Trim(%d): %d, want %d", to, got, e)
	}
}

func wantGet(t *testing.T, s *shelf.Shelf, n uint64, m api.Msg, e api.Errno) {
	t.Helper()
	if got, err := s.Get(n); got != m || err != e {
		t.Errorf("Get(%d): %v, %d, want %v, %d", n, got, err, m, e)
	}
}

func wantHave(t *testing.T, s *shelf.Shelf, ends ...uint64) {
	t.Helper()
	if l := s.Have(); !slices.Equal(l, of(ends...)) {
		t.Errorf("Have: %v, want %v", l, ends)
	}
}

func wantReach(t *testing.T, s *shelf.Shelf, low, reach uint64) {
	t.Helper()
	if s.Low() != low || s.Reach() != reach {
		t.Errorf("Low %d, Reach %d, want %d, %d", s.Low(), s.Reach(), low, reach)
	}
}

// P13.1: Put

func TestPutOfNumbers(t *testing.T) {
	for _, low := range []uint64{0, 1, 2, 63, 64, 65, 200} {
		for _, x := range []struct {
			n uint64
			e api.Errno
		}{
			{0, api.ErrArg},
			{last, api.ErrArg},
			{last - 1, api.ErrFull},
			{1 << 63, api.ErrFull},
			{1<<63 - 1, api.ErrFull},
			{1 << 32, api.ErrFull},
			{low + 1, api.OK},
			{low + 2, api.OK},
			{low + 63, api.OK},
			{low + 64, api.OK},
			{low + 65, api.ErrFull},
			{low + 66, api.ErrFull},
			{low + 128, api.ErrFull},
			{low + 129, api.ErrFull},
		} {
			s := made(t, low)
			wantPut(t, s, x.n, say(5), x.e)
			if x.e == api.OK {
				wantGet(t, s, x.n, say(5), api.OK)
			}
		}
	}
}

func TestPutOfLowAndBelow(t *testing.T) {
	for _, low := range []uint64{1, 2, 63, 64, 65, 200} {
		s := made(t, low, low+1)
		for _, n := range run(1, low) {
			wantPut(t, s, n, say(n), api.ErrOld)
		}
		wantPut(t, s, 0, say(1), api.ErrArg)
		wantPut(t, s, low+1, say(1), api.ErrTwice)
		wantPut(t, s, low+2, say(1), api.OK)
	}
}

func TestPutOfTexts(t *testing.T) {
	for _, x := range []struct {
		bytes int
		e     api.Errno
	}{{0, api.OK}, {1, api.OK}, {63, api.OK}, {64, api.OK}, {65, api.ErrArg}, {66, api.ErrArg}, {1000, api.ErrArg}} {
		s := &shelf.Shelf{}
		wantPut(t, s, 1, long(x.bytes), x.e)
		if x.e == api.OK {
			wantGet(t, s, 1, long(x.bytes), api.OK)
		} else {
			wantGet(t, s, 1, api.Msg{}, api.ErrNone)
		}
	}
}

// A text that is too long is told ahead of all that is wrong with a number.
func TestPutOfALongTextAndANumber(t *testing.T) {
	for _, n := range []uint64{0, 1, 2, 3, 4, 66, 67, 1000, last - 1, last} {
		s := made(t, 2, 3)
		wantPut(t, s, n, long(65), api.ErrArg)
		wantHave(t, s, 1, 3)
	}
}

// What a message says of its sender, and of its number, may be anything: its text
// alone has a bound.
func TestPutOfAnyMessage(t *testing.T) {
	s := &shelf.Shelf{}
	l := []api.Msg{{}, {Sender: -1}, {Sender: 64}, {Sender: math.MinInt}, {Sender: math.MaxInt, Num: last}, {Text: "\x00\xff\n"}, {Num: 2, Text: "2"}, {Num: 2, Text: "2"}}
	for i, m := range l {
		wantPut(t, s, uint64(i+1), m, api.OK)
	}
	for i, m := range l {
		wantGet(t, s, uint64(i+1), m, api.OK)
	}
}

func TestPutTwice(t *testing.T) {
	s := made(t, 0, 1, 2, 4, 64)
	for _, n := range []uint64{1, 2, 4, 64} {
		wantPut(t, s, n, say(n), api.ErrTwice)
		wantPut(t, s, n, say(n+1), api.ErrTwice)
		wantPut(t, s, n, api.Msg{}, api.ErrTwice)
		wantGet(t, s, n, say(n), api.OK)
	}
}

// A message that has nothing in it is there too.
func TestPutOfNothing(t *testing.T) {
	s := &shelf.Shelf{}
	wantPut(t, s, 3, api.Msg{}, api.OK)
	wantPut(t, s, 3, say(3), api.ErrTwice)
	wantGet(t, s, 3, api.Msg{}, api.OK)
	wantGet(t, s, 2, api.Msg{}, api.ErrNone)
	wantHave(t, s, 3, 3)
}

func TestPutInAnyOrder(t *testing.T) {
	up := run(1, 64)
	down := slices.Clone(up)
	slices.Reverse(down)
	mixed := slices.Clone(up)
	chance().Shuffle(len(mixed), func(i, k int) { mixed[i], mixed[k] = mixed[k], mixed[i] })
	for _, low := range []uint64{0, 1, 37, 64, 100} {
		for _, l := range [][]uint64{up, down, mixed} {
			s := made(t, low)
			for _, n := range l {
				wantPut(t, s, low+n, say(low+n), api.OK)
			}
			for _, n := range l {
				wantGet(t, s, low+n, say(low+n), api.OK)
				wantPut(t, s, low+n, say(n), api.ErrTwice)
			}
			wantPut(t, s, low+65, say(1), api.ErrFull)
			wantHave(t, s, 1, low+64)
			wantReach(t, s, low, low+64)
		}
	}
}

// Behind a Trim places are used again, by greater numbers.
func TestPutBehindTrim(t *testing.T) {
	s := made(t, 0, run(1, 64)...)
	wantTrim(t, s, 10, api.OK)
	wantPut(t, s, 10, say(10), api.ErrOld)
	wantPut(t, s, 75, say(75), api.ErrFull)
	for _, n := range []uint64{74, 65, 70} {
		wantGet(t, s, n, api.Msg{}, api.ErrNone)
		wantPut(t, s, n, say(n), api.OK)
		wantPut(t, s, n, say(n), api.ErrTwice)
		wantGet(t, s, n, say(n), api.OK)
	}
	for n := uint64(1); n <= 10; n++ {
		wantGet(t, s, n, api.Msg{}, api.ErrOld)
	}
	for n := uint64(11); n <= 65; n++ {
		wantGet(t, s, n, say(n), api.OK)
	}
	wantHave(t, s, 1, 65, 70, 70, 74, 74)
	wantReach(t, s, 10, 65)
}

// P13.1: Get

func TestGet(t *testing.T) {
	s := made(t, 3, 4, 5, 7, 67)
	for _, x := range []struct {
		n uint64
		e api.Errno
	}{
		{0, api.ErrNone},
		{1, api.ErrOld}, {2, api.ErrOld}, {3, api.ErrOld},
		{4, api.OK}, {5, api.OK},
		{6, api.ErrNone},
		{7, api.OK},
		{8, api.ErrNone}, {66, api.ErrNone},
		{67, api.OK},
		{68, api.ErrNone}, {69, api.ErrNone}, {71, api.ErrNone}, {131, api.ErrNone},
		{4 + 1<<32, api.ErrNone}, {1 << 63, api.ErrNone}, {7 + 1<<63, api.ErrNone},
		{last - 60, api.ErrNone}, {last - 1, api.ErrNone}, {last, api.ErrNone},
	} {
		if x.e == api.OK {
			wantGet(t, s, x.n, say(x.n), api.OK)
		} else {
			wantGet(t, s, x.n, api.Msg{}, x.e)
		}
	}
}

func TestGetOfAnEmptyShelf(t *testing.T) {
	s := &shelf.Shelf{}
	for _, n := range []uint64{0, 1, 2, 63, 64, 65, 1 << 63, last - 1, last} {
		wantGet(t, s, n, api.Msg{}, api.ErrNone)
	}
}

// Get takes nothing away.
func TestGetAgain(t *testing.T) {
	s := made(t, 0, 1, 2)
	for range 3 {
		wantGet(t, s, 2, say(2), api.OK)
		wantGet(t, s, 1, say(1), api.OK)
		wantGet(t, s, 0, api.Msg{}, api.ErrNone)
		wantGet(t, s, 3, api.Msg{}, api.ErrNone)
	}
	wantHave(t, s, 1, 2)
}

// P13.2: Have, Reach, Low

func TestHave(t *testing.T) {
	for _, x := range []struct {
		low   uint64
		l     []uint64
		reach uint64
		have  []api.Span
	}{
		{0, nil, 0, nil},
		{0, []uint64{1}, 1, of(1, 1)},
		{0, []uint64{2}, 0, of(2, 2)},
		{0, []uint64{64}, 0, of(64, 64)},
		{0, run(2, 64), 0, of(2, 64)},
		{0, []uint64{1, 2, 4}, 2, of(1, 2, 4, 4)},
		{0, []uint64{4, 2, 1}, 2, of(1, 2, 4, 4)},
		{0, []uint64{1, 2, 4, 3}, 4, of(1, 4)},
		{0, []uint64{1, 3, 5, 6, 64}, 1, of(1, 1, 3, 3, 5, 6, 64, 64)},
		{0, run(1, 63), 63, of(1, 63)},
		{0, run(1, 64), 64, of(1, 64)},
		{1, nil, 1, of(1, 1)},
		{5, nil, 5, of(1, 5)},
		{5, []uint64{6}, 6, of(1, 6)},
		{5, []uint64{7}, 5, of(1, 5, 7, 7)},
		{5, []uint64{7, 6}, 7, of(1, 7)},
		{5, []uint64{69, 8, 6}, 6, of(1, 6, 8, 8, 69, 69)},
		{64, []uint64{65, 66, 128}, 66, of(1, 66, 128, 128)},
		{100, nil, 100, of(1, 100)},
		{100, run(101, 164), 164, of(1, 164)},
		{100, run(102, 164), 100, of(1, 100, 102, 164)},
	} {
		s := made(t, x.low, x.l...)
		if l := s.Have(); !slices.Equal(l, x.have) {
			t.Errorf("%d, %v: %v, want %v", x.low, x.l, l, x.have)
		}
		wantReach(t, s, x.low, x.reach)
	}
}

func TestHaveOfManyHoles(t *testing.T) {
	for _, low := range []uint64{0, 1, 70} {
		s := made(t, low)
		want := []api.Span{}
		if low > 0 {
			want = of(1, low)
		}
		for n := low + 2; n <= low+64; n += 2 {
			wantPut(t, s, n, say(n), api.OK)
			want = append(want, api.Span{From: n, To: n})
		}
		if l := s.Have(); !slices.Equal(l, want) {
			t.Errorf("%d: %v, want %v", low, l, want)
		}
		wantReach(t, s, low, low)
		for n := low + 1; n <= low+63; n += 2 { // each one that is filled reaches up to the one behind it
			wantPut(t, s, n, say(n), api.OK)
			wantReach(t, s, low, n+1)
		}
		wantHave(t, s, 1, low+64)
	}
}

// An answer is new memory: what is done to it, and behind its length, does nothing
// to the shelf, nor to another answer.
func TestHaveIsNew(t *testing.T) {
	s := made(t, 2, 3, 5, 7)
	a, b := s.Have(), s.Have()
	for i := range a[:cap(a)] {
		a[:cap(a)][i] = api.Span{From: 77, To: 1}
	}
	if !slices.Equal(b, of(1, 3, 5, 5, 7, 7)) {
		t.Error(b)
	}
	wantHave(t, s, 1, 3, 5, 5, 7, 7)
	wantReach(t, s, 2, 3)
	wantPut(t, s, 4, say(4), api.OK)
	wantPut(t, s, 6, say(6), api.OK)
	wantReach(t, s, 2, 7)
	if !slices.Equal(b, of(1, 3, 5, 5, 7, 7)) {
		t.Error(b)
	}
}

// P13.3: Trim

func TestTrim(t *testing.T) {
	for _, x := range []struct {
		to, low uint64
		e       api.Errno
	}{
		{0, 3, api.OK}, {1, 3, api.OK}, {2, 3, api.OK}, {3, 3, api.OK},
		{4, 4, api.OK}, {5, 5, api.OK}, {6, 6, api.OK},
		{7, 3, api.ErrArg}, {8, 3, api.ErrArg}, {9, 3, api.ErrArg}, {67, 3, api.ErrArg}, {68, 3, api.ErrArg},
		{1 << 63, 3, api.ErrArg}, {last - 1, 3, api.ErrArg}, {last, 3, api.ErrArg},
	} {
		s := made(t, 3, 4, 5, 6, 8, 67)
		wantTrim(t, s, x.to, x.e)
		wantReach(t, s, x.low, 6)
		wantHave(t, s, 1, 6, 8, 8, 67, 67)
		for _, n := range []uint64{1, 2, 3, 4, 5, 6, 8, 67} {
			if n <= x.low {
				wantGet(t, s, n, api.Msg{}, api.ErrOld)
				wantPut(t, s, n, say(n), api.ErrOld)
			} else {
				wantGet(t, s, n, say(n), api.OK)
				wantPut(t, s, n, say(n), api.ErrTwice)
			}
		}
		wantGet(t, s, 7, api.Msg{}, api.ErrNone)
		wantPut(t, s, x.low+65, say(1), api.ErrFull)
		if x.low > 3 {
			wantPut(t, s, x.low+64, say(1), api.OK)
		}
	}
}

func TestTrimOfAnEmptyShelf(t *testing.T) {
	s := &shelf.Shelf{}
	wantTrim(t, s, 0, api.OK)
	wantTrim(t, s, 1, api.ErrArg)
	wantTrim(t, s, last, api.ErrArg)
	wantReach(t, s, 0, 0)
	wantPut(t, s, 2, say(2), api.OK)
	wantTrim(t, s, 1, api.ErrArg)
	wantTrim(t, s, 2, api.ErrArg)
	wantTrim(t, s, 0, api.OK)
	wantHave(t, s, 2, 2)
	wantPut(t, s, 1, say(1), api.OK)
	wantTrim(t, s, 2, api.OK)
	wantReach(t, s, 2, 2)
	wantHave(t, s, 1, 2)
}

func TestTrimAgain(t *testing.T) {
	s := made(t, 0, run(1, 64)...)
	for _, to := range []uint64{1, 1, 5, 4, 5, 0, 63, 64, 64, 1} {
		low := max(s.Low(), to)
		wantTrim(t, s, to, api.OK)
		wantReach(t, s, low, 64)
		wantHave(t, s, 1, 64)
	}
	wantTrim(t, s, 65, api.ErrArg)
	wantReach(t, s, 64, 64)
}

// Behind a Trim the messages of all places are gone, and none of them is taken for
// one of a greater number that has its place.
func TestTrimOfAll(t *testing.T) {
	s := &shelf.Shelf{}
	for turn := range uint64(5) {
		low := turn * 64
		for n := low + 1; n <= low+64; n++ {
			wantGet(t, s, n, api.Msg{}, api.ErrNone)
			wantPut(t, s, n, say(n), api.OK)
		}
		wantTrim(t, s, low+64, api.OK)
		wantReach(t, s, low+64, low+64)
		wantHave(t, s, 1, low+64)
	}
}

// Numbers grow far past MaxStore, however many are put ahead of each Trim.
func TestTrimGoesOn(t *testing.T) {
	for _, many := range []uint64{1, 2, 3, 7, 63, 64} {
		s := &shelf.Shelf{}
		for low := uint64(0); low < 1000; low += many {
			for n := low + many; n > low; n-- {
				wantPut(t, s, n, say(n), api.OK)
			}
			wantReach(t, s, low, low+many)
			wantTrim(t, s, low+many+1, api.ErrArg)
			for n := low + 1; n <= low+many; n++ {
				wantGet(t, s, n, say(n), api.OK)
			}
			wantTrim(t, s, low+many, api.OK)
			wantReach(t, s, low+many, low+many)
		}
	}
}

// P13.4: what follows

// chance answers numbers that are the same in each run.
func chance() *rand.Rand { return rand.New(rand.NewSource(13)) }

// model is a shelf as the chapter tells it: what was put, and what is gone.
type model struct {
	put map[uint64]api.Msg
	low uint64
}

func (o *model) was(n uint64) bool {
	_, is := o.put[n]
	return is
}

func (o *model) Put(n uint64, m api.Msg) api.Errno {
	switch {
	case n == 0, n == last, len(m.Text) > 64:
		return api.ErrArg
	case n <= o.low:
		return api.ErrOld
	case o.was(n):
		return api.ErrTwice
	case n > o.low+64:
		return api.ErrFull
	}
	o.put[n] = m
	return api.OK
}

func (o *model) Get(n uint64) (api.Msg, api.Errno) {
	switch {
	case n != 0 && n <= o.low:
		return api.Msg{}, api.ErrOld
	case !o.was(n):
		return api.Msg{}, api.ErrNone
	}
	return o.put[n], api.OK
}

func (o *model) Have() []api.Span {
	l := []api.Span{}
	for n := uint64(1); n <= o.low+64; n++ {
		switch {
		case !o.was(n):
		case o.was(n - 1):
			l[len(l)-1].To = n
		default:
			l = append(l, api.Span{From: n, To: n})
		}
	}
	return l
}

func (o *model) Reach() uint64 {
	n := uint64(0)
	for o.was(n + 1) {
		n++
	}
	return n
}

func (o *model) Trim(to uint64) api.Errno {
	if to > o.Reach() {
		return api.ErrArg
	}
	o.low = max(o.low, to)
	return api.OK
}

// wantAlike holds what s tells against what o does.
func wantAlike(t *testing.T, s *shelf.Shelf, o *model) {
	t.Helper()
	wantReach(t, s, o.low, o.Reach())
	if l, want := s.Have(), o.Have(); !slices.Equal(l, want) {
		t.Errorf("Have: %v, want %v", l, want)
	}
	many := 0
	for n := range o.low + 200 {
		m, e := o.Get(n)
		wantGet(t, s, n, m, e)
		if _, e := s.Get(n); e == api.OK {
			many++
		}
	}
	if many > api.MaxStore {
		t.Errorf("%d messages", many)
	}
}

// pick tells a number near to what o has, or at the ends.
func pick(c *rand.Rand, o *model) uint64 {
	switch c.Intn(20) {
	case 0:
		return last - uint64(c.Intn(3))
	case 1:
		return uint64(c.Intn(3))
	case 2:
		return o.low + 60 + uint64(c.Intn(10))
	case 3:
		return o.Reach() + uint64(c.Intn(3))
	}
	return o.low + uint64(c.Intn(70))
}

func TestLongRows(t *testing.T) {
	c := chance()
	for range 20 {
		s, o, reach := &shelf.Shelf{}, &model{put: map[uint64]api.Msg{}}, uint64(0)
		trims := 1 + c.Intn(30) // of so many calls one is a Trim
		for step := range 400 {
			n := pick(c, o)
			if c.Intn(trims+1) == 0 {
				wantTrim(t, s, n, o.Trim(n))
			} else {
				m := long(c.Intn(67))
				wantPut(t, s, n, m, o.Put(n, m))
			}
			if s.Reach() < reach {
				t.Errorf("Reach falls from %d to %d", reach, s.Reach())
			}
			reach = s.Reach()
			if step%10 == 0 {
				wantAlike(t, s, o)
			}
			if t.Failed() {
				return
			}
		}
		wantAlike(t, s, o)
	}
}

// Each row of few calls, at few numbers, is as the chapter tells it.
func TestAllShortRows(t *testing.T) {
	type call struct {
		trim bool
		n    uint64
	}
	calls := []call{}
	for _, n := range []uint64{0, 1, 2, 3, 65, 66} {
		calls = append(calls, call{false, n}, call{true, n})
	}
	var row func(done []call)
	row = func(done []call) {
		s, o := &shelf.Shelf{}, &model{put: map[uint64]api.Msg{}}
		for i, x := range done {
			if x.trim {
				wantTrim(t, s, x.n, o.Trim(x.n))
			} else {
				m := say(uint64(i))
				wantPut(t, s, x.n, m, o.Put(x.n, m))
			}
		}
		wantAlike(t, s, o)
		if t.Failed() {
			t.Fatal(done)
		}
		for _, x := range calls {
			if len(done) < 4 {
				row(append(slices.Clone(done), x))
			}
		}
	}
	row(nil)
}

// What is refused changes nothing.
func TestRefused(t *testing.T) {
	for _, low := range []uint64{0, 3, 64, 100} {
		l := []uint64{low + 1, low + 2, low + 5, low + 64}
		s, o := made(t, low, l...), &model{put: map[uint64]api.Msg{}, low: low}
		for _, n := range append(run(1, low), l...) {
			o.put[n] = say(n)
		}
		for _, n := range []uint64{0, 1, low, low + 1, low + 2, low + 5, low + 64, low + 65, low + 66, low + 128, last - 1, last} {
			if s.Put(n, api.Msg{Text: "y"}) == api.OK {
				t.Error(low, n)
			}
			wantPut(t, s, n, long(65), api.ErrArg)
		}
		wantPut(t, s, low+3, long(65), api.ErrArg)
		for _, to := range []uint64{low + 3, low + 4, low + 5, low + 64, low + 65, 1 << 63, last - 1, last} {
			wantTrim(t, s, to, api.ErrArg)
		}
		wantAlike(t, s, o)
	}
}

// A shelf is as it is told to be, whatever another one has.
func TestTwoShelves(t *testing.T) {
	a, b := &shelf.Shelf{}, &shelf.Shelf{}
	wantPut(t, a, 1, say(1), api.OK)
	wantGet(t, b, 1, api.Msg{}, api.ErrNone)
	wantPut(t, b, 1, say(2), api.OK)
	wantTrim(t, b, 1, api.OK)
	wantGet(t, a, 1, say(1), api.OK)
	wantReach(t, a, 0, 1)
	wantReach(t, b, 1, 1)
}

// The example of the chapter.
func TestExample(t *testing.T) {
	s := made(t, 0, 1, 2, 4)
	wantReach(t, s, 0, 2)
}
