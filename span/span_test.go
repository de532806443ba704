package span_test

import (
	"math"
	"math/rand"
	"slices"
	"testing"

	"conventicle/api"
	"conventicle/span"
)

const last = uint64(math.MaxUint64)

// of tells the spans of these ends: From, To, From, To and so on.
func of(ends ...uint64) []api.Span {
	l := []api.Span{}
	for i := 0; i+1 < len(ends); i += 2 {
		l = append(l, api.Span{From: ends[i], To: ends[i+1]})
	}
	return l
}

// mayNotBe are lists that have numbers, but may not be.
func mayNotBe() [][]api.Span {
	return [][]api.Span{
		of(3, 1),
		of(1, 0),
		of(last, 0),
		of(last-1, 0),
		of(last, last),
		of(0, last),
		of(7, last),
		of(1, 3, 4, 5),
		of(1, 3, 3, 5),
		of(1, 3, 2, 5),
		of(1, 9, 2, 5),
		of(1, 3, 1, 3),
		of(5, 6, 1, 2),
		of(5, 6, 3, 4),
		of(0, 0, 0, 0),
		of(0, 0, 1, 1),
		of(1, 1, 0, 0),
		of(1, 2, 5, 4),
		of(2, 1, 5, 6),
		of(1, 2, 4, 5, 6, 7),
		of(1, 2, 8, 9, 5, 6),
		of(1, 2, last, last),
		of(1, last-2, last, last),
		of(1, last-1, last, last),
		of(0, last-1, 0, 0),
		of(0, last, 0, 0),
		of(5, last, 7, 8),
		of(1, last, 3, last-1),
	}
}

// edges are numbers at the ends of all, and at those of the spans above.
func edges() []uint64 {
	l := []uint64{1 << 63, 1<<63 - 1}
	for n := range uint64(12) {
		l = append(l, n, last-n)
	}
	return l
}

// width is how many numbers a small set has at most, and bases where such sets
// begin: at the first number, in the midst, around 2^63, and so that 2^64 - 2 is
// their last one.
const width = 6

func bases() []uint64 { return []uint64{0, 1, 1000, 1<<63 - 3, last - width} }

// small tells the spans of the set of the numbers base and i, for each i that is a
// bit of set: one number behind the other, as the chapter says.
func small(base uint64, set int) []api.Span {
	l := []api.Span{}
	for i := range uint64(width) {
		switch {
		case set>>i&1 == 0:
		case i > 0 && set>>(i-1)&1 == 1:
			l[len(l)-1].To++
		default:
			l = append(l, api.Span{From: base + i, To: base + i})
		}
	}
	return l
}

// chance answers numbers that are the same in each run.
func chance() *rand.Rand { return rand.New(rand.NewSource(12)) }

// great tells spans by chance, at most most, of which some are great, some stand
// close, and some are at the ends.
func great(c *rand.Rand, most int) []api.Span {
	var cuts []uint64
	for range 2 * c.Intn(most+1) {
		switch c.Intn(4) {
		case 0:
			cuts = append(cuts, uint64(c.Intn(20)))
		case 1:
			cuts = append(cuts, last-uint64(c.Intn(20)))
		case 2:
			cuts = append(cuts, 1<<63+uint64(c.Intn(20)))
		default:
			cuts = append(cuts, c.Uint64())
		}
	}
	slices.Sort(cuts)
	cuts = slices.Compact(cuts) // a span from a cut on, up to below the next one
	l := []api.Span{}
	for i := 0; i+1 < len(cuts); i += 2 {
		l = append(l, api.Span{From: cuts[i], To: cuts[i+1] - 1})
	}
	return l
}

// row tells many spans of two numbers each, with two that are left out between.
func row(many int) []api.Span {
	l := []api.Span{}
	for i := range uint64(many) {
		l = append(l, api.Span{From: 4 * i, To: 4*i + 1})
	}
	return l
}

// within tells whether l has n, span by span.
func within(l []api.Span, n uint64) bool {
	for _, s := range l {
		if n >= s.From && n <= s.To {
			return true
		}
	}
	return false
}

func want(t *testing.T, got, want []api.Span, by ...any) {
	t.Helper()
	if !slices.Equal(got, want) {
		t.Errorf("%v: %v, want %v", by, got, want)
	}
}

func wantAdd(t *testing.T, l []api.Span, n uint64, spans []api.Span, isNew bool) {
	t.Helper()
	got, is := span.Add(l, n)
	want(t, got, spans, "Add", l, n)
	if is != isNew {
		t.Errorf("Add(%v, %d): %t", l, n, is)
	}
}

func wantReach(t *testing.T, l []api.Span, from, reach uint64) {
	t.Helper()
	if got := span.Reach(l, from); got != reach {
		t.Errorf("Reach(%v, %d): %d, want %d", l, from, got, reach)
	}
}

// P12.1: May

func TestMay(t *testing.T) {
	for _, l := range [][]api.Span{
		nil,
		of(),
		of(0, 0),
		of(7, 7),
		of(0, 1),
		of(1, 3, 5, 5),
		of(1, 3, 5, 6),
		of(0, 0, 2, 2, 4, 4),
		of(last-1, last-1),
		of(0, last-1),
		of(0, last-3, last-1, last-1),
		of(1, 2, 9, 9, 1<<63, last-1),
		row(400),
	} {
		if !span.May(l) {
			t.Errorf("%v may be", l)
		}
	}
	for _, l := range mayNotBe() {
		if span.May(l) {
			t.Errorf("%v may not be", l)
		}
	}
}

// TestMayOfAnySpans asks of all lists of at most three spans with such ends.
func TestMayOfAnySpans(t *testing.T) {
	ends := []uint64{0, 1, 2, 3, last - 2, last - 1, last}
	var spans []api.Span
	for _, from := range ends {
		for _, to := range ends {
			spans = append(spans, api.Span{From: from, To: to})
		}
	}
	var ask func(l []api.Span, may bool)
	ask = func(l []api.Span, may bool) {
		if span.May(l) != may {
			t.Errorf("May(%v): %t", l, !may)
		}
		if len(l) == 3 {
			return
		}
		for _, s := range spans {
			is := s.From <= s.To && s.To < last
			if len(l) > 0 {
				ahead := l[len(l)-1].To
				is = is && s.From > ahead && s.From-ahead > 1
			}
			ask(append(slices.Clip(l), s), may && is)
		}
	}
	ask(nil, true)
}

func TestMayOfOneThatMayNotBeInALongList(t *testing.T) {
	const many = 300
	for _, i := range []int{0, 1, many / 2, many - 2, many - 1} {
		for _, bad := range []api.Span{{From: 4*uint64(i) + 1, To: 4 * uint64(i)}, {From: 4 * uint64(i), To: last}} {
			l := row(many)
			l[i] = bad
			if span.May(l) {
				t.Errorf("%v at %d may not be", bad, i)
			}
		}
		if i > 0 {
			l := row(many)
			l[i].From -= 2 // so that it touches the one ahead
			if span.May(l) {
				t.Errorf("spans that touch, at %d, may not be", i)
			}
		}
	}
}

// P12.1: Has, Many

func TestHas(t *testing.T) {
	l := of(1, 3, 5, 5, 1<<63, last-1)
	for _, n := range []uint64{1, 2, 3, 5, 1 << 63, 1<<63 + 1, last - 2, last - 1} {
		if !span.Has(l, n) {
			t.Errorf("it has %d", n)
		}
	}
	for _, n := range []uint64{0, 4, 6, 1<<63 - 1, last} {
		if span.Has(l, n) {
			t.Errorf("it has not %d", n)
		}
	}
	for _, n := range edges() {
		if span.Has(nil, n) {
			t.Errorf("no spans have not %d", n)
		}
		if span.Has(of(0, last-1), n) != (n != last) {
			t.Errorf("all have %d: %t", n, n == last)
		}
	}
}

func TestMany(t *testing.T) {
	for _, x := range []struct {
		l    []api.Span
		many uint64
	}{
		{nil, 0},
		{of(), 0},
		{of(0, 0), 1},
		{of(last-1, last-1), 1},
		{of(7, 9), 3},
		{of(1, 3, 5, 5), 4},
		{of(0, 4, 6, 9), 9},
		{of(0, last-1), last},
		{of(1, last-1), last - 1},
		{of(0, 0, 2, last-1), last - 1},
		{of(0, 1<<63-1, 1<<63+1, last-1), last - 1},
		{of(1<<63, last-1), last - 1<<63},
		{row(400), 800},
	} {
		if got := span.Many(x.l); got != x.many {
			t.Errorf("Many(%v): %d, want %d", x.l, got, x.many)
		}
	}
}

func TestHasAndManyOfSmallSets(t *testing.T) {
	for _, base := range bases() {
		for set := range 1 << width {
			l := small(base, set)
			many := uint64(0)
			for i := range uint64(width) {
				is := set>>i&1 == 1
				if is {
					many++
				}
				if span.Has(l, base+i) != is {
					t.Errorf("Has(%v, %d): %t", l, base+i, !is)
				}
			}
			if span.Has(l, base-1) || span.Has(l, base+width) {
				t.Errorf("%v has what lies beside", l)
			}
			if !span.May(l) || span.Many(l) != many {
				t.Errorf("Many(%v): %d, want %d", l, span.Many(l), many)
			}
		}
	}
}

// P12.1 to P12.3: lists that may not be

func TestOfListsThatMayNotBe(t *testing.T) {
	for _, l := range mayNotBe() {
		if many := span.Many(l); many != 0 {
			t.Errorf("Many(%v): %d", l, many)
		}
		for _, n := range edges() {
			if span.Has(l, n) {
				t.Errorf("Has(%v, %d)", l, n)
			}
			wantReach(t, l, n, 0)
			want(t, span.First(l, n), nil, "First", l, n)
			if n == last {
				wantAdd(t, l, n, nil, false)
			} else {
				wantAdd(t, l, n, of(n, n), true)
			}
		}
	}
}

func TestOfTwoListsOfWhichEitherMayNotBe(t *testing.T) {
	for _, l := range mayNotBe() {
		for _, other := range append(mayNotBe(), nil, of(2, 8), of(0, last-1), l) {
			want(t, span.Join(l, other), nil, "Join", l, other)
			want(t, span.Join(other, l), nil, "Join", other, l)
			want(t, span.Minus(l, other), nil, "Minus", l, other)
			want(t, span.Minus(other, l), nil, "Minus", other, l)
		}
	}
}

// P12.2: Add

func TestAdd(t *testing.T) {
	for _, x := range []struct {
		l     []api.Span
		n     uint64
		want  []api.Span
		isNew bool
	}{
		{nil, 0, of(0, 0), true},
		{nil, 4, of(4, 4), true},
		{of(), last - 1, of(last-1, last-1), true},
		{nil, last, nil, false},
		{of(1, 3, 5, 6), 4, of(1, 6), true},                // the chapter's example: between two that it joins
		{of(1, 3, 5, 6), 1, of(1, 3, 5, 6), false},         // there, as the first of its span
		{of(1, 3, 5, 6), 2, of(1, 3, 5, 6), false},         // within
		{of(1, 3, 5, 6), 3, of(1, 3, 5, 6), false},         // the last
		{of(1, 3, 5, 6), 6, of(1, 3, 5, 6), false},         // of the last span
		{of(5, 6, 9, 9), 2, of(2, 2, 5, 6, 9, 9), true},    // ahead of all
		{of(5, 6, 9, 9), 0, of(0, 0, 5, 6, 9, 9), true},    // the first number of all
		{of(5, 6, 9, 9), 11, of(5, 6, 9, 9, 11, 11), true}, // behind all
		{of(5, 6, 9, 9), 4, of(4, 6, 9, 9), true},          // just ahead of a span
		{of(5, 6, 9, 9), 8, of(5, 6, 8, 9), true},          // and of the second one
		{of(5, 6, 9, 9), 7, of(5, 7, 9, 9), true},          // just behind a span
		{of(5, 6, 9, 9), 10, of(5, 6, 9, 10), true},        // and behind the last one
		{of(1, 2, 9, 9), 5, of(1, 2, 5, 5, 9, 9), true},    // between two that it does not join
		{of(0, 0), 1, of(0, 1), true},
		{of(1, 1), 0, of(0, 1), true},
		{of(0, 0, 2, 2, 4, 4), 3, of(0, 0, 2, 4), true},
		{of(0, 0, 2, 2, 4, 4), 1, of(0, 2, 4, 4), true},
		{of(1, 2), last, of(1, 2), false},
		{of(0, last-1), last, of(0, last-1), false},
		{of(last-1, last-1), last, of(last-1, last-1), false},
		{of(1, 2), last - 1, of(1, 2, last-1, last-1), true},
		{of(1, last-2), last - 1, of(1, last-1), true},
		{of(1, last-3), last - 1, of(1, last-3, last-1, last-1), true},
		{of(1, last-1), last - 1, of(1, last-1), false},
		{of(last-1, last-1), last - 2, of(last-2, last-1), true},
		{of(last-1, last-1), 0, of(0, 0, last-1, last-1), true},
		{of(0, last-3, last-1, last-1), last - 2, of(0, last-1), true},
		{of(0, last-1), 0, of(0, last-1), false},
	} {
		wantAdd(t, x.l, x.n, x.want, x.isNew)
	}
}

func TestAddToSmallSets(t *testing.T) {
	for _, base := range bases() {
		for set := range 1 << width {
			for i := range width {
				wantAdd(t, small(base, set), base+uint64(i), small(base, set|1<<i), set>>i&1 == 0)
			}
		}
	}
}

// P12.2: Join, Minus

func TestJoin(t *testing.T) {
	for _, x := range []struct{ a, b, want []api.Span }{
		{nil, nil, nil},
		{of(1, 5, 8, 9), nil, of(1, 5, 8, 9)},
		{of(1, 3), of(5, 6), of(1, 3, 5, 6)},
		{of(1, 3), of(4, 6), of(1, 6)},                   // they touch
		{of(1, 4), of(4, 6), of(1, 6)},                   // they have one number
		{of(1, 5, 8, 9), of(1, 5, 8, 9), of(1, 5, 8, 9)}, // all of one another
		{of(1, 9), of(3, 4, 6, 6), of(1, 9)},             // one has all of the other one
		{of(1, 9), of(1, 4), of(1, 9)},
		{of(1, 9), of(4, 9), of(1, 9)},
		{of(1, 5, 10, 20), of(4, 11, 15, 15, 30, 31), of(1, 20, 30, 31)},
		{of(0, 0, 2, 2, 4, 4), of(1, 1, 3, 3), of(0, 4)}, // between, everywhere
		{of(0, 0, 4, 4), of(2, 2, 6, 6), of(0, 0, 2, 2, 4, 4, 6, 6)},
		{of(1, 2, 8, 9), of(4, 6), of(1, 2, 4, 6, 8, 9)},
		{of(1, 2, 8, 9), of(3, 7), of(1, 9)},
		{of(0, 4), of(last-1, last-1), of(0, 4, last-1, last-1)},
		{of(0, 1<<63), of(1<<63+1, last-1), of(0, last-1)},
		{of(0, last-2), of(last-1, last-1), of(0, last-1)},
		{of(0, last-1), of(5, 6, last-1, last-1), of(0, last-1)},
		{of(5, last-1), of(7, last-1), of(5, last-1)},
	} {
		want(t, span.Join(x.a, x.b), x.want, "Join", x.a, x.b)
		want(t, span.Join(x.b, x.a), x.want, "Join", x.b, x.a)
	}
}

func TestMinus(t *testing.T) {
	for _, x := range []struct{ a, b, want []api.Span }{
		{nil, nil, nil},
		{nil, of(1, 5), nil},
		{of(1, 5, 8, 9), nil, of(1, 5, 8, 9)},
		{of(1, 5, 8, 9), of(1, 5, 8, 9), nil},        // nothing is left
		{of(1, 5, 8, 9), of(0, 20), nil},             // nor here
		{of(1, 5, 8, 9), of(0, last-1), nil},         // nor here
		{of(1, 5, 8, 9), of(6, 7), of(1, 5, 8, 9)},   // all is left
		{of(1, 5, 8, 9), of(0, 0), of(1, 5, 8, 9)},   // what is taken lies ahead
		{of(1, 5, 8, 9), of(10, 99), of(1, 5, 8, 9)}, // and behind
		{of(1, 9), of(4, 5), of(1, 3, 6, 9)},         // pieces on both sides
		{of(1, 9), of(5, 5), of(1, 4, 6, 9)},
		{of(1, 9), of(1, 5), of(6, 9)},
		{of(1, 9), of(0, 5), of(6, 9)},
		{of(1, 9), of(5, 9), of(1, 4)},
		{of(1, 9), of(5, 12), of(1, 4)},
		{of(1, 9), of(1, 1, 3, 3, 5, 5, 7, 7, 9, 9), of(2, 2, 4, 4, 6, 6, 8, 8)},
		{of(1, 5, 10, 20), of(4, 11, 15, 15, 30, 31), of(1, 3, 12, 14, 16, 20)},
		{of(4, 11, 15, 15, 30, 31), of(1, 5, 10, 20), of(6, 9, 30, 31)},
		{of(1, 3, 5, 7, 9, 11), of(2, 10), of(1, 1, 11, 11)}, // it takes one whole, and of two
		{of(0, last-1), of(0, last-1), nil},
		{of(0, last-1), of(0, 0), of(1, last-1)},
		{of(0, last-1), of(last-1, last-1), of(0, last-2)},
		{of(0, last-1), of(1, last-2), of(0, 0, last-1, last-1)},
		{of(0, last-1), of(1<<63, 1<<63), of(0, 1<<63-1, 1<<63+1, last-1)},
		{of(last-1, last-1), of(0, last-2), of(last-1, last-1)},
		{of(0, 0), of(1, last-1), of(0, 0)},
	} {
		want(t, span.Minus(x.a, x.b), x.want, "Minus", x.a, x.b)
	}
}

func TestJoinAndMinusOfSmallSets(t *testing.T) {
	for _, base := range bases() {
		for a := range 1 << width {
			for b := range 1 << width {
				l, m := small(base, a), small(base, b)
				want(t, span.Join(l, m), small(base, a|b), "Join", l, m)
				want(t, span.Minus(l, m), small(base, a&^b), "Minus", l, m)
			}
		}
	}
}

func TestJoinAndMinusOfGreatSpans(t *testing.T) {
	c := chance()
	for range 3000 {
		a, b := great(c, 6), great(c, 6)
		join, minus := span.Join(a, b), span.Minus(a, b)
		if !span.May(join) || !span.May(minus) {
			t.Fatalf("of %v and %v: %v and %v", a, b, join, minus)
		}
		if span.Many(minus)+span.Many(b) != span.Many(join) {
			t.Fatalf("of %v and %v: %d and %d numbers", a, b, span.Many(minus), span.Many(join))
		}
		for _, s := range slices.Concat(a, b) {
			for _, n := range []uint64{s.From - 1, s.From, s.To, s.To + 1} {
				if within(join, n) != (within(a, n) || within(b, n)) {
					t.Fatalf("Join(%v, %v) at %d: %v", a, b, n, join)
				}
				if within(minus, n) != (within(a, n) && !within(b, n)) {
					t.Fatalf("Minus(%v, %v) at %d: %v", a, b, n, minus)
				}
			}
		}
	}
}

func TestJoinAndMinusOfLongLists(t *testing.T) {
	const many = 400
	l, between := row(many), row(many)
	for i := range between {
		between[i].From += 2
		between[i].To += 2
	}
	want(t, span.Join(l, between), of(0, 4*many-1), "Join of all")
	want(t, span.Minus(l, between), l, "Minus of none")
	want(t, span.Minus(of(0, 4*many-1), between), l, "Minus of what is between")
	want(t, span.Minus(l, l), nil, "Minus of all")
}

// P12.3: Reach, First

func TestReach(t *testing.T) {
	l := of(1, 5, 10, 20, 22, 22, 1<<63, last-1)
	for _, x := range []struct{ from, want uint64 }{
		{0, 5},   // which is not there itself
		{1, 5},   // within its span
		{4, 5},   // just ahead of the last of its span
		{5, 5},   // the last of its span
		{6, 6},   // neither it nor the one behind it is there
		{8, 8},   // nor here
		{9, 20},  // which is not there itself
		{10, 20}, // the first of its span
		{19, 20},
		{20, 20}, // one number is missing behind it
		{21, 22},
		{22, 22},
		{23, 23},
		{1<<63 - 2, 1<<63 - 2},
		{1<<63 - 1, last - 1},
		{1 << 63, last - 1},
		{last - 2, last - 1},
		{last - 1, last - 1},
		{last, last},
	} {
		wantReach(t, l, x.from, x.want)
	}
}

func TestReachAtTheEnds(t *testing.T) {
	for _, n := range edges() {
		wantReach(t, nil, n, n)
		wantReach(t, of(), n, n)
		wantReach(t, of(0, last-1), n, max(n, last-1))
		if n > 0 {
			wantReach(t, of(0, 0), n, n)
		}
	}
	wantReach(t, of(0, 0), 0, 0)
	wantReach(t, of(1, 1), 0, 1)
	wantReach(t, of(0, 3), last, last) // behind the last number is not 0
	wantReach(t, of(0, 3, 9, last-1), last, last)
	wantReach(t, of(last-1, last-1), last-3, last-3)
	wantReach(t, of(last-1, last-1), last-2, last-1)
}

func TestReachOfSmallSets(t *testing.T) {
	for _, base := range bases() {
		for set := range 1 << width {
			l := small(base, set)
			for from := range uint64(width) {
				reach := from
				for reach+1 < width && set>>(reach+1)&1 == 1 {
					reach++
				}
				wantReach(t, l, base+from, base+reach)
			}
			wantReach(t, l, base+width, base+width)
		}
	}
}

func TestFirst(t *testing.T) {
	l := of(1, 5, 10, 20, 30, 30)
	for _, x := range []struct {
		n    uint64
		want []api.Span
	}{
		{0, nil},
		{1, of(1, 1)},
		{2, of(1, 2)},
		{4, of(1, 4)},
		{5, of(1, 5)}, // it ends with a span
		{6, of(1, 5, 10, 10)},
		{9, of(1, 5, 10, 13)},
		{15, of(1, 5, 10, 19)},
		{16, of(1, 5, 10, 20)},
		{17, l}, // just as many
		{18, l}, // more than there are
		{1 << 63, l},
		{last - 1, l},
		{last, l},
	} {
		want(t, span.First(l, x.n), x.want, "First", l, x.n)
	}
}

func TestFirstAtTheEnds(t *testing.T) {
	all := of(0, last-1)
	for _, n := range edges() {
		want(t, span.First(nil, n), nil, "First", n)
		if n == 0 {
			want(t, span.First(all, n), nil, "First", n)
		} else {
			want(t, span.First(all, n), of(0, n-1), "First", n)
		}
	}
	high := of(last-5, last-4, last-2, last-1)
	want(t, span.First(high, 3), of(last-5, last-4, last-2, last-2), "First", 3)
	want(t, span.First(high, 4), high, "First", 4)
	want(t, span.First(high, last), high, "First", last)
	want(t, span.First(of(0, 0, 2, last-1), last-2), of(0, 0, 2, last-2), "First")
	want(t, span.First(of(0, 0, 2, last-1), last-1), of(0, 0, 2, last-1), "First")
}

func TestFirstOfSmallSets(t *testing.T) {
	for _, base := range bases() {
		for set := range 1 << width {
			part, n := 0, uint64(0)
			l := small(base, set)
			want(t, span.First(l, 0), nil, "First", l, 0)
			for i := range width {
				if set>>i&1 == 1 {
					part |= 1 << i
					n++
					want(t, span.First(l, n), small(base, part), "First", l, n)
				}
			}
			want(t, span.First(l, n+1), l, "First", l, n+1)
		}
	}
}

// P12.4: what is told may be, and of one set of numbers there is one list

func TestWhatIsToldMayBe(t *testing.T) {
	lists := append(mayNotBe(), nil, of(0, 0), of(0, last-1), of(1, 3, 5, 6), of(last-1, last-1), row(20))
	told := func(l []api.Span, by string) {
		if !span.May(l) {
			t.Errorf("%s tells %v", by, l)
		}
	}
	for _, a := range lists {
		for _, n := range edges() {
			l, _ := span.Add(a, n)
			told(l, "Add")
			told(span.First(a, n), "First")
		}
		for _, b := range lists {
			told(span.Join(a, b), "Join")
			told(span.Minus(a, b), "Minus")
		}
	}
}

func TestOneListOfOneSet(t *testing.T) {
	c := chance()
	for range 500 {
		base, set := bases()[c.Intn(len(bases()))], c.Intn(1<<width)
		one, rest := small(base, set), small(base, 1<<width-1)
		var added, joined []api.Span
		for _, i := range c.Perm(width) { // whatever the order is
			n := base + uint64(i)
			if set>>i&1 == 1 {
				added, _ = span.Add(added, n)
				joined = span.Join(of(n, n), joined)
			} else {
				rest = span.Minus(rest, of(n, n))
			}
		}
		want(t, added, one, "added")
		want(t, joined, one, "joined")
		want(t, rest, one, "what is left")
	}
}

func TestOneListOfOneGreatSet(t *testing.T) {
	c := chance()
	for range 1000 {
		a, b := great(c, 5), great(c, 5)
		join := span.Join(a, b)
		want(t, span.Join(b, a), join, "Join", b, a)
		want(t, span.Join(span.Minus(a, b), b), join, "Join of Minus", a, b)
		want(t, span.Join(join, a), join, "Join of all", a, b)
		want(t, span.Minus(join, span.Minus(b, a)), a, "Minus of what is b's alone", a, b)
		n := c.Uint64() >> c.Intn(64)
		first := span.First(a, n)
		want(t, span.Join(first, span.Minus(a, first)), a, "Join of the first and of those behind", a, n)
		if span.Many(first) != min(n, span.Many(a)) {
			t.Errorf("First(%v, %d): %v", a, n, first)
		}
	}
}

// What is handed in is neither changed nor kept, and an answer is new memory.

// calls are all that answer lists, with what they are to answer of a and b.
func calls() []func(a, b []api.Span) []api.Span {
	add := func(n uint64) func(a, b []api.Span) []api.Span {
		return func(a, _ []api.Span) []api.Span { l, _ := span.Add(a, n); return l }
	}
	first := func(n uint64) func(a, b []api.Span) []api.Span {
		return func(a, _ []api.Span) []api.Span { return span.First(a, n) }
	}
	return []func(a, b []api.Span) []api.Span{
		span.Join, span.Minus,
		add(0), add(2), add(4), add(8), add(20), add(last - 1), add(last),
		first(0), first(1), first(3), first(4), first(6), first(7), first(last),
	}
}

func TestNeitherChangedNorKept(t *testing.T) {
	ours, theirs := of(1, 3, 5, 6, 9, 10, 12, 12, 20, last-1), of(2, 2, 4, 5, 8, 15, 30, 31)
	for many := range len(ours) + 1 {
		for other := range len(theirs) + 1 {
			for i, call := range calls() {
				a, b := slices.Clone(ours), slices.Clone(theirs)
				got, again := call(a[:many], b[:other]), call(a[:many], b[:other])
				if !slices.Equal(a, ours) || !slices.Equal(b, theirs) { // what is behind the lengths, too
					t.Fatalf("call %d changes what is handed in: %v, %v", i, a, b)
				}
				told := slices.Clone(got)
				spoil(got[:cap(got)])
				want(t, again, told, "call", i, "another answer")
				want(t, a, ours, "call", i, "what is handed in")
				want(t, b, theirs, "call", i, "what is handed in")
				want(t, call(a[:many], b[:other]), told, "call", i, "later")
				spoil(a)
				spoil(b)
				want(t, again, told, "call", i, "keeps what is handed in")
			}
		}
	}
}

// spoil writes over all of l.
func spoil(l []api.Span) {
	for i := range l {
		l[i] = api.Span{From: 77, To: 7}
	}
}
