package mend_test

import (
	"fmt"
	"maps"
	"math"
	"math/rand"
	"slices"
	"strings"
	"testing"

	"conventicle/api"
	"conventicle/mend"
	"conventicle/shelf"
)

const last = uint64(math.MaxUint64)

func chance() *rand.Rand { return rand.New(rand.NewSource(14)) }

// say tells a message that no other number has.
func say(n uint64) api.Msg {
	return api.Msg{Sender: int(n % 64), Num: n*7 + 1, Text: strings.Repeat("x", int(n%65))}
}

// pieces tells the pieces of these numbers, each with its own message.
func pieces(numbers ...uint64) []mend.Piece {
	l := []mend.Piece{}
	for _, n := range numbers {
		l = append(l, mend.Piece{N: n, M: say(n)})
	}
	return l
}

// of tells the spans of these ends: From, To, From, To and so on.
func of(ends ...uint64) []api.Span {
	l := []api.Span{}
	for i := 0; i+1 < len(ends); i += 2 {
		l = append(l, api.Span{From: ends[i], To: ends[i+1]})
	}
	return l
}

// run tells the numbers from from to to.
func run(from, to uint64) []uint64 {
	l := []uint64{}
	for n := from; n <= to; n++ {
		l = append(l, n)
	}
	return l
}

// spans tells the spans of these numbers, which rise.
func spans(numbers []uint64) []api.Span {
	l := []api.Span{}
	for _, n := range numbers {
		if k := len(l); k > 0 && l[k-1].To+1 == n {
			l[k-1].To = n
		} else {
			l = append(l, api.Span{From: n, To: n})
		}
	}
	return l
}

// made tells a shelf with the numbers of l, trimmed up to low.
func made(t *testing.T, low uint64, l ...uint64) *shelf.Shelf {
	t.Helper()
	s := &shelf.Shelf{}
	put := func(n uint64) {
		if e := s.Put(n, say(n)); e != api.OK {
			t.Fatalf("Put(%d): %d", n, e)
		}
	}
	for n := uint64(1); n <= low; n++ {
		put(n)
		if e := s.Trim(n); e != api.OK {
			t.Fatalf("Trim(%d): %d", n, e)
		}
	}
	for _, n := range l {
		put(n)
	}
	return s
}

// bad tells lists of spans that may not be.
func bad() [][]api.Span {
	return [][]api.Span{
		of(5, 4),
		of(1, 0),
		of(1, 3, 4, 5),
		of(1, 3, 3, 5),
		of(1, 5, 2, 3),
		of(4, 5, 1, 2),
		of(1, 1, 1, 1),
		of(1, 2, 5, 4),
		of(0, last),
		of(7, last),
		of(last, last),
		of(1, 2, 9, last),
		of(5, last, 2, 3),
	}
}

func wantLack(t *testing.T, mine, theirs []api.Span, most uint64, want []api.Span) {
	t.Helper()
	if l := mend.Lack(mine, theirs, most); !slices.Equal(l, want) {
		t.Errorf("Lack(%v, %v, %d): %v, want %v", mine, theirs, most, l, want)
	}
}

func wantDigest(t *testing.T, s *shelf.Shelf, most int, want []api.Span) {
	t.Helper()
	if l := mend.Digest(s, most); !slices.Equal(l, want) {
		t.Errorf("Digest(%d): %v, want %v", most, l, want)
	}
}

func wantGive(t *testing.T, s *shelf.Shelf, want []api.Span, most int, l []mend.Piece) {
	t.Helper()
	if got := mend.Give(s, want, most); !slices.Equal(got, l) {
		t.Errorf("Give(%v, %d): %v, want %v", want, most, got, l)
	}
}

func wantTake(t *testing.T, s *shelf.Shelf, l []mend.Piece, most uint64, n int) {
	t.Helper()
	if got := mend.Take(s, l, most); got != n {
		t.Errorf("Take(%v, %d): %d, want %d", l, most, got, n)
	}
}

func wantHave(t *testing.T, s *shelf.Shelf, ends ...uint64) {
	t.Helper()
	if l := s.Have(); !slices.Equal(l, of(ends...)) {
		t.Errorf("Have: %v, want %v", l, ends)
	}
}

func wantGet(t *testing.T, s *shelf.Shelf, n uint64, m api.Msg, e api.Errno) {
	t.Helper()
	if got, err := s.Get(n); got != m || err != e {
		t.Errorf("Get(%d): %v, %d, want %v, %d", n, got, err, m, e)
	}
}

func wantStable(t *testing.T, band uint64, reach map[int]uint64, n uint64) {
	t.Helper()
	if got := mend.Stable(band, reach); got != n {
		t.Errorf("Stable(%b, %v): %d, want %d", band, reach, got, n)
	}
}

// P14.1: Lack

func TestLack(t *testing.T) {
	for _, x := range []struct {
		mine, theirs []api.Span
		most         uint64
		want         []api.Span
	}{
		{of(1, 2), of(1, 5), 9, of(3, 5)}, // the chapter's example
		{nil, nil, 9, nil},
		{nil, of(1, 5), 9, of(1, 5)},
		{of(), of(0, 5), 9, of(0, 5)},
		{of(1, 5), nil, 9, nil},
		{of(1, 5), of(1, 5), 9, nil},
		{of(1, 5, 8, 9), of(1, 5, 8, 9), 9, nil},
		{of(1, 9), of(1, 5), 9, nil},
		{of(1, 9), of(3, 5, 7, 8), 9, nil},
		{of(0, last-1), of(3, 5, 7, 8), 9, nil},
		{of(7, 9), of(1, 5), 9, of(1, 5)},
		{of(1, 5), of(7, 9), 9, of(7, 9)},
		{of(3, 4), of(1, 6), 9, of(1, 2, 5, 6)},
		{of(1, 2, 4, 4, 6, 7), of(1, 9), 9, of(3, 3, 5, 5, 8, 9)},
		{of(5, 8), of(1, 6, 9, 9), 9, of(1, 4, 9, 9)},
		{of(2, 3), of(0, last-1), last, of(0, 1, 4, last-1)},
		{nil, of(last-1, last-1), 1, of(last-1, last-1)},
	} {
		wantLack(t, x.mine, x.theirs, x.most, x.want)
	}
}

// With most the last span is cut, where it has more.
func TestLackWithMost(t *testing.T) {
	mine, theirs := of(1, 2, 12, 20), of(1, 5, 9, 9, 11, 14, 30, 33) // 3 4 5, 9, 11, 30 31 32 33: nine
	for _, x := range []struct {
		most uint64
		want []api.Span
	}{
		{0, nil},
		{1, of(3, 3)},
		{2, of(3, 4)},
		{3, of(3, 5)},
		{4, of(3, 5, 9, 9)},
		{5, of(3, 5, 9, 9, 11, 11)},
		{6, of(3, 5, 9, 9, 11, 11, 30, 30)},
		{8, of(3, 5, 9, 9, 11, 11, 30, 32)},
		{9, of(3, 5, 9, 9, 11, 11, 30, 33)},
		{10, of(3, 5, 9, 9, 11, 11, 30, 33)},
		{1000, of(3, 5, 9, 9, 11, 11, 30, 33)},
		{1 << 63, of(3, 5, 9, 9, 11, 11, 30, 33)},
		{last, of(3, 5, 9, 9, 11, 11, 30, 33)},
	} {
		wantLack(t, mine, theirs, x.most, x.want)
	}
	wantLack(t, nil, of(0, last-1), 0, nil)
	wantLack(t, nil, of(0, last-1), 1, of(0, 0))
	wantLack(t, nil, of(0, last-1), 1<<40, of(0, 1<<40-1))
	wantLack(t, nil, of(0, last-1), last-1, of(0, last-2))
	wantLack(t, nil, of(0, last-1), last, of(0, last-1))
	wantLack(t, of(3, 3), of(2, last-1), last, of(2, 2, 4, last-1))
}

func TestLackOfSpansThatMayNotBe(t *testing.T) {
	for _, b := range bad() {
		for _, most := range []uint64{0, 1, 9, last} {
			wantLack(t, b, of(1, 5), most, nil)
			wantLack(t, of(1, 5), b, most, nil)
			wantLack(t, b, nil, most, nil)
			wantLack(t, nil, b, most, nil)
			wantLack(t, b, b, most, nil)
		}
	}
}

// Of all sets of few numbers, with each most.
func TestLackOfAllSets(t *testing.T) {
	const wide = 6
	set := func(bits int) []uint64 {
		l := []uint64{}
		for n := range uint64(wide) {
			if bits>>n&1 == 1 {
				l = append(l, n)
			}
		}
		return l
	}
	for a := range 1 << wide {
		for b := range 1 << wide {
			lack := set(b &^ a)
			for most := range wide + 2 {
				want := spans(lack[:min(most, len(lack))])
				wantLack(t, spans(set(a)), spans(set(b)), uint64(most), want)
			}
		}
	}
}

func TestLackChangesNothing(t *testing.T) {
	mine, theirs := of(1, 2, 12, 20, 77, 77), of(1, 5, 9, 9, 11, 14, 88, 88)
	a, b := mine[:2], theirs[:3] // what lies behind their lengths stays too
	l := mend.Lack(a, b, 4)
	for i := range l[:cap(l)] {
		l[:cap(l)][i] = api.Span{From: 5, To: 1}
	}
	if !slices.Equal(mine, of(1, 2, 12, 20, 77, 77)) || !slices.Equal(theirs, of(1, 5, 9, 9, 11, 14, 88, 88)) {
		t.Error(mine, theirs)
	}
	l = mend.Lack(nil, b, last) // all of theirs, in memory of its own
	for i := range l[:cap(l)] {
		l[:cap(l)][i] = api.Span{From: 5, To: 1}
	}
	if !slices.Equal(theirs, of(1, 5, 9, 9, 11, 14, 88, 88)) {
		t.Error(theirs)
	}
	l = mend.Lack(nil, b, last)
	b[0] = api.Span{From: 0, To: 3}
	if !slices.Equal(l, of(1, 5, 9, 9, 11, 14)) {
		t.Error(l)
	}
}

// P14.1: Digest

func TestDigest(t *testing.T) {
	for _, x := range []struct {
		low  uint64
		l    []uint64
		have []api.Span
	}{
		{0, nil, nil},
		{0, []uint64{1}, of(1, 1)},
		{0, []uint64{5}, of(5, 5)},
		{0, run(1, 64), of(1, 64)},
		{0, []uint64{1, 2, 4, 6}, of(1, 2, 4, 4, 6, 6)},
		{3, nil, of(1, 3)},
		{3, []uint64{4, 5, 9}, of(1, 5, 9, 9)},
		{3, []uint64{9, 7, 5}, of(1, 3, 5, 5, 7, 7, 9, 9)},
		{70, []uint64{134, 72, 73}, of(1, 70, 72, 73, 134, 134)},
	} {
		s := made(t, x.low, x.l...)
		for most := range len(x.have) + 3 {
			wantDigest(t, s, most, x.have[:min(most, len(x.have))])
		}
		for _, most := range []int{-1, -2, -64, math.MinInt} {
			wantDigest(t, s, most, nil)
		}
		for _, most := range []int{16, 1000, math.MaxInt} {
			wantDigest(t, s, most, x.have)
		}
	}
}

func TestDigestOfManyHoles(t *testing.T) {
	s := made(t, 1)
	want := of(1, 1)
	for n := uint64(3); n <= 65; n += 2 {
		if e := s.Put(n, say(n)); e != api.OK {
			t.Fatal(n, e)
		}
		want = append(want, api.Span{From: n, To: n})
	}
	for most := range len(want) + 2 {
		wantDigest(t, s, most, want[:min(most, len(want))])
	}
}

func TestDigestIsNew(t *testing.T) {
	s := made(t, 2, 3, 5, 7)
	for _, most := range []int{0, 1, 2, 3, 9} {
		a, b := mend.Digest(s, most), mend.Digest(s, most)
		want := slices.Clone(a)
		for i := range a[:cap(a)] {
			a[:cap(a)][i] = api.Span{From: 77, To: 1}
		}
		if !slices.Equal(b, want) {
			t.Error(most, b)
		}
		wantDigest(t, s, most, want)
		wantHave(t, s, 1, 3, 5, 5, 7, 7)
	}
}

// P14.2: Give

func TestGive(t *testing.T) {
	s := made(t, 3, 9, 4, 5, 8, 67) // 1 to 3 are gone
	all := pieces(4, 5, 8, 9, 67)
	for _, x := range []struct {
		want []api.Span
		l    []mend.Piece
	}{
		{nil, nil},
		{of(), nil},
		{of(0, 0), nil},
		{of(1, 1), nil},
		{of(1, 3), nil}, // gone
		{of(0, 3), nil},
		{of(3, 4), pieces(4)},
		{of(4, 4), pieces(4)},
		{of(5, 5), pieces(5)},
		{of(6, 6), nil}, // not there
		{of(6, 7), nil},
		{of(10, 66), nil},
		{of(68, 69), nil},
		{of(68, last-1), nil},
		{of(131, 131), nil}, // another number of 67's place
		{of(last-1, last-1), nil},
		{of(1<<63, last-1), nil},
		{of(5, 8), pieces(5, 8)},
		{of(9, 9), pieces(9)},
		{of(67, 67), pieces(67)},
		{of(67, last-1), pieces(67)},
		{of(66, 68), pieces(67)},
		{of(1, 1, 3, 3, 5, 5, 7, 7, 9, 9), pieces(5, 9)},
		{of(0, 2, 4, 4, 6, 8, 67, 67), pieces(4, 8, 67)},
		{of(4, 5, 8, 9, 67, 67), all},
		{of(1, 67), all},
		{of(0, 68), all},
		{of(0, last-1), all},
		{of(4, last-1), all},
		{of(5, last-1), pieces(5, 8, 9, 67)},
		{of(0, 6, 8, 8, 60, last-1), pieces(4, 5, 8, 67)},
	} {
		for most := range len(x.l) + 3 {
			wantGive(t, s, x.want, most, x.l[:min(most, len(x.l))])
		}
		for _, most := range []int{-1, -2, -64, math.MinInt} {
			wantGive(t, s, x.want, most, nil)
		}
		for _, most := range []int{6, 64, 1000, math.MaxInt} {
			wantGive(t, s, x.want, most, x.l)
		}
	}
	wantHave(t, s, 1, 5, 8, 9, 67, 67) // nothing was taken away
}

func TestGiveOfSpansThatMayNotBe(t *testing.T) {
	for _, s := range []*shelf.Shelf{{}, made(t, 0, run(1, 64)...), made(t, 2, 3, 4, 5, 7, 9)} {
		for _, b := range bad() {
			for _, most := range []int{-1, 0, 1, 9, math.MaxInt} {
				wantGive(t, s, b, most, nil)
			}
		}
	}
}

func TestGiveOfAnEmptyShelf(t *testing.T) {
	for _, s := range []*shelf.Shelf{{}, made(t, 5)} {
		for _, want := range [][]api.Span{nil, of(0, 0), of(1, 5), of(0, 64), of(0, last-1), of(6, 6)} {
			for _, most := range []int{-1, 0, 1, 64} {
				wantGive(t, s, want, most, nil)
			}
		}
	}
}

// A full shelf, however many numbers are gone below it.
func TestGiveOfAFullShelf(t *testing.T) {
	for _, low := range []uint64{0, 1, 63, 64, 1000} {
		s := made(t, low, run(low+1, low+64)...)
		all := pieces(run(low+1, low+64)...)
		for most := range 66 {
			wantGive(t, s, of(0, last-1), most, all[:min(most, 64)])
			wantGive(t, s, of(low+1, low+64), most, all[:min(most, 64)])
			wantGive(t, s, of(low+2, low+63), most, all[1:min(most+1, 63)])
			wantGive(t, s, of(low, low+1, low+64, low+65), most, slices.Concat(all[:1], all[63:])[:min(most, 2)])
		}
	}
}

// Each piece has the message as it was put, whatever that says of its number.
func TestGiveAsItWasPut(t *testing.T) {
	s := &shelf.Shelf{}
	l := []api.Msg{{}, {Sender: -1}, {Sender: math.MinInt}, {Num: last}, {Text: "\x00\xff\n"}, {Sender: 5, Num: 2, Text: "2"}, {Sender: 5, Num: 2, Text: "2"}, {Text: strings.Repeat("é", 32)}}
	want := []mend.Piece{}
	for i, m := range l {
		n := uint64(2*i + 1)
		if e := s.Put(n, m); e != api.OK {
			t.Fatal(n, e)
		}
		want = append(want, mend.Piece{N: n, M: m})
	}
	wantGive(t, s, of(0, last-1), 64, want)
	wantGive(t, s, of(2, 5), 64, want[1:3])
}

func TestGiveChangesNothing(t *testing.T) {
	s := made(t, 1, 2, 3, 5)
	want := of(1, 2, 4, 6, 88, 88)
	l := mend.Give(s, want[:2], 9)
	if !slices.Equal(l, pieces(2, 5)) || !slices.Equal(want, of(1, 2, 4, 6, 88, 88)) {
		t.Error(l, want)
	}
	for i := range l[:cap(l)] {
		l[:cap(l)][i] = mend.Piece{N: 77}
	}
	wantGive(t, s, want[:2], 9, pieces(2, 5))
	wantGet(t, s, 2, say(2), api.OK)
	wantHave(t, s, 1, 3, 5, 5)
}

// P14.3: Take

func TestTakeUpToMost(t *testing.T) {
	l := pieces(1, 5, 2, 9, 64, 3)
	for _, x := range []struct {
		most uint64
		n    int
		have []api.Span
	}{
		{0, 0, nil},
		{1, 1, of(1, 1)},
		{2, 2, of(1, 2)},
		{3, 3, of(1, 3)},
		{4, 3, of(1, 3)},
		{5, 4, of(1, 3, 5, 5)},
		{8, 4, of(1, 3, 5, 5)},
		{9, 5, of(1, 3, 5, 5, 9, 9)},
		{63, 5, of(1, 3, 5, 5, 9, 9)},
		{64, 6, of(1, 3, 5, 5, 9, 9, 64, 64)},
		{65, 6, of(1, 3, 5, 5, 9, 9, 64, 64)},
		{last, 6, of(1, 3, 5, 5, 9, 9, 64, 64)},
	} {
		s := &shelf.Shelf{}
		wantTake(t, s, l, x.most, x.n)
		if have := s.Have(); !slices.Equal(have, x.have) {
			t.Errorf("most %d: %v, want %v", x.most, have, x.have)
		}
		for _, p := range l {
			if p.N <= x.most {
				wantGet(t, s, p.N, p.M, api.OK)
			}
		}
		wantTake(t, s, l, x.most, 0) // they are there
	}
}

func TestTakeOfOne(t *testing.T) {
	long := api.Msg{Text: strings.Repeat("x", 65)}
	for _, x := range []struct {
		p    mend.Piece
		most uint64
		n    int
	}{
		{mend.Piece{N: 0, M: say(1)}, last, 0},
		{mend.Piece{N: 0, M: say(1)}, 0, 0},
		{mend.Piece{N: last, M: say(1)}, last, 0},
		{mend.Piece{N: last - 1, M: say(1)}, last, 0},
		{mend.Piece{N: 1, M: say(1)}, last, 0}, // gone
		{mend.Piece{N: 3, M: say(1)}, last, 0},
		{mend.Piece{N: 5, M: say(5)}, last, 0}, // there
		{mend.Piece{N: 5, M: say(1)}, last, 0},
		{mend.Piece{N: 4, M: long}, last, 0}, // too long a Text
		{mend.Piece{N: 4, M: say(64)}, last, 1},
		{mend.Piece{N: 4, M: api.Msg{}}, last, 1},
		{mend.Piece{N: 4, M: say(1)}, 4, 1},
		{mend.Piece{N: 4, M: say(1)}, 3, 0},
		{mend.Piece{N: 4, M: say(1)}, 5, 1},
		{mend.Piece{N: 67, M: say(1)}, 67, 1},
		{mend.Piece{N: 67, M: say(1)}, 66, 0},
		{mend.Piece{N: 67, M: say(1)}, last, 1},
		{mend.Piece{N: 68, M: say(1)}, 68, 0}, // too far
		{mend.Piece{N: 68, M: say(1)}, last, 0},
	} {
		s := made(t, 3, 5)
		wantTake(t, s, []mend.Piece{x.p}, x.most, x.n)
		if x.n == 1 {
			wantGet(t, s, x.p.N, x.p.M, api.OK)
			continue
		}
		wantHave(t, s, 1, 3, 5, 5)
		wantGet(t, s, 5, say(5), api.OK)
	}
}

func TestTakeOfNothing(t *testing.T) {
	s := made(t, 2, 4)
	wantTake(t, s, nil, last, 0)
	wantTake(t, s, []mend.Piece{}, last, 0)
	wantHave(t, s, 1, 2, 4, 4)
}

// The first one of a number is taken, and the next ones are second ones; one that
// is refused does not end it, and one that was not taken leaves the number free.
func TestTakeInOrder(t *testing.T) {
	s := &shelf.Shelf{}
	l := []mend.Piece{
		{N: 2, M: api.Msg{Text: strings.Repeat("x", 65)}},
		{N: 9, M: say(1)},
		{N: 2, M: say(2)},
		{N: 0, M: say(3)},
		{N: 2, M: say(4)},
		{N: 1, M: say(5)},
		{N: 99, M: say(6)},
		{N: 1, M: say(5)},
		{N: last, M: say(7)},
		{N: 4, M: say(8)},
	}
	wantTake(t, s, l, 8, 3)
	wantHave(t, s, 1, 2, 4, 4)
	wantGet(t, s, 1, say(5), api.OK)
	wantGet(t, s, 2, say(2), api.OK)
	wantGet(t, s, 4, say(8), api.OK)
	wantTake(t, s, l, 9, 1)
	wantGet(t, s, 9, say(1), api.OK)
	wantTake(t, s, l, last, 0)
}

func TestTakeOfMany(t *testing.T) {
	for _, low := range []uint64{0, 1, 40, 64} {
		s := made(t, low)
		l := pieces(run(1, low+100)...)
		slices.Reverse(l)
		wantTake(t, s, l, low+50, 50)
		wantTake(t, s, l, last, 14)
		wantTake(t, s, l, last, 0)
		wantHave(t, s, 1, low+64)
		for n := low + 1; n <= low+64; n++ {
			wantGet(t, s, n, say(n), api.OK)
		}
	}
}

func TestTakeKeepsNothing(t *testing.T) {
	s := &shelf.Shelf{}
	l := pieces(1, 3, 70, 88)
	wantTake(t, s, l[:3], last, 2)
	if !slices.Equal(l, pieces(1, 3, 70, 88)) {
		t.Error(l)
	}
	for i := range l {
		l[i] = mend.Piece{N: 9, M: api.Msg{Text: "9"}}
	}
	wantGet(t, s, 1, say(1), api.OK)
	wantGet(t, s, 3, say(3), api.OK)
	wantHave(t, s, 1, 1, 3, 3)
}

// P14.4: Stable

func TestStable(t *testing.T) {
	reach := map[int]uint64{0: 9, 1: 4, 2: 0, 5: 1, 63: last, 62: last, 61: last - 1, -1: 3, 64: 2, 65: 1, math.MinInt: 1, math.MaxInt: 1}
	for _, x := range []struct {
		band, n uint64
	}{
		{0, 0},
		{1, 9},
		{2, 4},
		{3, 4},
		{4, 0}, // a number that is 0
		{7, 0},
		{8, 0}, // one that is not in the map
		{9, 0},
		{1 << 5, 1},
		{1<<5 | 3, 1},
		{1<<5 | 11, 0},
		{1 << 63, last},
		{3 << 62, last},
		{7 << 61, last - 1},
		{7<<61 | 1, 9},
		{7<<61 | 3, 4},
		{15 << 60, 0},
		{last, 0},
	} {
		wantStable(t, x.band, reach, x.n)
	}
}

func TestStableOfNoMap(t *testing.T) {
	for _, band := range []uint64{0, 1, 2, 3, 1 << 63, last} {
		wantStable(t, band, nil, 0)
		wantStable(t, band, map[int]uint64{}, 0)
		wantStable(t, band, map[int]uint64{-1: 5, 64: 5}, 0)
	}
	wantStable(t, 0, map[int]uint64{0: 5, 1: 5}, 0)
}

// All nodes: each of them can be the least one, or the one that is missing.
func TestStableOfAll(t *testing.T) {
	reach := map[int]uint64{}
	for n := range 64 {
		reach[n] = 100 + uint64(n)
	}
	wantStable(t, last, reach, 100)
	for n := range 64 {
		less := maps.Clone(reach)
		less[n] = 7
		wantStable(t, last, less, 7)
		wantStable(t, 1<<n, less, 7)
		delete(less, n)
		wantStable(t, last, less, 0)
		wantStable(t, 1<<n, less, 0)
		if n > 0 {
			wantStable(t, last&^(1<<n), less, 100)
		}
	}
}

func TestStableOfAnyBands(t *testing.T) {
	r := chance()
	for range 2000 {
		reach := map[int]uint64{}
		for n := range 64 {
			if r.Intn(20) > 0 {
				reach[n] = uint64(r.Intn(50)) + 1
			}
		}
		band := r.Uint64() & r.Uint64() & r.Uint64()
		want := last
		for n := range 64 {
			if band>>n&1 == 1 {
				want = min(want, reach[n])
			}
		}
		if band == 0 {
			want = 0
		}
		before := maps.Clone(reach)
		wantStable(t, band, reach, want)
		if !maps.Equal(reach, before) {
			t.Fatal(reach, before)
		}
	}
}

// P14.5: what follows

// mended mends a by b, till nothing more comes of it: a asks for all that it lacks
// (some of which is gone at b), b gives at most few of it at once, and a takes it.
func mended(t *testing.T, a, b *shelf.Shelf, few int) {
	t.Helper()
	for range 100 {
		lack := mend.Lack(mend.Digest(a, 64), mend.Digest(b, 64), last)
		if mend.Take(a, mend.Give(b, lack, few), last) == 0 {
			return
		}
	}
	t.Error("it goes on without an end")
}

// there tells the numbers that the shelf gets.
func there(s *shelf.Shelf) []uint64 {
	l := []uint64{}
	for n := s.Low() + 1; n <= s.Low()+64; n++ {
		if _, e := s.Get(n); e == api.OK {
			l = append(l, n)
		}
	}
	return l
}

func TestTwoAreMended(t *testing.T) {
	for _, x := range []struct {
		a, b []uint64
		all  []uint64
	}{
		{nil, nil, nil},
		{run(1, 5), nil, run(1, 5)},
		{nil, run(1, 64), run(1, 64)},
		{run(1, 5), run(3, 9), run(1, 9)},
		{[]uint64{1, 3, 5}, []uint64{2, 4, 64}, []uint64{1, 2, 3, 4, 5, 64}},
		{[]uint64{7}, []uint64{7}, []uint64{7}},
	} {
		for _, few := range []int{1, 2, 6, 64} {
			a, b := made(t, 0, x.a...), made(t, 0, x.b...)
			mended(t, a, b, few)
			mended(t, b, a, few)
			for _, s := range []*shelf.Shelf{a, b} {
				if l := there(s); !slices.Equal(l, x.all) {
					t.Errorf("%v, %v: %v, want %v", x.a, x.b, l, x.all)
				}
				wantGive(t, s, of(0, last-1), 64, pieces(x.all...))
			}
		}
	}
}

// Two that were trimmed to different lows: each gets what the other one still has,
// as far as it has room.
func TestTwoOfDifferentLows(t *testing.T) {
	a, b := made(t, 2, 3, 4, 6), made(t, 10, 11, 13, 66, 67, 74)
	mended(t, a, b, 3)
	mended(t, b, a, 3)
	wantHave(t, a, 1, 4, 6, 6, 11, 11, 13, 13, 66, 66) // 67 is too far above 2, and 7 to 10 are gone
	wantHave(t, b, 1, 11, 13, 13, 66, 67, 74, 74)
}

func TestAnyTwoAreMended(t *testing.T) {
	r := chance()
	for i := range 600 {
		lows := [2]uint64{uint64(r.Intn(70)), uint64(r.Intn(70))}
		var two [2]*shelf.Shelf
		var had [2][]uint64
		for k := range two {
			two[k] = made(t, lows[k])
			for n := lows[k] + 1; n <= lows[k]+64; n++ {
				if r.Intn(3) == 0 {
					two[k].Put(n, say(n))
					had[k] = append(had[k], n)
				}
			}
		}
		few := 1 + r.Intn(70)
		mended(t, two[0], two[1], few)
		mended(t, two[1], two[0], few)
		for k := range two {
			want := []uint64{}
			for n := lows[k] + 1; n <= lows[k]+64; n++ {
				if slices.Contains(had[0], n) || slices.Contains(had[1], n) {
					want = append(want, n)
				}
			}
			if l := there(two[k]); !slices.Equal(l, want) {
				t.Fatalf("%d: %s: %v, want %v", i, fmt.Sprint(lows, had, few), l, want)
			}
			wantGive(t, two[k], of(0, last-1), 64, pieces(want...))
		}
	}
}

func TestMendingAlongATrim(t *testing.T) {
	a, b := made(t, 0), made(t, 0)
	for n := uint64(1); n <= 300; n++ {
		to, from := a, b
		if n%3 == 0 {
			to, from = b, a
		}
		if e := to.Put(n, say(n)); e != api.OK {
			t.Fatal(n, e)
		}
		if n%5 == 0 {
			mended(t, a, b, 6)
			mended(t, b, a, 6)
			stable := mend.Stable(3, map[int]uint64{0: a.Reach(), 1: b.Reach()})
			if stable != n || to.Trim(stable) != api.OK || from.Trim(stable) != api.OK {
				t.Fatal(n, stable)
			}
		}
	}
	if a.Low() != 300 || b.Low() != 300 {
		t.Error(a.Low(), b.Low())
	}
}
