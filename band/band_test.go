package band_test

import (
	"math"
	"math/rand"
	"slices"
	"testing"

	"conventicle/band"
)

const all = ^uint64(0)

// noNodes are numbers that are no node's.
func noNodes() []int {
	return []int{math.MinInt, math.MinInt + 1, -65, -64, -63, -2, -1, 64, 65, 127, 128, 1 << 32, math.MaxInt - 1, math.MaxInt}
}

// numbers are all nodes, and numbers that are no node's.
func numbers() []int { return append(noNodes(), everyNode()...) }

func everyNode() []int {
	l := make([]int, 64)
	for n := range l {
		l[n] = n
	}
	return l
}

// chance answers numbers that are the same in each run.
func chance() *rand.Rand { return rand.New(rand.NewSource(5)) }

// bands are none, all, each node alone, all but each, and some by chance, of few
// nodes and of many.
func bands() []uint64 {
	l := []uint64{0, all, 5, 0x5555555555555555, 0xAAAAAAAAAAAAAAAA, 0xFFFFFFFF, 0xFFFFFFFF00000000}
	for n := range 64 {
		l = append(l, 1<<n, ^(uint64(1) << n))
	}
	r := chance()
	for range 100 {
		x, y := r.Uint64(), r.Uint64()
		l = append(l, x, x&y, x&y&r.Uint64(), x|y)
	}
	return l
}

// listed tells the nodes of b by its bits, one by one, as the chapter says what a
// band has.
func listed(b uint64) []int {
	l := []int{}
	for n := range 64 {
		if b/(1<<n)%2 == 1 {
			l = append(l, n)
		}
	}
	return l
}

func wantBand(t *testing.T, got, want uint64, of ...any) {
	t.Helper()
	if got != want {
		t.Errorf("of %v: %x, want %x", of, got, want)
	}
}

// P5.1: Of, List, Has, With, Less, Many

func TestOf(t *testing.T) {
	for _, x := range []struct {
		l    []int
		want uint64
	}{
		{nil, 0},
		{[]int{}, 0},
		{[]int{0}, 1},
		{[]int{63}, 1 << 63},
		{[]int{0, 2}, 5},
		{[]int{2, 0}, 5},
		{[]int{2, 0, 2, 2}, 5},
		{[]int{-1}, 0},
		{[]int{64}, 0},
		{[]int{-1, 3, 64, 4, 65}, 24},
		{noNodes(), 0},
		{everyNode(), all},
		{append(everyNode(), everyNode()...), all},
	} {
		wantBand(t, band.Of(x.l), x.want, x.l)
	}
}

func TestOfNeitherChangesNorKeeps(t *testing.T) {
	row := []int{3, -1, 3, 64, 0, 7, 8}
	l := row[:5]
	wantBand(t, band.Of(l), 9, l)
	if !slices.Equal(row, []int{3, -1, 3, 64, 0, 7, 8}) {
		t.Errorf("the list is now %v", row)
	}
}

func TestOfLongList(t *testing.T) {
	r := chance()
	for range 50 {
		var want uint64
		l := make([]int, 500)
		for i := range l {
			l[i] = r.Intn(200) - 70
			if l[i] >= 0 && l[i] <= 63 && l[i]%3 == 0 {
				l[i] = 64 + l[i] // so some nodes are left out
			}
			if l[i] >= 0 && l[i] <= 63 {
				want |= 1 << l[i]
			}
		}
		wantBand(t, band.Of(l), want, l)
	}
}

func TestList(t *testing.T) {
	for _, x := range []struct {
		b    uint64
		want []int
	}{
		{0, nil},
		{1, []int{0}},
		{5, []int{0, 2}},
		{1 << 63, []int{63}},
		{1<<63 | 5, []int{0, 2, 63}},
		{all, everyNode()},
	} {
		if got := band.List(x.b); !slices.Equal(got, x.want) {
			t.Errorf("List(%x): %v, want %v", x.b, got, x.want)
		}
	}
}

func TestListAndOf(t *testing.T) {
	for _, b := range bands() {
		l := band.List(b)
		if !slices.Equal(l, listed(b)) {
			t.Errorf("List(%x): %v, want %v", b, l, listed(b))
		}
		wantBand(t, band.Of(l), b, l)
	}
}

func TestListIsNew(t *testing.T) {
	l, m := band.List(5), band.List(5)
	l[0], l[1] = 8, 9
	if !slices.Equal(m, []int{0, 2}) || !slices.Equal(band.List(5), []int{0, 2}) {
		t.Error("a list that is changed changes another one")
	}
}

func TestHasWithLess(t *testing.T) {
	for _, b := range bands() {
		l := listed(b)
		for n := range 64 {
			has := slices.Contains(l, n)
			if band.Has(b, n) != has {
				t.Errorf("Has(%x, %d): %v", b, n, !has)
			}
			with, less := b, b
			if has {
				less = b - 1<<n
			} else {
				with = b + 1<<n
			}
			wantBand(t, band.With(b, n), with, "With", b, n)
			wantBand(t, band.Less(b, n), less, "Less", b, n)
		}
	}
}

func TestHasWithLessAtEnds(t *testing.T) {
	if !band.Has(1, 0) || band.Has(all-1, 0) || !band.Has(1<<63, 63) || band.Has(all>>1, 63) {
		t.Error("Has, at 0 and at 63")
	}
	wantBand(t, band.With(0, 0), 1, "With", 0)
	wantBand(t, band.With(1, 0), 1, "With", 0)
	wantBand(t, band.With(0, 63), 1<<63, "With", 63)
	wantBand(t, band.With(1<<63, 63), 1<<63, "With", 63)
	wantBand(t, band.Less(all, 0), all-1, "Less", 0)
	wantBand(t, band.Less(all-1, 0), all-1, "Less", 0)
	wantBand(t, band.Less(all, 63), all>>1, "Less", 63)
	wantBand(t, band.Less(all>>1, 63), all>>1, "Less", 63)
}

func TestHasWithLessOfNoNode(t *testing.T) {
	for _, b := range bands() {
		for _, n := range noNodes() {
			if band.Has(b, n) {
				t.Errorf("Has(%x, %d)", b, n)
			}
			wantBand(t, band.With(b, n), b, "With", n)
			wantBand(t, band.Less(b, n), b, "Less", n)
		}
	}
}

func TestMany(t *testing.T) {
	for _, b := range bands() {
		if got := band.Many(b); got != len(listed(b)) {
			t.Errorf("Many(%x): %d", b, got)
		}
	}
	if band.Many(0) != 0 || band.Many(all) != 64 || band.Many(1<<63|5) != 3 {
		t.Error("Many")
	}
}

// P5.2: First, Next

func TestFirst(t *testing.T) {
	for _, b := range bands() {
		want, is := 0, false
		if l := listed(b); len(l) > 0 {
			want, is = l[0], true
		}
		if got, ok := band.First(b); got != want || ok != is {
			t.Errorf("First(%x): %d, %v, want %d, %v", b, got, ok, want, is)
		}
	}
}

func TestNext(t *testing.T) {
	for _, x := range []struct {
		b    uint64
		n    int
		want int
		is   bool
	}{
		{0, 3, 0, false},
		{0, -1, 0, false},
		{0, 64, 0, false},
		{8, 2, 3, true},
		{8, 3, 3, true},
		{8, 4, 3, true},
		{8, -1, 3, true},
		{8, 64, 3, true},
		{1, 0, 0, true},
		{1 << 63, 63, 63, true},
		{1<<63 | 5, -9, 0, true},
		{1<<63 | 5, -1, 0, true},
		{1<<63 | 5, 0, 2, true},
		{1<<63 | 5, 1, 2, true},
		{1<<63 | 5, 2, 63, true},
		{1<<63 | 5, 62, 63, true},
		{1<<63 | 5, 63, 0, true},
		{1<<63 | 5, 99, 0, true},
		{20, 4, 2, true},
		{20, 60, 2, true},
		{20, math.MinInt, 2, true},
		{20, math.MaxInt, 2, true},
	} {
		if got, is := band.Next(x.b, x.n); got != x.want || is != x.is {
			t.Errorf("Next(%x, %d): %d, %v, want %d, %v", x.b, x.n, got, is, x.want, x.is)
		}
	}
}

func TestNextOfAnyBand(t *testing.T) {
	for _, b := range bands() {
		l := listed(b)
		for _, n := range numbers() {
			want, is := 0, len(l) > 0
			if is {
				want = l[0]
			}
			if i := slices.IndexFunc(l, func(k int) bool { return k > n }); i >= 0 {
				want = l[i]
			}
			if got, ok := band.Next(b, n); got != want || ok != is {
				t.Errorf("Next(%x, %d): %d, %v, want %d, %v", b, n, got, ok, want, is)
			}
		}
	}
}

func TestNextGoesRound(t *testing.T) {
	for _, b := range bands() {
		var l []int
		n := 63
		for range band.Many(b) {
			n, _ = band.Next(b, n)
			l = append(l, n)
		}
		if !slices.Equal(l, listed(b)) {
			t.Errorf("round %x: %v", b, l)
		}
	}
}

// P5.3: Major, Place

func TestMajor(t *testing.T) {
	for _, x := range []struct {
		b, of uint64
		want  bool
	}{
		{0, 0, false},
		{all, 0, false},
		{0, 1, false},
		{1, 1, true},
		{2, 1, false},
		{1, 3, false},
		{3, 3, true},
		{1, 7, false},
		{3, 7, true},
		{3, 15, false},
		{7, 15, true},
		{0xF0, 0xF, false},
		{0xF3, 0xF, false},
		{0xF7, 0xF, true},
		{0xFFFFFFFF00000000, 0xFFFFFFFF, false},
		{all >> 32, all, false},
		{all >> 31, all, true},
		{0xFFFFFFFF00000000, all, false},
		{0xFFFFFFFF80000000, all, true},
		{all, all, true},
		{all, 1 << 63, true},
		{0, all, false},
	} {
		if got := band.Major(x.b, x.of); got != x.want {
			t.Errorf("Major(%x, %x): %v", x.b, x.of, got)
		}
	}
}

func TestMajorOfAnyBands(t *testing.T) {
	l := bands()
	for _, of := range l {
		ours := listed(of)
		for _, b := range l {
			both := 0
			for _, n := range ours {
				both += int(b >> n & 1)
			}
			if got := band.Major(b, of); got != (both > len(ours)-both) {
				t.Fatalf("Major(%x, %x): %v", b, of, got)
			}
		}
	}
}

// TestMajorAtHalf asks of each number of nodes: half of them, rounded down, are
// no majority, and one more are one, whatever else b has.
func TestMajorAtHalf(t *testing.T) {
	r := chance()
	for many := 1; many <= 64; many++ {
		row := r.Perm(64)
		of, others := band.Of(row[:many]), band.Of(row[many:])
		half := band.Of(row[:many/2])
		if band.Major(half, of) || band.Major(half|others, of) {
			t.Errorf("%d of %d", many/2, many)
		}
		more := band.Of(row[:many/2+1])
		if !band.Major(more, of) || !band.Major(more|others, of) {
			t.Errorf("%d of %d", many/2+1, many)
		}
	}
}

func TestPlace(t *testing.T) {
	const b = 1<<63 | 5
	for _, x := range []struct {
		b       uint64
		n, want int
	}{
		{b, -1, 0}, {b, 0, 0}, {b, 1, 1}, {b, 2, 1}, {b, 3, 2}, {b, 62, 2}, {b, 63, 2}, {b, 64, 3}, {b, 999, 3},
		{b, math.MinInt, 0}, {b, math.MaxInt, 3},
		{0, -1, 0}, {0, 0, 0}, {0, 63, 0}, {0, 64, 0},
		{all, -1, 0}, {all, 0, 0}, {all, 1, 1}, {all, 63, 63}, {all, 64, 64}, {all, 65, 64},
	} {
		if got := band.Place(x.b, x.n); got != x.want {
			t.Errorf("Place(%x, %d): %d, want %d", x.b, x.n, got, x.want)
		}
	}
}

func TestPlaceOfAnyBand(t *testing.T) {
	for _, b := range bands() {
		l := listed(b)
		for _, n := range numbers() {
			want := 0
			for _, k := range l {
				if k < n {
					want++
				}
			}
			if got := band.Place(b, n); got != want {
				t.Errorf("Place(%x, %d): %d, want %d", b, n, got, want)
			}
		}
		for i, n := range l {
			if got := band.Place(b, n); got != i {
				t.Errorf("Place(%x, %d): %d, want %d", b, n, got, i)
			}
		}
	}
}

// P5.4: two majorities of one band have a node that both have

func TestTwoMajoritiesMeet(t *testing.T) {
	const most = 6 // so that all bands of so many nodes are gone through
	for of := range uint64(1 << most) {
		for a := range uint64(1 << most) {
			for b := range uint64(1 << most) {
				if band.Major(a, of) && band.Major(b, of) && a&b&of == 0 {
					t.Fatalf("%x and %x are majorities of %x", a, b, of)
				}
			}
		}
	}
}

func TestTwoMajoritiesMeetInGreatBands(t *testing.T) {
	r := chance()
	for range 3000 {
		many := 1 + r.Intn(64)
		of := band.Of(r.Perm(64)[:many])
		a, b := someMajority(r, of), someMajority(r, of)
		if !band.Major(a, of) || !band.Major(b, of) {
			t.Fatalf("%x or %x is no majority of %x", a, b, of)
		}
		if a&b&of == 0 {
			t.Fatalf("%x and %x of %x have none in common", a, b, of)
		}
		if rest := of &^ a; band.Major(rest, of) {
			t.Fatalf("%x and what it leaves of %x are both majorities", a, of)
		}
	}
}

// someMajority tells the least majority of of, of nodes by chance.
func someMajority(r *rand.Rand, of uint64) uint64 {
	l := band.List(of)
	r.Shuffle(len(l), func(i, k int) { l[i], l[k] = l[k], l[i] })
	return band.Of(l[:len(l)/2+1])
}
