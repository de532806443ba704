package guard_test

import (
	"encoding/binary"
	"hash/crc32"
	"math"
	"math/rand"
	"strings"
	"testing"

	"conventicle/api"
	"conventicle/guard"
)

// stepped steps x so often, word for word as the document says it.
func stepped(x uint32, many int) uint32 {
	for range many {
		lowest := x & 1
		x >>= 1
		if lowest == 1 {
			x ^= 0x82F63B78
		}
	}
	return x
}

func plainSum(s string) uint32 {
	x := uint32(math.MaxUint32)
	for i := range len(s) {
		x = stepped(x^uint32(s[i]), 8)
	}
	return x ^ math.MaxUint32
}

// chance answers numbers that are the same in each run.
func chance() *rand.Rand { return rand.New(rand.NewSource(2)) }

func someText(r *rand.Rand, length int) string {
	b := make([]byte, length)
	r.Read(b)
	return string(b)
}

// someTexts are of each length that is near an edge, and some that are long.
func someTexts() []string {
	r := chance()
	texts := []string{"a", "abc", "123456789", "\x00", "\xff", "\x80", "grüße"}
	for length := range 70 {
		texts = append(texts, someText(r, length), strings.Repeat("\x00", length), strings.Repeat("\xff", length))
	}
	return append(texts, someText(r, 255), someText(r, 256), someText(r, 257), someText(r, 5000))
}

// P2.1: Sum.

func TestSumExamples(t *testing.T) {
	for _, c := range []struct {
		s    string
		want uint32
	}{
		{"123456789", 0xE3069283},
		{"", 0},
		{"a", 0xC1D04330},
		{strings.Repeat("\x00", 32), 0x8A9136AA},
		{strings.Repeat("\xff", 32), 0x62A8AB43},
	} {
		if got := guard.Sum(c.s); got != c.want {
			t.Errorf("Sum(%q) = %08X, want %08X", c.s, got, c.want)
		}
	}
}

func TestSumIsWhatTheStepsMake(t *testing.T) {
	for _, s := range someTexts() {
		if got, want := guard.Sum(s), plainSum(s); got != want {
			t.Errorf("Sum of %d bytes = %08X, want %08X", len(s), got, want)
		}
	}
}

func TestSumIsTheLibrarys(t *testing.T) {
	table := crc32.MakeTable(crc32.Castagnoli)
	for _, s := range someTexts() {
		if got, want := guard.Sum(s), crc32.Checksum([]byte(s), table); got != want {
			t.Errorf("Sum of %d bytes = %08X, want %08X", len(s), got, want)
		}
	}
}

func TestSumOfEachByte(t *testing.T) {
	for b := range 256 {
		for _, s := range []string{string([]byte{byte(b)}), string([]byte{1, byte(b), 2})} {
			if got, want := guard.Sum(s), plainSum(s); got != want {
				t.Errorf("Sum(%q) = %08X, want %08X", s, got, want)
			}
		}
	}
}

// P2.2: Seal, Open.

func TestSeal(t *testing.T) {
	for s, want := range map[string]string{
		"123456789": "123456789\x83\x92\x06\xe3",
		"":          "\x00\x00\x00\x00",
		"a":         "a\x30\x43\xd0\xc1",
	} {
		if got := guard.Seal(s); got != want {
			t.Errorf("Seal(%q) = %q, want %q", s, got, want)
		}
	}
	for _, s := range someTexts() {
		want := string(binary.LittleEndian.AppendUint32([]byte(s), plainSum(s)))
		if got := guard.Seal(s); got != want {
			t.Errorf("Seal of %d bytes = %q, want %q", len(s), got, want)
		}
	}
}

// wantOpen holds what Open answers against what it should.
func wantOpen(t *testing.T, s, want string, wantErr api.Errno) {
	t.Helper()
	if got, e := guard.Open(s); got != want || e != wantErr {
		t.Errorf("Open(%q) = %q, %d, want %q, %d", s, got, e, want, wantErr)
	}
}

func TestOpen(t *testing.T) {
	wantOpen(t, "123456789\x83\x92\x06\xe3", "123456789", api.OK)
	wantOpen(t, "a\x30\x43\xd0\xc1", "a", api.OK)
	wantOpen(t, "\x00\x00\x00\x00", "", api.OK)
}

func TestOpenTooShort(t *testing.T) {
	for _, s := range []string{"", "\x00", "\x00\x00", "\x00\x00\x00", "a", "ab", "abc", "\xff\xff\xff"} {
		wantOpen(t, s, "", api.ErrShort)
	}
}

func TestOpenSumThatDoesNotHold(t *testing.T) {
	for _, s := range []string{
		"\x00\x00\x00\x01", "\x01\x00\x00\x00", "\xff\xff\xff\xff", "abcd", // just a sum, of nothing
		"\x00\x00\x00\x00\x00",
		"123456789\xe3\x06\x92\x83", // the highest byte first
		"123456789\x83\x92\x06\xe2",
		"023456789\x83\x92\x06\xe3",
		"\x83\x92\x06\xe3123456789", // the sum ahead
		"123456789\x83\x92\x06",     // a byte is gone
		"123456789\x83\x92\x06\xe3\x00",
		"23456789\x83\x92\x06\xe3",
		"123456789",
	} {
		wantOpen(t, s, "", api.ErrSum)
	}
}

// TestOpenEachPartOfTheSum: none of the four bytes is left unlooked at.
func TestOpenEachPartOfTheSum(t *testing.T) {
	sealed := guard.Seal("some words")
	for i := len(sealed) - 4; i < len(sealed); i++ {
		for turned := 1; turned < 256; turned++ {
			b := []byte(sealed)
			b[i] ^= byte(turned)
			wantOpen(t, string(b), "", api.ErrSum)
		}
	}
}

// P2.3: Join.

func TestJoinOfTexts(t *testing.T) {
	r := chance()
	for length := range 40 {
		s := someText(r, length)
		for n := range length + 1 {
			a, b := s[:length-n], s[length-n:]
			if got, want := guard.Join(guard.Sum(a), guard.Sum(b), n), guard.Sum(s); got != want {
				t.Errorf("Join of %d and %d bytes = %08X, want %08X", len(a), n, got, want)
			}
		}
	}
	a, b := someText(r, 3000), someText(r, 4097)
	if got, want := guard.Join(guard.Sum(a), guard.Sum(b), len(b)), guard.Sum(a+b); got != want {
		t.Errorf("Join of long texts = %08X, want %08X", got, want)
	}
}

func someSums() []uint32 {
	r := chance()
	sums := []uint32{0, 1, 5, 9, 1 << 31, math.MaxUint32, 0x82F63B78, 0xE3069283}
	for range 8 {
		sums = append(sums, r.Uint32())
	}
	return sums
}

// wantJoin holds Join of a and each sum against what a is stepped to.
func wantJoin(t *testing.T, a uint32, n int, to uint32) {
	t.Helper()
	for _, b := range someSums() {
		if got := guard.Join(a, b, n); got != to^b {
			t.Errorf("Join(%08X, %08X, %d) = %08X, want %08X", a, b, n, got, to^b)
		}
	}
}

func TestJoinIsWhatTheStepsMake(t *testing.T) {
	for _, a := range someSums() {
		for n := range 40 {
			wantJoin(t, a, n, stepped(a, 8*n))
		}
		for _, n := range []int{63, 64, 65, 255, 256, 257, 1000, 65535, 65536} {
			wantJoin(t, a, n, stepped(a, 8*n))
		}
	}
}

func TestJoinEachBit(t *testing.T) {
	for i := range 32 {
		for n := range 6 {
			wantJoin(t, 1<<i, n, stepped(1<<i, 8*n))
		}
	}
}

func TestJoinNothing(t *testing.T) {
	for _, a := range someSums() {
		for _, n := range []int{0, -1, -2, -4, -8, -1 << 31, -1 << 40, math.MinInt + 1, math.MinInt} {
			wantJoin(t, a, n, a)
		}
	}
}

// TestJoinGreat: so many steps as 2^31 - 1 come round to where they began, so
// that 2^k bytes are as 2^(k mod 31), and 2^63 - 1 are as one.
func TestJoinGreat(t *testing.T) {
	const round = 1<<31 - 1
	for _, a := range someSums() {
		for _, c := range []struct{ n, alike int }{
			{round, 0}, {round + 1, 1}, {2*round + 3, 3},
			{1 << 31, 1}, {1 << 32, 2}, {1 << 33, 4}, {1 << 40, 1 << 9}, {1 << 60, 1 << 29},
			{1 << 61, 1 << 30}, {1 << 62, 1}, {math.MaxInt, 1}, {math.MaxInt - 1, 0}, {math.MaxInt - round, 1},
		} {
			wantJoin(t, a, c.n, guard.Join(a, 0, c.alike))
		}
	}
	wantJoin(t, 1, 1<<22, stepped(1, 8<<22))
}

func TestJoinOneBehindTheOther(t *testing.T) {
	r := chance()
	for range 200 {
		a, n, m := r.Uint32(), r.Intn(math.MaxInt/2), r.Intn(math.MaxInt/2)
		wantJoin(t, a, n+m, guard.Join(guard.Join(a, 0, n), 0, m))
	}
}

// P2.4: what follows.

func TestSealedIsOpened(t *testing.T) {
	for _, s := range someTexts() {
		wantOpen(t, guard.Seal(s), s, api.OK)
		wantOpen(t, guard.Seal(guard.Seal(s)), guard.Seal(s), api.OK)
	}
}

// turned turns bits of s, from a place on: those of the pattern that are 1.
func turned(s string, place int, pattern uint32) string {
	b := []byte(s)
	for i := range 32 {
		if pattern>>i&1 == 1 {
			b[(place+i)/8] ^= 1 << ((place + i) % 8)
		}
	}
	return string(b)
}

func TestOneBitTurned(t *testing.T) {
	for _, s := range someTexts() {
		if len(s) > 300 {
			continue
		}
		sealed := guard.Seal(s)
		for place := range 8 * len(sealed) {
			wantOpen(t, turned(sealed, place, 1), "", api.ErrSum)
		}
	}
}

func TestTwoBitsTurnedNear(t *testing.T) {
	sealed := guard.Seal("some words, and more of them")
	for place := range 8 * len(sealed) {
		for apart := 1; apart < 32 && place+apart < 8*len(sealed); apart++ {
			wantOpen(t, turned(sealed, place, 1|1<<apart), "", api.ErrSum)
		}
	}
}

func TestBitsTurnedNear(t *testing.T) {
	r := chance()
	for _, length := range []int{0, 1, 4, 9, 30, 64} {
		sealed := guard.Seal(someText(r, length))
		last := 8*len(sealed) - 32
		for place := range last + 1 {
			wantOpen(t, turned(sealed, place, math.MaxUint32), "", api.ErrSum)
			wantOpen(t, turned(sealed, place, 0x82F63B78), "", api.ErrSum)
			for range 20 {
				// the lowest bit is 1, so that each place is begun at
				wantOpen(t, turned(sealed, place, r.Uint32()|1), "", api.ErrSum)
			}
		}
	}
}

// R5: nothing is kept from call to call.

func TestSameAnswerAgain(t *testing.T) {
	texts := someTexts()
	first := make([]uint32, len(texts))
	for i, s := range texts {
		first[i] = guard.Sum(s)
		guard.Join(first[i], 7, len(s))
		guard.Open(s)
	}
	for i, s := range texts {
		if got := guard.Sum(s); got != first[i] {
			t.Errorf("Sum of %d bytes = %08X, and %08X ahead of that", len(s), got, first[i])
		}
	}
}
