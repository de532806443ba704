package letter_test

import (
	"encoding/binary"
	"fmt"
	"hash/crc32"
	"math"
	"math/rand"
	"slices"
	"strings"
	"testing"

	"conventicle/api"
	"conventicle/letter"
)

const last = uint64(math.MaxUint64)

func chance() *rand.Rand { return rand.New(rand.NewSource(15)) }

// sealed tells s with its sum, by the library's own.
func sealed(s string) string {
	sum := crc32.Checksum([]byte(s), crc32.MakeTable(crc32.Castagnoli))
	return s + string(binary.LittleEndian.AppendUint32(nil, sum))
}

// field is one of a letter's bytes: its name, how wide it is, and what stands there.
type field struct {
	name  string
	width int
	n     uint64
	text  string
}

// fields tells what a letter is written as, in the document's order.
func fields(l letter.Letter) []field {
	var fs []field
	put := func(name string, width int, n uint64) { fs = append(fs, field{name: name, width: width, n: n}) }
	put("Kind", 1, uint64(l.Kind))
	put("From", 1, uint64(l.From))
	put("To", 1, uint64(l.To))
	put("Seq", 8, l.Seq)
	put("For", 1, uint64(l.For))
	put("many News", 1, uint64(len(l.News)))
	for _, u := range l.News {
		put("Node", 1, uint64(u.Node))
		put("Inc", 8, u.Inc)
		put("State", 1, uint64(u.State))
	}
	put("View.Id", 8, l.View.Id)
	put("View.Members", 8, l.View.Members)
	put("Ballot", 8, l.Ballot)
	put("Old", 8, l.Old)
	put("Next.Id", 8, l.Next.Id)
	put("Next.Members", 8, l.Next.Members)
	put("Cut", 8, l.Cut)
	put("many Pieces", 1, uint64(len(l.Pieces)))
	for _, p := range l.Pieces {
		put("N", 8, p.N)
		put("Sender", 1, uint64(p.M.Sender))
		put("Num", 8, p.M.Num)
		put("length", 2, uint64(len(p.M.Text)))
		fs = append(fs, field{name: "Text", width: len(p.M.Text), text: p.M.Text})
	}
	put("many Spans", 1, uint64(len(l.Spans)))
	for _, s := range l.Spans {
		put("From of a span", 8, s.From)
		put("To of a span", 8, s.To)
	}
	put("Load", 8, math.Float64bits(l.Load))
	return fs
}

// plain tells the bytes of fields.
func plain(fs []field) string {
	var b []byte
	for _, f := range fs {
		if f.text != "" {
			b = append(b, f.text...)
			continue
		}
		for i := range f.width {
			b = append(b, byte(f.n>>(8*i)))
		}
	}
	return string(b)
}

// with tells the bytes of l, but n in the i-th one (from 0 on) of the fields of
// this name.
func with(t *testing.T, l letter.Letter, name string, i int, n uint64) string {
	t.Helper()
	fs := fields(l)
	for k := range fs {
		if fs[k].name != name {
			continue
		}
		if i == 0 {
			fs[k].n = n
			return plain(fs)
		}
		i--
	}
	t.Fatalf("there is no field %s", name)
	return ""
}

func news(many int) []api.Update {
	l := []api.Update{}
	for i := range many {
		l = append(l, api.Update{Node: 63 - i, Inc: last - uint64(i), State: i % 4})
	}
	return l
}

func pieces(many int) []letter.Piece {
	l := []letter.Piece{}
	for i := range many {
		m := api.Msg{Sender: 63 - i, Num: last - uint64(2*i), Text: strings.Repeat(string(rune('a'+i)), 64-i)}
		l = append(l, letter.Piece{N: last - uint64(i), M: m})
	}
	return l
}

func spans(many int) []api.Span {
	l := []api.Span{}
	for i := range many {
		l = append(l, api.Span{From: uint64(10 * i), To: uint64(10*i + 8)})
	}
	return l
}

// least tells the letter with least in it.
func least() letter.Letter { return letter.Letter{Kind: 1} }

// most tells the letter with most in it.
func most() letter.Letter {
	l := letter.Letter{
		Kind: 14, From: 63, To: 63, Seq: last, For: 63,
		News: news(8), View: api.View{Id: last, Members: last},
		Ballot: last, Old: last, Next: api.View{Id: last, Members: last}, Cut: last,
		Pieces: pieces(6), Spans: spans(16), Load: math.MaxFloat64,
	}
	l.Spans[15].To = last - 1
	return l
}

// some tells a letter in which no two things are the same.
func some() letter.Letter {
	return letter.Letter{
		Kind: 12, From: 1, To: 2, Seq: 3, For: 4,
		News: []api.Update{{Node: 5, Inc: 6, State: 1}, {Node: 7, Inc: 8, State: 2}},
		View: api.View{Id: 9, Members: 10}, Ballot: 11, Old: 12,
		Next: api.View{Id: 13, Members: 14}, Cut: 15,
		Pieces: []letter.Piece{
			{N: 16, M: api.Msg{Sender: 17, Num: 18, Text: "ab"}},
			{N: 19, M: api.Msg{Sender: 20, Num: 21, Text: ""}},
			{N: 22, M: api.Msg{Sender: 23, Num: 24, Text: "\x00\xff"}},
		},
		Spans: []api.Span{{From: 25, To: 26}, {From: 28, To: 28}},
		Load:  29.5,
	}
}

// copied tells a letter that shares no memory with l.
func copied(l letter.Letter) letter.Letter {
	l.News, l.Pieces, l.Spans = slices.Clone(l.News), slices.Clone(l.Pieces), slices.Clone(l.Spans)
	return l
}

// said tells all of a letter, so that letters are the same where this is: lists
// that are nil are as those that are empty.
func said(l letter.Letter) string {
	texts := []string{}
	for _, p := range l.Pieces {
		texts = append(texts, fmt.Sprintf("%d %d %d %q", p.N, p.M.Sender, p.M.Num, p.M.Text))
	}
	return fmt.Sprintf("%d %d %d %d %d %v %v %d %d %v %d %v %v %x", l.Kind, l.From, l.To, l.Seq, l.For,
		l.News, l.View, l.Ballot, l.Old, l.Next, l.Cut, texts, l.Spans, math.Float64bits(l.Load))
}

func wantNothing(t *testing.T, l letter.Letter) {
	t.Helper()
	if said(l) != said(letter.Letter{}) {
		t.Errorf("beside an error: %s", said(l))
	}
}

// wantMay wants of l that it may be, and goes, or that it does neither.
func wantMay(t *testing.T, name string, l letter.Letter, want bool) {
	t.Helper()
	if got := letter.May(l); got != want {
		t.Errorf("%s: May: %v, want %v", name, got, want)
	}
	s, e := letter.Encode(l)
	if !want {
		if s != "" || e != api.ErrArg {
			t.Errorf("%s: Encode: %q, %d, want ErrArg and no bytes", name, s, e)
		}
		return
	}
	if e != api.OK {
		t.Errorf("%s: Encode: %d", name, e)
	}
	if w := sealed(plain(fields(l))); s != w {
		t.Errorf("%s: Encode: %x, want %x", name, s, w)
	}
	back, e := letter.Decode(s)
	if e != api.OK || said(back) != said(l) {
		t.Errorf("%s: Decode: %s, %d, want %s", name, said(back), e, said(l))
	}
}

// wantError wants an error of the sealed bytes of s, and no letter beside it.
func wantError(t *testing.T, name, s string, want api.Errno) {
	t.Helper()
	l, e := letter.Decode(sealed(s))
	if e != want {
		t.Errorf("%s: Decode: %d, want %d", name, e, want)
	}
	wantNothing(t, l)
}

// P15.1: what may be.

func TestMayKind(t *testing.T) {
	for kind := -20; kind <= 300; kind++ {
		l := some()
		l.Kind = kind
		wantMay(t, fmt.Sprint("Kind ", kind), l, kind >= 1 && kind <= 14)
	}
	for _, kind := range []int{math.MinInt, math.MaxInt, 256 + 1, 1 << 32, 1<<32 + 1, -255, -1} {
		l := some()
		l.Kind = kind
		wantMay(t, fmt.Sprint("Kind ", kind), l, false)
	}
	wantMay(t, "the letter of nothing", letter.Letter{}, false)
}

func TestMayNodes(t *testing.T) {
	set := map[string]func(l *letter.Letter, node int){
		"From":                 func(l *letter.Letter, node int) { l.From = node },
		"To":                   func(l *letter.Letter, node int) { l.To = node },
		"For":                  func(l *letter.Letter, node int) { l.For = node },
		"Sender, the first":    func(l *letter.Letter, node int) { l.Pieces[0].M.Sender = node },
		"Sender, in the midst": func(l *letter.Letter, node int) { l.Pieces[1].M.Sender = node },
		"Sender, the last":     func(l *letter.Letter, node int) { l.Pieces[2].M.Sender = node },
		"Node, the first":      func(l *letter.Letter, node int) { l.News[0].Node = node },
		"Node, the last":       func(l *letter.Letter, node int) { l.News[1].Node = node },
	}
	nodes := []int{math.MinInt, -256, -255, -64, -1, 0, 1, 62, 63, 64, 65, 127, 128, 255, 256, 257, 319, 1 << 32, math.MaxInt}
	for name, by := range set {
		for _, node := range nodes {
			l := some()
			by(&l, node)
			wantMay(t, fmt.Sprint(name, " ", node), l, node >= 0 && node <= 63)
		}
	}
}

func TestMayNews(t *testing.T) {
	for many := range 12 {
		l := some()
		l.News = news(many)
		wantMay(t, fmt.Sprint(many, " News"), l, many <= 8)
	}
	l := some()
	l.News = news(300)
	wantMay(t, "300 News", l, false)
	for state := -2; state < 8; state++ {
		for i := range 8 {
			l.News = news(8)
			l.News[i].State = state
			wantMay(t, fmt.Sprintf("the %d-th State %d", i, state), l, state >= 0 && state <= 3)
		}
	}
	for _, state := range []int{math.MinInt, -256, -255, 255, 256, 257, math.MaxInt} {
		l.News = []api.Update{{Node: 1, Inc: 2, State: state}}
		wantMay(t, fmt.Sprint("State ", state), l, false)
	}
	// The same node may be told of more than once: no promise says otherwise.
	l.News = []api.Update{{Node: 1, Inc: 2}, {Node: 1, Inc: 2}, {Node: 1, Inc: 1, State: 3}}
	wantMay(t, "News of one node", l, true)
}

func TestMayPieces(t *testing.T) {
	for many := range 10 {
		l := some()
		l.Pieces = pieces(many)
		wantMay(t, fmt.Sprint(many, " Pieces"), l, many <= 6)
	}
	l := some()
	l.Pieces = make([]letter.Piece, 300)
	wantMay(t, "300 Pieces", l, false)
	for _, long := range []int{0, 1, 63, 64, 65, 66, 255, 256, 65535, 65536, 65536 + 3} {
		for i := range 6 {
			l.Pieces = pieces(6)
			l.Pieces[i].M.Text = strings.Repeat("\xfe", long)
			wantMay(t, fmt.Sprintf("the %d-th Text of %d bytes", i, long), l, long <= 64)
		}
	}
	// Bytes count, no runes.
	l.Pieces = []letter.Piece{{M: api.Msg{Text: strings.Repeat("é", 32)}}}
	wantMay(t, "32 runes of 2 bytes", l, true)
	l.Pieces = []letter.Piece{{M: api.Msg{Text: strings.Repeat("é", 33)}}}
	wantMay(t, "33 runes of 2 bytes", l, false)
	l.Pieces = []letter.Piece{{N: 4}, {N: 4}, {N: 0}}
	wantMay(t, "Pieces of one number, and of nothing", l, true)
}

func TestMaySpans(t *testing.T) {
	for many := range 20 {
		l := some()
		l.Spans = spans(many)
		wantMay(t, fmt.Sprint(many, " Spans"), l, many <= 16)
	}
	l := some()
	l.Spans = spans(300)
	wantMay(t, "300 Spans", l, false)
	for _, c := range []struct {
		ends []uint64
		want bool
	}{
		{[]uint64{0, 0}, true},
		{[]uint64{0, last - 1}, true},
		{[]uint64{last - 1, last - 1}, true},
		{[]uint64{5, 5, 7, 7}, true},
		{[]uint64{0, last}, false},
		{[]uint64{last, last}, false},
		{[]uint64{5, 4}, false},
		{[]uint64{1, 0}, false},
		{[]uint64{1, 3, 4, 5}, false},
		{[]uint64{1, 3, 3, 5}, false},
		{[]uint64{1, 5, 2, 3}, false},
		{[]uint64{4, 5, 1, 2}, false},
		{[]uint64{1, 1, 1, 1}, false},
		{[]uint64{1, 2, 4, 5, 7, 6}, false},
		{[]uint64{5, last, 2, 3}, false},
	} {
		l.Spans = nil
		for i := 0; i < len(c.ends); i += 2 {
			l.Spans = append(l.Spans, api.Span{From: c.ends[i], To: c.ends[i+1]})
		}
		wantMay(t, fmt.Sprint("Spans ", c.ends), l, c.want)
	}
	for i := range 16 {
		l.Spans = spans(16)
		l.Spans[i].From = l.Spans[i].To + 1
		wantMay(t, fmt.Sprintf("a bad span at %d", i), l, false)
	}
}

func TestMayLoad(t *testing.T) {
	for _, c := range []struct {
		load float64
		want bool
	}{
		{0, true},
		{math.SmallestNonzeroFloat64, true},
		{1, true},
		{math.Nextafter(1, 0), true},
		{math.Pi, true},
		{0x1p-1022, true},
		{math.MaxFloat64, true},
		{math.Inf(1), true},
		{math.Copysign(0, -1), false},
		{-math.SmallestNonzeroFloat64, false},
		{-1, false},
		{-math.MaxFloat64, false},
		{math.Inf(-1), false},
		{math.NaN(), false},
		{math.Float64frombits(0x7FF0000000000001), false},
		{math.Float64frombits(0x7FF8000000000000), false},
		{math.Float64frombits(0x7FFFFFFFFFFFFFFF), false},
		{math.Float64frombits(0xFFF8000000000001), false},
		{math.Float64frombits(0xFFFFFFFFFFFFFFFF), false},
	} {
		l := some()
		l.Load = c.load
		wantMay(t, fmt.Sprint("Load ", c.load), l, c.want)
	}
}

func TestMayAnyNumbers(t *testing.T) {
	set := map[string]func(l *letter.Letter, n uint64){
		"Seq":          func(l *letter.Letter, n uint64) { l.Seq = n },
		"View.Id":      func(l *letter.Letter, n uint64) { l.View.Id = n },
		"View.Members": func(l *letter.Letter, n uint64) { l.View.Members = n },
		"Ballot":       func(l *letter.Letter, n uint64) { l.Ballot = n },
		"Old":          func(l *letter.Letter, n uint64) { l.Old = n },
		"Next.Id":      func(l *letter.Letter, n uint64) { l.Next.Id = n },
		"Next.Members": func(l *letter.Letter, n uint64) { l.Next.Members = n },
		"Cut":          func(l *letter.Letter, n uint64) { l.Cut = n },
		"Inc":          func(l *letter.Letter, n uint64) { l.News[1].Inc = n },
		"N":            func(l *letter.Letter, n uint64) { l.Pieces[2].N = n },
		"Num":          func(l *letter.Letter, n uint64) { l.Pieces[2].M.Num = n },
	}
	for name, by := range set {
		for bit := range 64 {
			for _, n := range []uint64{1 << bit, 1<<bit - 1, last - 1<<bit} {
				l := some()
				by(&l, n)
				wantMay(t, fmt.Sprint(name, " ", n), l, true)
			}
		}
	}
}

// P15.2: the bytes.

// TestEncodeByHand holds the bytes against ones that are written out, so that
// the test's own fields are in the document's order, too.
func TestEncodeByHand(t *testing.T) {
	n := func(low byte) string { return string([]byte{low, 0, 0, 0, 0, 0, 0, 0}) }
	few := "\x01\x00\x00" + n(0) + "\x00" + "\x00" + strings.Repeat("\x00", 7*8) + "\x00" + "\x00" + n(0)
	many := "\x0c\x01\x02" + n(3) + "\x04" +
		"\x02" + "\x05" + n(6) + "\x01" + "\x07" + n(8) + "\x02" +
		n(9) + n(10) + n(11) + n(12) + n(13) + n(14) + n(15) +
		"\x03" + n(16) + "\x11" + n(18) + "\x02\x00ab" + n(19) + "\x14" + n(21) + "\x00\x00" + n(22) + "\x17" + n(24) + "\x02\x00\x00\xff" +
		"\x02" + n(25) + n(26) + n(28) + n(28) +
		"\x00\x00\x00\x00\x00\x80\x3d\x40"
	for _, c := range []struct {
		l letter.Letter
		s string
	}{{least(), few}, {some(), many}} {
		s, e := letter.Encode(c.l)
		if s != sealed(c.s) || e != api.OK {
			t.Errorf("Encode(%s): %x, %d, want %x", said(c.l), s, e, sealed(c.s))
		}
		l, e := letter.Decode(sealed(c.s))
		if said(l) != said(c.l) || e != api.OK {
			t.Errorf("Decode: %s, %d, want %s", said(l), e, said(c.l))
		}
	}
	l := least()
	l.Seq, l.Cut = 0x0102030405060708, 0xF1F2F3F4F5F6F7F8
	s, _ := letter.Encode(l)
	if s[3:11] != "\x08\x07\x06\x05\x04\x03\x02\x01" || s[61:69] != "\xf8\xf7\xf6\xf5\xf4\xf3\xf2\xf1" {
		t.Errorf("the lowest byte is not the first one: %x", s)
	}
}

func TestEncodeLeastAndMost(t *testing.T) {
	wantMay(t, "the letter with least", least(), true)
	wantMay(t, "the letter with most", most(), true)
	s, _ := letter.Encode(least())
	if len(s) != 3+8+1+1+7*8+1+1+8+4 {
		t.Errorf("the least letter has %d bytes", len(s))
	}
	s, _ = letter.Encode(most())
	texts := 64 + 63 + 62 + 61 + 60 + 59
	if len(s) != 3+8+1+1+8*10+7*8+1+6*19+texts+1+16*16+8+4 {
		t.Errorf("the greatest letter has %d bytes", len(s))
	}
}

func TestEncodeNilAsEmpty(t *testing.T) {
	a, b := least(), least()
	b.News, b.Pieces, b.Spans = []api.Update{}, []letter.Piece{}, []api.Span{}
	s, e := letter.Encode(a)
	z, f := letter.Encode(b)
	if s != z || e != api.OK || f != api.OK {
		t.Errorf("nil: %x, %d; empty: %x, %d", s, e, z, f)
	}
}

// P15.3: the errors of bytes.

func TestDecodeSeal(t *testing.T) {
	for _, s := range []string{"", "\x00", "\x00\x00", "\x00\x00\x00"} {
		l, e := letter.Decode(s)
		if e != api.ErrShort {
			t.Errorf("Decode(%x): %d, want ErrShort", s, e)
		}
		wantNothing(t, l)
	}
	whole, _ := letter.Encode(some())
	wantSum := func(name, s string) {
		t.Helper()
		l, e := letter.Decode(s)
		if e != api.ErrSum {
			t.Errorf("%s: %d, want ErrSum", name, e)
		}
		wantNothing(t, l)
	}
	for i := range whole {
		for bit := range 8 {
			b := []byte(whole)
			b[i] ^= 1 << bit
			wantSum(fmt.Sprintf("the bit %d of the byte %d is turned", bit, i), string(b))
		}
	}
	for end := 4; end < len(whole); end++ {
		wantSum(fmt.Sprintf("%d bytes of %d", end, len(whole)), whole[:end])
	}
	wantSum("a byte more", whole+"x")
	wantSum("no seal", plain(fields(some())))
	// The seal is looked at ahead of all that is sealed.
	wantSum("a bad kind, not sealed", with(t, some(), "Kind", 0, 99)+"\x01\x02\x03\x04")
}

func TestDecodeShort(t *testing.T) {
	for _, l := range []letter.Letter{least(), some(), most()} {
		s := plain(fields(l))
		for end := range s {
			wantError(t, fmt.Sprintf("%d bytes of %d", end, len(s)), s[:end], api.ErrShort)
		}
	}
	wantError(t, "sealed nothing", "", api.ErrShort)
}

func TestDecodeMore(t *testing.T) {
	for _, l := range []letter.Letter{least(), some(), most()} {
		s := plain(fields(l))
		for _, behind := range []string{"\x00", "x", "\x00\x00\x00\x00\x00\x00\x00\x00", s} {
			wantError(t, fmt.Sprintf("%d bytes behind", len(behind)), s+behind, api.ErrMore)
		}
	}
}

func TestDecodeWide(t *testing.T) {
	for _, length := range []uint64{65, 66, 255, 256, 65535} {
		for i := range 3 {
			name := fmt.Sprintf("the %d-th text of %d bytes", i, length)
			s := with(t, some(), "length", i, length)
			wantError(t, name, s, api.ErrWide)
		}
	}
	l := some()
	for i := range 3 {
		l.Pieces[i].M.Text = strings.Repeat("x", 65)
		wantError(t, "a text of 65 bytes that are there", plain(fields(l)), api.ErrWide)
		l.Pieces[i].M.Text = strings.Repeat("x", 64)
		if _, e := letter.Decode(sealed(plain(fields(l)))); e != api.OK {
			t.Errorf("a text of 64 bytes: %d", e)
		}
	}
}

func TestDecodeMany(t *testing.T) {
	for _, c := range []struct {
		name string
		most int
		make func(l *letter.Letter, many int)
	}{
		{"many News", 8, func(l *letter.Letter, many int) { l.News = news(many) }},
		{"many Pieces", 6, func(l *letter.Letter, many int) { l.Pieces = make([]letter.Piece, many) }},
		{"many Spans", 16, func(l *letter.Letter, many int) { l.Spans = spans(many) }},
	} {
		for many := c.most + 1; many <= 255; many++ {
			l := some()
			c.make(&l, many)
			s := plain(fields(l))
			wantError(t, fmt.Sprint(c.name, " ", many), s, api.ErrArg)
			// As soon as the number is read: nothing behind it need be there.
			upto := 0
			for _, f := range fields(l) {
				upto += f.width
				if f.name == c.name {
					break
				}
			}
			wantError(t, fmt.Sprint(c.name, " ", many, ", and no more"), s[:upto], api.ErrArg)
			wantError(t, fmt.Sprint(c.name, " ", many, ", not even this"), s[:upto-1], api.ErrShort)
			wantError(t, fmt.Sprint(c.name, " ", many, ", and bytes behind"), s+"x", api.ErrArg)
		}
		l := some()
		c.make(&l, c.most)
		if _, e := letter.Decode(sealed(plain(fields(l)))); e != api.OK {
			t.Errorf("%s %d: %d", c.name, c.most, e)
		}
		wantError(t, c.name+" of the most, and no more", with(t, least(), c.name, 0, uint64(c.most)), api.ErrShort)
	}
}

func TestDecodeKind(t *testing.T) {
	for kind := range uint64(256) {
		s := with(t, some(), "Kind", 0, kind)
		if kind >= 1 && kind <= 14 {
			l, e := letter.Decode(sealed(s))
			if e != api.OK || l.Kind != int(kind) {
				t.Errorf("the kind %d: %d, %d", kind, l.Kind, e)
			}
			continue
		}
		wantError(t, fmt.Sprint("the kind ", kind), s, api.ErrKind)
	}
}

// wrong tells the fields' values which may not be, by their names.
func wrong() map[string][]uint64 {
	return map[string][]uint64{
		"From":           {64, 65, 128, 255},
		"To":             {64, 65, 128, 255},
		"For":            {64, 65, 128, 255},
		"Node":           {64, 65, 128, 255},
		"State":          {4, 5, 128, 255},
		"Sender":         {64, 65, 128, 255},
		"From of a span": {27, last, 1 << 63},
		"To of a span":   {24, 27, 28, last, 0},
		"Load": {1 << 63, 1<<63 + 1, 0xBFF0000000000000, 0x7FF0000000000001, 0x7FF8000000000000,
			0x7FF8000000000001, 0x7FFFFFFFFFFFFFFF, 0xFFF0000000000000, 0xFFF8000000000001, last},
	}
}

func TestDecodeArg(t *testing.T) {
	for name, values := range wrong() {
		for _, n := range values {
			wantError(t, fmt.Sprint(name, " ", n), with(t, some(), name, 0, n), api.ErrArg)
		}
	}
	for name, values := range map[string][]uint64{"Node": {64, 255}, "State": {4, 255}, "From of a span": {26, 27, 29, last}, "To of a span": {27, 0, last}} {
		for _, n := range values {
			wantError(t, fmt.Sprint("the last ", name, " ", n), with(t, some(), name, 1, n), api.ErrArg)
		}
	}
	wantError(t, "the last Sender 64", with(t, some(), "Sender", 2, 64), api.ErrArg)
}

// TestDecodeFirstError holds each error against those that come behind it.
func TestDecodeFirstError(t *testing.T) {
	for name, values := range wrong() {
		if name == "From of a span" || name == "To of a span" || name == "Load" {
			continue
		}
		s := with(t, some(), name, 0, values[0])
		bad := "\x0f" + s[1:]
		wantError(t, name+" and the kind", bad, api.ErrKind)
		wantError(t, name+" and a byte more", s+"x", api.ErrMore)
		wantError(t, name+" and a byte less", s[:len(s)-1], api.ErrShort)
		wantError(t, name+", the kind and a byte more", bad+"x", api.ErrMore)
		wantError(t, name+", the kind and a byte less", bad[:len(bad)-1], api.ErrShort)
		wantError(t, name+", the kind and nothing more", bad[:13], api.ErrShort)
	}
	bad := with(t, some(), "Kind", 0, 0)
	for name, values := range wrong() {
		fs := fields(some())
		for i := range fs {
			if fs[i].name == name {
				fs[i].n = values[0]
			}
		}
		fs[0].n = 0
		wantError(t, "the kind 0 and "+name, plain(fs), api.ErrKind)
		wantError(t, "the kind 0 and "+name+" and a byte more", plain(fs)+"\x00", api.ErrMore)
	}
	wantError(t, "the kind 0 and a byte more", bad+"x", api.ErrMore)
	wantError(t, "the kind 0 and a byte less", bad[:len(bad)-1], api.ErrShort)

	// Of what is read the first error counts, whatever is behind.
	fs := fields(some())
	at := func(name string) int { return slices.IndexFunc(fs, func(f field) bool { return f.name == name }) }
	fs[0].n = 0
	fs[at("length")].n = 65
	fs[at("many Spans")].n = 17
	s := plain(fs)
	wantError(t, "a wide text ahead of too many Spans", s, api.ErrWide)
	wantError(t, "a wide text ahead of the end", s[:len(plain(fs[:at("length")+1]))], api.ErrWide)
	wantError(t, "the end ahead of a wide text", s[:len(plain(fs[:at("length")+1]))-1], api.ErrShort)
	fs[at("many Pieces")].n = 7
	wantError(t, "too many Pieces ahead of a wide text", plain(fs), api.ErrArg)
	fs[at("many Pieces")].n = 3
	fs[at("many News")].n = 9
	wantError(t, "too many News ahead of a wide text", plain(fs), api.ErrArg)
	fs[at("many News")].n = 2
	fs[at("length")].n = 2
	wantError(t, "too many Spans ahead of bytes that are left, and the kind", plain(fs)+"x", api.ErrArg)
	fs[at("many Spans")].n = 3
	wantError(t, "the end ahead of the kind", plain(fs), api.ErrShort)
	fs[at("many Spans")].n = 1
	wantError(t, "bytes that are left ahead of the kind", plain(fs), api.ErrMore)
	// A text that is wide, and whose bytes are not there either.
	fs = fields(some())
	fs[at("length")].n = 64
	cut := len(plain(fs[:at("length")+1]))
	wantError(t, "a text that is not wide, and not there", plain(fs)[:cut], api.ErrShort)
}

// P15.4: what is the same.

// changes tells changes of some's letter, each of one thing alone.
func changes() map[string]func(l *letter.Letter) {
	return map[string]func(l *letter.Letter){
		"Kind":               func(l *letter.Letter) { l.Kind++ },
		"From":               func(l *letter.Letter) { l.From++ },
		"To":                 func(l *letter.Letter) { l.To++ },
		"Seq":                func(l *letter.Letter) { l.Seq ^= 1 << 63 },
		"For":                func(l *letter.Letter) { l.For++ },
		"no News":            func(l *letter.Letter) { l.News = nil },
		"fewer News":         func(l *letter.Letter) { l.News = l.News[:1] },
		"more News":          func(l *letter.Letter) { l.News = append(l.News, api.Update{}) },
		"News turned round":  func(l *letter.Letter) { slices.Reverse(l.News) },
		"Node":               func(l *letter.Letter) { l.News[0].Node++ },
		"Inc":                func(l *letter.Letter) { l.News[0].Inc++ },
		"State":              func(l *letter.Letter) { l.News[0].State++ },
		"the last Node":      func(l *letter.Letter) { l.News[1].Node++ },
		"the last Inc":       func(l *letter.Letter) { l.News[1].Inc++ },
		"the last State":     func(l *letter.Letter) { l.News[1].State++ },
		"View.Id":            func(l *letter.Letter) { l.View.Id ^= 1 << 63 },
		"View.Members":       func(l *letter.Letter) { l.View.Members ^= 1 << 63 },
		"Ballot":             func(l *letter.Letter) { l.Ballot++ },
		"Old":                func(l *letter.Letter) { l.Old++ },
		"Next.Id":            func(l *letter.Letter) { l.Next.Id++ },
		"Next.Members":       func(l *letter.Letter) { l.Next.Members ^= 1 << 63 },
		"Cut":                func(l *letter.Letter) { l.Cut++ },
		"no Pieces":          func(l *letter.Letter) { l.Pieces = nil },
		"fewer Pieces":       func(l *letter.Letter) { l.Pieces = l.Pieces[:2] },
		"more Pieces":        func(l *letter.Letter) { l.Pieces = append(l.Pieces, letter.Piece{}) },
		"Pieces turned":      func(l *letter.Letter) { slices.Reverse(l.Pieces) },
		"N":                  func(l *letter.Letter) { l.Pieces[0].N++ },
		"Sender":             func(l *letter.Letter) { l.Pieces[0].M.Sender++ },
		"Num":                func(l *letter.Letter) { l.Pieces[0].M.Num++ },
		"Text":               func(l *letter.Letter) { l.Pieces[0].M.Text = "ac" },
		"a longer Text":      func(l *letter.Letter) { l.Pieces[0].M.Text = "ab\x00" },
		"the last N":         func(l *letter.Letter) { l.Pieces[2].N++ },
		"the last Text":      func(l *letter.Letter) { l.Pieces[2].M.Text = "" },
		"no Spans":           func(l *letter.Letter) { l.Spans = nil },
		"fewer Spans":        func(l *letter.Letter) { l.Spans = l.Spans[:1] },
		"more Spans":         func(l *letter.Letter) { l.Spans = append(l.Spans, api.Span{From: 40, To: 41}) },
		"Spans turned round": func(l *letter.Letter) { slices.Reverse(l.Spans) },
		"From of a span":     func(l *letter.Letter) { l.Spans[0].From-- },
		"To of a span":       func(l *letter.Letter) { l.Spans[1].To++ },
		"Load":               func(l *letter.Letter) { l.Load = math.Nextafter(l.Load, 0) },
	}
}

func TestSame(t *testing.T) {
	for _, l := range []letter.Letter{{}, least(), some(), most()} {
		if !letter.Same(l, l) || !letter.Same(l, copied(l)) {
			t.Errorf("not the same as itself: %s", said(l))
		}
	}
	by := changes()
	for name, change := range by {
		a, b := some(), some()
		change(&b)
		if letter.Same(a, b) || letter.Same(b, a) {
			t.Errorf("the same with another %s", name)
		}
		change(&a)
		if !letter.Same(a, b) {
			t.Errorf("not the same with the same %s", name)
		}
		for other, too := range by {
			a, b := some(), some()
			change(&a)
			too(&b)
			if got, want := letter.Same(a, b), said(a) == said(b); got != want {
				t.Errorf("Same with another %s, and another %s: %v", name, other, got)
			}
		}
	}
}

// TestSameOfAny holds letters that may not be against one another: Same asks of
// all there is.
func TestSameOfAny(t *testing.T) {
	a := letter.Letter{Kind: -1, From: 99, To: -5, For: 1 << 40, News: news(30), Pieces: pieces(30), Spans: make([]api.Span, 40), Load: -1}
	if !letter.Same(a, copied(a)) {
		t.Error("not the same as itself")
	}
	for i, change := range []func(l *letter.Letter){
		func(l *letter.Letter) { l.Kind = 255 },
		func(l *letter.Letter) { l.To = 251 },
		func(l *letter.Letter) { l.For = 0 },
		func(l *letter.Letter) { l.News[29].Node = -1000 },
		func(l *letter.Letter) { l.Pieces[29].M.Sender = -1000 },
		func(l *letter.Letter) { l.Spans[39].To = 1 },
		func(l *letter.Letter) { l.News = l.News[:29] },
		func(l *letter.Letter) { l.Pieces = l.Pieces[:29] },
		func(l *letter.Letter) { l.Spans = l.Spans[:39] },
	} {
		b := copied(a)
		change(&b)
		if letter.Same(a, b) || letter.Same(b, a) {
			t.Errorf("the same behind the change %d", i)
		}
	}
}

func TestSameLoad(t *testing.T) {
	loads := []uint64{0, 1, 2, 1 << 63, 1<<63 + 1, 0x3FF0000000000000, 0xBFF0000000000000, 0x7FEFFFFFFFFFFFFF,
		0x7FF0000000000000, 0xFFF0000000000000, 0x7FF8000000000000, 0x7FF8000000000001, 0x7FF8000000000002,
		0xFFF8000000000001, 0x7FFFFFFFFFFFFFFF, last}
	for _, x := range loads {
		for _, y := range loads {
			a, b := some(), some()
			a.Load, b.Load = math.Float64frombits(x), math.Float64frombits(y)
			if got := letter.Same(a, b); got != (x == y) {
				t.Errorf("Same of the Loads %x and %x: %v", x, y, got)
			}
		}
	}
}

func TestSameNilAndEmpty(t *testing.T) {
	a := least()
	for i, b := range []letter.Letter{
		{Kind: 1, News: []api.Update{}},
		{Kind: 1, Pieces: []letter.Piece{}},
		{Kind: 1, Spans: []api.Span{}},
		{Kind: 1, News: news(3)[:0], Pieces: pieces(3)[:0], Spans: spans(3)[:0]},
	} {
		if !letter.Same(a, b) || !letter.Same(b, a) {
			t.Errorf("%d: nil and empty are not the same", i)
		}
	}
	// One thing that is all zero is not nothing.
	for i, b := range []letter.Letter{
		{Kind: 1, News: make([]api.Update, 1)},
		{Kind: 1, Pieces: make([]letter.Piece, 1)},
		{Kind: 1, Spans: make([]api.Span, 1)},
	} {
		if letter.Same(a, b) || letter.Same(b, a) {
			t.Errorf("%d: nothing is the same as one thing", i)
		}
	}
}

// P15.5: what follows.

// drawn tells a letter that may be.
func drawn(by *rand.Rand) letter.Letter {
	number := func() uint64 { return by.Uint64() >> by.Intn(64) }
	l := letter.Letter{
		Kind: 1 + by.Intn(14), From: by.Intn(64), To: by.Intn(64), Seq: number(), For: by.Intn(64),
		View: api.View{Id: number(), Members: number()}, Ballot: number(), Old: number(),
		Next: api.View{Id: number(), Members: number()}, Cut: number(),
		Load: math.Float64frombits(by.Uint64() % (0x7FF0000000000000 + 1) >> by.Intn(64)),
	}
	for range by.Intn(9) {
		l.News = append(l.News, api.Update{Node: by.Intn(64), Inc: number(), State: by.Intn(4)})
	}
	for range by.Intn(7) {
		text := make([]byte, by.Intn(65))
		by.Read(text)
		l.Pieces = append(l.Pieces, letter.Piece{N: number(), M: api.Msg{Sender: by.Intn(64), Num: number(), Text: string(text)}})
	}
	from := uint64(by.Intn(3))
	for range by.Intn(17) {
		to := from + by.Uint64()>>(6+by.Intn(58))
		l.Spans = append(l.Spans, api.Span{From: from, To: to})
		from = to + 2 + uint64(by.Intn(9))
	}
	return l
}

func TestThereAndBack(t *testing.T) {
	by := chance()
	for range 4000 {
		l := drawn(by)
		wantMay(t, "a drawn one", l, true)
		s, _ := letter.Encode(l)
		back, e := letter.Decode(s)
		if e != api.OK || !letter.Same(l, back) || !letter.Same(back, l) {
			t.Fatalf("Decode: %s, %d, want %s", said(back), e, said(l))
		}
		if again, e := letter.Encode(back); again != s || e != api.OK {
			t.Fatalf("Encode of what was decoded: %x, %d, want %x", again, e, s)
		}
	}
}

// TestOneLetterOfBytes spoils bytes, and seals them anew: what is decoded then is
// encoded to just these bytes, or there is an error, and no letter.
func TestOneLetterOfBytes(t *testing.T) {
	by := chance()
	right, errors := 0, map[api.Errno]int{}
	for range 60000 {
		b := []byte(plain(fields(drawn(by))))
		for range 1 + by.Intn(3) {
			switch by.Intn(8) {
			case 0:
				b = b[:by.Intn(len(b)+1)]
			case 1:
				b = append(b, byte(by.Intn(256)))
			case 2:
				b = append(b[:13:13], b[min(len(b), 13+by.Intn(4)):]...)
			default:
				b[by.Intn(len(b))] ^= 1 << by.Intn(8)
			}
			if len(b) == 0 {
				b = []byte{1}
			}
			if len(b) < 13 {
				b = append(b, make([]byte, 13-len(b))...)
			}
		}
		s := sealed(string(b))
		l, e := letter.Decode(s)
		if e != api.OK {
			errors[e]++
			wantNothing(t, l)
			continue
		}
		right++
		if again, e := letter.Encode(l); again != s || e != api.OK || !letter.May(l) {
			t.Fatalf("%x is decoded, and encoded as %x, %d", s, again, e)
		}
	}
	if right < 1000 {
		t.Errorf("only %d letters were right", right)
	}
	for _, e := range []api.Errno{api.ErrShort, api.ErrMore, api.ErrWide, api.ErrKind, api.ErrArg} {
		if errors[e] < 40 {
			t.Errorf("the error %d came %d times alone", e, errors[e])
		}
	}
}

// TestOtherLettersOtherBytes holds the bytes of letters that differ in one thing
// against one another.
func TestOtherLettersOtherBytes(t *testing.T) {
	own, _ := letter.Encode(some())
	seen := map[string]string{own: "none"}
	for name, change := range changes() {
		l := some()
		change(&l)
		s, e := letter.Encode(l)
		if !letter.May(l) {
			continue
		}
		if was, is := seen[s]; is || e != api.OK {
			t.Errorf("the bytes with another %s are those with another %s (%d)", name, was, e)
		}
		seen[s] = name
	}
	if len(seen) < 30 {
		t.Errorf("only %d letters", len(seen))
	}
}

// R1: no bytes make a call panic.
func TestDecodeOfAnyBytes(t *testing.T) {
	by := chance()
	for range 40000 {
		b := make([]byte, by.Intn(200))
		by.Read(b)
		for range by.Intn(150) {
			if len(b) > 0 {
				b[by.Intn(len(b))] = byte(by.Intn(20))
			}
		}
		for _, s := range []string{string(b), sealed(string(b))} {
			l, e := letter.Decode(s)
			if e != api.OK {
				wantNothing(t, l)
			} else if again, _ := letter.Encode(l); again != s {
				t.Fatalf("%x is decoded, and encoded as %x", s, again)
			}
		}
	}
}

// R3: memory.

func TestNothingIsChanged(t *testing.T) {
	// Each list stands in a longer one, whose rest is looked at, too.
	wholeNews, wholePieces, wholeSpans := news(8), pieces(6), spans(16)
	for _, kind := range []int{5, 99} {
		l := letter.Letter{Kind: kind, News: wholeNews[:4], Pieces: wholePieces[:3], Spans: wholeSpans[:7], Load: 1}
		before := said(l)
		letter.May(l)
		letter.Encode(l)
		letter.Same(l, copied(l))
		if said(l) != before {
			t.Errorf("changed: %s, was %s", said(l), before)
		}
	}
	if !slices.Equal(wholeNews, news(8)) || !slices.Equal(wholePieces, pieces(6)) || !slices.Equal(wholeSpans, spans(16)) {
		t.Error("what lies behind a list's length is changed")
	}
}

func TestAnswersAreNew(t *testing.T) {
	s, _ := letter.Encode(most())
	a, _ := letter.Decode(s)
	b, _ := letter.Decode(s)
	spoil := func(l letter.Letter) {
		for _, x := range [][]api.Update{l.News, l.News[:cap(l.News)]} {
			for i := range x {
				x[i] = api.Update{Node: -1}
			}
		}
		for _, x := range [][]letter.Piece{l.Pieces, l.Pieces[:cap(l.Pieces)]} {
			for i := range x {
				x[i] = letter.Piece{N: 1}
			}
		}
		for _, x := range [][]api.Span{l.Spans, l.Spans[:cap(l.Spans)]} {
			for i := range x {
				x[i] = api.Span{From: 1}
			}
		}
	}
	spoil(a)
	if !letter.Same(b, most()) {
		t.Errorf("an answer was changed by another one: %s", said(b))
	}
	if c, e := letter.Decode(s); e != api.OK || !letter.Same(c, most()) {
		t.Errorf("Decode: %s, %d", said(c), e)
	}
	l := most()
	s, _ = letter.Encode(l)
	spoil(l)
	if w, _ := letter.Encode(most()); s != w {
		t.Error("bytes were changed by the letter")
	}
}

// R5: one answer.
func TestAgain(t *testing.T) {
	by := chance()
	for range 300 {
		l := drawn(by)
		s, e := letter.Encode(l)
		z, f := letter.Encode(copied(l))
		a, g := letter.Decode(s)
		b, h := letter.Decode(z)
		if s != z || e != f || g != h || said(a) != said(b) {
			t.Fatalf("another answer: %s", said(l))
		}
	}
}

// The chapter's example.
func TestExample(t *testing.T) {
	l, e := letter.Decode("")
	if e != api.ErrShort {
		t.Errorf("Decode of nothing: %d", e)
	}
	wantNothing(t, l)
}
