package octet_test

import (
	"math"
	"strings"
	"testing"

	"conventicle/api"
	"conventicle/octet"
)

const noNumber = 0x7FF8000000000001

// greatest tells the greatest number of a width.
func greatest(width int) uint64 { return math.MaxUint64 >> (64 - 8*width) }

func wantBytes(t *testing.T, w *octet.Writer, want string) {
	t.Helper()
	if got := w.Bytes(); got != want {
		t.Errorf("Bytes() = % x, want % x", got, want)
	}
}

// P1.1: Number.

func TestWriteNumber(t *testing.T) {
	for _, c := range []struct {
		n     uint64
		width int
		want  string
	}{
		{258, 2, "\x02\x01"},
		{0, 1, "\x00"},
		{0, 8, "\x00\x00\x00\x00\x00\x00\x00\x00"},
		{255, 1, "\xff"},
		{255, 3, "\xff\x00\x00"},
		{256, 2, "\x00\x01"},
		{0x0102030405060708, 8, "\x08\x07\x06\x05\x04\x03\x02\x01"},
		{math.MaxUint64, 8, "\xff\xff\xff\xff\xff\xff\xff\xff"},
		{1 << 63, 8, "\x00\x00\x00\x00\x00\x00\x00\x80"},
	} {
		w := &octet.Writer{}
		if e := w.Number(c.n, c.width); e != api.OK {
			t.Errorf("Number(%d, %d): %d", c.n, c.width, e)
		}
		wantBytes(t, w, c.want)
	}
}

func TestWriteNumberGreatestOfEachWidth(t *testing.T) {
	for width := 1; width <= 8; width++ {
		w := &octet.Writer{}
		if e := w.Number(greatest(width), width); e != api.OK {
			t.Errorf("width %d, the greatest: %d", width, e)
		}
		wantBytes(t, w, strings.Repeat("\xff", width))
		if width == 8 {
			continue
		}
		if e := w.Number(greatest(width)+1, width); e != api.ErrArg {
			t.Errorf("width %d, one above the greatest: %d", width, e)
		}
		if e := w.Number(math.MaxUint64, width); e != api.ErrArg {
			t.Errorf("width %d, the greatest of all: %d", width, e)
		}
		wantBytes(t, w, strings.Repeat("\xff", width))
	}
}

func wrongWidths() []int {
	return []int{0, 9, -1, -8, 10, 16, 64, 1 << 20, math.MaxInt, math.MinInt, math.MinInt + 1}
}

func TestWriteNumberWrongWidth(t *testing.T) {
	w := &octet.Writer{}
	w.Number(7, 1)
	for _, width := range wrongWidths() {
		for _, n := range []uint64{0, 1, math.MaxUint64} {
			if e := w.Number(n, width); e != api.ErrArg {
				t.Errorf("Number(%d, %d): %d", n, width, e)
			}
		}
	}
	wantBytes(t, w, "\x07")
}

// P1.1: Real.

func TestWriteReal(t *testing.T) {
	for _, c := range []struct {
		x    float64
		want string
	}{
		{1, "\x00\x00\x00\x00\x00\x00\xf0\x3f"},
		{-1, "\x00\x00\x00\x00\x00\x00\xf0\xbf"},
		{0, "\x00\x00\x00\x00\x00\x00\x00\x00"},
		{math.Copysign(0, -1), "\x00\x00\x00\x00\x00\x00\x00\x80"},
		{math.Inf(1), "\x00\x00\x00\x00\x00\x00\xf0\x7f"},
		{math.Inf(-1), "\x00\x00\x00\x00\x00\x00\xf0\xff"},
		{math.MaxFloat64, "\xff\xff\xff\xff\xff\xff\xef\x7f"},
		{math.SmallestNonzeroFloat64, "\x01\x00\x00\x00\x00\x00\x00\x00"},
	} {
		w := &octet.Writer{}
		w.Real(c.x)
		wantBytes(t, w, c.want)
	}
}

// bitsOfNoNumber tells some of the bits that are no number's.
func bitsOfNoNumber() []uint64 {
	return []uint64{
		noNumber,
		0x7FF8000000000000,
		0x7FF8000000000055,
		0x7FF0000000000001, // one that signals
		0x7FFFFFFFFFFFFFFF,
		0xFFF0000000000001,
		0xFFF8000000000000,
		0xFFFFFFFFFFFFFFFF,
	}
}

func TestWriteNoNumber(t *testing.T) {
	for _, b := range bitsOfNoNumber() {
		w := &octet.Writer{}
		w.Real(math.Float64frombits(b))
		wantBytes(t, w, "\x01\x00\x00\x00\x00\x00\xf8\x7f")
	}
}

// P1.1: Text.

func TestWriteText(t *testing.T) {
	long := strings.Repeat("ab\x00\xff\n", 13107) // 65535 bytes
	for _, c := range []struct{ s, want string }{
		{"", "\x00\x00"},
		{"abc", "\x03\x00abc"},
		{"\x00\xff\xc3", "\x03\x00\x00\xff\xc3"},
		{strings.Repeat("x", 256), "\x00\x01" + strings.Repeat("x", 256)},
		{long, "\xff\xff" + long},
	} {
		w := &octet.Writer{}
		if e := w.Text(c.s); e != api.OK {
			t.Errorf("a text of %d bytes: %d", len(c.s), e)
		}
		if w.Bytes() != c.want {
			t.Errorf("a text of %d bytes is written otherwise", len(c.s))
		}
	}
}

func TestWriteTextTooLong(t *testing.T) {
	w := &octet.Writer{}
	w.Text("a")
	for _, many := range []int{65536, 65537, 65536 + 3, 2 * 65536} {
		if e := w.Text(strings.Repeat("x", many)); e != api.ErrWide {
			t.Errorf("a text of %d bytes: %d", many, e)
		}
	}
	wantBytes(t, w, "\x01\x00a")
}

// P1.1: Bytes.

func TestBytesOfNothing(t *testing.T) {
	wantBytes(t, &octet.Writer{}, "")
}

func TestBytesTellsAllSoFar(t *testing.T) {
	w := &octet.Writer{}
	w.Number(258, 2)
	first := w.Bytes()
	w.Number(256, 1)
	w.Real(-1)
	w.Number(1, 9)
	w.Text("hi")
	wantBytes(t, w, "\x02\x01"+"\x00\x00\x00\x00\x00\x00\xf0\xbf"+"\x02\x00hi")
	wantBytes(t, w, "\x02\x01"+"\x00\x00\x00\x00\x00\x00\xf0\xbf"+"\x02\x00hi")
	if first != "\x02\x01" {
		t.Errorf("what was told before has changed: % x", first)
	}
}

func TestWritersAreApart(t *testing.T) {
	a, b := &octet.Writer{}, &octet.Writer{}
	a.Number(1, 1)
	b.Number(2, 1)
	a.Number(3, 1)
	wantBytes(t, a, "\x01\x03")
	wantBytes(t, b, "\x02")
}

// P1.2: Number.

func wantLeft(t *testing.T, r *octet.Reader, want int) {
	t.Helper()
	if got := r.Left(); got != want {
		t.Errorf("Left() = %d, want %d", got, want)
	}
}

func TestReadNumber(t *testing.T) {
	const s = "\x08\x07\x06\x05\x04\x03\x02\x81\xee"
	for _, c := range []struct {
		width int
		want  uint64
	}{
		{1, 0x08},
		{2, 0x0708},
		{3, 0x060708},
		{4, 0x05060708},
		{5, 0x0405060708},
		{6, 0x030405060708},
		{7, 0x02030405060708},
		{8, 0x8102030405060708},
	} {
		r := octet.New(s)
		if n, e := r.Number(c.width); n != c.want || e != api.OK {
			t.Errorf("Number(%d) = %x, %d, want %x", c.width, n, e, c.want)
		}
		wantLeft(t, r, len(s)-c.width)
	}
}

func TestReadNumbersOneBehindTheOther(t *testing.T) {
	r := octet.New("\x01\x02\x01\xff\xff\xff")
	for _, c := range []struct {
		width int
		want  uint64
	}{{1, 1}, {2, 258}, {3, 0xffffff}} {
		if n, e := r.Number(c.width); n != c.want || e != api.OK {
			t.Errorf("Number(%d) = %d, %d, want %d", c.width, n, e, c.want)
		}
	}
	wantLeft(t, r, 0)
}

func TestReadNumberWrongWidth(t *testing.T) {
	for _, s := range []string{"", "\x05", "\x05\x06\x07\x08\x09\x0a\x0b\x0c\x0d\x0e"} {
		r := octet.New(s)
		for _, width := range wrongWidths() {
			if n, e := r.Number(width); n != 0 || e != api.ErrArg {
				t.Errorf("Number(%d) of %d bytes = %d, %d", width, len(s), n, e)
			}
			wantLeft(t, r, len(s))
		}
	}
}

func TestReadNumberTooShort(t *testing.T) {
	for width := 1; width <= 8; width++ {
		for many := range width {
			r := octet.New("\xaa" + strings.Repeat("\xbb", many))
			r.Number(1)
			if n, e := r.Number(width); n != 0 || e != api.ErrShort {
				t.Errorf("Number(%d) of %d bytes = %d, %d", width, many, n, e)
			}
			wantLeft(t, r, many)
			if many == 0 {
				continue
			}
			if n, e := r.Number(many); n != greatest(many)/255*0xbb || e != api.OK {
				t.Errorf("behind an error Number(%d) = %x, %d", many, n, e)
			}
		}
	}
}

// P1.2: Real.

func TestReadReal(t *testing.T) {
	for _, c := range []struct {
		s    string
		want float64
	}{
		{"\x00\x00\x00\x00\x00\x00\xf0\x3f", 1},
		{"\x00\x00\x00\x00\x00\x00\xf0\xbf", -1},
		{"\x00\x00\x00\x00\x00\x00\x00\x00", 0},
		{"\x00\x00\x00\x00\x00\x00\x00\x80", math.Copysign(0, -1)},
		{"\x00\x00\x00\x00\x00\x00\xf0\x7f", math.Inf(1)},
		{"\x00\x00\x00\x00\x00\x00\xf0\xff", math.Inf(-1)},
		{"\x01\x00\x00\x00\x00\x00\x00\x00", math.SmallestNonzeroFloat64},
	} {
		r := octet.New(c.s + "\x09")
		x, e := r.Real()
		if math.Float64bits(x) != math.Float64bits(c.want) || e != api.OK {
			t.Errorf("Real() of % x = %v, %d, want %v", c.s, x, e, c.want)
		}
		wantLeft(t, r, 1)
	}
}

func TestReadNoNumber(t *testing.T) {
	for _, b := range bitsOfNoNumber() {
		w := &octet.Writer{}
		w.Number(b, 8)
		x, e := octet.New(w.Bytes()).Real()
		if math.Float64bits(x) != noNumber || e != api.OK {
			t.Errorf("Real() of bits %x = bits %x, %d", b, math.Float64bits(x), e)
		}
	}
}

func TestReadRealTooShort(t *testing.T) {
	for many := range 8 {
		r := octet.New("\x01" + strings.Repeat("\x3f", many))
		r.Number(1)
		if x, e := r.Real(); math.Float64bits(x) != 0 || e != api.ErrShort {
			t.Errorf("Real() of %d bytes = %v, %d", many, x, e)
		}
		wantLeft(t, r, many)
	}
}

// P1.2: Text.

func TestReadText(t *testing.T) {
	long := strings.Repeat("z", 65535)
	for _, c := range []struct {
		s    string
		most int
		want string
		left int
	}{
		{"\x03\x00abc", 3, "abc", 0},
		{"\x03\x00abcd", 4, "abc", 1},
		{"\x00\x00", 0, "", 0},
		{"\x00\x00x", 0, "", 1},
		{"\x02\x00\xff\x00", math.MaxInt, "\xff\x00", 0},
		{"\x00\x01" + strings.Repeat("y", 300), 256, strings.Repeat("y", 256), 44},
		{"\xff\xff" + long, 65535, long, 0},
	} {
		r := octet.New(c.s)
		if s, e := r.Text(c.most); s != c.want || e != api.OK {
			t.Errorf("Text(%d) of %d bytes = %.9q of %d bytes, %d", c.most, len(c.s), s, len(s), e)
		}
		wantLeft(t, r, c.left)
	}
}

func TestReadTextErrors(t *testing.T) {
	for _, c := range []struct {
		s    string
		most int
		want api.Errno
	}{
		{"", 9, api.ErrShort},
		{"\x00", 9, api.ErrShort},
		{"", -1, api.ErrShort},
		{"\x05", 0, api.ErrShort},
		{"\x03\x00abc", 2, api.ErrWide},
		{"\x03\x00abc", 0, api.ErrWide},
		{"\x03\x00abc", -1, api.ErrWide},
		{"\x00\x00", -1, api.ErrWide},
		{"\x00\x00", math.MinInt, api.ErrWide},
		{"\x05\x00abc", 4, api.ErrWide}, // too short as well, but that is named behind
		{"\x05\x00abc", 5, api.ErrShort},
		{"\x05\x00abcd", 9, api.ErrShort},
		{"\x01\x00", 1, api.ErrShort},
		{"\xff\xff", 65534, api.ErrWide},
		{"\xff\xff", 65535, api.ErrShort},
		{"\x03\x01abc", 258, api.ErrWide},
		{"\x03\x01abc", math.MaxInt, api.ErrShort},
	} {
		r := octet.New("\x07" + c.s)
		r.Number(1)
		if s, e := r.Text(c.most); s != "" || e != c.want {
			t.Errorf("Text(%d) of %.9q = %q, %d, want %d", c.most, c.s, s, e, c.want)
		}
		wantLeft(t, r, len(c.s))
	}
}

func TestReadGoesOnBehindErrors(t *testing.T) {
	r := octet.New("\x03\x00abc")
	r.Text(2)
	r.Real()
	r.Number(8)
	r.Number(0)
	if s, e := r.Text(3); s != "abc" || e != api.OK {
		t.Errorf("Text(3) behind errors = %q, %d", s, e)
	}
	if e := r.End(); e != api.OK {
		t.Errorf("End() = %d", e)
	}
}

func TestReadersAreApart(t *testing.T) {
	a, b := octet.New("\x01\x02"), octet.New("\x01\x02")
	a.Number(2)
	wantLeft(t, a, 0)
	wantLeft(t, b, 2)
}

// P1.3.

func TestEndAndLeft(t *testing.T) {
	r := octet.New("\x00\x01\x02")
	for left := 3; left > 0; left-- {
		wantLeft(t, r, left)
		if e := r.End(); e != api.ErrMore {
			t.Errorf("End() ahead of %d bytes = %d", left, e)
		}
		wantLeft(t, r, left)
		r.Number(1)
	}
	wantLeft(t, r, 0)
	if e := r.End(); e != api.OK {
		t.Errorf("End() at the end = %d", e)
	}
	if e := octet.New("").End(); e != api.OK {
		t.Errorf("End() of nothing = %d", e)
	}
	wantLeft(t, octet.New(""), 0)
}

// P1.4.

func TestNumbersComeBack(t *testing.T) {
	for width := 1; width <= 8; width++ {
		for _, n := range []uint64{0, 1, 0x7f, 0x80, 0xff, greatest(width) / 3, greatest(width) - 1, greatest(width)} {
			w := &octet.Writer{}
			w.Number(n, width)
			r := octet.New(w.Bytes())
			if got, e := r.Number(width); got != n || e != api.OK || r.End() != api.OK {
				t.Errorf("%d of width %d came back as %d, %d", n, width, got, e)
			}
		}
	}
}

// someReals tells reals of all exponents and signs, nought and infinities
// among them.
func someReals() []float64 {
	var l []float64
	for top := range uint64(1 << 12) {
		for _, low := range []uint64{0, 1, 1 << 51, 1<<52 - 1, 0x5A5A5A5A5A5A5} {
			if x := math.Float64frombits(top<<52 | low); !math.IsNaN(x) {
				l = append(l, x)
			}
		}
	}
	return l
}

func TestRealsComeBackBitByBit(t *testing.T) {
	w := &octet.Writer{}
	for _, x := range someReals() {
		w.Real(x)
	}
	r := octet.New(w.Bytes())
	for _, x := range someReals() {
		got, e := r.Real()
		if math.Float64bits(got) != math.Float64bits(x) || e != api.OK {
			t.Fatalf("%x came back as %x, %d", math.Float64bits(x), math.Float64bits(got), e)
		}
	}
	if e := r.End(); e != api.OK {
		t.Error(e)
	}
}

func TestTextsComeBack(t *testing.T) {
	every := make([]byte, 256)
	for i := range every {
		every[i] = byte(i)
	}
	texts := []string{"", "a", string(every), "\xff\xfe", strings.Repeat("\x00", 255), strings.Repeat(string(every), 255), strings.Repeat("q", 65535)}
	w := &octet.Writer{}
	for _, s := range texts {
		if e := w.Text(s); e != api.OK {
			t.Fatal(e)
		}
	}
	r := octet.New(w.Bytes())
	for i, s := range texts {
		if got, e := r.Text(len(s)); got != s || e != api.OK {
			t.Errorf("text %d came back otherwise, %d", i, e)
		}
	}
	if e := r.End(); e != api.OK {
		t.Error(e)
	}
}

func TestAMixtureComesBack(t *testing.T) {
	w := &octet.Writer{}
	w.Number(70000, 3)
	w.Text("three")
	w.Real(math.Copysign(0, -1))
	w.Text("")
	w.Number(1, 8)
	r := octet.New(w.Bytes())
	if n, e := r.Number(3); n != 70000 || e != api.OK {
		t.Error(n, e)
	}
	if s, e := r.Text(5); s != "three" || e != api.OK {
		t.Error(s, e)
	}
	if x, e := r.Real(); x != 0 || !math.Signbit(x) || e != api.OK {
		t.Error(x, e)
	}
	if s, e := r.Text(0); s != "" || e != api.OK {
		t.Error(s, e)
	}
	if n, e := r.Number(8); n != 1 || e != api.OK || r.End() != api.OK {
		t.Error(n, e)
	}
}
