// Package octet is layer 1: see shared/doc/01-octet.md.
package octet

import (
	"math"

	"conventicle/api"
)

const (
	mostWidth   = 8
	lengthWidth = 2
	longestText = 1<<(8*lengthWidth) - 1
	// notNumber stands for every real that is no number, so that such reals
	// are one and the same as bytes.
	notNumber = 0x7FF8000000000001
)

// Writer of bytes.
type Writer struct{ written []byte }

// Reader of bytes.
type Reader struct {
	text  string
	place int
}

// Number writes n in so many bytes, the lowest one first.
func (w *Writer) Number(n uint64, width int) api.Errno {
	if !mayBeWidth(width) || n>>(8*width) != 0 {
		return api.ErrArg
	}
	for range width {
		w.written = append(w.written, byte(n))
		n >>= 8
	}
	return api.OK
}

// Real writes the eight bytes of the bits of x.
func (w *Writer) Real(x float64) {
	w.Number(bitsOf(x), mostWidth)
}

// Text writes the length of s, and s.
func (w *Writer) Text(s string) api.Errno {
	if len(s) > longestText {
		return api.ErrWide
	}
	w.Number(uint64(len(s)), lengthWidth)
	w.written = append(w.written, s...)
	return api.OK
}

// Bytes tells all that was written so far.
func (w *Writer) Bytes() string { return string(w.written) }

// New makes a reader that is ahead of all bytes of s.
func New(s string) *Reader { return &Reader{text: s} }

// Number reads a number of so many bytes.
func (r *Reader) Number(width int) (n uint64, e api.Errno) {
	if !mayBeWidth(width) {
		return 0, api.ErrArg
	}
	defer r.goBack(&e)()
	for i := range width {
		if r.Left() == 0 {
			return 0, api.ErrShort
		}
		n |= uint64(r.text[r.place]) << (8 * i)
		r.place++
	}
	return n, api.OK
}

// Real reads a real of eight bytes.
func (r *Reader) Real() (float64, api.Errno) {
	b, e := r.Number(mostWidth)
	if e != api.OK {
		return 0, e
	}
	// Through the bits once more, as the bytes may be those of any real that
	// is no number.
	return math.Float64frombits(bitsOf(math.Float64frombits(b))), api.OK
}

// Text reads a text of at most so many bytes.
func (r *Reader) Text(most int) (s string, e api.Errno) {
	defer r.goBack(&e)()
	length, e := r.Number(lengthWidth)
	if e != api.OK {
		return "", e
	}
	many := int(length)
	if many > most {
		return "", api.ErrWide
	}
	if many > r.Left() {
		return "", api.ErrShort
	}
	from := r.place
	r.place += many
	return r.text[from:r.place], api.OK
}

// End tells whether all bytes are read.
func (r *Reader) End() api.Errno {
	if r.Left() > 0 {
		return api.ErrMore
	}
	return api.OK
}

// Left tells how many bytes are not read yet.
func (r *Reader) Left() int { return len(r.text) - r.place }

// goBack answers what is to be deferred: a read may go on byte by byte, as it
// takes back what it has read where e is an error in the end.
func (r *Reader) goBack(e *api.Errno) func() {
	place := r.place
	return func() {
		if *e != api.OK {
			r.place = place
		}
	}
}

func mayBeWidth(width int) bool { return width >= 1 && width <= mostWidth }

func bitsOf(x float64) uint64 {
	if math.IsNaN(x) {
		return notNumber
	}
	return math.Float64bits(x)
}
