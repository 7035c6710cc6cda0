package bitio

import (
	"bytes"
	"math"
	"math/rand/v2"
	"reflect"
	"testing"
)

// row is bits the way the chapter tells them: each one a number of its own.
type row []uint32

// put is the row with the n lowest bits of v behind, the lowest one first.
func (o row) put(v uint32, n int) row {
	for range n {
		o = append(o, v&1)
		v >>= 1
	}
	return o
}

// align is the row with noughts behind, till it is a multiple of 8.
func (o row) align() row {
	for len(o)%8 != 0 {
		o = append(o, 0)
	}
	return o
}

// number is what the row says, its first bit being the lowest.
func (o row) number() uint32 {
	v := uint32(0)
	for i, bit := range o {
		v += bit << i
	}
	return v
}

// bytes are those that have the row's bits: the bit i is the bit i modulo 8 of the byte i / 8.
func (o row) bytes() []byte {
	b := make([]byte, (len(o)+7)/8)
	for i, bit := range o {
		b[i/8] += byte(bit) << (i % 8)
	}
	return b
}

// rowOf is the bits that b has.
func rowOf(b []byte) row {
	var o row
	for _, c := range b {
		o = o.put(uint32(c), 8)
	}
	return o
}

// wrongCounts are those of bits that nothing is put or got of.
var wrongCounts = []int{-1, -8, -32, 33, 34, 40, 64, 256, 1 << 32, 1<<32 + 1, math.MinInt, math.MinInt + 8, math.MaxInt}

// words are numbers whose bits differ at their ends, or not at all.
var words = []uint32{0, 1, 2, 0xFFFFFFFF, 0x80000000, 0x80000001, 0x7FFFFFFE, 0xAAAAAAAA, 0x55555555, 0x12345678}

func numbers() *rand.Rand {
	return rand.New(rand.NewPCG(3, 3))
}

// sameWriter looks whether w has the bits of want.
func sameWriter(t *testing.T, what string, w *Writer, want row) {
	t.Helper()
	if w.Len() != len(want) || !bytes.Equal(w.Bytes(), want.bytes()) {
		t.Fatalf("%s: %d bits, %x; want %d, %x", what, w.Len(), w.Bytes(), len(want), want.bytes())
	}
}

// samePlace looks whether r is at the place at, of so many bits.
func samePlace(t *testing.T, what string, r *Reader, at, of int) {
	t.Helper()
	if r.At() != at || r.Left() != of-at {
		t.Fatalf("%s: at %d, %d left; want %d, %d", what, r.At(), r.Left(), at, of-at)
	}
}

// P3.1, P3.2: the chapter's example.
func TestExample(t *testing.T) {
	w := NewWriter()
	for _, c := range []struct {
		v uint32
		n int
	}{{5, 3}, {1, 1}, {0x1FF, 9}} {
		if !w.Put(c.v, c.n) {
			t.Errorf("Put(%d, %d) was refused", c.v, c.n)
		}
	}
	if w.Len() != 13 || !bytes.Equal(w.Bytes(), []byte{0xFD, 0x1F}) {
		t.Errorf("%d bits, %x", w.Len(), w.Bytes())
	}
	r := NewReader([]byte{0xFD, 0x1F})
	for _, c := range []struct {
		n    int
		want uint32
		ok   bool
	}{{3, 5, true}, {1, 1, true}, {9, 0x1FF, true}, {4, 0, false}, {3, 0, true}} {
		if got, ok := r.Get(c.n); got != c.want || ok != c.ok {
			t.Errorf("Get(%d): %d, %t, want %d, %t", c.n, got, ok, c.want, c.ok)
		}
	}
	samePlace(t, "the end", r, 16, 16)
}

// P3.1: a new writer has no bits, and each has its own.
func TestNewWriter(t *testing.T) {
	one, two := NewWriter(), NewWriter()
	sameWriter(t, "a new writer", one, nil)
	one.Put(3, 2)
	sameWriter(t, "the one that was put to", one, row{1, 1})
	sameWriter(t, "the other one", two, nil)
}

// P3.1: each count of bits, of each word, at each place in a byte.
func TestPutOfEachCount(t *testing.T) {
	for ahead := range 40 {
		for n := range 33 {
			for _, v := range words {
				w, want := NewWriter(), row(nil)
				for i := range ahead {
					w.Put(uint32(i), 1)
					want = want.put(uint32(i), 1)
				}
				if !w.Put(v, n) {
					t.Fatalf("Put(%#x, %d) was refused", v, n)
				}
				sameWriter(t, "a word", w, want.put(v, n))
				// What of v is above its n bits must not turn those that come behind.
				w.Put(0, 32)
				sameWriter(t, "a word and noughts", w, want.put(v, n).put(0, 32))
			}
		}
	}
}

// P3.1: what is put of nothing, or of counts that may not be.
func TestPutOfWrongCounts(t *testing.T) {
	w, want := NewWriter(), row(nil)
	for i := range 20 {
		for _, n := range wrongCounts {
			if w.Put(0xFFFFFFFF, n) {
				t.Fatalf("Put of %d bits was done", n)
			}
			sameWriter(t, "behind what was refused", w, want)
		}
		if !w.Put(0xFFFFFFFF, 0) {
			t.Fatal("Put of no bits was refused")
		}
		sameWriter(t, "behind no bits", w, want)
		w.Put(1, 1+i%3)
		want = want.put(1, 1+i%3)
	}
}

// P3.1: Align fills up to the next multiple of 8, and does nothing there.
func TestAlignOfWriter(t *testing.T) {
	for n := range 33 {
		w, want := NewWriter(), row(nil).put(0xFFFFFFFF, n).align()
		w.Put(0xFFFFFFFF, n)
		for range 2 {
			w.Align()
			sameWriter(t, "aligned", w, want)
		}
		w.Put(1, 1)
		sameWriter(t, "one behind", w, want.put(1, 1))
	}
}

// P3.1: nothing changes by Bytes, whatever is done to what it answered, and the other way about.
func TestBytesAreNew(t *testing.T) {
	w, want := NewWriter(), row(nil)
	for i := range 60 {
		told := w.Bytes()
		for range 2 {
			sameWriter(t, "asked again", w, want)
		}
		before := bytes.Clone(told)
		w.Put(uint32(i)*0x9E3779B9, 5)
		want = want.put(uint32(i)*0x9E3779B9, 5)
		if !bytes.Equal(told, before) {
			t.Fatal("what was told was changed by a Put")
		}
		for j := range told[:cap(told)] {
			told[:cap(told)][j] ^= 0xFF
		}
		sameWriter(t, "behind a change of what was told", w, want)
	}
}

// P3.1: calls of all kinds, one behind the other.
func TestWriterOfMany(t *testing.T) {
	from := numbers()
	for range 300 {
		w, want := NewWriter(), row(nil)
		for range 60 {
			if from.IntN(8) == 0 {
				w.Align()
				want = want.align()
			} else {
				v, n := from.Uint32(), from.IntN(33)
				w.Put(v, n)
				want = want.put(v, n)
			}
			sameWriter(t, "many calls", w, want)
		}
	}
}

// P3.2: a reader of no bytes.
func TestReaderOfNothing(t *testing.T) {
	for _, b := range [][]byte{nil, {}} {
		r := NewReader(b)
		r.Align()
		samePlace(t, "no bytes", r, 0, 0)
		if v, ok := r.Get(0); v != 0 || !ok {
			t.Errorf("Get(0): %d, %t", v, ok)
		}
		if v, ok := r.Get(1); v != 0 || ok {
			t.Errorf("Get(1): %d, %t", v, ok)
		}
		samePlace(t, "no bytes, asked", r, 0, 0)
	}
}

// P3.2: each count of bits, at each place of bytes, to their very end and over it.
func TestGetAtEachPlace(t *testing.T) {
	from := numbers()
	for size := range 11 {
		b := make([]byte, size)
		for i := range b {
			b[i] = byte(from.Uint32())
		}
		for _, b := range [][]byte{b, bytes.Repeat([]byte{0xFF}, size), bytes.Repeat([]byte{0}, size)} {
			all := rowOf(b)
			for at := range len(all) + 1 {
				for n := range 33 {
					r := readerAt(b, at)
					v, ok := r.Get(n)
					if at+n > len(all) {
						if v != 0 || ok {
							t.Fatalf("%x, at %d: Get(%d): %#x, %t, where so many aren't left", b, at, n, v, ok)
						}
						samePlace(t, "refused", r, at, len(all))
						continue
					}
					if want := all[at : at+n].number(); v != want || !ok {
						t.Fatalf("%x, at %d: Get(%d): %#x, %t, want %#x", b, at, n, v, ok, want)
					}
					samePlace(t, "got", r, at+n, len(all))
				}
			}
		}
	}
}

// readerAt is a reader of b of which so many bits were read, one by one.
func readerAt(b []byte, at int) *Reader {
	r := NewReader(b)
	for range at {
		r.Get(1)
	}
	return r
}

// P3.2: counts that may not be: nothing is read.
func TestGetOfWrongCounts(t *testing.T) {
	b := bytes.Repeat([]byte{0xFF}, 100)
	for _, at := range []int{0, 1, 7, 8, 9, 400, 799, 800} {
		r := readerAt(b, at)
		for _, n := range wrongCounts {
			if v, ok := r.Get(n); v != 0 || ok {
				t.Errorf("at %d, Get(%d): %d, %t", at, n, v, ok)
			}
			samePlace(t, "refused", r, at, 800)
		}
	}
}

// P3.2: where more is wanted than there is, what there is can still be got.
func TestGetBehindARefusal(t *testing.T) {
	r := NewReader([]byte{0x5A})
	for left := 8; left > 0; left-- {
		if v, ok := r.Get(left + 1); v != 0 || ok {
			t.Errorf("%d bits left, Get(%d): %d, %t", left, left+1, v, ok)
		}
		if v, ok := r.Get(1); v != uint32(0x5A>>(8-left)&1) || !ok {
			t.Errorf("%d bits left, Get(1): %d, %t", left, v, ok)
		}
	}
	samePlace(t, "all read", r, 8, 8)
}

// P3.2: Align goes to the next multiple of 8, and stays there, at the end, too.
func TestAlignOfReader(t *testing.T) {
	b := []byte{1, 2, 3, 4}
	for at := range 33 {
		r := readerAt(b, at)
		want := (at + 7) / 8 * 8
		for range 2 {
			r.Align()
			samePlace(t, "aligned", r, want, 32)
		}
		if want == 32 {
			continue
		}
		if v, ok := r.Get(8); v != uint32(b[want/8]) || !ok {
			t.Errorf("from %d on, behind Align: %d, %t", at, v, ok)
		}
	}
}

// P3.2: calls of all kinds, one behind the other.
func TestReaderOfMany(t *testing.T) {
	from := numbers()
	for range 300 {
		b := make([]byte, from.IntN(100))
		for i := range b {
			b[i] = byte(from.Uint32())
		}
		all, at, r := rowOf(b), 0, NewReader(b)
		for range 60 {
			if from.IntN(8) == 0 {
				r.Align()
				at += (8 - at%8) % 8
			} else if n := from.IntN(36) - 1; n < 0 || n > 32 || at+n > len(all) {
				if v, ok := r.Get(n); v != 0 || ok {
					t.Fatalf("at %d of %d, Get(%d): %#x, %t", at, len(all), n, v, ok)
				}
			} else {
				if v, ok := r.Get(n); v != all[at:at+n].number() || !ok {
					t.Fatalf("at %d of %d, Get(%d): %#x, %t", at, len(all), n, v, ok)
				}
				at += n
			}
			samePlace(t, "many calls", r, at, len(all))
		}
	}
}

// P3.3: what is put is got, piece by piece, at the same places.
func TestWhatIsPutIsGot(t *testing.T) {
	type piece struct {
		v     uint32
		n, at int
	}
	from := numbers()
	for range 300 {
		w, pieces := NewWriter(), []piece(nil)
		for range from.IntN(100) {
			n := from.IntN(34) - 1
			if n < 0 {
				w.Align()
				pieces = append(pieces, piece{n: n, at: w.Len()})
				continue
			}
			v := uint32(from.Uint64() & (1<<n - 1))
			w.Put(v, n)
			pieces = append(pieces, piece{v: v, n: n, at: w.Len()})
		}
		r := NewReader(w.Bytes())
		for _, p := range pieces {
			if p.n < 0 {
				r.Align()
			} else if v, ok := r.Get(p.n); v != p.v || !ok {
				t.Fatalf("%d bits that end at %d: %#x, %t, want %#x", p.n, p.at, v, ok, p.v)
			}
			if r.At() != p.at {
				t.Fatalf("at %d, want %d", r.At(), p.at)
			}
		}
		r.Align()
		if r.Left() != 0 {
			t.Fatalf("%d bits left", r.Left())
		}
	}
}

// P3.3: however bits are parted into pieces, they are the same bytes, and the same bits.
func TestPartedBits(t *testing.T) {
	from := numbers()
	for range 300 {
		all := row(nil)
		for range from.IntN(400) {
			all = all.put(from.Uint32(), 1)
		}
		w := NewWriter()
		for rest := all; len(rest) > 0; {
			n := from.IntN(min(32, len(rest)) + 1)
			w.Put(rest[:n].number()|uint32(from.Uint64()<<n), n)
			rest = rest[n:]
		}
		sameWriter(t, "parted", w, all)
		got, r := row(nil), NewReader(w.Bytes())
		for len(got) < len(all) {
			n := from.IntN(min(32, len(all)-len(got)) + 1)
			v, _ := r.Get(n)
			got = got.put(v, n)
		}
		if !bytes.Equal(got.bytes(), all.bytes()) {
			t.Fatalf("parted while reading: %x, want %x", got.bytes(), all.bytes())
		}
	}
}

// P3.1, R5: a writer that NewWriter did not answer does nothing, and tells zero.
func TestNoWriter(t *testing.T) {
	made := NewWriter()
	made.Put(0xFFFF, 13)
	dup := new(Writer)
	reflect.ValueOf(dup).Elem().Set(reflect.ValueOf(made).Elem())
	for name, w := range map[string]*Writer{"nil": nil, "zero": {}, "copy": dup} {
		for _, n := range []int{0, 1, 8, 32, 33, -1} {
			if w.Put(1, n) {
				t.Errorf("%s writer: Put of %d bits was done", name, n)
			}
		}
		w.Align()
		if w.Len() != 0 || len(w.Bytes()) != 0 {
			t.Errorf("%s writer: %d bits, %x", name, w.Len(), w.Bytes())
		}
	}
	sameWriter(t, "the one that was copied", made, row(nil).put(0xFFFF, 13))
}

// P3.2, R5: a reader that NewReader did not answer does nothing, and tells zero.
func TestNoReader(t *testing.T) {
	made := NewReader([]byte{1, 2, 3})
	made.Get(3)
	dup := new(Reader)
	reflect.ValueOf(dup).Elem().Set(reflect.ValueOf(made).Elem())
	for name, r := range map[string]*Reader{"nil": nil, "zero": {}, "copy": dup} {
		for _, n := range []int{0, 1, 8, 32, 33, -1} {
			if v, ok := r.Get(n); v != 0 || ok {
				t.Errorf("%s reader: Get(%d): %d, %t", name, n, v, ok)
			}
		}
		r.Align()
		if r.At() != 0 || r.Left() != 0 {
			t.Errorf("%s reader: at %d, %d left", name, r.At(), r.Left())
		}
	}
	samePlace(t, "the one that was copied", made, 3, 24)
}

// R3: what a reader is of is neither changed nor kept.
func TestBytesOfAReaderStay(t *testing.T) {
	b := []byte{1, 2, 3, 4, 5}
	r := NewReader(b)
	r.Get(11)
	r.Align()
	if !bytes.Equal(b, []byte{1, 2, 3, 4, 5}) {
		t.Error("the bytes were changed")
	}
	clear(b)
	if v, ok := r.Get(24); v != 0x050403 || !ok {
		t.Errorf("%#x, %t: the bytes were kept", v, ok)
	}
}
