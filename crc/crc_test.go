package crc

import (
	"bytes"
	"hash/crc32"
	"math/bits"
	"math/rand/v2"
	"reflect"
	"sync"
	"testing"
)

// polynomials are known ones, and those whose lowest, highest, only or missing bits might be handled otherwise.
var polynomials = []uint32{
	castagnoli, crc32.IEEE, crc32.Koopman, 0, 1, 2, 3, 0x80, 0x100, 0x7FFFFFFF, 0x80000000, 0x80000001, 0xFFFFFFFE,
	0xFFFFFFFF, 0x00010000, 0x12345678, 0xAAAAAAAA, 0x55555555,
}

// beginnings are sums to begin with.
var beginnings = []uint32{0, 1, 0x80, 0xFF, 0x100, 0x80000000, 0x7FFFFFFF, 0xFFFFFFFE, 0xFFFFFFFF, 0xE3069283}

// lengths are those of rows that are tried.
var lengths = []int{0, 1, 2, 3, 4, 5, 7, 8, 9, 15, 16, 17, 31, 64, 255, 256, 257, 1000}

// stepwise is the chapter's words, bit by bit, with no table.
func stepwise(poly, sum uint32, b []byte) uint32 {
	word := ^sum
	for _, c := range b {
		word ^= uint32(c)
		for range 8 {
			lowest := word & 1
			word >>= 1
			if lowest == 1 {
				word ^= poly
			}
		}
	}
	return ^word
}

// noise makes rows of bytes, alike each time.
func noise() func(n int) []byte {
	from := rand.New(rand.NewPCG(5, 11))
	return func(n int) []byte {
		b := make([]byte, n)
		for i := range b {
			b[i] = byte(from.Uint32())
		}
		return b
	}
}

// P2.1: the chapter's example of another polynomial.
func TestTableOfKnownSum(t *testing.T) {
	table := New(0xEDB88320)
	for range 2 {
		if got := table.Add(0, []byte("123456789")); got != 0xCBF43926 {
			t.Errorf("%#x, want 0xCBF43926", got)
		}
	}
}

// P2.1: each byte alone, behind each beginning, whichever the polynomial.
func TestTableOfEachByte(t *testing.T) {
	for _, poly := range polynomials {
		table := New(poly)
		for _, sum := range beginnings {
			for c := range 256 {
				b := []byte{byte(c)}
				if got, want := table.Add(sum, b), stepwise(poly, sum, b); got != want {
					t.Fatalf("polynomial %#x, sum %#x, byte %d: %#x, want %#x", poly, sum, c, got, want)
				}
			}
		}
	}
}

// P2.1: longer rows, of noise and of equal bytes.
func TestTableOfRows(t *testing.T) {
	draw := noise()
	for _, poly := range polynomials {
		table := New(poly)
		for _, n := range lengths {
			for _, b := range [][]byte{draw(n), bytes.Repeat([]byte{0}, n), bytes.Repeat([]byte{255}, n)} {
				for _, sum := range beginnings {
					if got, want := table.Add(sum, b), stepwise(poly, sum, b); got != want {
						t.Fatalf("polynomial %#x, sum %#x, %d bytes: %#x, want %#x", poly, sum, n, got, want)
					}
				}
			}
		}
	}
}

// P2.1: polynomials of no chosen kind, against the steps and the library.
func TestTableOfAnyPolynomial(t *testing.T) {
	from, draw := rand.New(rand.NewPCG(3, 1)), noise()
	for range 300 {
		poly, sum, b := from.Uint32(), from.Uint32(), draw(from.IntN(80))
		got := New(poly).Add(sum, b)
		if want := stepwise(poly, sum, b); got != want {
			t.Fatalf("polynomial %#x, sum %#x, %x: %#x, want %#x", poly, sum, b, got, want)
		}
		if want := crc32.Update(sum, crc32.MakeTable(poly), b); got != want {
			t.Fatalf("polynomial %#x, sum %#x, %x: %#x, the library has %#x", poly, sum, b, got, want)
		}
	}
}

// P2.1: nothing taken in leaves the sum, nil or empty.
func TestAddOfNothing(t *testing.T) {
	for _, poly := range polynomials {
		table := New(poly)
		for _, sum := range beginnings {
			if table.Add(sum, nil) != sum || table.Add(sum, []byte{}) != sum {
				t.Errorf("polynomial %#x: nothing turns %#x into another sum", poly, sum)
			}
		}
	}
}

// P2.1, R5: a table that New did not answer tells zero.
func TestNoTable(t *testing.T) {
	made := New(castagnoli)
	made.Add(0, []byte{1})
	dup := new(Table)
	reflect.ValueOf(dup).Elem().Set(reflect.ValueOf(made).Elem())
	for name, table := range map[string]*Table{"nil": nil, "zero": {}, "new": new(Table), "copy": dup} {
		for _, sum := range beginnings {
			for _, b := range [][]byte{nil, {}, {0}, []byte("123456789")} {
				if got := table.Add(sum, b); got != 0 {
					t.Errorf("%s table, sum %#x, %x: %#x, want 0", name, sum, b, got)
				}
			}
		}
	}
}

// P2.1: tables of several polynomials are apart, in whichever order they are asked.
func TestTablesApart(t *testing.T) {
	b := noise()(100)
	tables := make([]*Table, len(polynomials))
	for i, poly := range polynomials {
		tables[i] = New(poly)
	}
	for range 2 {
		for i := range tables {
			back := len(tables) - 1 - i
			if got, want := tables[back].Add(7, b), stepwise(polynomials[back], 7, b); got != want {
				t.Errorf("polynomial %#x: %#x, want %#x", polynomials[back], got, want)
			}
		}
	}
}

// P2.1, the chapter's Ways: the rows are made when they are first asked for, and once.
func TestRowsAreMadeOnce(t *testing.T) {
	table := New(castagnoli)
	if table.rows != [256]uint32{} {
		t.Error("the rows are made before they are asked for")
	}
	table.Add(0, []byte{1})
	for i, row := range table.rows {
		if want := ^stepwise(castagnoli, ^uint32(i), []byte{0}); row != want {
			t.Errorf("row %d: %#x, want %#x", i, row, want)
		}
	}
	table.rows[1] = 77
	table.Add(0, []byte{1})
	if table.rows[1] != 77 {
		t.Error("the rows were made twice")
	}
}

// P2.1: several that ask a table at one time, for the first time, are told the same.
func TestAddAtOneTime(t *testing.T) {
	table, b := New(castagnoli), noise()(1000)
	sums := make([]uint32, 8)
	var all sync.WaitGroup
	for i := range sums {
		all.Go(func() { sums[i] = table.Add(9, b) })
	}
	all.Wait()
	for _, sum := range sums {
		if want := stepwise(castagnoli, 9, b); sum != want {
			t.Errorf("%#x, want %#x", sum, want)
		}
	}
}

// P2.2: the chapter's examples, and those of RFC 3720.
func TestSumOfKnownRows(t *testing.T) {
	rising, falling := make([]byte, 32), make([]byte, 32)
	for i := range rising {
		rising[i], falling[31-i] = byte(i), byte(i)
	}
	for _, c := range []struct {
		b    []byte
		want uint32
	}{
		{[]byte("123456789"), 0xE3069283},
		{nil, 0},
		{[]byte{}, 0},
		{[]byte{0}, 0x527D5351},
		{bytes.Repeat([]byte{0}, 32), 0x8A9136AA},
		{bytes.Repeat([]byte{255}, 32), 0x62A8AB43},
		{rising, 0x46DD794E},
		{falling, 0x113FDB5C},
	} {
		if got := Sum(c.b); got != c.want {
			t.Errorf("Sum of %x: %#x, want %#x", c.b, got, c.want)
		}
		if got := Add(0, c.b); got != c.want {
			t.Errorf("Add of 0 and %x: %#x, want %#x", c.b, got, c.want)
		}
	}
}

// P2.2: both tell what a table of Castagnoli's polynomial tells, and what the steps and the library do.
func TestSumIsCastagnolis(t *testing.T) {
	draw, table, library := noise(), New(0x82F63B78), crc32.MakeTable(crc32.Castagnoli)
	for _, n := range append([]int{1 << 20}, lengths...) {
		b := draw(n)
		if got, want := Sum(b), table.Add(0, b); got != want || got != crc32.Checksum(b, library) {
			t.Errorf("Sum of %d bytes: %#x, the table has %#x", n, got, want)
		}
		for _, sum := range beginnings {
			got := Add(sum, b)
			if got != table.Add(sum, b) || got != stepwise(castagnoli, sum, b) || got != crc32.Update(sum, library, b) {
				t.Errorf("Add of %#x and %d bytes: %#x, the table has %#x", sum, n, got, table.Add(sum, b))
			}
		}
	}
}

// P2.3: each way to part a row in three is as if it were added at once.
func TestParts(t *testing.T) {
	b := noise()(40)
	for _, poly := range polynomials {
		table := New(poly)
		want := table.Add(77, b)
		for i := range len(b) + 1 {
			for j := i; j <= len(b); j++ {
				if got := table.Add(table.Add(table.Add(77, b[:i]), b[i:j]), b[j:]); got != want {
					t.Fatalf("polynomial %#x, parted at %d and %d: %#x, want %#x", poly, i, j, got, want)
				}
			}
		}
	}
	for i := range len(b) + 1 {
		if Add(Sum(b[:i]), b[i:]) != Sum(b) {
			t.Errorf("parted at %d: another sum", i)
		}
	}
}

// P2.3: three rows, and the one that has the bits of an odd number of them: their four sums have no odd bit.
func TestFourSumsHaveNoOddBit(t *testing.T) {
	draw := noise()
	for _, n := range lengths {
		one, two, three := draw(n), draw(n), draw(n)
		odd := bytes.Clone(one)
		for i := range odd {
			odd[i] ^= two[i] ^ three[i]
		}
		if Sum(one)^Sum(two)^Sum(three)^Sum(odd) != 0 {
			t.Errorf("%d bytes: the four sums have an odd bit", n)
		}
		for _, poly := range polynomials {
			table := New(poly)
			for _, sum := range beginnings {
				if table.Add(sum, one)^table.Add(sum, two)^table.Add(sum, three)^table.Add(sum, odd) != 0 {
					t.Errorf("polynomial %#x, sum %#x, %d bytes: the four sums have an odd bit", poly, sum, n)
				}
			}
		}
	}
}

// turned is b with the bits of pattern turned, its lowest one being the at-th of b.
func turned(b []byte, at int, pattern uint32) []byte {
	b = bytes.Clone(b)
	for ; pattern != 0; pattern &= pattern - 1 {
		p := at + bits.TrailingZeros32(pattern)
		b[p/8] ^= 1 << (p % 8)
	}
	return b
}

// P2.3: up to 32 turned bits, one behind the other, make another sum, wherever they are.
func TestTurnedBitsTell(t *testing.T) {
	from, b := rand.New(rand.NewPCG(8, 2)), noise()(20)
	sum := Sum(b)
	look := func(at int, pattern uint32) {
		if at+bits.Len32(pattern) <= 8*len(b) && Sum(turned(b, at, pattern)) == sum {
			t.Errorf("bits %#x turned from bit %d on: the same sum", pattern, at)
		}
	}
	for at := range 8 * len(b) {
		for n := range 32 {
			look(at, 1<<(n+1)-1)
			look(at, 1|1<<n)
			look(at, 1|1<<n|from.Uint32()&(1<<n-1))
		}
		// A one and the polynomial's 32 bits behind it would be overlooked: these are all of them but an end.
		look(at, castagnoli)
		look(at, castagnoli<<1&0xFFFFFFFF|1)
	}
}

// P2.3: the same, in rows shorter than 32 bits: each pattern that a row of two bytes can have.
func TestTurnedBitsOfShortRows(t *testing.T) {
	b := []byte{0xA5, 0x0F}
	sum := Sum(b)
	for pattern := uint32(1); pattern < 1<<16; pattern++ {
		if Sum(turned(b, 0, pattern)) == sum {
			t.Fatalf("bits %#x turned: the same sum", pattern)
		}
	}
}

// R3: what is handed in is not changed.
func TestBytesStay(t *testing.T) {
	b := noise()(100)
	before := bytes.Clone(b)
	New(1).Add(2, b)
	Sum(b)
	Add(3, b)
	if !bytes.Equal(b, before) {
		t.Error("the bytes were changed")
	}
}
