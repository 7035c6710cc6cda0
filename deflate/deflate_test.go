package deflate

import (
	"bytes"
	"compress/flate"
	"io"
	"math"
	"math/rand/v2"
	"slices"
	"strings"
	"sync"
	"testing"

	"peatbank/api"
	"peatbank/bitio"
	"peatbank/huff"
	"peatbank/inflate"
	"peatbank/lz"
)

func numbers() *rand.Rand {
	return rand.New(rand.NewPCG(7, 7))
}

// wrongNumbers are no numbers of bytes.
var wrongNumbers = []int{
	-1, -2, -65535, -65536, math.MinInt, math.MinInt + 1, math.MaxInt, math.MaxInt - 1, 65537, 131070, 1 << 32,
	1<<32 + 1, -1 << 32,
}

// mustSay fails unless a stream says b, to the library's reader, too.
func mustSay(t *testing.T, stream, b []byte) {
	t.Helper()
	if got, read, err := inflate.Inflate(stream, len(b)); err != api.OK || read != len(stream) || !bytes.Equal(got, b) {
		t.Fatalf("%d bytes: a stream of %d says %d, %d being read: %v", len(b), len(stream), len(got), read, err)
	}
	left := bytes.NewReader(stream)
	got, err := io.ReadAll(flate.NewReader(left))
	if err != nil || left.Len() != 0 || !bytes.Equal(got, b) {
		t.Fatalf("%d bytes: to the library a stream of %d says %d: %v", len(b), len(stream), len(got), err)
	}
}

// deflated answers b's stream, and fails unless it is one that the document allows.
func deflated(t *testing.T, b []byte) []byte {
	t.Helper()
	stream, err := Deflate(b)
	if err != api.OK {
		t.Fatalf("%d bytes: %v", len(b), err)
	}
	mustSay(t, stream, b)
	if most := mostOf(len(b)); len(stream) > most || most != Bound(len(b)) {
		t.Fatalf("%d bytes: a stream of %d, above %d (Bound: %d)", len(b), len(stream), most, Bound(len(b)))
	}
	return stream
}

// mostOf is the chapter's words: the quotient is counted.
func mostOf(n int) int {
	quotient := 0
	for rest := n; rest >= 65535; rest -= 65535 {
		quotient++
	}
	return n + 5*(quotient+1) + 1
}

// noise answers n bytes, each one of the first so many.
func noise(r *rand.Rand, n, of int) []byte {
	b := make([]byte, n)
	for i := range b {
		b[i] = byte(r.IntN(of))
	}
	return b
}

// patchwork answers n bytes, pieces of which stood ahead.
func patchwork(r *rand.Rand, n, of int) []byte {
	b := noise(r, 1, of)
	for len(b) < n {
		if r.IntN(3) > 0 {
			from := r.IntN(len(b))
			b = append(b, b[from:min(len(b), from+r.IntN(600))]...)
		} else {
			b = append(b, noise(r, r.IntN(40), of)...)
		}
	}
	return b[:n]
}

// uneven answers n bytes, low ones coming far more often.
func uneven(r *rand.Rand, n int) []byte {
	b := make([]byte, n)
	for i := range b {
		b[i] = byte(r.ExpFloat64() * 9)
	}
	return b
}

// someTexts are of many kinds and lengths.
func someTexts() [][]byte {
	r := numbers()
	texts := [][]byte{
		nil, {0}, []byte("abc"), []byte(strings.Repeat("a layer is cut, a layer is peat, peat is kept. ", 300)),
	}
	for _, n := range []int{1, 2, 3, 10, 257, 258, 259, 511, 512, 4096, 32767, 32768, 32769, 65534, 65535, 65536} {
		texts = append(texts, make([]byte, n), noise(r, n, 256), noise(r, n, 2), patchwork(r, n, 256), uneven(r, n))
	}
	for range 100 {
		n := r.IntN(6000)
		texts = append(texts, patchwork(r, n, 1+r.IntN(256)), noise(r, n, 1+r.IntN(256)), uneven(r, n))
	}
	return texts
}

// P7.1: each number of bytes there may be.
func TestBound(t *testing.T) {
	for n := range 65536 + 1 {
		if got := Bound(n); got != mostOf(n) {
			t.Fatalf("Bound(%d) = %d, not %d", n, got, mostOf(n))
		}
	}
	for n, want := range map[int]int{0: 6, 1: 7, 65534: 65540, 65535: 65546, 65536: 65547} {
		if got := Bound(n); got != want {
			t.Errorf("Bound(%d) = %d, not %d", n, got, want)
		}
	}
}

// P7.1: others.
func TestBoundOfNone(t *testing.T) {
	for _, n := range wrongNumbers {
		if got := Bound(n); got != 0 {
			t.Errorf("Bound(%d) = %d", n, got)
		}
	}
}

// P7.2: the chapter's examples.
func TestExamples(t *testing.T) {
	for _, b := range [][]byte{nil, {}} {
		if stream := deflated(t, b); len(stream) > 6 {
			t.Errorf("of no bytes: %x", stream)
		}
	}
	if stream := deflated(t, make([]byte, 4096)); len(stream) > 56 {
		t.Errorf("of 4096 noughts: %d bytes", len(stream))
	}
}

// P7.2: bytes that are too many.
func TestTooLong(t *testing.T) {
	for _, n := range []int{65537, 65538, 1 << 17, 1<<20 + 3} {
		for _, b := range [][]byte{make([]byte, n), noise(numbers(), n, 256)} {
			if stream, err := Deflate(b); err != api.ErrLong || stream != nil {
				t.Errorf("%d bytes: a stream of %d, %v", n, len(stream), err)
			}
		}
	}
}

// P7.2: texts of all kinds; bytes that are noise take no more than Bound says, up to the last ones.
func TestStreams(t *testing.T) {
	for _, b := range someTexts() {
		deflated(t, b)
	}
}

// P7.2: all rows of up to two bytes, and longer ones of few.
func TestShort(t *testing.T) {
	for one := range 256 {
		deflated(t, []byte{byte(one)})
		for other := one % 5; other < 256; other += 5 {
			deflated(t, []byte{byte(one), byte(other)})
		}
	}
	rows := [][]byte{nil}
	for range 6 {
		var longer [][]byte
		for _, row := range rows {
			for _, c := range []byte{0, 200, 255} {
				longer = append(longer, append(slices.Clone(row), c))
			}
		}
		for _, row := range longer {
			deflated(t, row)
		}
		rows = longer
	}
}

// P7.2: bytes without any that stands twice; and with all that there are.
func TestAllBytes(t *testing.T) {
	var b []byte
	for c := range 256 {
		b = append(b, byte(c*167))
		deflated(t, b)
	}
}

// P7.2: equal bytes.
func TestEqual(t *testing.T) {
	many := func(c byte, n int) {
		t.Helper()
		stream := deflated(t, bytes.Repeat([]byte{c}, n))
		if len(stream) > n/100+16 {
			t.Fatalf("%d times %d: a stream of %d bytes", n, c, len(stream))
		}
	}
	for n := range 1100 {
		many(byte(n*31), n)
	}
	for _, c := range []byte{0, 1, 143, 144, 255} {
		for n := range 64 {
			many(c, n)
		}
		for _, n := range []int{258, 259, 260, 1000, 4095, 4096, 32768, 32769, 65534, 65535, 65536} {
			many(c, n)
		}
	}
	for n := 1100; n <= 65536; n += 733 {
		many(7, n)
	}
}

// P7.3: something behind, and each most.
func TestBehind(t *testing.T) {
	r := numbers()
	for i, b := range someTexts() {
		if i%3 != 0 {
			continue
		}
		stream := deflated(t, b)
		for _, behind := range [][]byte{{0}, {255}, noise(r, 1+r.IntN(50), 256), stream} {
			all := append(slices.Clone(stream), behind...)
			for _, most := range []int{len(b), min(len(b)+1, 65536), len(b) + r.IntN(65537-len(b)), 65536} {
				got, read, err := inflate.Inflate(all, most)
				if err != api.OK || read != len(stream) || !bytes.Equal(got, b) {
					t.Fatalf("%d bytes, most %d: %d, %d of %d read, %v", len(b), most, len(got), read, len(stream), err)
				}
			}
		}
	}
}

// writers are those of all kinds of blocks.
var writers = []func(stream, text, int){stream.bare, stream.fixed, stream.own}

func written(kind int, t text) []byte {
	s := stream{bitio.NewWriter()}
	writers[kind](s, t, kind)
	return s.Bytes()
}

// P7.2: each kind of blocks says what it is given; what is told is the shortest one.
func TestKinds(t *testing.T) {
	told := map[int]int{}
	for _, b := range someTexts() {
		shortest, by := math.MaxInt, 0
		for kind := range writers {
			stream := written(kind, text{bytes: b, symbols: symbols(lz.Parse(b))})
			mustSay(t, stream, b)
			if len(stream) < shortest {
				shortest, by = len(stream), kind
			}
			if got := int(stream[0] >> 1 & 3); got != kind {
				t.Fatalf("%d bytes: a block of kind %d, not %d", len(b), got, kind)
			}
		}
		if got := deflated(t, b); len(got) != shortest {
			t.Errorf("%d bytes: a stream of %d, where there is one of %d", len(b), len(got), shortest)
		}
		told[by]++
	}
	if len(told) != len(writers) {
		t.Errorf("the shortest ones are of the kinds %v", told)
	}
}

// mustSayPieces fails unless blocks of both kinds that have symbols say what pieces say.
func mustSayPieces(t *testing.T, pieces []api.Piece) {
	t.Helper()
	b, ok := lz.Expand(pieces)
	if !ok {
		t.Fatal("these are no pieces")
	}
	for kind := 1; kind <= 2; kind++ {
		mustSay(t, written(kind, text{symbols: symbols(pieces)}), b)
	}
}

func piecesOf(b []byte) []api.Piece {
	var l []api.Piece
	for _, c := range b {
		l = append(l, api.Piece{Byte: c})
	}
	return l
}

// P7.2: each length of a match.
func TestLengths(t *testing.T) {
	all := piecesOf([]byte("peat"))
	for n := api.MinMatch; n <= api.MaxMatch; n++ {
		all = append(all, api.Piece{Len: n, Dist: 1 + n%4}, api.Piece{Byte: byte(n)})
		mustSayPieces(t, append(piecesOf([]byte("bog")), api.Piece{Len: n, Dist: 3}))
	}
	mustSayPieces(t, all)
}

// P7.2: each distance.
func TestDistances(t *testing.T) {
	beginning := piecesOf(noise(numbers(), api.Window, 256))
	for from := 1; from <= api.Window; from += 10000 {
		l := slices.Clone(beginning)
		for back := from; back <= min(from+9999, api.Window); back++ {
			l = append(l, api.Piece{Len: 3, Dist: back})
		}
		mustSayPieces(t, l)
	}
	for _, back := range []int{1, 2, 4, 5, 6, 7, 8, 9, 24576, 24577, 32767, 32768} {
		mustSayPieces(t, append(slices.Clone(beginning), api.Piece{Len: 258, Dist: back}))
	}
}

// P7.2: codes whose words would be longer than may be, and codes of one word.
func TestUnlikeWeights(t *testing.T) {
	var letters []api.Piece
	distances := piecesOf(noise(numbers(), 1000, 256))
	for i, n, next := 0, 1, 1; i < 19; i, n, next = i+1, next, n+next {
		letters = append(letters, slices.Repeat([]api.Piece{{Byte: byte(i)}}, n)...)
		distances = append(distances, slices.Repeat([]api.Piece{{Len: 3, Dist: distanceBases[i]}}, n)...)
	}
	mustSayPieces(t, letters)
	mustSayPieces(t, distances)
	mustSayPieces(t, nil)
	mustSayPieces(t, piecesOf([]byte{255}))
	mustSayPieces(t, []api.Piece{{Byte: 255}, {Len: 258, Dist: 1}})
}

// rowOf is what a row of symbols of the code for lengths says, in chapter 6's words; nil, if one of them may not be.
func rowOf(l []symbol) []int {
	var row []int
	for _, one := range l {
		length, times, bits := one.place, 1, 0
		switch one.place {
		case 16:
			if len(row) == 0 {
				return nil
			}
			length, times, bits = row[len(row)-1], 3+one.number, 2
		case 17:
			length, times, bits = 0, 3+one.number, 3
		case 18:
			length, times, bits = 0, 11+one.number, 7
		}
		if one.bits != bits || one.number < 0 || one.number >= 1<<bits {
			return nil
		}
		row = append(row, slices.Repeat([]int{length}, times)...)
	}
	return row
}

// fewest is how few symbols a run of a row takes, the length ahead of it being another one.
func fewest(length, n int) int {
	if length != 0 {
		return 1 + fewestOf(n-1, 3, 6)
	}
	if n >= 11 {
		return fewestOf(n, 11, 138) // a rest below 11 is looked at by the row's test
	}
	return fewestOf(n, 3, 10)
}

// fewestOf is how few symbols say n lengths, if one may say from least to most of them, or just one.
func fewestOf(n, least, most int) int {
	whole, rest := n/most, n%most
	if rest >= least {
		rest = 1
	}
	return whole + rest
}

// P7.2: rows of lengths, runs of all sizes among them, and at a row's beginning.
func TestRows(t *testing.T) {
	r := numbers()
	for n := 1; n <= 320; n++ {
		for _, length := range []int{0, 1, 8, 15} {
			run := equal(length, n)
			got := shortened(run)
			if !slices.Equal(rowOf(got), run) {
				t.Fatalf("%d times %d: %v", n, length, got)
			}
			if rest := n % 138; (length != 0 || n < 11 || rest >= 11 || rest == 0) && len(got) != fewest(length, n) {
				t.Fatalf("%d times %d: %v, not %d symbols", n, length, got, fewest(length, n))
			}
			mixed := slices.Concat([]int{7, 7}, run, []int{0, 3}, run)
			if got := shortened(mixed); !slices.Equal(rowOf(got), mixed) {
				t.Fatalf("%d times %d among others: %v", n, length, got)
			}
		}
	}
	for range 3000 {
		var row []int
		for range 1 + r.IntN(20) {
			row = append(row, equal(r.IntN(3)*r.IntN(8), 1+r.IntN(1+r.IntN(150)))...)
		}
		if got := shortened(row); !slices.Equal(rowOf(got), row) {
			t.Fatalf("%v: %v", row, got)
		}
	}
}

// P7.2: a block of kind 2 has no lengths behind the last ones that are wanted, and the best codes.
func TestOwnCodes(t *testing.T) {
	r := bitio.NewReader(written(2, text{symbols: symbols(piecesOf([]byte("aaaaaaaabbbbc")))}))
	begin, _ := r.Get(3)
	letters, _ := r.Get(5)
	distances, _ := r.Get(5)
	lengths, _ := r.Get(4)
	// Lengths are 0, 1, 2, 3, and the symbols 17, 18: in their order the last one is that of 1, the eighteenth.
	if begin != 5 || letters != 0 || distances != 0 || lengths != 14 {
		t.Errorf("a block begins with %d, %d letters, %d distances, %d lengths", begin, letters, distances, lengths)
	}
	b := uneven(numbers(), 30000)
	often := make([]int, 257)
	for _, c := range b {
		often[c]++
	}
	often[256] = 1
	best, _ := huff.Lengths(often, 15)
	taken := 0
	for i, n := range often {
		taken += n * best[i]
	}
	if stream := written(2, text{symbols: symbols(piecesOf(b))}); len(stream) > taken/8+100 {
		t.Errorf("a stream of %d bytes for %d bits of symbols", len(stream), taken)
	}
}

// P7.2: a stream is not much longer than the library's, which looks further for matches.
func TestNotMuchLonger(t *testing.T) {
	for i, b := range someTexts() {
		if i%3 != 0 {
			continue
		}
		var other bytes.Buffer
		w, err := flate.NewWriter(&other, flate.BestCompression)
		if err != nil {
			t.Fatal(err)
		}
		w.Write(b)
		w.Close()
		if stream := deflated(t, b); len(stream) > other.Len()*3/2+8 {
			t.Errorf("%d bytes: a stream of %d, the library's being %d", len(b), len(stream), other.Len())
		}
	}
}

// R3: what is handed in stays as it is, what is told is new; R4: it is told alike each time.
func TestMemory(t *testing.T) {
	for i, b := range someTexts() {
		if i%4 != 0 {
			continue
		}
		roomy := append(slices.Clone(b), 1, 2, 3)
		first, _ := Deflate(roomy[:len(b)])
		if !bytes.Equal(roomy[:len(b)], b) || !bytes.Equal(roomy[len(b):], []byte{1, 2, 3}) {
			t.Fatalf("%d bytes: they were changed", len(b))
		}
		kept := slices.Clone(first)
		clear(roomy)
		if !bytes.Equal(first, kept) {
			t.Fatalf("%d bytes: the stream is theirs", len(b))
		}
		clear(first)
		if again, _ := Deflate(b); !bytes.Equal(again, kept) {
			t.Fatalf("%d bytes: another stream the second time", len(b))
		}
	}
}

// R4: calls that run side by side.
func TestSideBySide(t *testing.T) {
	texts := someTexts()[:40]
	var all sync.WaitGroup
	streams := make([][]byte, 4*len(texts))
	for i := range streams {
		all.Go(func() { streams[i], _ = Deflate(texts[i%len(texts)]) })
	}
	all.Wait()
	for i, stream := range streams {
		if want, _ := Deflate(texts[i%len(texts)]); !bytes.Equal(stream, want) {
			t.Errorf("text %d: another stream", i%len(texts))
		}
	}
}
