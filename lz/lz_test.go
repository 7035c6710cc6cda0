package lz

import (
	"bytes"
	"math"
	"math/rand/v2"
	"slices"
	"strings"
	"testing"

	"peatbank/api"
)

func numbers() *rand.Rand {
	return rand.New(rand.NewPCG(5, 5))
}

// wrongNumbers are neither lengths nor distances.
var wrongNumbers = []int{-1, -2, -3, -258, -1 << 15, math.MinInt, math.MinInt + 1, math.MaxInt, math.MaxInt - 1, 1 << 62, 1 << 32, 1<<32 + 3, -1 << 32}

// piecesOf are bytes, each a piece.
func piecesOf(text string) []api.Piece {
	var l []api.Piece
	for _, c := range []byte(text) {
		l = append(l, api.Piece{Byte: c})
	}
	return l
}

func match(length, dist int) api.Piece {
	return api.Piece{Len: length, Dist: dist}
}

// isPiece is the chapter's words.
func isPiece(p api.Piece) bool {
	switch {
	case p.Len == 0:
		return p.Dist == 0
	case p.Byte != 0, p.Len < 3, p.Len > 258, p.Dist < 1, p.Dist > 32768:
		return false
	}
	return true
}

// wordsOf is the chapter's words: each place of what is said is a byte of its own, or one that stands ahead.
func wordsOf(l []api.Piece) ([]byte, bool) {
	type place struct {
		own   byte
		ahead int
	}
	var places []place
	for _, p := range l {
		if !isPiece(p) || len(places) > 65536 {
			return nil, false
		}
		if p.Len == 0 {
			places = append(places, place{own: p.Byte})
		}
		if p.Dist > len(places) {
			return nil, false
		}
		for range p.Len {
			places = append(places, place{ahead: p.Dist})
		}
	}
	if len(places) > 65536 {
		return nil, false
	}
	said := make([]byte, len(places))
	for i, p := range places {
		if said[i] = p.own; p.ahead > 0 {
			said[i] = said[i-p.ahead]
		}
	}
	return said, true
}

// checkExpand looks whether Expand tells of pieces what the chapter's words do, and changes none of them.
func checkExpand(t *testing.T, l []api.Piece) {
	t.Helper()
	given := slices.Clone(l)
	want, fine := wordsOf(l)
	got, ok := Expand(l)
	if ok != fine || !bytes.Equal(got, want) {
		t.Fatalf("%v: %d bytes, %t, want %d, %t", short(l), len(got), ok, len(want), fine)
	}
	if !slices.Equal(l, given) {
		t.Fatalf("%v: changed", short(given))
	}
}

// short is as much of a long row as one likes to read.
func short(l []api.Piece) []api.Piece {
	return l[max(0, len(l)-20):]
}

// refuseExpand looks whether Expand refuses pieces.
func refuseExpand(t *testing.T, l []api.Piece) {
	t.Helper()
	checkExpand(t, l)
	if got, ok := Expand(l); ok || len(got) != 0 {
		t.Fatalf("%v: %d bytes, %t, want none, false", short(l), len(got), ok)
	}
}

// expands looks whether Expand tells a text.
func expands(t *testing.T, l []api.Piece, want []byte) {
	t.Helper()
	checkExpand(t, l)
	if got, ok := Expand(l); !ok || !bytes.Equal(got, want) {
		t.Fatalf("%v: %d bytes, %t, want %d, true", short(l), len(got), ok, len(want))
	}
}

// P5.1: the chapter's examples, and some more of their kind.
func TestExpandOfExamples(t *testing.T) {
	a := piecesOf("a")
	expands(t, append(piecesOf("ab"), match(5, 2)), []byte("abababa"))
	expands(t, append(piecesOf("abc"), match(3, 3)), []byte("abcabc"))
	expands(t, append(piecesOf("abcd"), match(3, 4)), []byte("abcdabc"))
	expands(t, append(piecesOf("abcd"), match(4, 1), match(3, 6)), []byte("abcdddddcdd"))
	expands(t, append(a, match(258, 1)), bytes.Repeat([]byte("a"), 259))
	expands(t, append(piecesOf("\x00\xff"), match(3, 2), api.Piece{Byte: 7}), []byte("\x00\xff\x00\xff\x00\x07"))
	refuseExpand(t, []api.Piece{match(3, 1)})
	refuseExpand(t, append(a, match(2, 1)))
	refuseExpand(t, append(a, api.Piece{Byte: 1, Len: 3, Dist: 1}))
}

// P5.1, R6: no pieces say no bytes.
func TestExpandOfNone(t *testing.T) {
	expands(t, nil, nil)
	expands(t, []api.Piece{}, nil)
}

// P5.1: all bytes, each a piece.
func TestExpandOfAllBytes(t *testing.T) {
	for c := range 256 {
		one := []byte{byte(c)}
		expands(t, []api.Piece{{Byte: byte(c)}}, one)
		expands(t, []api.Piece{{Byte: byte(c)}, match(3, 1)}, bytes.Repeat(one, 4))
	}
}

// P5.1: all short rows of some pieces, and of such that are none.
func TestExpandOfAllShortRows(t *testing.T) {
	some := []api.Piece{{}, {Byte: 1}, {Byte: 2}, match(3, 1), match(3, 2), match(3, 4), match(4, 3), match(5, 7), match(2, 1), match(0, 1), match(3, 0), {Byte: 1, Len: 3, Dist: 1}}
	var grow func(row []api.Piece)
	grow = func(row []api.Piece) {
		checkExpand(t, row)
		if len(row) == 5 {
			return
		}
		for _, p := range some {
			grow(append(slices.Clone(row), p))
		}
	}
	grow(nil)
}

// P5.1: every length, at distances of all kinds; those that are none among them.
func TestExpandOfLengths(t *testing.T) {
	ahead := piecesOf("some bytes that stand ahead of it")
	for _, dist := range []int{0, 1, 2, 3, 32, 33, 34} {
		for length := -1; length <= 600; length++ {
			checkExpand(t, append(slices.Clone(ahead), match(length, dist)))
			checkExpand(t, append(slices.Clone(ahead), match(length, dist), match(3, 33)))
		}
	}
	refuseExpand(t, append(slices.Clone(ahead), match(259, 1)))
	refuseExpand(t, append(slices.Clone(ahead), match(1, 1)))
}

// P5.1: a distance is at most how many bytes were said, and at most the window.
func TestExpandOfDistances(t *testing.T) {
	from := numbers()
	for _, n := range []int{1, 2, 3, 257, 258, 259, 300, 32767, 32768, 32769, 32770, 65000} {
		ahead := make([]api.Piece, n)
		for i := range ahead {
			ahead[i].Byte = byte(from.IntN(256))
		}
		for _, dist := range []int{0, 1, 2, n - 1, n, n + 1, 32767, 32768, 32769, 65000} {
			for _, length := range []int{3, 4, 258} {
				checkExpand(t, append(slices.Clone(ahead), match(length, dist)))
			}
		}
		said, _ := wordsOf(ahead)
		if n <= 32768 {
			expands(t, append(slices.Clone(ahead), match(3, n)), append(said, wrapped(said, 3)...))
		} else {
			refuseExpand(t, append(slices.Clone(ahead), match(3, n)))
		}
		refuseExpand(t, append(ahead, match(3, n+1)))
	}
}

// wrapped is what a text begins with, n bytes, if it is said again and again.
func wrapped(text []byte, n int) []byte {
	return bytes.Repeat(text, n)[:n]
}

// P5.1: a match may look back at what another one has said, and the row at what it was said of.
func TestExpandLooksBackAtMatches(t *testing.T) {
	expands(t, append(piecesOf("ab"), match(4, 2), match(6, 6), match(3, 1)), []byte("abababababab"+"bbb"))
	expands(t, append(piecesOf("xyz"), match(3, 3), api.Piece{Byte: 'q'}, match(7, 7)), []byte("xyzxyzqxyzxyzq"))
	refuseExpand(t, append(piecesOf("xyz"), match(3, 3), match(3, 7)))
}

// P5.1: what is no piece, at each place of a row.
func TestExpandOfWrongPieces(t *testing.T) {
	wrong := []api.Piece{{Byte: 1, Dist: 1}, {Byte: 255, Len: 258, Dist: 1}, {Byte: 1, Len: 1}, match(1, 0), match(3, 0), match(258, 0), match(0, 1), match(1, 1), match(2, 2), match(259, 1), match(260, 1), match(3, 32769)}
	for _, n := range wrongNumbers {
		wrong = append(wrong, match(n, 0), match(0, n), match(n, 1), match(3, n), match(n, n), api.Piece{Byte: 9, Len: n}, api.Piece{Byte: 9, Dist: n})
	}
	row := append(piecesOf("abc"), match(4, 2), api.Piece{Byte: 'd'})
	for _, p := range wrong {
		for at := range len(row) + 1 {
			refuseExpand(t, slices.Insert(slices.Clone(row), at, p))
		}
	}
}

// P5.1: as many bytes as may be said, and one more, by bytes and by matches.
func TestExpandOfMostBytes(t *testing.T) {
	plain := make([]api.Piece, api.MaxFlate)
	expands(t, plain, make([]byte, api.MaxFlate))
	refuseExpand(t, append(slices.Clone(plain), api.Piece{}))
	refuseExpand(t, append(slices.Clone(plain), match(3, 1)))
	for _, length := range []int{3, 4, 257, 258} {
		for over := -2; over <= 2; over++ {
			l := append(slices.Clone(plain[:api.MaxFlate-length+over]), match(length, 5))
			if over > 0 {
				refuseExpand(t, l)
				continue
			}
			expands(t, l, make([]byte, api.MaxFlate+over))
			l = append(l, plain[:-over]...)
			expands(t, l, make([]byte, api.MaxFlate))
			refuseExpand(t, append(l, api.Piece{Byte: 1}))
		}
	}
	refuseExpand(t, append([]api.Piece{{Byte: 1}}, slices.Repeat([]api.Piece{match(258, 1)}, 1<<20)...))
	refuseExpand(t, make([]api.Piece, 1<<22))
}

// somePieces are n pieces at random, now and then one that is none.
func somePieces(from *rand.Rand, n, faults int) []api.Piece {
	var l []api.Piece
	said := 0
	for range n {
		p := api.Piece{Byte: byte(from.IntN(256))}
		if said > 0 && from.IntN(2) == 0 {
			p = match(3+from.IntN(256), 1+from.IntN(min(said, 32768)))
		}
		if from.IntN(1000) < faults {
			p.Dist += said
		}
		l = append(l, p)
		said += max(1, p.Len)
	}
	return l
}

// P5.1: rows of all kinds.
func TestExpandOfMany(t *testing.T) {
	from := numbers()
	for range 1000 {
		checkExpand(t, somePieces(from, from.IntN(200), 0))
		checkExpand(t, somePieces(from, from.IntN(200), 20))
	}
	for range 20 {
		checkExpand(t, somePieces(from, from.IntN(1000), 0))
	}
}

// P5.1, R3: what Expand answers is new memory each time.
func TestExpandAnswersNewMemory(t *testing.T) {
	l := append(piecesOf("ab"), match(5, 2))
	one, _ := Expand(l)
	other, _ := Expand(l)
	clear(one)
	clear(l)
	if string(other) != "abababa" {
		t.Errorf("%q: two answers share their memory", other)
	}
}

// checkParse looks whether pieces that Parse tells say b, and are not too many, and answers them.
func checkParse(t *testing.T, b []byte) []api.Piece {
	t.Helper()
	given := bytes.Clone(b)
	l := Parse(b)
	if !bytes.Equal(b, given) {
		t.Fatalf("%d bytes: changed", len(b))
	}
	if said, ok := wordsOf(l); !ok || !bytes.Equal(said, b) {
		t.Fatalf("%d bytes, %q: %v say something else, %t", len(b), b[:min(len(b), 50)], short(l), ok)
	}
	if said, ok := Expand(l); !ok || !bytes.Equal(said, b) {
		t.Fatalf("%d bytes, %q: Expand tells something else, %t", len(b), b[:min(len(b), 50)], ok)
	}
	if len(l) > len(b) {
		t.Fatalf("%d bytes: %d pieces", len(b), len(l))
	}
	if again := Parse(b); !slices.Equal(again, l) {
		t.Fatalf("%d bytes: other pieces the second time", len(b))
	}
	return l
}

// P5.2, R6: of no bytes there are no pieces.
func TestParseOfNone(t *testing.T) {
	if l := checkParse(t, nil); len(l) != 0 {
		t.Errorf("%v", l)
	}
	if l := checkParse(t, []byte{}); len(l) != 0 {
		t.Errorf("%v", l)
	}
}

// P5.2: all short texts of few letters.
func TestParseOfAllShortTexts(t *testing.T) {
	for _, c := range []struct{ letters, most int }{{2, 13}, {3, 8}, {4, 6}} {
		var grow func(b []byte)
		grow = func(b []byte) {
			checkParse(t, b)
			for letter := range c.letters {
				if len(b) < c.most {
					grow(append(bytes.Clone(b), byte(letter)))
				}
			}
		}
		grow(nil)
	}
}

// P5.2: equal bytes take few pieces, however many they are.
func TestParseOfEqualBytes(t *testing.T) {
	from := numbers()
	lengths := []int{32767, 32768, 32769, 33026, 33027, 65278, 65279, 65534, 65535, 65536}
	for n := range 2200 {
		lengths = append(lengths, n)
	}
	for range 50 {
		lengths = append(lengths, from.IntN(api.MaxFlate+1))
	}
	for _, n := range lengths {
		l := checkParse(t, bytes.Repeat([]byte{byte(n)}, n))
		if len(l) > n/258+4 {
			t.Fatalf("%d equal bytes: %d pieces", n, len(l))
		}
	}
	for c := range 256 {
		if l := checkParse(t, bytes.Repeat([]byte{byte(c)}, 4096)); len(l) > 4096/258+4 {
			t.Fatalf("4096 bytes of %d: %d pieces", c, len(l))
		}
	}
}

// P5.2: as many bytes as there may be, and more.
func TestParseOfMostBytes(t *testing.T) {
	from := numbers()
	b := make([]byte, 2*api.MaxFlate)
	for range 3 {
		for _, n := range []int{api.MaxFlate - 1, api.MaxFlate} {
			checkParse(t, b[:n])
		}
		for _, n := range []int{api.MaxFlate + 1, api.MaxFlate + 2, api.MaxFlate + 258, 2 * api.MaxFlate} {
			if l := Parse(b[:n]); len(l) != 0 {
				t.Errorf("%d bytes: %d pieces", n, len(l))
			}
		}
		for i := range b {
			b[i] = byte(from.IntN(2 + 254*(i%2)))
		}
	}
	if l := Parse(make([]byte, 1<<26)); len(l) != 0 {
		t.Errorf("%d pieces", len(l))
	}
}

// noise is n bytes, each one of so many at random.
func noise(from *rand.Rand, n, letters int) []byte {
	b := make([]byte, n)
	for i := range b {
		b[i] = byte(from.IntN(letters))
	}
	return b
}

// P5.2: noise of few bytes and of many.
func TestParseOfNoise(t *testing.T) {
	from := numbers()
	for _, letters := range []int{1, 2, 3, 4, 10, 50, 256} {
		for range 100 {
			checkParse(t, noise(from, from.IntN(3000), letters))
		}
		checkParse(t, noise(from, from.IntN(api.MaxFlate+1), letters))
		checkParse(t, noise(from, api.MaxFlate, letters))
	}
}

// P5.2: texts that say parts of themselves again, from near and from far.
func TestParseOfTextsThatComeAgain(t *testing.T) {
	from := numbers()
	for range 200 {
		b := noise(from, 1+from.IntN(300), 256)
		for len(b) < 2000 {
			part := b[from.IntN(len(b)):]
			b = append(b, part[:from.IntN(min(len(part), 400)+1)]...)
			b = append(b, noise(from, from.IntN(4), 256)...)
		}
		if l := checkParse(t, b); len(l) > len(b)*3/4 {
			t.Fatalf("%d bytes: %d pieces", len(b), len(l))
		}
	}
	for period := 1; period < 400; period++ {
		checkParse(t, bytes.Repeat(noise(from, period, 256), 3000/period+1))
	}
}

// P5.2: what comes again just within the window, just at its end, and behind it; the program's own is that it is found.
func TestParseAboutTheWindow(t *testing.T) {
	from := numbers()
	for _, length := range []int{2, 3, 4, 10, 257, 258, 259, 600} {
		for dist := api.Window - 2; dist <= api.Window+2; dist++ {
			b := noise(from, dist, 256)
			b = append(b, b[:length]...)
			l := checkParse(t, b)
			// Noise may have a match by chance: but none of ten bytes.
			long := slices.ContainsFunc(l, func(p api.Piece) bool { return p.Len >= 10 })
			if want := length >= 10 && dist <= api.Window; long != want {
				t.Errorf("%d bytes come again at %d: found %t", length, dist, long)
			}
		}
	}
}

// P5.2: matches that end with the text, as long as they may be among them.
func TestParseOfOneMatch(t *testing.T) {
	for _, length := range []int{3, 4, 5, 257, 258} {
		said := string(noise(numbers(), 300, 256))
		l := checkParse(t, []byte(said+said[:length]))
		if want := append(piecesOf(said), match(length, 300)); !slices.Equal(l, want) {
			t.Errorf("%d bytes come again: %v", length, short(l))
		}
	}
	if l := checkParse(t, []byte("abcdeabxdeabcde")); !slices.Equal(l, append(piecesOf("abcdeabx"), match(4, 5), match(3, 10))) {
		t.Errorf("%v", l)
	}
}

// Which pieces Parse tells is the program's own: a longer match that begins one byte later is taken, and of places
// that are alike the longest, of such the nearest one.
func TestParseTakesLongerMatches(t *testing.T) {
	l := checkParse(t, []byte("abc-bcdefgh-abcdefgh"))
	if want := append(piecesOf("abc-bcdefgh-a"), match(7, 9)); !slices.Equal(l, want) {
		t.Errorf("%v, want %v", l, want)
	}
	l = checkParse(t, []byte("abcd1abce2abcf3abcd"))
	if last := l[len(l)-1]; last != match(4, 15) {
		t.Errorf("%v: not the place that is longest alike", last)
	}
	l = checkParse(t, []byte("abcd1abcd2abcd"))
	if last := l[len(l)-1]; last != match(4, 5) {
		t.Errorf("%v: not the nearest place", last)
	}
}

// Which pieces Parse tells is the program's own: a text in plain words takes far fewer of them than it has bytes.
func TestParseOfWords(t *testing.T) {
	text := strings.Repeat("what is written is cut into extents; each extent is kept once, under its digest. ", 3)
	if l := checkParse(t, []byte(text)); len(l) > len(text)/2 {
		t.Errorf("%d bytes: %d pieces", len(text), len(l))
	}
}

// P5.2, R3: what Parse answers is new memory, that shares none with b.
func TestParseAnswersNewMemory(t *testing.T) {
	b := []byte("abcabcabcabd")
	one, other := Parse(b), Parse(b)
	clear(one)
	clear(b)
	if said, ok := Expand(other); !ok || string(said) != "abcabcabcabd" {
		t.Errorf("%q, %t: two answers share their memory", said, ok)
	}
}

// P5.3: rows one behind the other say what they say one behind the other.
func TestRowsBehindEachOther(t *testing.T) {
	from := numbers()
	for range 300 {
		one, other := noise(from, from.IntN(500), 3), noise(from, from.IntN(500), 3)
		expands(t, append(Parse(one), Parse(other)...), append(bytes.Clone(one), other...))
		rowOne, rowOther := somePieces(from, 20, 0), somePieces(from, 20, 0)
		saidOne, _ := Expand(rowOne)
		saidOther, _ := Expand(rowOther)
		expands(t, append(rowOne, rowOther...), append(saidOne, saidOther...))
	}
	half := noise(from, api.MaxFlate/2, 256)
	expands(t, append(Parse(half), Parse(half)...), append(bytes.Clone(half), half...))
	refuseExpand(t, append(append(Parse(half), Parse(half)...), api.Piece{}))
}

func benchmarkParse(b *testing.B, text []byte) {
	b.SetBytes(int64(len(text)))
	for b.Loop() {
		Parse(text)
	}
}

func BenchmarkParseOfNoise(b *testing.B) { benchmarkParse(b, noise(numbers(), api.MaxFlate, 256)) }

func BenchmarkParseOfTwoLetters(b *testing.B) { benchmarkParse(b, noise(numbers(), api.MaxFlate, 2)) }

func BenchmarkParseOfNoughts(b *testing.B) { benchmarkParse(b, make([]byte, api.MaxFlate)) }

func BenchmarkExpand(b *testing.B) {
	l := Parse(noise(numbers(), api.MaxFlate, 2))
	for b.Loop() {
		Expand(l)
	}
}
