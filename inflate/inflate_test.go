package inflate

import (
	"bytes"
	"cmp"
	"compress/flate"
	"math"
	"math/rand/v2"
	"slices"
	"strings"
	"sync"
	"testing"

	"peatbank/api"
	"peatbank/bitio"
	"peatbank/huff"
)

func numbers() *rand.Rand {
	return rand.New(rand.NewPCG(6, 6))
}

// wrongNumbers are no most bytes.
var wrongNumbers = []int{
	-1, -2, -65536, math.MinInt, math.MinInt + 1, math.MaxInt, math.MaxInt - 1, 65537, 1 << 17, 1 << 32, 1<<32 + 1, -1 << 32,
}

// told is what Inflate tells.
type told struct {
	text string
	read int
	err  api.Errno
}

// reading is the chapter's words: bits are a text of noughts and ones; what is met is thrown.
type reading struct {
	bits []byte
	at   int
	text []byte
	most int
}

// wordsOf tells what the chapter does of a stream.
func wordsOf(b []byte, most int) (is told) {
	if most < 0 || most > 65536 {
		return told{err: api.ErrArg}
	}
	r := &reading{most: most}
	for _, c := range b {
		for i := range 8 {
			r.bits = append(r.bits, '0'+c>>i&1)
		}
	}
	defer func() {
		if met := recover(); met != nil {
			is = told{err: met.(api.Errno)}
		}
	}()
	for !r.block() {
	}
	return told{text: string(r.text), read: (r.at + 7) / 8}
}

func must(holds bool, err api.Errno) {
	if !holds {
		panic(err)
	}
}

func (r *reading) number(n int) int {
	must(r.at+n <= len(r.bits), api.ErrShape)
	sum := 0
	for i := range n {
		sum += int(r.bits[r.at+i]-'0') << i
	}
	r.at += n
	return sum
}

func (r *reading) symbol(by map[string]int) int {
	for n := 1; n <= 15; n++ {
		must(r.at+n <= len(r.bits), api.ErrShape)
		if symbol, ok := by[string(r.bits[r.at:r.at+n])]; ok {
			r.at += n
			return symbol
		}
	}
	panic(api.ErrShape)
}

func (r *reading) block() bool {
	last := r.number(1) == 1
	switch r.number(2) {
	case 0:
		for r.at%8 != 0 {
			r.at++
		}
		n := r.number(16)
		must(r.number(16) == 65535-n, api.ErrShape)
		must(r.at+8*n <= len(r.bits), api.ErrShape)
		must(len(r.text)+n <= r.most, api.ErrLong)
		for range n {
			r.text = append(r.text, byte(r.number(8)))
		}
	case 1:
		r.symbols(fixedCodes())
	case 2:
		r.symbols(r.ownCodes())
	case 3:
		panic(api.ErrShape)
	}
	return last
}

// fixedCodes are kind 1's, put together once for all these tests.
var fixedCodes = sync.OnceValues(func() (letters, distances map[string]int) {
	return codeOf(fixedLetters()), codeOf(slices.Repeat([]int{5}, 32))
})

func fixedLetters() []int {
	var lengths []int
	for letter := range 288 {
		switch {
		case letter <= 143:
			lengths = append(lengths, 8)
		case letter <= 255:
			lengths = append(lengths, 9)
		case letter <= 279:
			lengths = append(lengths, 7)
		default:
			lengths = append(lengths, 8)
		}
	}
	return lengths
}

func (r *reading) ownCodes() (letters, distances map[string]int) {
	nLetters, nDistances, n := r.number(5)+257, r.number(5)+1, r.number(4)+4
	must(nLetters <= 286 && nDistances <= 30, api.ErrShape)
	lengths := make([]int, 19)
	for _, symbol := range strings.Fields("16 17 18 0 8 7 9 6 10 5 11 4 12 3 13 2 14 1 15")[:n] {
		lengths[atoi(symbol)] = r.number(3)
	}
	by := codeOf(lengths)
	var row []int
	for len(row) < nLetters+nDistances {
		switch symbol := r.symbol(by); symbol {
		case 16:
			must(len(row) > 0, api.ErrShape)
			row = append(row, slices.Repeat(row[len(row)-1:], 3+r.number(2))...)
		case 17:
			row = append(row, make([]int, 3+r.number(3))...)
		case 18:
			row = append(row, make([]int, 11+r.number(7))...)
		default:
			row = append(row, symbol)
		}
	}
	must(len(row) == nLetters+nDistances, api.ErrShape)
	must(row[256] != 0, api.ErrShape)
	return codeOf(row[:nLetters]), codeOf(row[nLetters:])
}

func atoi(text string) int {
	n := 0
	for _, c := range text {
		n = 10*n + int(c-'0')
	}
	return n
}

// codeOf are the symbols by their codes; thrown is ErrShape, if lengths make no code.
func codeOf(lengths []int) map[string]int {
	by := map[string]int{}
	for symbol, code := range texts(lengths) {
		if code != "" {
			by[code] = symbol
		}
	}
	return by
}

// texts are the codes as noughts and ones, none of a symbol that has none.
func texts(lengths []int) []string {
	var order []int
	taken := 0
	for symbol, length := range lengths {
		if length > 0 {
			order = append(order, symbol)
			taken += 32768 >> length
		}
	}
	must(taken == 32768 || len(order) == 0 || len(order) == 1 && lengths[order[0]] == 1, api.ErrShape)
	slices.SortStableFunc(order, func(a, b int) int { return cmp.Compare(lengths[a], lengths[b]) })
	out := make([]string, len(lengths))
	code := ""
	for i, symbol := range order {
		if i > 0 {
			at := strings.LastIndexByte(code, '0')
			code = code[:at] + "1" + strings.Repeat("0", len(code)-at-1)
		}
		code += strings.Repeat("0", lengths[symbol]-len(code))
		out[symbol] = code
	}
	return out
}

// lengthOf and distanceOf are the chapter's table: a base, and how many bits more.
func lengthOf(letter int) (int, int) {
	if letter == 285 {
		return 258, 0
	}
	base, bits := 3, 0
	for l := 257; l < letter; l++ {
		base += 1 << bits
		if l >= 264 && l%4 == 0 {
			bits++
		}
	}
	return base, bits
}

func distanceOf(symbol int) (int, int) {
	base, bits := 1, 0
	for d := range symbol {
		base += 1 << bits
		if d >= 3 && d%2 == 1 {
			bits++
		}
	}
	return base, bits
}

func (r *reading) symbols(letters, distances map[string]int) {
	for {
		letter := r.symbol(letters)
		switch {
		case letter < 256:
			must(len(r.text) < r.most, api.ErrLong)
			r.text = append(r.text, byte(letter))
		case letter == 256:
			return
		default:
			must(letter <= 285, api.ErrShape)
			base, bits := lengthOf(letter)
			length := base + r.number(bits)
			symbol := r.symbol(distances)
			must(symbol <= 29, api.ErrShape)
			base, bits = distanceOf(symbol)
			back := base + r.number(bits)
			must(back <= len(r.text), api.ErrShape)
			must(len(r.text)+length <= r.most, api.ErrLong)
			for range length {
				r.text = append(r.text, r.text[len(r.text)-back])
			}
		}
	}
}

// checks looks whether Inflate tells of a stream what the chapter's words do, and changes nothing.
func checks(t *testing.T, b []byte, most int) told {
	t.Helper()
	given := slices.Clone(b)
	text, read, err := Inflate(b, most)
	is := told{string(text), read, err}
	if want := wordsOf(given, most); is != want {
		t.Fatalf("% x.., %d bytes, most %d: %d bytes, %d, %v; want %d, %d, %v",
			given[:min(len(given), 40)], len(given), most, len(is.text), is.read, is.err, len(want.text), want.read, want.err)
	}
	if !bytes.Equal(b, given) {
		t.Fatalf("% x: changed to % x", given, b)
	}
	return is
}

// tells looks whether Inflate tells a text, and all that it reads.
func tells(t *testing.T, b []byte, text string) {
	t.Helper()
	if is := checks(t, b, 65536); is != (told{text, len(b), api.OK}) {
		t.Fatalf("% x: %q, %d, %v", b, is.text, is.read, is.err)
	}
}

// refuses looks whether Inflate tells an error and nothing else.
func refuses(t *testing.T, b []byte, most int, err api.Errno) {
	t.Helper()
	if is := checks(t, b, most); is != (told{err: err}) {
		t.Fatalf("% x: %q, %d, %v, want %v", b, is.text, is.read, is.err, err)
	}
}

// stuff is what a stream is put together by in these tests.
type stuff struct {
	w *bitio.Writer
}

func newStuff() stuff {
	return stuff{bitio.NewWriter()}
}

// num puts numbers of so many bits each.
func (s stuff) num(pairs ...int) stuff {
	for i := 0; i < len(pairs); i += 2 {
		s.w.Put(uint32(pairs[i]), pairs[i+1])
	}
	return s
}

// code puts a symbol by lengths.
func (s stuff) code(lengths []int, symbols ...int) stuff {
	codes := texts(lengths)
	for _, symbol := range symbols {
		if codes[symbol] == "" {
			panic("no code")
		}
		for _, c := range codes[symbol] {
			s.w.Put(uint32(c-'0'), 1)
		}
	}
	return s
}

// fixed puts letters by the code of kind 1.
func (s stuff) fixed(letters ...int) stuff {
	return s.code(fixedLetters(), letters...)
}

// say puts a text by the code of kind 1.
func (s stuff) say(text string) stuff {
	for _, c := range []byte(text) {
		s.fixed(int(c))
	}
	return s
}

// far puts distances by the code of kind 1.
func (s stuff) far(symbols ...int) stuff {
	return s.code(slices.Repeat([]int{5}, 32), symbols...)
}

// bare puts a block of kind 0.
func (s stuff) bare(last int, text string) stuff {
	s.num(last, 1, 0, 2)
	s.w.Align()
	s.num(len(text), 16, 65535-len(text), 16)
	for _, c := range []byte(text) {
		s.num(int(c), 8)
	}
	return s
}

func (s stuff) bytes() []byte {
	return s.w.Bytes()
}

// order is in which order the lengths of the code for lengths stand.
var order = []int{16, 17, 18, 0, 8, 7, 9, 6, 10, 5, 11, 4, 12, 3, 13, 2, 14, 1, 15}

// head puts what a block of kind 2 begins with: its three numbers, and the lengths of the code for lengths.
func (s stuff) head(last, letters, distances int, lengths []int) stuff {
	n := 19
	for n > 4 && lengths[order[n-1]] == 0 {
		n--
	}
	s.num(last, 1, 2, 2, letters-257, 5, distances-1, 5, n-4, 4)
	for _, symbol := range order[:n] {
		s.num(lengths[symbol], 3)
	}
	return s
}

// lengthsOf are lengths of so many symbols, given as pairs of a symbol and its length.
func lengthsOf(n int, pairs ...int) []int {
	lengths := make([]int, n)
	for i := 0; i < len(pairs); i += 2 {
		lengths[pairs[i]] = pairs[i+1]
	}
	return lengths
}

// plain is a code for lengths in which 16 of its symbols have the length 4.
var plain = lengthsOf(19, 0, 4, 1, 4, 2, 4, 3, 4, 4, 4, 5, 4, 6, 4, 7, 4, 8, 4, 9, 4, 10, 4, 11, 4, 15, 4, 16, 4, 17, 4, 18, 4)

// plainHead is a head and a row of lengths, one by one.
func plainHead(letters, distances []int) stuff {
	return newStuff().head(1, len(letters), len(distances), plain).code(plain, letters...).code(plain, distances...)
}

// P6.1: the chapter's examples, and some more of their kind.
func TestExamples(t *testing.T) {
	tells(t, []byte{1, 3, 0, 0xfc, 0xff, 'a', 'b', 'c'}, "abc")
	tells(t, []byte{3, 0}, "")
	tells(t, []byte{0x4b, 0x4c, 0x4a, 6, 0}, "abc")
	refuses(t, []byte{7}, 65536, api.ErrShape)
	refuses(t, []byte{0x4b, 0x4c, 0x4a, 6, 0}, 2, api.ErrLong)
	refuses(t, nil, 65536, api.ErrShape)
	refuses(t, []byte{}, 0, api.ErrShape)
	tells(t, []byte{1, 0, 0, 0xff, 0xff}, "")
	tells(t, newStuff().num(1, 1, 1, 2).say("ab").fixed(259).far(1).fixed(256).bytes(), "abababa")
	tells(t, []byte{0, 1, 0, 0xfe, 0xff, 'x', 0, 1, 0, 0xfe, 0xff, 'y', 3, 0}, "xy")
}

// P6.1: all streams of up to two bytes, and some of the longer ones.
func TestAllShort(t *testing.T) {
	for most := range 3 {
		checks(t, nil, most)
		for n := range 1 << 8 {
			checks(t, []byte{byte(n)}, most)
		}
		for n := range 1 << 16 {
			checks(t, []byte{byte(n), byte(n >> 8)}, most)
		}
	}
	random := numbers()
	for range 60000 {
		b := make([]byte, 3+random.IntN(20))
		for i := range b {
			b[i] = byte(random.Uint32())
		}
		checks(t, b, random.IntN(30))
	}
}

// P6.1: a most that may not be is told ahead of all else.
func TestMost(t *testing.T) {
	for _, most := range wrongNumbers {
		refuses(t, []byte{3, 0}, most, api.ErrArg)
		refuses(t, nil, most, api.ErrArg)
		refuses(t, []byte{7}, most, api.ErrArg)
	}
	for _, most := range []int{0, 1, 65535, 65536} {
		if is := checks(t, []byte{3, 0}, most); is != (told{"", 2, api.OK}) {
			t.Fatalf("most %d: %v", most, is)
		}
	}
}

// P6.1: blocks of kind 0: their length, its turned bits, where they begin and end.
func TestBare(t *testing.T) {
	for _, n := range []int{0, 1, 2, 255, 256, 257, 65534, 65535} {
		text := strings.Repeat("0123456789abcdef", 4096)[:n]
		b := newStuff().bare(1, text).bytes()
		tells(t, b, text)
		refuses(t, b[:len(b)-1], 65536, api.ErrShape)
		if is := checks(t, b, n); is.err != api.OK {
			t.Fatalf("%d: %v", n, is.err)
		}
		if n > 0 {
			refuses(t, b, n-1, api.ErrLong)
			refuses(t, b[:len(b)-1], n-1, api.ErrShape)
		}
		for bit := 8; bit < 40; bit++ {
			turned := slices.Clone(b)
			turned[bit/8] ^= 1 << (bit % 8)
			refuses(t, turned, 65536, api.ErrShape)
		}
	}
	tells(t, newStuff().bare(0, strings.Repeat("p", 65535)).bare(1, "q").bytes(), strings.Repeat("p", 65535)+"q")
	refuses(t, newStuff().bare(0, strings.Repeat("p", 65535)).bare(1, "qr").bytes(), 65536, api.ErrLong)
	// The bits that are left out on to the whole byte may be any.
	for ahead := range 8 {
		for above := range 32 {
			s := newStuff()
			for range ahead {
				s.num(0, 1, 1, 2).fixed(256)
			}
			s.num(1, 1, 0, 2)
			for s.w.Len()%8 != 0 {
				s.num(above, 1)
				above /= 2
			}
			tells(t, s.num(2, 16, 65533, 16, 'h', 8, 'i', 8).bytes(), "hi")
		}
	}
}

// P6.1: each length by each number behind its letter, each distance at its ends.
func TestMatches(t *testing.T) {
	length := 3
	for letter := 257; letter <= 285; letter++ {
		base, bits := lengthOf(letter)
		for more := range 1 << bits {
			if letter != 285 && base+more != length {
				t.Fatalf("%d: %d", letter, base+more)
			}
			b := newStuff().num(1, 1, 1, 2).say("p").fixed(letter).num(more, bits).far(0).fixed(256).bytes()
			tells(t, b, strings.Repeat("p", 1+base+more))
			refuses(t, b, base+more, api.ErrLong)
			length++
		}
	}
	noise := make([]byte, 32768)
	random := numbers()
	for i := range noise {
		noise[i] = byte(random.Uint32())
	}
	for symbol := range 30 {
		base, bits := distanceOf(symbol)
		for _, more := range []int{0, 1, 1 << bits / 2, 1<<bits - 1} {
			if more >= 1<<bits {
				continue
			}
			back := base + more
			text := string(noise[:back])
			b := newStuff().bare(0, text).num(1, 1, 1, 2).fixed(257).far(symbol).num(more, bits).fixed(256).bytes()
			tells(t, b, text+(text + text + text)[:3])
			short := newStuff().bare(0, text[1:]).num(1, 1, 1, 2).fixed(257).far(symbol).num(more, bits).fixed(256).bytes()
			refuses(t, short, 65536, api.ErrShape)
			// The distance is told ahead of the text's length.
			refuses(t, short, len(text)-1, api.ErrShape)
			refuses(t, b, len(text)+2, api.ErrLong)
		}
	}
	if base, bits := distanceOf(29); base+1<<bits-1 < 32768 || base != 24577 {
		t.Fatal("distances end too early")
	}
}

// P6.1: symbols that say nothing: the letters 286 and 287, the distances 30 and 31.
func TestSymbolsThatSayNothing(t *testing.T) {
	for _, letter := range []int{286, 287} {
		refuses(t, newStuff().num(1, 1, 1, 2).say("p").fixed(letter).far(0).fixed(256).bytes(), 65536, api.ErrShape)
		refuses(t, newStuff().num(1, 1, 1, 2).say("p").fixed(letter).far(0).fixed(256).bytes(), 1, api.ErrShape)
	}
	for _, symbol := range []int{30, 31} {
		b := newStuff().num(1, 1, 1, 2).say("p").fixed(257).far(symbol).num(0, 20).fixed(256).bytes()
		refuses(t, b, 65536, api.ErrShape)
		refuses(t, b, 1, api.ErrShape)
	}
	for back := 1; back <= 4; back++ {
		refuses(t, newStuff().num(1, 1, 1, 2).fixed(257).far(back-1).fixed(256).bytes(), 65536, api.ErrShape)
	}
	refuses(t, newStuff().num(1, 1, 3, 2).num(0, 32, 0, 32).bytes(), 65536, api.ErrShape)
	refuses(t, newStuff().num(0, 1, 3, 2).num(0, 32, 0, 32).bytes(), 65536, api.ErrShape)
}

// P6.1: how many letters and distances there may be.
func TestHeads(t *testing.T) {
	for letters := 257; letters <= 288; letters++ {
		for distances := 1; distances <= 32; distances++ {
			s := newStuff().head(1, letters, distances, plain)
			s.code(plain, lengthsOf(letters, 'p', 1, 256, 1)...).code(plain, lengthsOf(distances)...)
			b := s.code(lengthsOf(letters, 'p', 1, 256, 1), 'p', 'p', 256).bytes()
			if letters > 286 || distances > 30 {
				refuses(t, b, 65536, api.ErrShape)
				refuses(t, b, 0, api.ErrShape)
			} else {
				tells(t, b, "pp")
				refuses(t, b, 1, api.ErrLong)
			}
		}
	}
}

// P6.1: the code for lengths: how many of its symbols have lengths, which ones make a code, one alone, none.
func TestCodeForLengths(t *testing.T) {
	for given := 4; given <= 19; given++ {
		for symbol := range 19 {
			for _, length := range []int{1, 2, 3, 7} {
				s := newStuff().num(1, 1, 2, 2, 0, 5, 0, 5, given-4, 4)
				for _, o := range order[:given] {
					s.num(lengthsOf(19, symbol, length)[o], 3)
				}
				checks(t, s.num(0, 32, 0, 32, 0, 32, 0, 32, 0, 32, 0, 32, 0, 32, 0, 32, 0, 32, 0, 32).bytes(), 65536)
				checks(t, s.num(-1, 32, -1, 32, -1, 32, -1, 32, -1, 32).bytes(), 65536)
			}
		}
	}
	// One symbol alone: all lengths are 8, which make no code of 257 letters.
	one := lengthsOf(19, 8, 1)
	eights := newStuff().head(1, 257, 1, one).code(one, slices.Repeat([]int{8}, 258)...).num(0, 32)
	refuses(t, eights.bytes(), 65536, api.ErrShape)
	// It has but the bit 0.
	wrong := newStuff().head(1, 257, 1, one).num(1, 1)
	for range 258 {
		wrong.num(0, 1)
	}
	refuses(t, wrong.bytes(), 65536, api.ErrShape)
}

// token is a symbol of a row of lengths, and the number behind it.
type token struct {
	symbol, more int
}

// moreBits are how many bits the number behind a symbol of a row has.
func moreBits(symbol int) int {
	return lengthsOf(19, 16, 2, 17, 3, 18, 7)[symbol]
}

// tokens puts symbols of a row.
func (s stuff) tokens(by []int, row ...token) stuff {
	for _, t := range row {
		s.code(by, t.symbol).num(t.more, moreBits(t.symbol))
	}
	return s
}

// P6.1: rows of lengths: what is said again, across the letters' end, too; rows that are longer than they are.
func TestRows(t *testing.T) {
	// 97 noughts; a 1 for 'a', b; noughts up to 256.
	toA := token{18, 97 - 11}
	fromA := []token{{18, 127}, {18, 158 - 138 - 11}}
	row := func(behind ...token) []token {
		return append(append([]token{toA, {1, 0}}, fromA...), behind...)
	}
	ab := lengthsOf(257, 'a', 1, 256, 1)
	say := func(letters, distances int, row []token) []byte {
		return newStuff().head(1, letters, distances, plain).tokens(plain, row...).code(ab, 'a', 'a', 256).bytes()
	}
	tells(t, say(257, 1, row(token{1, 0}, token{0, 0})), "aa")
	tells(t, say(257, 1, row(token{1, 0}, token{1, 0})), "aa")
	tells(t, say(257, 4, row(token{1, 0}, token{17, 1})), "aa")
	tells(t, say(260, 1, row(token{1, 0}, token{17, 0}, token{0, 0})), "aa")
	tells(t, say(260, 1, row(token{1, 0}, token{17, 1})), "aa")
	tells(t, say(261, 30, row(token{1, 0}, token{18, 23})), "aa")
	// One more than there are.
	refuses(t, say(257, 3, row(token{1, 0}, token{17, 1})), 65536, api.ErrShape)
	refuses(t, say(257, 3, row(token{1, 0}, token{0, 0}, token{16, 0})), 65536, api.ErrShape)
	refuses(t, say(261, 29, row(token{1, 0}, token{18, 23})), 65536, api.ErrShape)
	refuses(t, say(257, 1, row(token{1, 0}, token{18, 127})), 65536, api.ErrShape)
	// The length ahead, once and once more; there is none at the beginning.
	for more := range 4 {
		tells(t, say(258+3+more, 1, row(token{1, 0}, token{0, 0}, token{16, more}, token{0, 0})), "aa")
		refuses(t, say(257, 1, append([]token{{16, more}}, row(token{1, 0}, token{0, 0})...)), 65536, api.ErrShape)
	}
	// Distances' lengths are the last letter's once more: four of 2, and the letters' last one is 2, too.
	letters := lengthsOf(260, 'a', 1, 256, 2, 259, 2)
	s := newStuff().head(1, 260, 4, plain).tokens(plain, row(token{2, 0}, token{0, 0}, token{0, 0}, token{2, 0}, token{16, 1})...)
	s.code(letters, 'a', 259).code([]int{2, 2, 2, 2}, 0).code(letters, 'a', 256)
	tells(t, s.bytes(), "aaaaaaa")
	// 256 has no length, whatever else has.
	plainRow := func(row ...token) stuff {
		return newStuff().head(1, 257, 1, plain).tokens(plain, row...)
	}
	none := plainRow(toA, token{1, 0}, token{1, 0}, token{18, 127}, token{18, 157 - 138 - 11}, token{0, 0})
	refuses(t, none.num(0, 32).bytes(), 65536, api.ErrShape)
	refuses(t, plainRow(token{18, 127}, token{18, 258 - 138 - 11}).num(0, 32).bytes(), 65536, api.ErrShape)
	// No letter has a length but 256, whose code is 1 bit: nothing is said.
	end := []token{{18, 127}, {18, 256 - 138 - 11}, {1, 0}, {0, 0}}
	tells(t, plainRow(end...).num(0, 1).bytes(), "")
	refuses(t, plainRow(end...).num(1, 1, 0, 32).bytes(), 65536, api.ErrShape)
}

// P6.1: lengths of letters and of distances that make no code, or one of few symbols.
func TestCodesOfBlocks(t *testing.T) {
	fine := lengthsOf(258, 'a', 2, 'b', 2, 256, 2, 257, 2)
	tells(t, plainHead(fine, []int{1}).code(fine, 'a', 'b', 256).bytes(), "ab")
	tells(t, plainHead(fine, []int{0}).code(fine, 'a', 'b', 256).bytes(), "ab")
	tells(t, plainHead(fine, []int{1}).code(fine, 'a', 257).num(0, 1).code(fine, 256).bytes(), "aaaa")
	tells(t, plainHead(fine, []int{0, 1}).code(fine, 'a', 'b', 257).num(0, 1).code(fine, 256).bytes(), "ababa")
	tells(t, plainHead(fine, []int{1, 1}).code(fine, 'a', 'b', 257).num(1, 1).code(fine, 256).bytes(), "ababa")
	refuses(t, plainHead(fine, []int{1}).code(fine, 'a', 257).num(1, 1).code(fine, 256).num(0, 32).bytes(), 65536, api.ErrShape)
	refuses(t, plainHead(fine, []int{0}).code(fine, 'a', 257).num(0, 1).code(fine, 256).num(0, 32).bytes(), 65536, api.ErrShape)
	for _, distances := range [][]int{{2}, {1, 2}, {1, 1, 1}, {2, 2, 2}, {15}, {1, 2, 2, 15}, {0, 2}} {
		refuses(t, plainHead(fine, distances).code(fine, 'a', 'b', 256).bytes(), 65536, api.ErrShape)
		refuses(t, plainHead(fine, distances).code(fine, 'a', 'b', 256).bytes(), 0, api.ErrShape)
	}
	for _, letters := range [][]int{
		lengthsOf(257, 256, 2), lengthsOf(257, 'a', 1, 'b', 1, 256, 1), lengthsOf(257, 'a', 2, 'b', 2, 256, 2),
		lengthsOf(257, 'a', 1, 256, 15), lengthsOf(257, 'a', 1, 'b', 2, 256, 2, 0, 15), lengthsOf(286, 256, 2, 285, 1),
	} {
		for _, distances := range [][]int{{0}, {1}, {1, 1}, {2}} {
			refuses(t, plainHead(letters, distances).num(0, 32, 0, 32).bytes(), 65536, api.ErrShape)
		}
	}
	// A letter too many, of the length 15.
	long := lengthsOf(257, 0, 1, 1, 2, 2, 3, 3, 4, 4, 5, 5, 6, 6, 7, 7, 8, 8, 8, 256, 15)
	refuses(t, plainHead(long, []int{1}).num(0, 32).bytes(), 65536, api.ErrShape)
}

// stretched are lengths that make a code of symbols of all lengths.
func stretched(random *rand.Rand, n, most int, wanted ...int) []int {
	weights := make([]int, n)
	for range 1 + random.IntN(n) {
		weights[random.IntN(n)] = 1 << random.IntN(20)
	}
	for _, symbol := range wanted {
		weights[symbol] = 1 + random.IntN(1000)
	}
	lengths, err := huff.Lengths(weights, most)
	must(err == api.OK, err)
	return lengths
}

// tokensOf tells a row, by what is said again now and then.
func tokensOf(random *rand.Rand, row []int) []token {
	var l []token
	for at := 0; at < len(row); {
		n := 1
		for at+n < len(row) && row[at+n] == row[at] {
			n++
		}
		switch again := at > 0 && row[at-1] == row[at]; {
		case random.IntN(5) == 0:
			l, at = append(l, token{row[at], 0}), at+1
		case row[at] == 0 && n >= 11:
			n = 11 + random.IntN(min(n, 138)-10)
			l, at = append(l, token{18, n - 11}), at+n
		case row[at] == 0 && n >= 3:
			n = 3 + random.IntN(min(n, 10)-2)
			l, at = append(l, token{17, n - 3}), at+n
		case again && n >= 3:
			n = 3 + random.IntN(min(n, 6)-2)
			l, at = append(l, token{16, n - 3}), at+n
		default:
			l, at = append(l, token{row[at], 0}), at+1
		}
	}
	return l
}

// ownHead puts the head of a block of kind 2 and its rows.
func (s stuff) ownHead(random *rand.Rand, last int, letters, distances []int) stuff {
	row := tokensOf(random, slices.Concat(letters, distances))
	weights := make([]int, 19)
	for _, t := range row {
		weights[t.symbol]++
	}
	by, err := huff.Lengths(weights, 7)
	must(err == api.OK, err)
	return s.head(last, len(letters), len(distances), by).tokens(by, row...)
}

// symbols puts some letters and matches, and the end; most of them say something, if so much text is ahead.
func (s stuff) symbols(random *rand.Rand, n, ahead int, letters, distances []int) (stuff, int) {
	for range n {
		letter, far := random.IntN(len(letters)), random.IntN(len(distances))
		if letter == 256 || letters[letter] == 0 {
			continue
		}
		if letter < 256 {
			s.code(letters, letter)
			ahead++
			continue
		}
		if distances[far] == 0 || letter > 285 || far > 29 {
			continue
		}
		base, bits := distanceOf(far)
		more := random.IntN(1 << bits)
		if base+more > ahead && random.IntN(200) > 0 {
			continue
		}
		long, longBits := lengthOf(letter)
		longMore := random.IntN(1 << longBits)
		s.code(letters, letter).num(longMore, longBits).code(distances, far).num(more, bits)
		ahead += long + longMore
	}
	return s.code(letters, 256), ahead
}

// someStream is a stream of some blocks of all kinds.
func someStream(random *rand.Rand, blocks, symbols int) []byte {
	s, ahead := newStuff(), 0
	for left := blocks - 1; left >= 0; left-- {
		last := 0
		if left == 0 {
			last = 1
		}
		switch random.IntN(3) {
		case 0:
			text := make([]byte, random.IntN(symbols+1))
			for i := range text {
				text[i] = byte(random.IntN(9))
			}
			s.bare(last, string(text))
			ahead += len(text)
		case 1:
			s.num(last, 1, 1, 2)
			s, ahead = s.symbols(random, random.IntN(symbols+1), ahead, fixedLetters(), slices.Repeat([]int{5}, 32))
		case 2:
			letters := stretched(random, 257+random.IntN(30), 15, 256)
			distances := stretched(random, 1+random.IntN(30), 5+random.IntN(11))
			s.ownHead(random, last, letters, distances)
			s, ahead = s.symbols(random, random.IntN(symbols+1), ahead, letters, distances)
		}
	}
	return s.bytes()
}

// P6.1: streams of all kinds of blocks; P6.2: with anything behind them.
func TestStreams(t *testing.T) {
	random := numbers()
	told := 0
	for range 1500 {
		b := someStream(random, 1+random.IntN(5), random.IntN(60))
		is := checks(t, b, 65536)
		if is.err != api.OK {
			continue
		}
		told++
		if is.read != len(b) {
			t.Fatalf("% x: %d bytes read", b, is.read)
		}
		behind := make([]byte, random.IntN(20))
		for i := range behind {
			behind[i] = byte(random.Uint32())
		}
		if more := checks(t, slices.Concat(b, behind), 65536); more != is {
			t.Fatalf("% x: with % x behind: %v", b, behind, more)
		}
		if len(is.text) > 0 {
			checks(t, b, random.IntN(len(is.text)))
		}
		refuses(t, b[:random.IntN(len(b))], 65536, api.ErrShape)
	}
	if told < 1000 {
		t.Fatalf("just %d say something", told)
	}
}

// P6.1: what is met first is told: each most, each end, each turned bit.
func TestWhatIsMetFirst(t *testing.T) {
	random := numbers()
	for range 25 {
		b := someStream(random, 1+random.IntN(3), 6)
		is := checks(t, b, 65536)
		for most := range min(len(is.text)+2, 300) {
			checks(t, b, most)
		}
		for n := range b {
			checks(t, b[:n], 65536)
			checks(t, b[:n], random.IntN(10))
		}
		for bit := range 8 * len(b) {
			b[bit/8] ^= 1 << (bit % 8)
			checks(t, b, 65536)
			checks(t, b, random.IntN(10))
			b[bit/8] ^= 1 << (bit % 8)
		}
	}
	for range 3000 {
		b := someStream(random, 1+random.IntN(4), 30)
		for range 1 + random.IntN(3) {
			b[random.IntN(len(b))] ^= 1 << random.IntN(8)
		}
		checks(t, b, random.IntN(400))
	}
}

// P6.1: most bytes that may be said, and one more, by letters, matches, bare bytes.
func TestLongTexts(t *testing.T) {
	full := newStuff().num(0, 1, 1, 2).say("p")
	for range 254 {
		full.fixed(285).far(0)
	}
	full.fixed(256)
	b := full.bare(0, strings.Repeat("p", 65536-1-254*258)).bytes()
	tells(t, append(slices.Clone(b), 3, 0), strings.Repeat("p", 65536))
	tells(t, newStuff().bare(0, strings.Repeat("p", 65535)).bare(1, "p").bytes(), strings.Repeat("p", 65536))
	fixed := func() stuff { return newStuff().num(1, 1, 1, 2) }
	for _, more := range []stuff{
		fixed().fixed(0, 256), fixed().fixed(257).far(0).fixed(256), newStuff().bare(1, "x"),
		// What is met first is told: the stream's end is not.
		fixed().fixed(0), fixed().fixed(257).far(0),
	} {
		refuses(t, slices.Concat(b, more.bytes()), 65536, api.ErrLong)
	}
	tells(t, slices.Concat(b, newStuff().bare(1, "").bytes()), strings.Repeat("p", 65536))
	refuses(t, slices.Concat(b, []byte{1, 1, 0, 0xfe, 0xff}), 65536, api.ErrShape)
}

// P6.1: what another program has written.
func TestStreamsOfTheLibrary(t *testing.T) {
	random := numbers()
	for range 60 {
		text := make([]byte, random.IntN(65537))
		letters, back := 1+random.IntN(256), 1+random.IntN(40000)
		for i := range text {
			if text[i] = byte(random.IntN(letters)); i >= back && random.IntN(10) > 0 {
				text[i] = text[i-back]
			}
		}
		for _, level := range []int{-2, 0, 1, 6, 9} {
			var out bytes.Buffer
			w, err := flate.NewWriter(&out, level)
			must(err == nil, api.ErrArg)
			w.Write(text[:len(text)/2])
			if random.IntN(2) == 0 {
				w.Flush()
			}
			w.Write(text[len(text)/2:])
			w.Close()
			got, read, errno := Inflate(out.Bytes(), 65536)
			if !bytes.Equal(got, text) || read != out.Len() || errno != api.OK {
				t.Fatalf("level %d, %d bytes: %d, %d, %v", level, len(text), len(got), read, errno)
			}
			if len(text) > 0 {
				if got, read, errno = Inflate(out.Bytes(), len(text)-1); got != nil || read != 0 || errno != api.ErrLong {
					t.Fatalf("level %d, %d bytes: %d, %d, %v", level, len(text), len(got), read, errno)
				}
			}
		}
	}
}

// P6.1: many blocks that say nothing, of each kind. R1: it ends, and soon.
func TestManyEmptyBlocks(t *testing.T) {
	s := newStuff()
	for range 1 << 18 {
		s.num(0, 1, 1, 2, 0, 7)
	}
	fixed := slices.Clone(s.num(1, 1, 1, 2, 0, 7).bytes())
	if text, read, err := Inflate(fixed, 0); len(text) != 0 || read != len(fixed) || err != api.OK {
		t.Fatalf("%d, %d, %v", len(text), read, err)
	}
	if text, read, err := Inflate(fixed[:len(fixed)-1], 0); len(text) != 0 || read != 0 || err != api.ErrShape {
		t.Fatalf("%d, %d, %v", len(text), read, err)
	}
	bare := slices.Concat(bytes.Repeat([]byte{0, 0, 0, 0xff, 0xff}, 1<<18), []byte{3, 0})
	if text, read, err := Inflate(bare, 0); len(text) != 0 || read != len(bare) || err != api.OK {
		t.Fatalf("%d, %d, %v", len(text), read, err)
	}
	s = newStuff()
	for left := 999; left >= 0; left-- {
		last := 0
		if left == 0 {
			last = 1
		}
		s.head(last, 257, 1, plain)
		s.tokens(plain, token{18, 127}, token{18, 256 - 138 - 11}, token{1, 0}, token{0, 0}).num(0, 1)
	}
	tells(t, s.bytes(), "")
}

// R3, R4, R6: b is neither changed nor kept, the text is new memory, and the same is told each time.
func TestMemory(t *testing.T) {
	b := newStuff().bare(1, "peatbank").bytes()
	text, _, _ := Inflate(b, 65536)
	for i := range b {
		b[i] = 0
	}
	if string(text) != "peatbank" {
		t.Fatalf("%q", text)
	}
	b = newStuff().bare(1, "peatbank").bytes()
	one, _, _ := Inflate(b, 65536)
	other, _, _ := Inflate(b, 65536)
	one[0] = 'P'
	if string(other) != "peatbank" || !bytes.Equal(b, newStuff().bare(1, "peatbank").bytes()) {
		t.Fatalf("%q, % x", other, b)
	}
}
