package huff

import (
	"cmp"
	"math"
	"math/big"
	"math/rand/v2"
	"reflect"
	"slices"
	"strings"
	"testing"

	"peatbank/api"
	"peatbank/bitio"
)

func numbers() *rand.Rand {
	return rand.New(rand.NewPCG(4, 4))
}

// wrongNumbers are neither lengths, weights, nor most lengths.
var wrongNumbers = []int{-1, -2, -15, math.MinInt, math.MinInt + 1, math.MaxInt, math.MaxInt - 1, 1 << 62, 1 << 32, 1<<32 + 1, -1 << 32}

// doMakeCode is the chapter's words: what lengths take is reckoned as a fraction.
func doMakeCode(lengths []int) bool {
	if len(lengths) > 288 {
		return false
	}
	taken, coded := new(big.Rat), []int(nil)
	for _, length := range lengths {
		if length < 0 || length > 15 {
			return false
		}
		if length > 0 {
			taken.Add(taken, big.NewRat(1, 1<<length))
			coded = append(coded, length)
		}
	}
	return len(coded) == 0 || taken.Cmp(big.NewRat(1, 1)) == 0 || len(coded) == 1 && coded[0] == 1
}

// texts are the codes as noughts and ones, the way the chapter tells them; none of a symbol that has none.
func texts(lengths []int) []string {
	var order []int
	for symbol, length := range lengths {
		if length > 0 {
			order = append(order, symbol)
		}
	}
	slices.SortStableFunc(order, func(a, b int) int { return cmp.Compare(lengths[a], lengths[b]) })
	out := make([]string, len(lengths))
	for i, symbol := range order {
		if i == 0 {
			out[symbol] = strings.Repeat("0", lengths[symbol])
			continue
		}
		ahead := out[order[i-1]]
		out[symbol] = plusOne(ahead) + strings.Repeat("0", lengths[symbol]-len(ahead))
	}
	return out
}

// plusOne is the number of noughts and ones that follows, as long as the one ahead.
func plusOne(text string) string {
	at := strings.LastIndexByte(text, '0')
	return text[:at] + "1" + strings.Repeat("0", len(text)-at-1)
}

// number is what a text of noughts and ones says, its first one being the highest.
func number(text string) int {
	n := 0
	for _, c := range []byte(text) {
		n = 2*n + int(c-'0')
	}
	return n
}

// put writes a text of noughts and ones.
func put(w *bitio.Writer, text string) {
	for _, c := range []byte(text) {
		w.Put(uint32(c-'0'), 1)
	}
}

// cost is what all that comes takes.
func cost(freq, lengths []int) int {
	sum := 0
	for symbol, weight := range freq {
		sum += weight * lengths[symbol]
	}
	return sum
}

// leastCost is the least cost of a code none of whose lengths is above most. It goes down a tree from its root on: of
// the places of a level some become symbols', those that come most often first; each other one has two places below.
func leastCost(freq []int, most int) int {
	var weights []int
	for _, weight := range freq {
		if weight > 0 {
			weights = append(weights, weight)
		}
	}
	slices.SortFunc(weights, func(a, b int) int { return cmp.Compare(b, a) })
	n := len(weights)
	if n < 2 {
		return sumOf(weights)
	}
	const never = math.MaxInt / 2
	behind := make([]int, n+1) // what the symbols from i on weigh
	for i := n - 1; i >= 0; i-- {
		behind[i] = behind[i+1] + weights[i]
	}
	// least[i][places]: of a level at which the symbols from i on have no place yet, and there are so many places.
	least := table(n, never)
	for range most {
		next := table(n, never)
		for i := range n {
			for places := 1; places <= n-i; places++ {
				for used := 0; used <= places; used++ {
					rest, open := n-i-used, 2*(places-used)
					if rest == 0 && open == 0 {
						next[i][places] = min(next[i][places], behind[i])
					} else if rest > 0 && open > 0 && open <= rest {
						next[i][places] = min(next[i][places], behind[i]+least[i+used][open])
					}
				}
			}
		}
		least = next
	}
	return least[0][2]
}

func table(n, value int) [][]int {
	rows := make([][]int, n+1)
	for i := range rows {
		rows[i] = slices.Repeat([]int{value}, n+2)
	}
	return rows
}

func sumOf(l []int) int {
	sum := 0
	for _, n := range l {
		sum += n
	}
	return sum
}

// huffmanCost is the least cost of a code whose lengths have no limit, by Huffman's own way.
func huffmanCost(freq []int) int {
	var heap []int
	for _, weight := range freq {
		if weight > 0 {
			heap = append(heap, weight)
		}
	}
	if len(heap) == 1 {
		return heap[0]
	}
	sum := 0
	for len(heap) > 1 {
		slices.Sort(heap)
		both := heap[0] + heap[1]
		sum += both
		heap = append(heap[2:], both)
	}
	return sum
}

// allLists goes through all lists of n numbers from low to high.
func allLists(n, low, high int, each func([]int)) {
	l := slices.Repeat([]int{low}, n)
	for {
		each(slices.Clone(l))
		at := 0
		for at < n && l[at] == high {
			l[at] = low
			at++
		}
		if at == n {
			return
		}
		l[at]++
	}
}

// someCode is lengths that make a code: leaves of a tree that are parted at random, among symbols that have none.
func someCode(from *rand.Rand, leaves, all int) []int {
	lengths := []int{0}
	for len(lengths) < leaves {
		if at := from.IntN(len(lengths)); lengths[at] < 15 {
			lengths[at]++
			lengths = append(lengths, lengths[at])
		}
	}
	if leaves == 1 {
		lengths[0] = 1
	}
	lengths = append(lengths, make([]int, all-len(lengths))...)
	from.Shuffle(all, func(i, j int) { lengths[i], lengths[j] = lengths[j], lengths[i] })
	return lengths
}

// checkCodes looks whether Codes and New tell of lengths what the chapter's words do.
func checkCodes(t *testing.T, lengths []int) {
	t.Helper()
	given := slices.Clone(lengths)
	codes, err := Codes(lengths)
	d := New(lengths)
	if !slices.Equal(lengths, given) {
		t.Fatalf("%v: changed", given)
	}
	if !doMakeCode(lengths) {
		if err != api.ErrArg || len(codes) != 0 || d != nil {
			t.Fatalf("%v: %v, error %d, decoder %t, though they make no code", lengths, codes, err, d != nil)
		}
		return
	}
	if err != api.OK || len(codes) != len(lengths) || d == nil {
		t.Fatalf("%v: %v, error %d, decoder %t", lengths, codes, err, d != nil)
	}
	for symbol, text := range texts(lengths) {
		if codes[symbol] != number(text) {
			t.Fatalf("%v: symbol %d has %b, want %q", lengths, symbol, codes[symbol], text)
		}
	}
}

// P4.1: the chapter's examples.
func TestCodesOfExamples(t *testing.T) {
	for _, c := range []struct{ lengths, want []int }{
		{[]int{2, 1, 3, 3}, []int{0b10, 0, 0b110, 0b111}},
		{[]int{0, 1}, []int{0, 0}},
		{[]int{1, 1}, []int{0, 1}},
		{[]int{2, 2, 2, 2}, []int{0, 1, 2, 3}},
		{[]int{3, 0, 1, 0, 0, 3, 2}, []int{0b110, 0, 0, 0, 0, 0b111, 0b10}},
	} {
		if got, err := Codes(c.lengths); !slices.Equal(got, c.want) || err != api.OK {
			t.Errorf("%v: %v, error %d, want %v", c.lengths, got, err, c.want)
		}
	}
	for _, lengths := range [][]int{{1, 1, 1}, {2, 2}, {2}, {0, 2}, {15}, {1, 2}, {1, 2, 3}, {1, 2, 2, 15}, {16}, {-1}, {1, 1, -1}, {1, 1, 16}} {
		if got, err := Codes(lengths); len(got) != 0 || err != api.ErrArg {
			t.Errorf("%v: %v, error %d, want ErrArg", lengths, got, err)
		}
	}
}

// P4.1: all short lists of lengths, those that may not be among them.
func TestCodesOfAllShortLists(t *testing.T) {
	checkCodes(t, nil)
	checkCodes(t, []int{})
	for n, high := range []int{0, 17, 17, 16, 5, 5, 4, 4} {
		if n > 0 {
			allLists(n, -1, high, func(lengths []int) { checkCodes(t, lengths) })
		}
	}
}

// P4.1, P4.3: lists in which no symbol has a code, or one alone, at each place and of each length.
func TestCodesOfFewSymbols(t *testing.T) {
	for n := range 300 {
		checkCodes(t, make([]int, n))
	}
	for _, n := range []int{1, 2, 3, 30, 286, 287, 288, 289} {
		for _, at := range []int{0, n / 2, n - 1} {
			for length := -2; length < 20; length++ {
				lengths := make([]int, n)
				lengths[at] = length
				checkCodes(t, lengths)
			}
		}
	}
}

// P4.1: lengths that may not be, in a code that else is one.
func TestCodesOfWrongLengths(t *testing.T) {
	for _, wrong := range append(wrongNumbers, 16, 17, 31, 32, 63, 64) {
		for _, lengths := range [][]int{{wrong}, {1, wrong}, {1, 1, wrong}, {wrong, 2, 2, 1}, {0, wrong, 0}} {
			checkCodes(t, lengths)
		}
	}
}

// P4.1: codes of the greatest lengths, of as many symbols as there may be, and of one more.
func TestCodesOfGreatLists(t *testing.T) {
	var stairs []int // 1 2 3 .. 15 15
	for length := 1; length <= 15; length++ {
		stairs = append(stairs, length)
	}
	stairs = append(stairs, 15)
	checkCodes(t, stairs)
	if codes, err := Codes(stairs); err != api.OK || codes[15] != 1<<15-1 || codes[14] != 1<<15-2 {
		t.Errorf("%v: %v, error %d", stairs, codes, err)
	}
	slices.Reverse(stairs)
	checkCodes(t, stairs)
	checkCodes(t, stairs[1:])
	checkCodes(t, append(stairs, 15))
	checkCodes(t, append(slices.Repeat([]int{0}, 288-len(stairs)), stairs...))
	checkCodes(t, append(slices.Repeat([]int{0}, 289-len(stairs)), stairs...))
	fixed := fixedLetters()
	checkCodes(t, fixed)
	checkCodes(t, append(fixed, 0))
	checkCodes(t, fixed[:287])
	checkCodes(t, slices.Repeat([]int{8}, 256))
	checkCodes(t, slices.Repeat([]int{8}, 257))
	checkCodes(t, slices.Repeat([]int{5}, 32))
	checkCodes(t, slices.Repeat([]int{15}, 288))
	checkCodes(t, slices.Repeat([]int{1}, 288))
	checkCodes(t, make([]int, 1<<20))
	checkCodes(t, append([]int{1, 1}, make([]int, 1<<20)...))
}

// fixedLetters are DEFLATE's own lengths of 288 letters.
func fixedLetters() []int {
	return slices.Concat(slices.Repeat([]int{8}, 144), slices.Repeat([]int{9}, 112), slices.Repeat([]int{7}, 24), slices.Repeat([]int{8}, 8))
}

// P4.1: DEFLATE's own codes begin where its standard says.
func TestCodesOfFixedLetters(t *testing.T) {
	codes, err := Codes(fixedLetters())
	if err != api.OK {
		t.Fatalf("error %d", err)
	}
	for symbol, want := range map[int]int{0: 0b00110000, 143: 0b10111111, 144: 0b110010000, 255: 0b111111111, 256: 0, 279: 0b0010111, 280: 0b11000000, 287: 0b11000111} {
		if codes[symbol] != want {
			t.Errorf("%d: %b, want %b", symbol, codes[symbol], want)
		}
	}
}

// P4.1: codes of all kinds, and such with one length turned.
func TestCodesOfMany(t *testing.T) {
	from := numbers()
	for range 3000 {
		all := 1 + from.IntN(288)
		lengths := someCode(from, 1+from.IntN(all), all)
		checkCodes(t, lengths)
		lengths[from.IntN(all)] += from.IntN(5) - 2
		checkCodes(t, lengths)
	}
}

// P4.1, R3: what Codes answers is new memory.
func TestCodesAreNew(t *testing.T) {
	lengths := []int{2, 1, 3, 3}
	codes, _ := Codes(lengths)
	clear(lengths)
	if !slices.Equal(codes, []int{2, 0, 6, 7}) {
		t.Errorf("%v: they share the lengths' memory", codes)
	}
}

// checkLengths looks whether Lengths tells of weights what it has to, least being the least cost there is.
func checkLengths(t *testing.T, freq []int, most, least int) {
	t.Helper()
	given := slices.Clone(freq)
	lengths, err := Lengths(freq, most)
	if !slices.Equal(freq, given) {
		t.Fatalf("%v: changed", given)
	}
	if err != api.OK || len(lengths) != len(freq) {
		t.Fatalf("%v, most %d: %v, error %d", freq, most, lengths, err)
	}
	coded := 0
	for symbol, weight := range freq {
		if lengths[symbol] > most || weight == 0 != (lengths[symbol] == 0) {
			t.Fatalf("%v, most %d: %v: symbol %d", freq, most, lengths, symbol)
		}
		coded += min(1, lengths[symbol])
	}
	if !doMakeCode(lengths) || coded == 1 && sumOf(lengths) != 1 {
		t.Fatalf("%v, most %d: %v make no code", freq, most, lengths)
	}
	if got := cost(freq, lengths); got != least {
		t.Fatalf("%v, most %d: %v cost %d, want %d", freq, most, lengths, got, least)
	}
	again, _ := Lengths(freq, most)
	if !slices.Equal(again, lengths) {
		t.Fatalf("%v, most %d: %v, then %v", freq, most, lengths, again)
	}
}

// refuseLengths looks whether Lengths refuses weights.
func refuseLengths(t *testing.T, freq []int, most int) {
	t.Helper()
	if lengths, err := Lengths(freq, most); err != api.ErrArg || len(lengths) != 0 {
		t.Fatalf("%d weights, most %d: %v, error %d, want ErrArg", len(freq), most, lengths, err)
	}
}

// P4.2: the chapter's examples.
func TestLengthsOfExamples(t *testing.T) {
	for _, c := range []struct {
		freq []int
		most int
		want []int
	}{
		{[]int{1, 1, 2, 4}, 15, []int{3, 3, 2, 1}},
		{[]int{1, 1, 2, 4}, 2, []int{2, 2, 2, 2}},
		{[]int{4, 0, 2, 1, 0, 1, 0}, 3, []int{1, 0, 2, 3, 0, 3, 0}},
		{[]int{5}, 1, []int{1}},
		{[]int{0, 7, 0}, 15, []int{0, 1, 0}},
		{[]int{9, 1}, 1, []int{1, 1}},
		{[]int{0, 0}, 4, []int{0, 0}},
		{nil, 1, nil},
		{[]int{}, 15, nil},
	} {
		got, err := Lengths(c.freq, c.most)
		if !slices.Equal(got, c.want) || err != api.OK {
			t.Errorf("%v, most %d: %v, error %d, want %v", c.freq, c.most, got, err, c.want)
		}
	}
}

// P4.2: against all lengths there are, of few weights.
func TestLengthsAgainstAllOfThem(t *testing.T) {
	from := numbers()
	for n := 1; n <= 5; n++ {
		for most := 1; most <= 4; most++ {
			if n > 1<<most {
				continue
			}
			var codes [][]int
			allLists(n, 1, most, func(lengths []int) {
				if doMakeCode(lengths) {
					codes = append(codes, lengths)
				}
			})
			for range 300 {
				freq := someWeights(from, n)
				least := math.MaxInt
				for _, lengths := range codes {
					least = min(least, cost(freq, lengths))
				}
				checkLengths(t, freq, most, least)
				if other := leastCost(freq, most); other != least {
					t.Fatalf("%v, most %d: the test reckons %d, want %d", freq, most, other, least)
				}
			}
		}
	}
}

// someWeights are n weights above 0, of one of several kinds.
func someWeights(from *rand.Rand, n int) []int {
	freq := make([]int, n)
	kind := from.IntN(4)
	for i := range freq {
		switch kind {
		case 0:
			freq[i] = 1 + from.IntN(1<<20)
		case 1:
			freq[i] = 1 + from.IntN(3)
		case 2:
			freq[i] = 1 << from.IntN(21)
		case 3:
			freq[i] = 1 + from.IntN(1+from.IntN(1+from.IntN(1<<20)))
		}
	}
	return freq
}

// P4.2: weights of all kinds, some of them 0, with each limit that so many can have.
func TestLengthsOfMany(t *testing.T) {
	from := numbers()
	for range 150 {
		freq := someWeights(from, 1+from.IntN(40))
		for range from.IntN(20) {
			freq = slices.Insert(freq, from.IntN(len(freq)+1), 0)
		}
		used := 0
		for _, weight := range freq {
			used += min(1, weight)
		}
		for most := 1; most <= 15; most++ {
			if used > 1<<most {
				refuseLengths(t, freq, most)
				continue
			}
			checkLengths(t, freq, most, leastCost(freq, most))
		}
	}
}

// P4.2: as many weights as there may be; where no limit binds, nothing is better than Huffman's own way.
func TestLengthsOfGreatLists(t *testing.T) {
	from := numbers()
	for range 100 {
		freq := make([]int, 288)
		for i := range freq {
			freq[i] = 1000 + from.IntN(8000) // far too alike for lengths above 15
		}
		checkLengths(t, freq, 15, huffmanCost(freq))
	}
	for most := 9; most <= 15; most++ {
		checkLengths(t, slices.Repeat([]int{1 << 20}, 288), most, (224*8+64*9)<<20)
	}
	steep := make([]int, 288) // so steep that each limit binds
	for i := range steep {
		steep[i] = 1 << (i % 21)
	}
	for _, most := range []int{9, 10, 15} {
		checkLengths(t, steep, most, leastCost(steep, most))
	}
	for _, freq := range [][]int{make([]int, 289), slices.Repeat([]int{1}, 289), append([]int{1, 1}, make([]int, 1<<20)...)} {
		refuseLengths(t, freq, 15)
	}
	checkLengths(t, make([]int, 288), 15, 0)
}

// P4.2: weights that rise as fast as they can, of which each limit makes others of the lengths.
func TestLengthsOfSteepWeights(t *testing.T) {
	powers, sums := []int{1}, []int{1, 1}
	for len(powers) < 21 {
		powers = append(powers, 2*powers[len(powers)-1])
	}
	for len(sums) < 30 {
		sums = append(sums, sums[len(sums)-1]+sums[len(sums)-2])
	}
	for _, freq := range [][]int{powers, sums} {
		for range 2 {
			for most := 5; most <= 15; most++ {
				checkLengths(t, freq, most, leastCost(freq, most))
			}
			slices.Reverse(freq)
		}
	}
	checkLengths(t, powers[:16], 15, 1<<17-4-15) // 15 15 14 .. 1: 3 and 7 and .. and 65535
}

// P4.2: just as many weights above 0 as most allows, and one more.
func TestLengthsOfFullLevels(t *testing.T) {
	from := numbers()
	for most := 1; most <= 8; most++ {
		freq := someWeights(from, 1<<most)
		checkLengths(t, freq, most, most*sumOf(freq))
		padded := slices.Concat([]int{0}, freq, []int{0, 0})
		checkLengths(t, padded, most, most*sumOf(freq))
		refuseLengths(t, append(freq, 1), most)
		if most > 1 {
			refuseLengths(t, freq, most-1)
		}
	}
}

// P4.2: one weight alone above 0 has the length 1, whatever it is and wherever it stands.
func TestLengthsOfOneWeight(t *testing.T) {
	for _, n := range []int{1, 2, 17, 288} {
		for _, at := range []int{0, n / 2, n - 1} {
			for _, weight := range []int{1, 2, 1000, 1 << 20} {
				for most := 1; most <= 15; most++ {
					freq := make([]int, n)
					freq[at] = weight
					checkLengths(t, freq, most, weight)
				}
			}
		}
	}
}

// P4.2: weights and limits that may not be.
func TestLengthsOfWrongNumbers(t *testing.T) {
	for _, wrong := range append(wrongNumbers, 1<<20+1, 1<<21) {
		for _, freq := range [][]int{{wrong}, {0, wrong}, {1, 1, wrong}, {wrong, 1 << 20}, append(slices.Repeat([]int{1}, 287), wrong)} {
			refuseLengths(t, freq, 15)
		}
	}
	for _, most := range append(wrongNumbers, 0, 16, 17, 31, 32, 63, 64, 65) {
		for _, freq := range [][]int{nil, {}, {0}, {1}, {1, 1}, {1, 2, 3}} {
			refuseLengths(t, freq, most)
		}
	}
	refuseLengths(t, []int{1, 1, 1}, 1)
	refuseLengths(t, slices.Repeat([]int{1}, 288), 8)
	refuseLengths(t, slices.Repeat([]int{1}, 257), 8)
	checkLengths(t, []int{0, 0, 1, 0, 1}, 1, 2)
}

// P4.2, R3: what Lengths answers is new memory.
func TestLengthsAreNew(t *testing.T) {
	freq := []int{1, 1, 2, 4}
	lengths, _ := Lengths(freq, 15)
	clear(freq)
	if !slices.Equal(lengths, []int{3, 3, 2, 1}) {
		t.Errorf("%v: they share the weights' memory", lengths)
	}
}

// checkNext looks what d reads in a row of bits that begins behind some others: symbol by the way of texts, or none.
func checkNext(t *testing.T, lengths []int, bits string, ahead int) {
	t.Helper()
	w := bitio.NewWriter()
	put(w, strings.Repeat("1", ahead)+bits)
	w.Align()
	bits += strings.Repeat("0", w.Len()-ahead-len(bits))
	r := bitio.NewReader(w.Bytes())
	for range ahead {
		r.Get(1)
	}
	want, read, ok := nextByTexts(texts(lengths), bits)
	got, gotOK := New(lengths).Next(r)
	if got != want || gotOK != ok || r.At() != ahead+read {
		t.Fatalf("%v, %s behind %d bits: %d, %t, %d bits; want %d, %t, %d", lengths, bits, ahead, got, gotOK, r.At()-ahead, want, ok, read)
	}
}

// nextByTexts reads bits as long as they begin a code: it tells the symbol, how many bits were read, and whether one has them.
func nextByTexts(codes []string, bits string) (int, int, bool) {
	for read := 0; ; read++ {
		begins := false
		for symbol, code := range codes {
			if code != "" && code == bits[:read] {
				return symbol, read, true
			}
			begins = begins || code != "" && strings.HasPrefix(code, bits[:read])
		}
		if !begins || read == len(bits) {
			return 0, read, false
		}
	}
}

// P4.3: all rows of bits, through some codes, at each place in a byte.
func TestNextOfAllBits(t *testing.T) {
	for _, lengths := range [][]int{nil, {0}, {0, 0, 0}, {1}, {0, 1}, {1, 0, 0}, {1, 1}, {2, 1, 3, 3}, {2, 2, 2, 2}, {0, 3, 3, 3, 3, 1}, {1, 2, 3, 4, 5, 6, 7, 8, 8}} {
		for n := range 11 {
			for v := range 1 << n {
				bits := ""
				for i := range n {
					bits += string(rune('0' + v>>i&1))
				}
				for _, ahead := range []int{0, 1, 5, 7, 8} {
					checkNext(t, lengths, bits, ahead)
				}
			}
		}
	}
}

// P4.3: where r has no more, all of it was read.
func TestNextWhereBitsEnd(t *testing.T) {
	stairs := []int{15, 15, 14, 13, 12, 11, 10, 9, 8, 7, 6, 5, 4, 3, 2, 1}
	for n := range 17 {
		for _, lengths := range [][]int{stairs, slices.Repeat([]int{8}, 256), fixedLetters()} {
			r := bitio.NewReader([]byte{0xFF, 0xFF})
			r.Get(16 - n)
			symbol, ok := New(lengths).Next(r)
			want, read, wantOK := nextByTexts(texts(lengths), strings.Repeat("1", n))
			if symbol != want || ok != wantOK || r.At() != 16-n+read {
				t.Errorf("%d ones, %d lengths: %d, %t, at %d; want %d, %t, at %d", n, len(lengths), symbol, ok, r.At(), want, wantOK, 16-n+read)
			}
		}
	}
}

// P4.3: of a code of one symbol the other bit is read, and is no code; of one of no symbols nothing is read.
func TestNextOfFewSymbols(t *testing.T) {
	r := bitio.NewReader([]byte{0b0000_0110})
	one := New([]int{0, 0, 1})
	for i, c := range []struct {
		symbol int
		ok     bool
	}{{2, true}, {0, false}, {0, false}, {2, true}} {
		if symbol, ok := one.Next(r); symbol != c.symbol || ok != c.ok || r.At() != i+1 {
			t.Errorf("bit %d: %d, %t, at %d", i, symbol, ok, r.At())
		}
	}
	for _, lengths := range [][]int{nil, {}, {0}, make([]int, 288)} {
		if symbol, ok := New(lengths).Next(r); symbol != 0 || ok || r.At() != 4 {
			t.Errorf("no code: %d, %t, at %d", symbol, ok, r.At())
		}
	}
}

// P4.3: lengths that make no code have no decoder.
func TestNewOfWrongLengths(t *testing.T) {
	for _, lengths := range [][]int{{1, 1, 1}, {2, 2}, {2}, {16}, {-1, 1, 1}, {1, 2}, make([]int, 289), append(make([]int, 288), 1), append([]int{1, 1}, make([]int, 287)...)} {
		if New(lengths) != nil {
			t.Errorf("%v: a decoder", lengths)
		}
	}
}

// P4.3, R5: a decoder that New did not answer reads nothing; nor does one of no reader.
func TestNoDecoder(t *testing.T) {
	made := New([]int{1, 1})
	dup := new(Decoder)
	reflect.ValueOf(dup).Elem().Set(reflect.ValueOf(made).Elem())
	r := bitio.NewReader([]byte{0xFF})
	for name, d := range map[string]*Decoder{"nil": nil, "zero": {}, "copy": dup, "refused": New([]int{2})} {
		if symbol, ok := d.Next(r); symbol != 0 || ok || r.At() != 0 {
			t.Errorf("%s decoder: %d, %t, at %d", name, symbol, ok, r.At())
		}
		if symbol, ok := d.Next(nil); symbol != 0 || ok {
			t.Errorf("%s decoder, no reader: %d, %t", name, symbol, ok)
		}
	}
	for name, none := range map[string]*bitio.Reader{"nil": nil, "zero": {}} {
		if symbol, ok := made.Next(none); symbol != 0 || ok {
			t.Errorf("%s reader: %d, %t", name, symbol, ok)
		}
	}
	if symbol, ok := made.Next(r); symbol != 1 || !ok || r.At() != 1 {
		t.Errorf("the one that was copied: %d, %t, at %d", symbol, ok, r.At())
	}
}

// P4.3, R3: lengths that are changed behind New play no part.
func TestLengthsOfADecoderStay(t *testing.T) {
	lengths := []int{2, 1, 3, 3}
	d := New(lengths)
	clear(lengths)
	r := bitio.NewReader([]byte{0b0111_0110, 0b0000_0000}) // 0 110 111 0 0 ..
	for i, want := range []int{1, 2, 3, 1, 1} {
		if symbol, ok := d.Next(r); symbol != want || !ok {
			t.Errorf("%d: %d, %t, want %d", i, symbol, ok, want)
		}
	}
}

// P4.4: no code begins with another one.
func TestNoCodeBeginsWithAnother(t *testing.T) {
	from := numbers()
	for range 100 {
		all := 2 + from.IntN(287)
		lengths := someCode(from, 2+from.IntN(all-1), all)
		codes, err := Codes(lengths)
		if err != api.OK {
			t.Fatalf("%v: error %d", lengths, err)
		}
		for i, one := range codes {
			if one >= 1<<lengths[i] {
				t.Fatalf("%v: the code %b is too long", lengths, one)
			}
			for j, other := range codes {
				if i != j && lengths[i] > 0 && lengths[j] >= lengths[i] && other>>(lengths[j]-lengths[i]) == one {
					t.Fatalf("%v: the code of %d begins with that of %d", lengths, j, i)
				}
			}
		}
	}
}

// P4.4: what is written code by code is read symbol by symbol; two decoders read one row in turns.
func TestWhatIsWrittenIsRead(t *testing.T) {
	from := numbers()
	for range 300 {
		freq := someWeights(from, 1+from.IntN(288))
		lengths, err := Lengths(freq, 9+from.IntN(7))
		if err != api.OK {
			t.Fatalf("%v: error %d", freq, err)
		}
		all := 1 + from.IntN(30)
		others := someCode(from, 1+from.IntN(all), all)
		symbols, at, w := []int(nil), []int(nil), bitio.NewWriter()
		for i := range from.IntN(500) {
			of := [][]int{lengths, others}[i%2]
			codes, _ := Codes(of)
			symbol := from.IntN(len(of))
			for of[symbol] == 0 {
				symbol = from.IntN(len(of))
			}
			for bit := of[symbol] - 1; bit >= 0; bit-- {
				w.Put(uint32(codes[symbol]>>bit), 1)
			}
			symbols, at = append(symbols, symbol), append(at, w.Len())
		}
		r, readers := bitio.NewReader(w.Bytes()), []*Decoder{New(lengths), New(others)}
		for i, want := range symbols {
			if symbol, ok := readers[i%2].Next(r); symbol != want || !ok || r.At() != at[i] {
				t.Fatalf("%d: %d, %t, at %d; want %d, at %d", i, symbol, ok, r.At(), want, at[i])
			}
		}
	}
}
