package sha

import (
	"bytes"
	"crypto/sha256"
	"encoding/hex"
	"reflect"
	"strings"
	"sync"
	"testing"

	"peatbank/api"
)

// text makes n bytes, no two stretches of which look alike at once.
func text(n int) []byte {
	b := make([]byte, n)
	x := uint32(2463534242)
	for i := range b {
		x ^= x << 13
		x ^= x >> 17
		x ^= x << 5
		b[i] = byte(x >> 11)
	}
	return b
}

func key(t *testing.T, digits string) api.Key {
	t.Helper()
	b, err := hex.DecodeString(strings.ReplaceAll(digits, " ", ""))
	if err != nil || len(b) != len(api.Key{}) {
		t.Fatal("no key:", digits)
	}
	return api.Key(b)
}

// emptyDigest is the digest of no bytes.
const emptyDigest = "e3b0c442 98fc1c14 9afbf4c8 996fb924 27ae41e4 649b934c a495991b 7852b855"

// P1.1: the chapter's examples, and FIPS 180-4's.
func TestSumOfKnownTexts(t *testing.T) {
	for _, c := range []struct{ text, want string }{
		{"", emptyDigest},
		{"abc", "ba7816bf 8f01cfea 414140de 5dae2223 b00361a3 96177a9c b410ff61 f20015ad"},
		{"abcdbcdecdefdefgefghfghighijhijkijkljklmklmnlmnomnopnopq", "248d6a61 d20638b8 e5c02693 0c3e6039 a33ce459 64ff2167 f6ecedd4 19db06c1"},
		{strings.Repeat("a", 1000000), "cdc76e5c 9914fb92 81a1c7e2 84d73e67 f1809a48 a497200e 046d39cc c7112cd0"},
	} {
		if got, want := Sum([]byte(c.text)), key(t, c.want); got != want {
			t.Errorf("Sum of %d bytes: %x, want %x", len(c.text), got, want)
		}
	}
	if Sum(nil) != Sum([]byte{}) {
		t.Error("nil and no bytes are one")
	}
}

// P1.1: each length at which a text ends otherwise in its last block, several blocks on.
func TestSumOfEachLength(t *testing.T) {
	all := text(5 * blockBytes)
	for n := range len(all) + 1 {
		if got, want := Sum(all[:n]), api.Key(sha256.Sum256(all[:n])); got != want {
			t.Errorf("Sum of %d bytes: %x, want %x", n, got, want)
		}
	}
}

// P1.1: bytes of all ones and all noughts carry through every sum.
func TestSumOfEqualBytes(t *testing.T) {
	for _, n := range []int{1, 55, 56, 63, 64, 119, 120, 4096, 65536} {
		for _, v := range []byte{0, 1, 127, 128, 255} {
			b := bytes.Repeat([]byte{v}, n)
			if got, want := Sum(b), api.Key(sha256.Sum256(b)); got != want {
				t.Errorf("Sum of %d bytes %d: %x, want %x", n, v, got, want)
			}
		}
	}
}

// P1.1: a text of 2^29 bytes is the first whose bits don't fit 32 of them.
func TestSumOfLongText(t *testing.T) {
	if testing.Short() {
		t.Skip("half a gigabyte is digested")
	}
	part := text(1 << 20)
	h, want := New(), sha256.New()
	for range 1 << 9 {
		if e := h.Write(part); e != api.OK {
			t.Fatal(e)
		}
		want.Write(part)
	}
	if e := h.Write(part[:77]); e != api.OK {
		t.Fatal(e)
	}
	want.Write(part[:77])
	if got := h.Sum(); got != api.Key(want.Sum(nil)) {
		t.Errorf("%x, want %x", got, want.Sum(nil))
	}
}

// P1.2: a hash begins with nothing, and nothing is added by nothing.
func TestHashOfNothing(t *testing.T) {
	if New().Sum() != key(t, emptyDigest) {
		t.Error("a new hash is of nothing")
	}
	h := New()
	for range 3 {
		if e := h.Write(nil); e != api.OK {
			t.Error(e)
		}
		if e := h.Write([]byte{}); e != api.OK {
			t.Error(e)
		}
	}
	if h.Sum() != key(t, emptyDigest) {
		t.Error("empty writes add nothing")
	}
}

// P1.2: Sum tells the same each time, and a Write behind it is refused and does nothing.
func TestWriteBehindSum(t *testing.T) {
	for _, n := range []int{0, 3, 55, 56, 64, 200} {
		b := text(n)
		want := api.Key(sha256.Sum256(b))
		h := New()
		if e := h.Write(b); e != api.OK {
			t.Error(n, e)
		}
		for range 3 {
			if got := h.Sum(); got != want {
				t.Errorf("%d bytes: %x, want %x", n, got, want)
			}
			for _, more := range [][]byte{nil, {}, {1}, text(100)} {
				if e := h.Write(more); e != api.ErrState {
					t.Errorf("%d bytes, then %d more: %d, want ErrState", n, len(more), e)
				}
			}
		}
	}
}

// P1.2, R5: what New did not answer does nothing.
func TestNoHash(t *testing.T) {
	made := New()
	made.Write([]byte("abc"))
	dup := new(Hash)
	reflect.ValueOf(dup).Elem().Set(reflect.ValueOf(made).Elem())
	for name, h := range map[string]*Hash{"nil": nil, "zero": {}, "new": new(Hash), "copy": dup} {
		for range 2 {
			if e := h.Write([]byte("abc")); e != api.ErrNil {
				t.Errorf("Write to %s: %d, want ErrNil", name, e)
			}
			if e := h.Write(nil); e != api.ErrNil {
				t.Errorf("Write of nothing to %s: %d, want ErrNil", name, e)
			}
			if got := h.Sum(); got != (api.Key{}) {
				t.Errorf("Sum of %s: %x, want zero", name, got)
			}
		}
	}
	if made.Sum() != Sum([]byte("abc")) {
		t.Error("a copy's calls have touched the hash")
	}
}

// P1.2: no two hashes share anything.
func TestHashesApart(t *testing.T) {
	one, two := New(), New()
	all := text(300)
	for i := 0; i < len(all); i += 10 {
		one.Write(all[i : i+10])
		two.Write(all[len(all)-10-i : len(all)-i])
	}
	var back []byte
	for i := len(all); i > 0; i -= 10 {
		back = append(back, all[i-10:i]...)
	}
	if one.Sum() != Sum(all) || two.Sum() != Sum(back) {
		t.Error("two hashes are not apart")
	}
}

// P1.3: each way to part a text in three, over the ends of its first blocks.
func TestPartsInThree(t *testing.T) {
	all := text(2*blockBytes + 3)
	want := api.Key(sha256.Sum256(all))
	for i := range len(all) + 1 {
		for j := i; j <= len(all); j++ {
			h := New()
			for _, part := range [][]byte{all[:i], all[i:j], all[j:]} {
				if e := h.Write(part); e != api.OK {
					t.Fatal(i, j, e)
				}
			}
			if h.Sum() != want {
				t.Fatalf("parted at %d and %d: another digest", i, j)
			}
		}
	}
}

// P1.3: parts of one size, from single bytes to more than two blocks.
func TestPartsOfOneSize(t *testing.T) {
	all := text(1000)
	want := api.Key(sha256.Sum256(all))
	for size := 1; size <= 2*blockBytes+1; size++ {
		h := New()
		for rest := all; len(rest) > 0; {
			n := min(size, len(rest))
			if e := h.Write(rest[:n]); e != api.OK {
				t.Fatal(size, e)
			}
			rest = rest[n:]
		}
		if h.Sum() != want {
			t.Errorf("parts of %d bytes: another digest", size)
		}
	}
}

// R3: what is handed in is neither changed nor kept.
func TestBytesStayTheCallers(t *testing.T) {
	b := text(blockBytes + 20)
	before := bytes.Clone(b)
	h := New()
	h.Write(b)
	Sum(b)
	if !bytes.Equal(b, before) {
		t.Error("the bytes were changed")
	}
	clear(b)
	h.Write(before[:5])
	if h.Sum() != Sum(append(before, before[:5]...)) {
		t.Error("the bytes were kept")
	}
}

// P1.2: a hash is summed once, even if several ask at one time.
func TestSumAtOneTime(t *testing.T) {
	h := New()
	h.Write([]byte("abc"))
	sums := make([]api.Key, 8)
	var all sync.WaitGroup
	for i := range sums {
		all.Go(func() { sums[i] = h.Sum() })
	}
	all.Wait()
	for _, s := range sums {
		if s != Sum([]byte("abc")) {
			t.Errorf("%x", s)
		}
	}
}
