package dev

import (
	"bytes"
	"fmt"
	"math"
	"math/rand/v2"
	"reflect"
	"testing"

	"peatbank/api"
)

// wrongSizes are numbers of sectors that no disk has.
var wrongSizes = []int{0, -1, -2, -512, 1<<18 + 1, 1 << 19, 1 << 30, 1 << 32, 1<<32 + 1, 1<<55 + 1, math.MaxInt, math.MinInt, math.MinInt + 1}

// wrongLengths are those of bytes that are no sector.
var wrongLengths = []int{0, 1, 256, 511, 513, 1023, 1024, 4096}

// someBytes are so many bytes, all of them c.
func someBytes(n int, c byte) []byte {
	return bytes.Repeat([]byte{c}, n)
}

// full is a sector that is all c.
func full(c byte) []byte {
	return someBytes(512, c)
}

// noise is so many bytes, others for each seed.
func noise(n int, seed uint64) []byte {
	from, b := rand.New(rand.NewPCG(8, seed)), make([]byte, n)
	for i := range b {
		b[i] = byte(from.Uint32())
	}
	return b
}

// fatesOf are those of so many sectors.
func fatesOf(sectors ...int) []api.Fate {
	var l []api.Fate
	for _, at := range sectors {
		l = append(l, api.Fate{Sector: at})
	}
	return l
}

// outside are places that a disk of so many sectors has not.
func outside(sectors int) []int {
	return []int{-1, -2, -512, math.MinInt, math.MinInt + 1, sectors, sectors + 1, 2 * sectors, 1 << 18, 1 << 32, 1<<55 + 1, math.MaxInt}
}

// told looks whether a call answered what it should.
func told(t *testing.T, what string, got, want api.Errno) {
	t.Helper()
	if got != want {
		t.Fatalf("%s: error %d, want %d", what, got, want)
	}
}

// refused looks whether Read tells that error, and nothing beside it.
func refused(t *testing.T, d *Disk, at int, want api.Errno) {
	t.Helper()
	b, err := d.Read(at)
	if err != want || len(b) != 0 {
		t.Fatalf("Read(%d): %d bytes, error %d, want error %d", at, len(b), err, want)
	}
}

// holds looks whether the latest bytes of d's sectors are each all of those bytes, and d is down or not as is said.
func holds(t *testing.T, what string, d *Disk, down bool, want ...byte) {
	t.Helper()
	var all []byte
	for _, c := range want {
		all = append(all, full(c)...)
	}
	if d.Sectors() != len(want) || d.Down() != down {
		t.Fatalf("%s: %d sectors, down %t; want %d, %t", what, d.Sectors(), d.Down(), len(want), down)
	}
	if !bytes.Equal(d.Bytes(), all) {
		t.Fatalf("%s: Bytes are not %v", what, want)
	}
	for at, c := range want {
		if down {
			refused(t, d, at, api.ErrDown)
			continue
		}
		if b, err := d.Read(at); err != api.OK || !bytes.Equal(b, full(c)) {
			t.Fatalf("%s: Read(%d): error %d, or not all %d", what, at, err, c)
		}
	}
}

// filled is a disk whose sectors are safe, and each all of those bytes.
func filled(c ...byte) *Disk {
	var all []byte
	for _, c := range c {
		all = append(all, full(c)...)
	}
	return Of(all)
}

// P8.3, P8.5: the chapter's first example.
func TestExampleOfFates(t *testing.T) {
	d := New(2)
	for at := range 2 {
		told(t, "Write", d.Write(at, full(1)), api.OK)
	}
	told(t, "Sync", d.Sync(), api.OK)
	for at := range 2 {
		told(t, "Write", d.Write(at, full(2)), api.OK)
	}
	holds(t, "written", d, false, 2, 2)
	d.Wake(fatesOf(1))
	holds(t, "woken", d, false, 1, 2)
}

// P8.4, P8.5: the chapter's second example.
func TestExampleOfCrashes(t *testing.T) {
	d := New(1)
	d.Arm(2)
	told(t, "Write", d.Write(0, full(1)), api.OK)
	told(t, "Sync", d.Sync(), api.ErrDown)
	refused(t, d, 0, api.ErrDown)
	d.Wake(nil)
	holds(t, "woken", d, false, 0)
	d.Arm(1)
	told(t, "Write", d.Write(0, full(1)), api.ErrDown)
	d.Wake(fatesOf(0))
	holds(t, "woken again", d, false, 1)
}

// P8.2, P8.3: the chapter's third example.
func TestExampleOfErrors(t *testing.T) {
	d := New(1)
	told(t, "Write of 511 bytes", d.Write(0, full(1)[:511]), api.ErrArg)
	refused(t, d, -1, api.ErrNone)
	holds(t, "refused", d, false, 0)
}

// P8.1: numbers of sectors that may not be.
func TestNewOfWrongSizes(t *testing.T) {
	for _, n := range wrongSizes {
		if New(n) != nil {
			t.Errorf("New(%d) is a disk", n)
		}
	}
}

// P8.1: a new disk has noughts, is not down and not armed, and each has its own sectors.
func TestNew(t *testing.T) {
	for _, n := range []int{1, 2, 3, 7, 8, 100, 511, 512, 513, 1 << 18} {
		d, other := New(n), New(n)
		if d.Sectors() != n || d.Down() || !bytes.Equal(d.Bytes(), make([]byte, 512*n)) {
			t.Fatalf("New(%d): %d sectors, down %t, or not noughts", n, d.Sectors(), d.Down())
		}
		for _, at := range []int{0, n / 2, n - 1} {
			if b, err := d.Read(at); err != api.OK || !bytes.Equal(b, full(0)) {
				t.Fatalf("New(%d): Read(%d): error %d, or not noughts", n, at, err)
			}
		}
		for range 40 {
			told(t, "Write to a new disk", d.Write(n-1, full(9)), api.OK)
			told(t, "Sync of a new disk", d.Sync(), api.OK)
		}
		if b, _ := other.Read(n - 1); !bytes.Equal(b, full(0)) {
			t.Fatalf("New(%d): another disk was written, too", n)
		}
	}
}

// P8.1: the noughts of a new disk are safe.
func TestNewIsSafe(t *testing.T) {
	d := New(3)
	d.Wake(fatesOf(0, 1, 2))
	holds(t, "a new one, woken", d, false, 0, 0, 0)
	d.Write(1, full(5))
	d.Wake(fatesOf(0, 2))
	holds(t, "written and woken", d, false, 0, 0, 0)
}

// P8.1: Of has so many whole sectors as there are bytes for, safe ones; what is behind them is left out.
func TestOf(t *testing.T) {
	for _, n := range []int{512, 513, 1000, 1023, 1024, 1025, 1535, 1536, 5000, 512 * 40, 512*40 + 511} {
		b := noise(n, uint64(n))
		d := Of(b)
		if d.Sectors() != n/512 || d.Down() || !bytes.Equal(d.Bytes(), b[:n/512*512]) {
			t.Fatalf("Of %d bytes: %d sectors, down %t, or other bytes", n, d.Sectors(), d.Down())
		}
		for at := range n / 512 {
			if got, err := d.Read(at); err != api.OK || !bytes.Equal(got, b[512*at:512*at+512]) {
				t.Fatalf("Of %d bytes: Read(%d): error %d, or other bytes", n, at, err)
			}
			told(t, "Write", d.Write(at, full(1)), api.OK)
		}
		refused(t, d, n/512, api.ErrNone)
		d.Wake(nil)
		if !bytes.Equal(d.Bytes(), b[:n/512*512]) {
			t.Fatalf("Of %d bytes: the bytes were not safe", n)
		}
	}
}

// P8.1: Of too few bytes, and of too many.
func TestOfWrongSizes(t *testing.T) {
	for _, b := range [][]byte{nil, {}, {1}, full(1)[:256], full(1)[:511]} {
		if Of(b) != nil {
			t.Errorf("Of %d bytes is a disk", len(b))
		}
	}
	const most = 512 << 18
	b := make([]byte, most+512)
	copy(b[most-512:], noise(1024, 1))
	if Of(b) != nil {
		t.Error("Of one sector too many is a disk")
	}
	for _, more := range []int{0, 511} {
		d := Of(b[:most+more])
		if d.Sectors() != 1<<18 {
			t.Fatalf("Of as many sectors as may be, and %d bytes: %d sectors", more, d.Sectors())
		}
		if got, err := d.Read(1<<18 - 1); err != api.OK || !bytes.Equal(got, b[most-512:most]) {
			t.Errorf("Of as many sectors as may be, and %d bytes: the last one is another", more)
		}
	}
}

// R3: what is handed in is neither changed nor kept; what is handed out is new.
func TestMemoryIsApart(t *testing.T) {
	b, c := noise(1024, 1), noise(512, 2)
	d := Of(b)
	if !bytes.Equal(b, noise(1024, 1)) {
		t.Error("Of changed its bytes")
	}
	clear(b)
	d.Write(1, c)
	if !bytes.Equal(c, noise(512, 2)) {
		t.Error("Write changed its bytes")
	}
	clear(c)
	want := append(noise(1024, 1)[:512:512], noise(512, 2)...)
	for range 2 {
		all := d.Bytes()
		if !bytes.Equal(all, want) {
			t.Fatal("the disk has kept memory that is not its own")
		}
		clear(all[:cap(all)])
		for at := range 2 {
			one, _ := d.Read(at)
			if !bytes.Equal(one, want[512*at:512*at+512]) {
				t.Fatal("the disk has kept memory that is not its own")
			}
			clear(one[:cap(one)])
		}
	}
	fates := fatesOf(5, 1, 1, -1)
	d.Wake(fates)
	if !reflect.DeepEqual(fates, fatesOf(5, 1, 1, -1)) {
		t.Error("Wake changed its fates")
	}
}

// P8.2, P8.3: sectors that are none.
func TestOutside(t *testing.T) {
	for _, n := range []int{1, 2, 5} {
		d := New(n)
		for _, at := range outside(n) {
			refused(t, d, at, api.ErrNone)
			told(t, "Write outside", d.Write(at, full(1)), api.ErrNone)
			for _, length := range wrongLengths {
				told(t, "Write of a wrong length outside", d.Write(at, someBytes(length, 1)), api.ErrNone)
			}
		}
		told(t, "Sync", d.Sync(), api.OK)
		holds(t, "refused", d, false, make([]byte, n)...)
	}
}

// P8.3: bytes that are no sector: nothing is written, and nothing is open.
func TestWriteOfWrongLengths(t *testing.T) {
	d := filled(1, 2)
	told(t, "Write of nil", d.Write(0, nil), api.ErrArg)
	for _, length := range wrongLengths {
		told(t, "Write of a wrong length", d.Write(0, someBytes(length, 7)), api.ErrArg)
		holds(t, "refused", d, false, 1, 2)
	}
	told(t, "Write", d.Write(0, full(3)), api.OK)
	told(t, "Write of a wrong length", d.Write(0, full(7)[:511]), api.ErrArg)
	holds(t, "refused of an open one", d, false, 3, 2)
	d.Wake(fatesOf(0, 1))
	holds(t, "refused and woken", d, false, 3, 2)
}

// P8.3: each sector is one of its own, and what was written last counts, synced or not.
func TestWrite(t *testing.T) {
	d, want := New(6), make([]byte, 6)
	for i := range 60 {
		at, c := i*5%6, byte(i+1)
		told(t, "Write", d.Write(at, full(c)), api.OK)
		want[at] = c
		holds(t, "written", d, false, want...)
		if i%7 == 0 {
			told(t, "Sync", d.Sync(), api.OK)
			holds(t, "synced", d, false, want...)
		}
	}
}

// P8.3: all bytes of a sector are its own, the first and the last one, too.
func TestWriteOfEachByte(t *testing.T) {
	d := New(3)
	for i := range 512 {
		b := make([]byte, 512)
		b[i] = 255
		told(t, "Write", d.Write(1, b), api.OK)
		if got, err := d.Read(1); err != api.OK || !bytes.Equal(got, b) {
			t.Fatalf("the byte %d is lost", i)
		}
		if all := d.Bytes(); !bytes.Equal(all[:512], full(0)) || !bytes.Equal(all[512:1024], b) || !bytes.Equal(all[1024:], full(0)) {
			t.Fatalf("the byte %d is lost, or elsewhere", i)
		}
	}
}

// P8.3: Sync makes all safe; none is open behind it.
func TestSync(t *testing.T) {
	d := New(3)
	d.Write(0, full(1))
	d.Write(1, full(2))
	told(t, "Sync", d.Sync(), api.OK)
	if len(d.open) != 0 {
		t.Errorf("%d sectors are open behind Sync", len(d.open))
	}
	d.Wake(nil)
	holds(t, "synced and woken", d, false, 1, 2, 0)
	d.Write(0, full(3))
	told(t, "Sync", d.Sync(), api.OK)
	told(t, "Sync of none", d.Sync(), api.OK)
	d.Write(0, full(4))
	d.Write(0, full(5))
	d.Wake(fatesOf(1, 2))
	holds(t, "written twice and woken", d, false, 3, 2, 0)
}

// P8.4: armed for n, the disk crashes at the n-th Write or Sync, whichever it is.
func TestArm(t *testing.T) {
	for n := 1; n <= 12; n++ {
		for kinds := range 1 << n {
			d, want, safe := New(2), byte(0), byte(0)
			d.Arm(n)
			for i := range n {
				err := api.OK
				if i == n-1 {
					err = api.ErrDown
				}
				if kinds>>i&1 == 1 {
					want = byte(i + 1)
					told(t, "Write", d.Write(1, full(want)), err)
				} else {
					told(t, "Sync", d.Sync(), err)
					if err == api.OK {
						safe = want
					}
				}
				holds(t, "armed", d, i == n-1, 0, want)
			}
			c := d.Copy()
			c.Wake(nil)
			holds(t, "woken without fates", c, false, 0, safe)
			d.Wake(fatesOf(0, 1))
			holds(t, "woken with all fates", d, false, 0, want)
		}
	}
}

// P8.4: a Write at which it crashes has written, a Sync has done nothing; it is not armed any more.
func TestCrash(t *testing.T) {
	for _, fates := range [][]api.Fate{nil, fatesOf(0), fatesOf(1), fatesOf(0, 1)} {
		for _, atWrite := range []bool{true, false} {
			d := filled(1, 2)
			d.Write(0, full(3))
			d.Arm(1)
			latest, after := []byte{3, 2}, []byte{1, 2}
			if atWrite {
				told(t, "Write", d.Write(1, full(4)), api.ErrDown)
				latest[1] = 4
			} else {
				told(t, "Sync", d.Sync(), api.ErrDown)
			}
			holds(t, "down", d, true, latest...)
			for _, f := range fates {
				after[f.Sector] = latest[f.Sector]
			}
			d.Wake(fates)
			holds(t, "woken", d, false, after...)
			for range 5 {
				told(t, "Write", d.Write(0, full(7)), api.OK)
				told(t, "Sync", d.Sync(), api.OK)
			}
		}
	}
}

// P8.4: what answers ErrNone or ErrArg, and a Read, counts nothing.
func TestRefusalsCountNothing(t *testing.T) {
	d := New(2)
	d.Arm(2)
	refuse := func(want ...byte) {
		for _, at := range outside(2) {
			told(t, "Write outside", d.Write(at, full(1)), api.ErrNone)
			refused(t, d, at, api.ErrNone)
		}
		for _, length := range wrongLengths {
			told(t, "Write of a wrong length", d.Write(0, someBytes(length, 1)), api.ErrArg)
		}
		holds(t, "refused", d, false, want...)
	}
	refuse(0, 0)
	told(t, "the first", d.Write(1, full(2)), api.OK)
	refuse(0, 2)
	told(t, "the second", d.Write(0, full(3)), api.ErrDown)
	holds(t, "down", d, true, 3, 2)
}

// P8.4: what Arm says last counts; below 1 it is not armed.
func TestArmAnew(t *testing.T) {
	steps := func(d *Disk, n int) {
		for i := range n {
			told(t, "Write", d.Write(0, full(byte(i))), api.OK)
		}
	}
	d := New(1)
	d.Arm(3)
	steps(d, 2)
	d.Arm(3)
	steps(d, 2)
	d.Arm(1)
	told(t, "Sync", d.Sync(), api.ErrDown)
	for _, n := range []int{0, -1, -2, math.MinInt, math.MaxInt} {
		d := New(1)
		d.Arm(2)
		steps(d, 1)
		d.Arm(n)
		steps(d, 20)
		told(t, "Sync", d.Sync(), api.OK)
	}
}

// P8.2 to P8.4: a disk that is down tells ErrDown ahead of all other errors, and nothing is done.
func TestDown(t *testing.T) {
	d := filled(1, 2)
	d.Write(0, full(3))
	d.Arm(1)
	told(t, "Write", d.Write(1, full(4)), api.ErrDown)
	for range 2 {
		for _, at := range append(outside(2), 0, 1) {
			refused(t, d, at, api.ErrDown)
			told(t, "Write while down", d.Write(at, full(5)), api.ErrDown)
			told(t, "Write of no bytes while down", d.Write(at, nil), api.ErrDown)
		}
		told(t, "Sync while down", d.Sync(), api.ErrDown)
		holds(t, "down", d, true, 3, 4)
	}
	d.Wake(fatesOf(1))
	holds(t, "woken", d, false, 1, 4)
}

// P8.4: Arm of a disk that is down does nothing, not even behind Wake.
func TestArmWhileDown(t *testing.T) {
	for _, n := range []int{-1, 0, 1, 2, 3} {
		d := New(1)
		d.Arm(1)
		told(t, "Sync", d.Sync(), api.ErrDown)
		d.Arm(n)
		holds(t, "armed while down", d, true, 0)
		d.Wake(nil)
		for range 5 {
			told(t, "Write", d.Write(0, full(1)), api.OK)
			told(t, "Sync", d.Sync(), api.OK)
		}
	}
}

// P8.5: each choice of fates, of each choice of open sectors, of a disk that is down, and of one that is not.
func TestWake(t *testing.T) {
	const n = 4
	for opened := range 1 << n {
		for chosen := range 1 << n {
			for _, crash := range []bool{false, true} {
				d, want, kept := filled(1, 2, 3, 4), []byte{1, 2, 3, 4}, []api.Fate(nil)
				for at := range n {
					if opened>>at&1 == 1 {
						told(t, "Write", d.Write(at, full(byte(10+at))), api.OK)
					}
					if chosen>>at&1 == 1 {
						kept = append(kept, api.Fate{Sector: at})
					}
					if opened&chosen>>at&1 == 1 {
						want[at] = byte(10 + at)
					}
				}
				if crash {
					d.Arm(1)
					told(t, "Sync", d.Sync(), api.ErrDown)
				}
				d.Wake(kept)
				what := fmt.Sprintf("open %b, fates %b, crashed %t", opened, chosen, crash)
				holds(t, what, d, false, want...)
				d.Wake(fatesOf(0, 1, 2, 3))
				holds(t, what+", woken twice", d, false, want...)
				for at := range n {
					d.Write(at, full(20))
				}
				d.Wake(nil)
				holds(t, what+", written and woken", d, false, want...)
			}
		}
	}
}

// P8.5: fates of sectors that are not open, or none, or named twice, in whichever order.
func TestWakeOfOtherFates(t *testing.T) {
	for _, fates := range [][]api.Fate{
		fatesOf(append(outside(3), 1)...), fatesOf(append([]int{1}, outside(3)...)...), fatesOf(1, 1, 1), fatesOf(2, 1, 0, 1),
	} {
		d := filled(1, 2, 3)
		d.Write(1, full(5))
		d.Wake(fates)
		holds(t, "woken", d, false, 1, 5, 3)
	}
	d := filled(1, 2, 3)
	d.Write(1, full(5))
	d.Wake(fatesOf(outside(3)...))
	holds(t, "woken with fates of no sector", d, false, 1, 2, 3)
	if d.Sectors() != 3 || len(d.Bytes()) != 3*512 {
		t.Errorf("%d sectors, %d bytes", d.Sectors(), len(d.Bytes()))
	}
}

// P8.5: Wake ends that it is armed, also where it has not crashed.
func TestWakeDisarms(t *testing.T) {
	for n := 1; n < 4; n++ {
		d := New(1)
		d.Arm(n)
		d.Wake(nil)
		for range 10 {
			told(t, "Write", d.Write(0, full(1)), api.OK)
			told(t, "Sync", d.Sync(), api.OK)
		}
	}
}

// P8.6: a copy is the same in all: what is open, and for when it is armed, and whether it is down.
func TestCopy(t *testing.T) {
	make4 := func(crashed bool) *Disk {
		d := filled(1, 2, 3, 4)
		d.Write(0, full(5))
		d.Write(2, full(6))
		d.Arm(3)
		if crashed {
			d.Arm(1)
			told(t, "Sync", d.Sync(), api.ErrDown)
		}
		return d
	}
	d := make4(true).Copy().Copy()
	holds(t, "a copy of one that is down", d, true, 5, 2, 6, 4)
	d.Wake(fatesOf(2))
	holds(t, "woken", d, false, 1, 2, 6, 4)
	d = make4(false).Copy().Copy()
	holds(t, "a copy", d, false, 5, 2, 6, 4)
	told(t, "the first", d.Write(1, full(7)), api.OK)
	told(t, "the second", d.Write(3, full(8)), api.OK)
	told(t, "the third", d.Sync(), api.ErrDown)
	d.Wake(fatesOf(0, 1))
	holds(t, "woken", d, false, 5, 7, 3, 4)
}

// P8.6: nothing that is done to a copy is done to the other one, nor the other way about.
func TestCopyIsApart(t *testing.T) {
	for _, turned := range []bool{false, true} {
		d := filled(1, 2, 3)
		d.Write(0, full(4))
		c := d.Copy()
		if turned {
			d, c = c, d
		}
		c.Write(0, full(5))
		c.Write(1, full(6))
		holds(t, "the other is written", d, false, 4, 2, 3)
		c.Sync()
		holds(t, "the other is synced", d, false, 4, 2, 3)
		c.Write(2, full(7))
		c.Arm(1)
		told(t, "the crash", c.Write(2, full(8)), api.ErrDown)
		holds(t, "the other is down", d, false, 4, 2, 3)
		told(t, "Write", d.Write(2, full(9)), api.OK)
		d.Wake(nil)
		holds(t, "this one is woken", d, false, 1, 2, 3)
		holds(t, "the other one is still down", c, true, 5, 6, 8)
		c.Wake(nil)
		holds(t, "and then woken", c, false, 5, 6, 3)
	}
}

// R5: a disk that the package did not answer does nothing, and tells zero.
func TestNoDisk(t *testing.T) {
	was := filled(1, 2)
	was.Write(0, full(3))
	dup := new(Disk)
	reflect.ValueOf(dup).Elem().Set(reflect.ValueOf(was).Elem())
	for name, d := range map[string]*Disk{"nil": nil, "zero": {}, "copy": dup} {
		d.Arm(1)
		for _, at := range append(outside(2), 0, 1) {
			refused(t, d, at, api.ErrNil)
			told(t, name+" disk, Write", d.Write(at, full(1)), api.ErrNil)
			told(t, name+" disk, Write of no bytes", d.Write(at, nil), api.ErrNil)
		}
		told(t, name+" disk, Sync", d.Sync(), api.ErrNil)
		d.Wake(fatesOf(0, 1))
		if d.Sectors() != 0 || d.Down() || len(d.Bytes()) != 0 || d.Copy() != nil {
			t.Errorf("%s disk: %d sectors, down %t, %d bytes, or it has a copy", name, d.Sectors(), d.Down(), len(d.Bytes()))
		}
	}
	told(t, "Sync of the one that was copied", was.Sync(), api.OK)
	holds(t, "the one that was copied", was, false, 3, 2)
}

// words is a disk the way the chapter tells it: of each sector the latest and the safe bytes, and whether it is open.
type words struct {
	latest, safe [][]byte
	open         []bool
	armed        int // 0: not
	down         bool
}

func wordsOf(n int) *words {
	w := &words{open: make([]bool, n)}
	for range n {
		w.latest, w.safe = append(w.latest, full(0)), append(w.safe, full(0))
	}
	return w
}

// crashes counts one that would be done, and says whether it is the one at which the disk crashes.
func (w *words) crashes() bool {
	if w.armed == 0 {
		return false
	}
	if w.armed--; w.armed == 0 {
		w.down = true
	}
	return w.down
}

func (w *words) write(at int, b []byte) api.Errno {
	switch {
	case w.down:
		return api.ErrDown
	case at < 0 || at >= len(w.open):
		return api.ErrNone
	case len(b) != 512:
		return api.ErrArg
	}
	w.latest[at], w.open[at] = b, true
	if w.crashes() {
		return api.ErrDown
	}
	return api.OK
}

func (w *words) sync() api.Errno {
	if w.down || w.crashes() {
		return api.ErrDown
	}
	for at := range w.open {
		w.safe[at], w.open[at] = w.latest[at], false
	}
	return api.OK
}

func (w *words) wake(fates []api.Fate) {
	for at := range w.open {
		named := false
		for _, f := range fates {
			named = named || f.Sector == at
		}
		if w.open[at] && named {
			w.safe[at] = w.latest[at]
		}
		w.latest[at], w.open[at] = w.safe[at], false
	}
	w.armed, w.down = 0, false
}

// same looks whether d tells what the chapter's words do.
func (w *words) same(t *testing.T, what string, d *Disk) {
	t.Helper()
	if d.Sectors() != len(w.open) || d.Down() != w.down || !bytes.Equal(d.Bytes(), bytes.Join(w.latest, nil)) {
		t.Fatalf("%s: %d sectors, down %t, or other bytes", what, d.Sectors(), d.Down())
	}
	for at, b := range w.latest {
		if w.down {
			refused(t, d, at, api.ErrDown)
		} else if got, err := d.Read(at); err != api.OK || !bytes.Equal(got, b) {
			t.Fatalf("%s: Read(%d): error %d, or other bytes", what, at, err)
		}
	}
}

// someFates are fates of sectors that are there, or nearly.
func someFates(from *rand.Rand, n int) []api.Fate {
	var l []api.Fate
	for range from.IntN(2 * n) {
		l = append(l, api.Fate{Sector: from.IntN(n+2) - 1})
	}
	return l
}

// P8.1 to P8.7, R4: calls of all kinds, one behind the other, tell what the chapter's words do; a copy goes on likewise.
func TestManyCalls(t *testing.T) {
	from := rand.New(rand.NewPCG(8, 8))
	for range 400 {
		n := 1 + from.IntN(6)
		d, w := New(n), wordsOf(n)
		for i := range 80 {
			switch kind := from.IntN(16); kind {
			case 0, 1:
				fates := someFates(from, n)
				d.Wake(fates)
				w.wake(fates)
			case 2, 3, 4:
				told(t, "Sync", d.Sync(), w.sync())
			case 5:
				k := from.IntN(10) - 2
				d.Arm(k)
				if !w.down {
					w.armed = max(k, 0)
				}
			case 6:
				d = d.Copy()
			default:
				at, b := from.IntN(n+2)-1, noise(512-from.IntN(30)/29, from.Uint64())
				told(t, "Write", d.Write(at, b), w.write(at, bytes.Clone(b)))
			}
			w.same(t, fmt.Sprintf("call %d", i), d)
		}
	}
}

// P8.7: behind a Wake each sector is, whole, as it was synced last or as it was written last; one that was not written
// since is as it was.
func TestWholeSectors(t *testing.T) {
	from := rand.New(rand.NewPCG(8, 7))
	for seed := range uint64(300) {
		d := Of(noise(512*5, seed))
		before, since := d.Bytes(), map[int][]byte{}
		d.Arm(from.IntN(9))
		for i := range 8 {
			at, b := from.IntN(5), noise(512, 1000*seed+uint64(i))
			since[at] = b
			if d.Write(at, b) != api.OK {
				break
			}
		}
		d.Wake(someFates(from, 5))
		for at := range 5 {
			got, err := d.Read(at)
			was := bytes.Equal(got, before[512*at:512*at+512])
			if b, written := since[at]; err != api.OK || !was && !(written && bytes.Equal(got, b)) {
				t.Fatalf("seed %d, sector %d: error %d, or neither what was synced nor what was written last", seed, at, err)
			}
		}
	}
}
