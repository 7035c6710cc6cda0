package cache

import (
	"bytes"
	"fmt"
	"math"
	"math/rand/v2"
	"reflect"
	"testing"

	"peatbank/api"
	"peatbank/dev"
)

// wrongLengths are those of bytes that are no sector.
var wrongLengths = []int{0, 1, 256, 511, 513, 1023, 1024, 4096}

// full is a sector that is all c.
func full(c byte) []byte {
	return bytes.Repeat([]byte{c}, 512)
}

// noise is so many bytes, others for each seed.
func noise(n int, seed uint64) []byte {
	from, b := rand.New(rand.NewPCG(9, seed)), make([]byte, n)
	for i := range b {
		b[i] = byte(from.Uint32())
	}
	return b
}

// outside are places that a device of so many sectors has not.
func outside(sectors int) []int {
	return []int{-1, -2, -512, math.MinInt, math.MinInt + 1, sectors, sectors + 1, 2 * sectors, 1 << 18, 1 << 32, 1<<55 + 1, math.MaxInt}
}

// told looks whether a call answered what it should.
func told(t *testing.T, what string, got, want api.Errno) {
	t.Helper()
	if got != want {
		t.Fatalf("%s: error %d, want %d", what, got, want)
	}
}

// refused looks whether Read tells that error, and nothing beside it.
func refused(t *testing.T, c *Cache, at int, want api.Errno) {
	t.Helper()
	b, err := c.Read(at)
	if err != want || len(b) != 0 {
		t.Fatalf("Read(%d): %d bytes, error %d, want error %d", at, len(b), err, want)
	}
}

// reads looks whether these sectors are, one behind the other, read as what the device has.
func reads(t *testing.T, c *Cache, d *dev.Disk, sectors ...int) {
	t.Helper()
	all := d.Bytes()
	for _, at := range sectors {
		if b, err := c.Read(at); err != api.OK || !bytes.Equal(b, all[512*at:512*at+512]) {
			t.Fatalf("Read(%d): error %d, or other bytes than the device's", at, err)
		}
	}
}

// counted looks whether so many Reads found their sectors, and so many did not.
func counted(t *testing.T, what string, c *Cache, hits, misses int64) {
	t.Helper()
	if h, m := c.Counts(); h != hits || m != misses {
		t.Fatalf("%s: Counts are %d, %d; want %d, %d", what, h, m, hits, misses)
	}
}

// over is a cache, and the device that it is over, each sector of which has other bytes.
func over(sectors, most int) (*Cache, *dev.Disk) {
	d := dev.Of(noise(512*sectors, uint64(sectors)))
	return New(d, most), d
}

// P9.2: the chapter's example.
func TestExample(t *testing.T) {
	c, d := over(3, 2)
	reads(t, c, d, 0, 0, 1, 0)
	counted(t, "Read 0, 0, 1, 0", c, 2, 2)
	reads(t, c, d, 2, 0)
	counted(t, "Read 2, 0", c, 3, 3)
	c.Drop()
	reads(t, c, d, 0)
	counted(t, "Drop, Read 0", c, 3, 4)
	refused(t, c, -1, api.ErrNone)
	counted(t, "Read -1", c, 3, 4)
}

// P9.1: what no cache is over, and how little none keeps.
func TestNewOfWrongArguments(t *testing.T) {
	d := dev.New(2)
	dup := new(dev.Disk)
	reflect.ValueOf(dup).Elem().Set(reflect.ValueOf(d).Elem())
	for name, none := range map[string]*dev.Disk{"nil": nil, "zero": {}, "copy": dup} {
		for _, most := range []int{math.MinInt, -1, 0, 1, 2, 100, math.MaxInt} {
			if New(none, most) != nil {
				t.Errorf("New(%s disk, %d) is a cache", name, most)
			}
		}
	}
	for _, most := range []int{0, -1, -2, math.MinInt, math.MinInt + 1, -1 << 32} {
		if New(d, most) != nil {
			t.Errorf("New(d, %d) is a cache", most)
		}
	}
}

// P9.1: a new cache has nothing in memory, counts nothing, and has as many sectors as its device, down or not.
func TestNew(t *testing.T) {
	for _, most := range []int{1, 2, 3, 4, 5, 1 << 18, 1 << 40, math.MaxInt} {
		for _, sectors := range []int{1, 2, 4, 1 << 18} {
			d := dev.New(sectors)
			c := New(d, most)
			counted(t, "a new one", c, 0, 0)
			reads(t, c, d, sectors-1)
			counted(t, "read once", c, 0, 1)
			reads(t, c, d, sectors-1)
			counted(t, "read twice", c, 1, 1)
			d.Arm(1)
			told(t, "Sync", c.Sync(), api.ErrDown)
			if c.Sectors() != sectors {
				t.Errorf("%d sectors, want %d", c.Sectors(), sectors)
			}
		}
	}
}

// P9.1: a cache over a device that is down tells what the device does, from its beginning on.
func TestNewOverADeviceThatIsDown(t *testing.T) {
	d := dev.New(2)
	d.Arm(1)
	d.Sync()
	c := New(d, 2)
	refused(t, c, 0, api.ErrDown)
	told(t, "Write", c.Write(0, full(1)), api.ErrDown)
	told(t, "Sync", c.Sync(), api.ErrDown)
	d.Wake(nil)
	c.Drop()
	reads(t, c, d, 0, 1, 1)
	counted(t, "woken", c, 1, 2)
}

// P9.1: Write writes to the device, at once; Sync syncs it; what is read is what was written last.
func TestWriteAndSync(t *testing.T) {
	for most := 1; most < 5; most++ {
		c, d := over(3, most)
		for i := range 30 {
			at, b := i*2%3, noise(512, uint64(i))
			told(t, "Write", c.Write(at, b), api.OK)
			if got, err := d.Read(at); err != api.OK || !bytes.Equal(got, b) {
				t.Fatalf("most %d: Write %d has not written to the device", most, i)
			}
			reads(t, c, d, at, 0, 1, 2, at)
		}
		before := d.Bytes()
		told(t, "Sync", c.Sync(), api.OK)
		told(t, "Write", c.Write(1, full(7)), api.OK)
		d.Wake(nil)
		c.Drop()
		if !bytes.Equal(d.Bytes(), before) {
			t.Fatalf("most %d: Sync has not synced, or Write has", most)
		}
		reads(t, c, d, 0, 1, 2)
	}
}

// P9.1, P9.2: what the device refuses is refused, touches nothing, and counts nothing.
func TestRefusals(t *testing.T) {
	c, d := over(2, 1)
	before := d.Bytes()
	reads(t, c, d, 1)
	for _, at := range outside(2) {
		for range 2 {
			refused(t, c, at, api.ErrNone)
			told(t, "Write outside", c.Write(at, full(1)), api.ErrNone)
		}
		for _, length := range wrongLengths {
			told(t, "Write of a wrong length outside", c.Write(at, noise(length, 1)), api.ErrNone)
		}
	}
	for at := range 2 {
		told(t, "Write of nil", c.Write(at, nil), api.ErrArg)
		for _, length := range wrongLengths {
			told(t, "Write of a wrong length", c.Write(at, noise(length, 1)), api.ErrArg)
		}
	}
	counted(t, "refused", c, 0, 1)
	reads(t, c, d, 1)
	counted(t, "read again", c, 1, 1)
	reads(t, c, d, 0)
	counted(t, "read for the first time", c, 1, 2)
	if !bytes.Equal(d.Bytes(), before) {
		t.Error("what was refused was written")
	}
}

// P9.1: refused Writes count nothing to where the device crashes; others, and Syncs, count one each.
func TestCountsToTheCrash(t *testing.T) {
	for n := 1; n < 8; n++ {
		c, d := over(2, 2)
		d.Arm(n)
		for i := range n - 1 {
			c.Write(9, full(1))
			c.Write(0, nil)
			c.Read(0)
			if i%2 == 0 {
				told(t, "Write", c.Write(0, full(1)), api.OK)
			} else {
				told(t, "Sync", c.Sync(), api.OK)
			}
		}
		told(t, "the crash", c.Write(1, full(2)), api.ErrDown)
	}
}

// P9.1: a device that is down tells ErrDown of all sectors, those in memory, too; nothing is counted.
func TestDown(t *testing.T) {
	for _, atWrite := range []bool{true, false} {
		c, d := over(4, 3)
		reads(t, c, d, 0, 1, 1)
		told(t, "Write", c.Write(2, full(1)), api.OK)
		d.Arm(1)
		if atWrite {
			told(t, "the crash", c.Write(1, full(2)), api.ErrDown)
		} else {
			told(t, "the crash", c.Sync(), api.ErrDown)
		}
		for range 2 {
			for _, at := range append(outside(4), 0, 1, 2, 3) {
				refused(t, c, at, api.ErrDown)
				told(t, "Write", c.Write(at, full(3)), api.ErrDown)
				told(t, "Write of no bytes", c.Write(at, nil), api.ErrDown)
			}
			told(t, "Sync", c.Sync(), api.ErrDown)
		}
		counted(t, "down", c, 1, 2)
		d.Wake(nil)
		c.Drop()
		reads(t, c, d, 0, 1, 2, 3)
		counted(t, "woken, dropped", c, 1, 6)
	}
}

// P9.2: a sector whose Write told ErrDown is not told out of memory; the others are still there, in their order.
func TestWriteThatCrashed(t *testing.T) {
	for _, fates := range [][]api.Fate{nil, {{Sector: 1}}} {
		for _, again := range []bool{false, true} {
			c, d := over(5, 3)
			reads(t, c, d, 0, 1, 2)
			d.Arm(1)
			told(t, "the crash", c.Write(1, full(1)), api.ErrDown)
			if again {
				told(t, "once more", c.Write(1, full(2)), api.ErrDown)
			}
			d.Wake(fates)
			reads(t, c, d, 1)
			reads(t, c, d, 0, 2, 1)
			if h, m := c.Counts(); h < 3 || h+m != 7 {
				t.Fatalf("Counts are %d, %d", h, m)
			}
		}
	}
}

// P9.2: a Write of a sector that told ErrDown has touched nothing.
func TestWriteThatCrashedTouchesNothing(t *testing.T) {
	c, d := over(3, 2)
	d.Arm(1)
	told(t, "the crash", c.Write(0, full(1)), api.ErrDown)
	told(t, "behind it", c.Write(1, full(1)), api.ErrDown)
	refused(t, c, 2, api.ErrDown)
	d.Wake([]api.Fate{{Sector: 0}})
	reads(t, c, d, 0, 1, 2)
	counted(t, "none was touched", c, 0, 3)
}

// P9.2: so many as may be kept are found, whichever came first; a Write touches as a Read does.
func TestTouch(t *testing.T) {
	for most := 1; most < 9; most++ {
		for writes := range 1 << most {
			c, d := over(10, most)
			touch := func(i, at int) {
				if writes>>i&1 == 1 {
					told(t, "Write", c.Write(at, full(byte(i))), api.OK)
				} else {
					reads(t, c, d, at)
				}
			}
			for i := range most {
				touch(i, i)
			}
			h, m := c.Counts()
			for i := range most {
				reads(t, c, d, i)
			}
			counted(t, "all that were touched", c, h+int64(most), m)
			for i := range most - 1 {
				touch(i, most-i)
			}
			h, m = c.Counts()
			reads(t, c, d, most-1)
			if most > 1 {
				counted(t, "behind others", c, h+1, m)
			}
		}
	}
}

// P9.1: there are never more sectors in memory than may be, and none behind Drop.
func TestKeepsAtMostSoMany(t *testing.T) {
	from := rand.New(rand.NewPCG(9, 1))
	for most := 1; most < 7; most++ {
		c, d := over(12, most)
		for range 300 {
			at := from.IntN(12)
			switch from.IntN(8) {
			case 0:
				c.Drop()
				if len(c.memory) != 0 {
					t.Fatalf("%d sectors behind Drop", len(c.memory))
				}
			case 1, 2, 3:
				told(t, "Write", c.Write(at, full(byte(at))), api.OK)
			default:
				reads(t, c, d, at)
			}
			if len(c.memory) > most {
				t.Fatalf("%d sectors in memory, and most is %d", len(c.memory), most)
			}
		}
	}
}

// P9.2: many sectors, of which half are kept, are read one behind the other; the newest ones are found.
func TestManySectors(t *testing.T) {
	const sectors, most = 1 << 18, 1 << 17
	d := dev.New(sectors)
	c := New(d, most)
	for at := range sectors {
		if _, err := c.Read(at); err != api.OK {
			t.Fatalf("Read(%d): error %d", at, err)
		}
	}
	counted(t, "each sector once", c, 0, sectors)
	for at := sectors - most; at < sectors; at++ {
		c.Read(at)
	}
	counted(t, "the newest ones once more", c, most, sectors)
}

// R3: what is handed in is neither changed nor kept; what is handed out is new.
func TestMemoryIsApart(t *testing.T) {
	for most := 1; most < 4; most++ {
		c, d := over(3, most)
		b := full(7)
		told(t, "Write", c.Write(1, b), api.OK)
		if !bytes.Equal(b, full(7)) {
			t.Error("Write changed its bytes")
		}
		clear(b)
		for range 3 {
			for at := range 3 {
				for range 2 {
					reads(t, c, d, at)
					got, _ := c.Read(at)
					clear(got[:cap(got)])
				}
			}
		}
		if got, _ := c.Read(1); !bytes.Equal(got, full(7)) {
			t.Error("the cache, or the device, has kept memory that is not its own")
		}
	}
}

// P9.1, P9.2: each cache has its own memory, and its own counts.
func TestCachesAreApart(t *testing.T) {
	d := dev.New(2)
	a, b := New(d, 2), New(d, 2)
	reads(t, a, d, 0, 0, 1)
	reads(t, b, d, 0)
	counted(t, "one", a, 1, 2)
	counted(t, "another", b, 0, 1)
	a.Drop()
	reads(t, b, d, 0)
	counted(t, "another, while one is dropped", b, 1, 1)
}

// R5: a cache that the package did not answer does nothing, and tells zero.
func TestNoCache(t *testing.T) {
	was, d := over(2, 2)
	reads(t, was, d, 0, 0)
	before := d.Bytes()
	dup := new(Cache)
	reflect.ValueOf(dup).Elem().Set(reflect.ValueOf(was).Elem())
	for name, c := range map[string]*Cache{"nil": nil, "zero": {}, "copy": dup} {
		for _, at := range append(outside(2), 0, 1) {
			refused(t, c, at, api.ErrNil)
			told(t, name+" cache, Write", c.Write(at, full(1)), api.ErrNil)
			told(t, name+" cache, Write of no bytes", c.Write(at, nil), api.ErrNil)
		}
		told(t, name+" cache, Sync", c.Sync(), api.ErrNil)
		c.Drop()
		if h, m := c.Counts(); c.Sectors() != 0 || h != 0 || m != 0 {
			t.Errorf("%s cache: %d sectors, Counts %d, %d", name, c.Sectors(), h, m)
		}
	}
	if !bytes.Equal(d.Bytes(), before) {
		t.Error("what is no cache has written")
	}
	reads(t, was, d, 0)
	counted(t, "the one that was copied", was, 2, 1)
}

// words is what the chapter says of a cache: which sectors were touched since New or the last Drop, the last one first.
type words struct {
	most    int
	touched []int
}

func (w *words) forget(at int) {
	var l []int
	for _, other := range w.touched {
		if other != at {
			l = append(l, other)
		}
	}
	w.touched = l
}

func (w *words) touch(at int) {
	w.forget(at)
	w.touched = append([]int{at}, w.touched...)
}

// finds says whether a Read of that sector has to find it, and whether it may.
func (w *words) finds(at int) (must, may bool) {
	for others, one := range w.touched {
		if one == at {
			return others < w.most, true
		}
	}
	return false, false
}

// read looks whether c and the device alone tell the same, and c counts as it should.
func (w *words) read(t *testing.T, what string, c *Cache, alone *dev.Disk, at int) {
	t.Helper()
	h, m := c.Counts()
	got, err := c.Read(at)
	want, wantErr := alone.Read(at)
	if err != wantErr || !bytes.Equal(got, want) {
		t.Fatalf("%s: Read(%d): error %d, want %d, or other bytes", what, at, err, wantErr)
	}
	if err != api.OK {
		counted(t, what, c, h, m)
		return
	}
	must, may := w.finds(at)
	hits, misses := c.Counts()
	if hits+misses != h+m+1 || hits < h || misses < m || must && hits == h || !may && hits > h {
		t.Fatalf("%s: Read(%d): Counts were %d, %d, are %d, %d; must %t, may %t", what, at, h, m, hits, misses, must, may)
	}
	w.touch(at)
}

// crash has both devices woken with the same fates, as one that wakes a device does, and drops what is in memory.
func (w *words) crash(c *Cache, d, alone *dev.Disk, fates []api.Fate) {
	d.Wake(fates)
	alone.Wake(fates)
	c.Drop()
	w.touched = nil
}

// P9.1 to P9.3, R4: calls of all kinds tell what a device without a cache tells, and count what the chapter says.
func TestManyCalls(t *testing.T) {
	from := rand.New(rand.NewPCG(9, 9))
	for range 400 {
		n := 1 + from.IntN(8)
		c, d := over(n, 1+from.IntN(n+1))
		alone, w := d.Copy(), &words{most: c.most}
		for i := range 150 {
			what, at := fmt.Sprintf("%d sectors, most %d, call %d", n, w.most, i), from.IntN(n+2)-1
			switch kind := from.IntN(40); {
			case kind == 0:
				w.crash(c, d, alone, []api.Fate{{Sector: at}, {Sector: 0}})
			case kind == 1:
				c.Drop()
				w.touched = nil
			case kind == 2:
				k := from.IntN(12)
				d.Arm(k)
				alone.Arm(k)
			case kind < 6:
				told(t, what+", Sync", c.Sync(), alone.Sync())
			case kind < 20:
				b := noise(512-from.IntN(30)/29, from.Uint64())
				err := c.Write(at, b)
				told(t, what+", Write", err, alone.Write(at, b))
				if err == api.OK {
					w.touch(at)
				} else if err == api.ErrDown {
					w.forget(at)
				}
			default:
				w.read(t, what, c, alone, at)
			}
			if c.Sectors() != n || !bytes.Equal(d.Bytes(), alone.Bytes()) || d.Down() != alone.Down() {
				t.Fatalf("%s: the devices are not the same any more", what)
			}
		}
	}
}
