// Tests of chapter 4, by what package disk exports alone.
package disk_test

import (
	"bytes"
	"fmt"
	"math"
	"math/rand"
	"slices"
	"testing"

	"pinstripe/api"
	"pinstripe/disk"
)

const (
	fewest = 2
	most   = 4160
)

// sector answers a sector of one byte over and over.
func sector(c byte) []byte {
	return bytes.Repeat([]byte{c}, api.Sector)
}

// mixed answers a sector of which neighbours are unlike, and of which from says where it begins.
func mixed(from int) []byte {
	b := make([]byte, api.Sector)
	for i := range b {
		b[i] = byte((i+from)*7 + from>>8)
	}
	return b
}

// image answers sectors, each of one of the bytes over and over.
func image(rows ...byte) []byte {
	b := []byte{}
	for _, c := range rows {
		b = append(b, sector(c)...)
	}
	return b
}

// fresh answers a new disk.
func fresh(t *testing.T, sectors int) *disk.Disk {
	t.Helper()
	d, e := disk.New(sectors)
	if e != api.OK || d == nil {
		t.Fatalf("New(%d): %v, %v, want a disk", sectors, d, e)
	}
	return d
}

// loaded answers a disk of that image.
func loaded(t *testing.T, b []byte) *disk.Disk {
	t.Helper()
	d, e := disk.Load(b)
	if e != api.OK || d == nil {
		t.Fatalf("Load of %d bytes: %v, %v, want a disk", len(b), d, e)
	}
	return d
}

// writes fails, if a Write of that byte over and over does not answer want.
func writes(t *testing.T, d *disk.Disk, n int, c byte, want api.Errno) {
	t.Helper()
	if e := d.Write(n, sector(c)); e != want {
		t.Errorf("Write(%d) of %d: %v, want %v", n, c, e, want)
	}
}

// syncs fails, if Sync does not answer want.
func syncs(t *testing.T, d *disk.Disk, want api.Errno) {
	t.Helper()
	if e := d.Sync(); e != want {
		t.Errorf("Sync: %v, want %v", e, want)
	}
}

// has fails, if Image, or Read of a disk that is well, or Sectors, does not tell just those sectors.
func has(t *testing.T, what string, d *disk.Disk, want []byte) {
	t.Helper()
	if got := d.Image(); !bytes.Equal(got, want) {
		t.Errorf("%s: Image: %s, want %s", what, short(got), short(want))
	}
	if got := d.Sectors(); got != len(want)/api.Sector {
		t.Errorf("%s: Sectors: %d, want %d", what, got, len(want)/api.Sector)
	}
	if d.Dead() {
		return
	}
	for n := range len(want) / api.Sector {
		got, e := d.Read(n)
		if part := want[n*api.Sector:][:api.Sector]; e != api.OK || !bytes.Equal(got, part) {
			t.Errorf("%s: Read(%d): %s, %v, want %s", what, n, short(got), e, short(part))
		}
	}
}

// crashes fails, if Crash does not answer a disk that is well, and has just those sectors, all of which last.
func crashes(t *testing.T, what string, d *disk.Disk, choice, want []byte) {
	t.Helper()
	what = fmt.Sprint(what, ", Crash(", choice, ")")
	c := d.Crash(choice)
	counts(t, what, c, 0, false)
	has(t, what, c, want)
	has(t, what+", and again", c.Crash(bytes.Repeat([]byte{0}, 9)), want)
}

// counts fails, if the disk does not tell that Ops and Dead.
func counts(t *testing.T, what string, d *disk.Disk, ops int, dead bool) {
	t.Helper()
	if d.Ops() != ops || d.Dead() != dead {
		t.Errorf("%s: Ops %d, Dead %v, want %d, %v", what, d.Ops(), d.Dead(), ops, dead)
	}
}

// dead fails, if the disk does not answer ErrDead to whatever it is asked, with no bytes.
func dead(t *testing.T, what string, d *disk.Disk) {
	t.Helper()
	for _, n := range []int{0, 1, -1, math.MaxInt, math.MinInt} {
		if b, e := d.Read(n); e != api.ErrDead || len(b) != 0 {
			t.Errorf("%s: Read(%d): %s, %v, want none, ErrDead", what, n, short(b), e)
		}
		for _, b := range [][]byte{nil, sector(9), make([]byte, api.Sector+1)} {
			if e := d.Write(n, b); e != api.ErrDead {
				t.Errorf("%s: Write(%d) of %d bytes: %v, want ErrDead", what, n, len(b), e)
			}
		}
	}
	syncs(t, d, api.ErrDead)
}

// short tells bytes that a line can hold: those that begin each sector, and how many there are.
func short(b []byte) string {
	l := []byte{}
	for i := 0; i < len(b) && i < 8*api.Sector; i += api.Sector {
		l = append(l, b[i])
	}
	return fmt.Sprint(l, " of ", len(b), " bytes")
}

// The chapter's example.
func TestExample(t *testing.T) {
	d := fresh(t, 2)
	writes(t, d, 0, 1, api.OK)
	for _, k := range []struct {
		choice []byte
		want   byte
	}{{[]byte{0}, 0}, {[]byte{1}, 1}, {nil, 1}} {
		if b, e := d.Crash(k.choice).Read(0); e != api.OK || !bytes.Equal(b, sector(k.want)) {
			t.Errorf("Crash(%v).Read(0): %s, %v, want %d", k.choice, short(b), e, k.want)
		}
	}
}

// P4.1: as many sectors as may be, noughts, that last; one fewer and one more are refused.
func TestNew(t *testing.T) {
	for _, n := range []int{fewest, 3, 17, 512, most - 1, most} {
		d, want := fresh(t, n), make([]byte, n*api.Sector)
		what := fmt.Sprint("New(", n, ")")
		counts(t, what, d, 0, false)
		has(t, what, d, want)
		crashes(t, what, d, []byte{0}, want)
		writes(t, d, n-1, 7, api.OK)
		writes(t, d, n, 7, api.ErrArg)
		copy(want[(n-1)*api.Sector:], sector(7))
		has(t, what+", written", d, want)
	}
	for _, n := range []int{fewest - 1, 0, -1, -fewest, most + 1, most * 2, 1 << 32, 1<<58 + 2, math.MaxInt, math.MinInt, math.MinInt + 2} {
		if d, e := disk.New(n); d != nil || e != api.ErrArg {
			t.Errorf("New(%d): %v, %v, want none, ErrArg", n, d, e)
		}
	}
}

// P4.1: an image of as many sectors as may be; they last.
func TestLoad(t *testing.T) {
	for _, n := range []int{fewest, 3, 17, most - 1, most} {
		want := []byte{}
		for i := range n {
			want = append(want, mixed(i)...)
		}
		d := loaded(t, want)
		what := fmt.Sprint("Load of ", n, " sectors")
		counts(t, what, d, 0, false)
		has(t, what, d, want)
		crashes(t, what, d, []byte{0}, want)
	}
	blank := image(0, 0, 0)
	has(t, "an image of noughts", loaded(t, blank), blank)
	some := image(0, 4, 0)
	has(t, "an image of some noughts", loaded(t, some), some)
	d := loaded(t, some)
	writes(t, d, 1, 0, api.OK)
	has(t, "noughts over what lasts", d, blank)
	crashes(t, "noughts over what lasts", d, []byte{0}, some)
	crashes(t, "noughts over what lasts", d, []byte{1}, blank)
}

// P4.1: an image that is not whole sectors, or has too few, or too many.
func TestLoadRefuses(t *testing.T) {
	for _, n := range []int{0, 1, 2, 63, 64, 65, 127, 129, 191, 193, most*64 - 1, most*64 + 1, (most + 1) * 64, 2 * most * 64} {
		if d, e := disk.Load(make([]byte, n)); d != nil || e != api.ErrForm {
			t.Errorf("Load of %d bytes: %v, %v, want none, ErrForm", n, d, e)
		}
	}
	if d, e := disk.Load(nil); d != nil || e != api.ErrForm {
		t.Errorf("Load(nil): %v, %v, want none, ErrForm", d, e)
	}
}

// P4.1, P4.4: an image that is loaded is the image.
func TestImageAndLoad(t *testing.T) {
	d := fresh(t, 3)
	writes(t, d, 2, 5, api.OK)
	syncs(t, d, api.OK)
	writes(t, d, 0, 6, api.OK)
	x := loaded(t, d.Image())
	has(t, "the image of what does not last", x, image(6, 0, 5))
	crashes(t, "the image of what does not last", x, []byte{0}, image(6, 0, 5))
}

// P4.2: Read answers what was last written there, synced or not; there is no sector below the first, or behind the last.
func TestReadAndWrite(t *testing.T) {
	d := fresh(t, 3)
	for i := range 3 {
		if e := d.Write(2-i, mixed(i)); e != api.OK {
			t.Errorf("Write(%d): %v", 2-i, e)
		}
	}
	want := slices.Concat(mixed(2), mixed(1), mixed(0))
	has(t, "each written", d, want)
	syncs(t, d, api.OK)
	has(t, "and synced", d, want)
	for _, c := range []byte{3, 4, 0, 5} {
		writes(t, d, 1, c, api.OK)
		has(t, "and written over", d, slices.Concat(mixed(2), sector(c), mixed(0)))
	}
	counts(t, "behind all", d, 8, false)
	for _, n := range []int{-1, 3, 4, -3, 64, most, 1 << 32, 1<<32 + 1, math.MaxInt, math.MinInt} {
		if b, e := d.Read(n); e != api.ErrArg || len(b) != 0 {
			t.Errorf("Read(%d): %s, %v, want none, ErrArg", n, short(b), e)
		}
		writes(t, d, n, 9, api.ErrArg)
	}
	for _, n := range []int{0, 1, 63, 65, 128, 4096} {
		if e := d.Write(0, make([]byte, n)); e != api.ErrArg {
			t.Errorf("Write of %d bytes: %v, want ErrArg", n, e)
		}
	}
	if e := d.Write(0, nil); e != api.ErrArg {
		t.Errorf("Write(nil): %v, want ErrArg", e)
	}
	counts(t, "behind what was refused", d, 8, false)
	has(t, "behind what was refused", d, slices.Concat(mixed(2), sector(5), mixed(0)))
}

// P4.2: a fuse of n: n ops are done, the next one kills, a Write and a Sync.
func TestFuse(t *testing.T) {
	for _, n := range []int{0, 1, 2, 3, 10, 100} {
		for _, killer := range []string{"Write", "Sync"} {
			what := fmt.Sprint("Fuse(", n, "), killed by a ", killer)
			d := fresh(t, 2)
			d.Fuse(n)
			want := image(0, 0)
			for i := range n {
				if i%3 == 2 {
					syncs(t, d, api.OK)
					continue
				}
				writes(t, d, i%2, byte(i+1), api.OK)
				copy(want[i%2*api.Sector:], sector(byte(i+1)))
			}
			counts(t, what+", still well", d, n, false)
			has(t, what+", still well", d, want)
			if killer == "Write" {
				writes(t, d, 0, 99, api.ErrDead)
			} else {
				syncs(t, d, api.ErrDead)
			}
			counts(t, what, d, n, true)
			dead(t, what, d)
			has(t, what, d, want)
			counts(t, what+", asked for more", d, n, true)
		}
	}
}

// P4.2: reads and calls that are refused by something else than death are no ops.
func TestFuseCountsOpsAlone(t *testing.T) {
	d := fresh(t, 2)
	for _, n := range []int{1, 0} {
		if n == 1 {
			d.Fuse(n)
		}
		for range 5 {
			d.Read(0)
			d.Read(9)
			d.Image()
			d.Crash(nil)
			d.Sectors()
			d.Ops()
			d.Dead()
			writes(t, d, 2, 1, api.ErrArg)
			writes(t, d, -1, 1, api.ErrArg)
			if e := d.Write(0, nil); e != api.ErrArg {
				t.Errorf("Write(nil) ahead of the op that kills: %v, want ErrArg", e)
			}
		}
		counts(t, "behind no op", d, 1-n, false)
		if n == 1 {
			writes(t, d, 0, 1, api.OK)
		}
	}
	syncs(t, d, api.ErrDead)
	counts(t, "killed", d, 1, true)
}

// P4.2: a fuse is set anew, from now on, or taken out by one below 0.
func TestFuseAgain(t *testing.T) {
	d := fresh(t, 2)
	d.Fuse(0)
	d.Fuse(1)
	writes(t, d, 0, 1, api.OK)
	d.Fuse(1)
	syncs(t, d, api.OK)
	for _, n := range []int{-1, -2, -5, math.MinInt} {
		d.Fuse(0)
		d.Fuse(n)
		for range 5 {
			writes(t, d, 1, 2, api.OK)
			syncs(t, d, api.OK)
		}
	}
	counts(t, "no fuse", d, 42, false)
	d.Fuse(math.MaxInt)
	writes(t, d, 1, 3, api.OK)
	d.Fuse(2)
	syncs(t, d, api.OK)
	syncs(t, d, api.OK)
	writes(t, d, 1, 4, api.ErrDead)
	counts(t, "killed", d, 45, true)
}

// P4.2: what is dead stays dead, whatever fuse it is given.
func TestFuseOfTheDead(t *testing.T) {
	for _, n := range []int{-1, 0, 1, math.MaxInt, math.MinInt} {
		d := fresh(t, 2)
		writes(t, d, 0, 1, api.OK)
		d.Fuse(0)
		writes(t, d, 1, 2, api.ErrDead)
		d.Fuse(n)
		what := fmt.Sprint("dead, Fuse(", n, ")")
		dead(t, what, d)
		counts(t, what, d, 1, true)
		crashes(t, what, d, []byte{0}, image(0, 2))
	}
}

// P4.3: writes that were not synced are there or not, the i-th by the choice's byte i, in their order.
func TestCrash(t *testing.T) {
	d := fresh(t, 3)
	writes(t, d, 0, 1, api.OK)
	writes(t, d, 2, 2, api.OK)
	syncs(t, d, api.OK)
	crashes(t, "all synced", d, []byte{0, 0, 0}, image(1, 0, 2))
	writes(t, d, 1, 3, api.OK)
	writes(t, d, 0, 4, api.OK)
	writes(t, d, 1, 5, api.OK)
	for _, k := range []struct{ choice, want []byte }{
		{[]byte{0, 0, 0}, image(1, 0, 2)},
		{[]byte{1, 0, 0}, image(1, 3, 2)},
		{[]byte{0, 1, 0}, image(4, 0, 2)},
		{[]byte{0, 0, 1}, image(1, 5, 2)},
		{[]byte{1, 1, 0}, image(4, 3, 2)},
		{[]byte{1, 0, 1}, image(1, 5, 2)},
		{[]byte{0, 1, 1}, image(4, 5, 2)},
		{[]byte{1, 1, 1}, image(4, 5, 2)},
		{[]byte{3, 2, 254}, image(1, 3, 2)},
		{[]byte{255, 129, 128}, image(4, 3, 2)},
		{nil, image(4, 5, 2)},
		{[]byte{}, image(4, 5, 2)},
		{[]byte{0}, image(4, 5, 2)},
		{[]byte{0, 0}, image(1, 5, 2)},
		{[]byte{1, 0}, image(1, 5, 2)},
		{[]byte{0, 0, 0, 1, 1, 1}, image(1, 0, 2)},
		{[]byte{1, 1, 0, 0, 1, 0}, image(4, 3, 2)},
	} {
		crashes(t, "three writes", d, k.choice, k.want)
		has(t, "that crashed", d, image(4, 5, 2))
		counts(t, "that crashed", d, 6, false)
	}
	syncs(t, d, api.OK)
	crashes(t, "synced again", d, []byte{0, 0, 0}, image(4, 5, 2))
	writes(t, d, 2, 6, api.OK)
	crashes(t, "the choice begins behind the last Sync", d, []byte{0, 1, 1, 1}, image(4, 5, 2))
	crashes(t, "the choice begins behind the last Sync", d, []byte{1, 0, 0, 0}, image(4, 5, 6))
}

// P4.2, P4.3: the last write is there or not, and is in no image; a Write that is refused behind it is not there.
func TestLastWrite(t *testing.T) {
	d := fresh(t, 2)
	writes(t, d, 0, 1, api.OK)
	syncs(t, d, api.OK)
	writes(t, d, 1, 2, api.OK)
	d.Fuse(0)
	writes(t, d, 0, 3, api.ErrDead)
	writes(t, d, 1, 4, api.ErrDead)
	has(t, "dead", d, image(1, 2))
	for _, k := range []struct{ choice, want []byte }{
		{[]byte{0, 0}, image(1, 0)},
		{[]byte{1, 0}, image(1, 2)},
		{[]byte{0, 1}, image(3, 0)},
		{[]byte{1, 1}, image(3, 2)},
		{[]byte{0}, image(3, 0)},
		{nil, image(3, 2)},
		{[]byte{0, 0, 1}, image(1, 0)},
	} {
		crashes(t, "dead", d, k.choice, k.want)
	}
	has(t, "dead, crashed", d, image(1, 2))
	counts(t, "dead, crashed", d, 3, true)
	dead(t, "dead, crashed", d)
}

// P4.2, P4.3: a last write that is as what is there, and one of noughts to sector 0, are last writes too.
func TestLastWriteOfAnyBytes(t *testing.T) {
	d := loaded(t, image(7, 8))
	d.Fuse(0)
	writes(t, d, 0, 0, api.ErrDead)
	has(t, "noughts", d, image(7, 8))
	crashes(t, "noughts", d, nil, image(0, 8))
	crashes(t, "noughts", d, []byte{0}, image(7, 8))
	d = loaded(t, image(7, 8))
	writes(t, d, 0, 9, api.OK)
	d.Fuse(0)
	writes(t, d, 0, 9, api.ErrDead)
	crashes(t, "the same again", d, []byte{0, 0}, image(7, 8))
	crashes(t, "the same again", d, []byte{0, 1}, image(9, 8))
	crashes(t, "the same again", d, []byte{1, 0}, image(9, 8))
	d = loaded(t, image(7, 8))
	writes(t, d, 0, 9, api.OK)
	writes(t, d, 0, 7, api.OK)
	crashes(t, "as it was", d, []byte{1, 0}, image(9, 8))
	crashes(t, "as it was", d, []byte{1, 1}, image(7, 8))
	crashes(t, "as it was", d, []byte{0, 0}, image(7, 8))
}

// P4.3: a Sync that kills makes nothing last, and is no write.
func TestSyncThatKills(t *testing.T) {
	d := fresh(t, 2)
	writes(t, d, 0, 1, api.OK)
	d.Fuse(0)
	syncs(t, d, api.ErrDead)
	writes(t, d, 1, 2, api.ErrDead)
	has(t, "killed", d, image(1, 0))
	crashes(t, "killed", d, []byte{0, 1}, image(0, 0))
	crashes(t, "killed", d, []byte{1, 0}, image(1, 0))
	crashes(t, "killed", d, nil, image(1, 0))
}

// P4.3: a disk out of a Crash has no fuse, and goes its own way; so does the one that crashed.
func TestCrashIsAnother(t *testing.T) {
	d := fresh(t, 2)
	writes(t, d, 0, 1, api.OK)
	d.Fuse(1)
	c, x := d.Crash(nil), d.Crash([]byte{0})
	for range 5 {
		writes(t, c, 1, 2, api.OK)
		syncs(t, c, api.OK)
	}
	writes(t, c, 0, 3, api.OK)
	counts(t, "the crashed one", c, 11, false)
	has(t, "the other", x, image(0, 0))
	writes(t, x, 0, 4, api.OK)
	counts(t, "the other", x, 1, false)
	has(t, "this one", d, image(1, 0))
	counts(t, "this one", d, 1, false)
	writes(t, d, 1, 5, api.OK)
	syncs(t, d, api.ErrDead)
	counts(t, "this one, dead", d, 2, true)
	crashes(t, "this one", d, []byte{0, 0}, image(0, 0))
	crashes(t, "this one", d, []byte{0, 1}, image(0, 5))
	has(t, "the crashed one", c, image(3, 2))
	crashes(t, "the crashed one", c, []byte{0}, image(1, 2))
	has(t, "the other", x, image(4, 0))
	counts(t, "the crashed one", c, 11, false)
}

// P4.4: each Write and each Sync counts that was done, if it changes something or not.
func TestOps(t *testing.T) {
	d := fresh(t, 2)
	for i := range 20 {
		counts(t, fmt.Sprint(3*i, " ops"), d, 3*i, false)
		writes(t, d, 0, 1, api.OK)
		syncs(t, d, api.OK)
		syncs(t, d, api.OK)
	}
}

// R7: a nil disk, and one that no call made.
func TestNoDisk(t *testing.T) {
	for what, d := range map[string]*disk.Disk{"nil": nil, "made by no call": {}} {
		for range 2 {
			dead(t, what, d)
			counts(t, what, d, 0, false)
			if c := d.Crash(nil); c != nil {
				t.Errorf("%s: Crash(nil): %v, want none", what, c)
			}
			if c := d.Crash([]byte{1, 0}); c != nil {
				t.Errorf("%s: Crash: %v, want none", what, c)
			}
			if b := d.Image(); len(b) != 0 {
				t.Errorf("%s: Image: %s, want none", what, short(b))
			}
			if n := d.Sectors(); n != 0 {
				t.Errorf("%s: Sectors: %d, want 0", what, n)
			}
			d.Fuse(0)
			d.Fuse(-1)
		}
	}
}

// R4: what is handed in is not changed, and not kept.
func TestWhatIsHandedIn(t *testing.T) {
	room := image(1, 2, 3, 4)
	ahead := bytes.Clone(room)
	d := loaded(t, room[:2*api.Sector])
	if e := d.Write(0, room[2*api.Sector:][:api.Sector]); e != api.OK {
		t.Errorf("Write: %v", e)
	}
	d.Fuse(0)
	if e := d.Write(1, room[3*api.Sector:]); e != api.ErrDead {
		t.Errorf("Write: %v, want ErrDead", e)
	}
	choice := []byte{1, 0, 1, 0}
	d.Crash(choice[:1])
	if !bytes.Equal(room, ahead) || !bytes.Equal(choice, []byte{1, 0, 1, 0}) {
		t.Errorf("what was handed in was changed: %s, %v", short(room), choice)
	}
	for i := range room {
		room[i] = 99
	}
	has(t, "what was handed in, changed", d, image(3, 2))
	crashes(t, "what was handed in, changed", d, []byte{0, 0}, image(1, 2))
	crashes(t, "what was handed in, changed", d, []byte{1, 1}, image(3, 4))
}

// R4: what is answered is new memory, spare room too.
func TestWhatIsAnswered(t *testing.T) {
	d := loaded(t, image(1, 2, 0))
	writes(t, d, 0, 3, api.OK)
	keep, _ := d.Read(1)
	whole := d.Image()
	for _, n := range []int{0, 1, 2} {
		b, _ := d.Read(n)
		b = b[:cap(b)]
		for i := range b {
			b[i] = 98
		}
	}
	b := d.Image()
	b = b[:cap(b)]
	for i := range b {
		b[i] = 97
	}
	if !bytes.Equal(keep, sector(2)) || !bytes.Equal(whole, image(3, 2, 0)) {
		t.Errorf("two answers share memory: %s, %s", short(keep), short(whole))
	}
	has(t, "answers that were changed", d, image(3, 2, 0))
	crashes(t, "answers that were changed", d, []byte{0}, image(1, 2, 0))
	writes(t, d, 1, 5, api.OK)
	if !bytes.Equal(keep, sector(2)) || !bytes.Equal(whole, image(3, 2, 0)) {
		t.Errorf("an answer is changed by a later Write: %s, %s", short(keep), short(whole))
	}
}

// R5: disks know nothing of each other.
func TestManyDisks(t *testing.T) {
	a, b := fresh(t, 2), fresh(t, 2)
	writes(t, a, 0, 1, api.OK)
	a.Fuse(0)
	writes(t, b, 1, 2, api.OK)
	syncs(t, a, api.ErrDead)
	counts(t, "one", a, 1, true)
	counts(t, "the other", b, 1, false)
	has(t, "one", a, image(1, 0))
	has(t, "the other", b, image(0, 2))
}

// told is a disk as the chapter tells it: all that was done to it is gone through anew for each answer.
type told struct {
	start   [][]byte
	done    []step // the ops that were done, in order
	last    *step
	waiting int // ops ahead of the one that kills; below 0: there is none
	dead    bool
}

// step is an op: a Write of a byte over and over to a sector; a Sync, if at is below 0.
type step struct {
	at int
	c  byte
}

// do answers what an op should.
func (d *told) do(s step) api.Errno {
	switch {
	case d.dead:
		return api.ErrDead
	case s.at >= len(d.start):
		return api.ErrArg
	case d.waiting == 0:
		d.dead = true
		if s.at >= 0 {
			d.last = &s
		}
		return api.ErrDead
	}
	d.waiting--
	d.done = append(d.done, s)
	return api.OK
}

// fuse sets the fuse.
func (d *told) fuse(n int) {
	d.waiting = n
}

// synced answers how many of the ops stand ahead of the last Sync.
func (d *told) synced() int {
	n := len(d.done)
	for n > 0 && d.done[n-1].at >= 0 {
		n--
	}
	return n
}

// behind answers the sectors as these steps make them.
func (d *told) behind(steps []step) []byte {
	rows := slices.Clone(d.start)
	for _, s := range steps {
		if s.at >= 0 {
			rows[s.at] = sector(s.c)
		}
	}
	return slices.Concat(rows...)
}

// loose answers the writes that may be gone.
func (d *told) loose() []step {
	l := slices.Clone(d.done[d.synced():])
	if d.last != nil {
		l = append(l, *d.last)
	}
	return l
}

// crash answers the sectors behind a crash.
func (d *told) crash(choice []byte) []byte {
	steps := slices.Clone(d.done[:d.synced()])
	for i, s := range d.loose() {
		if i >= len(choice) || choice[i]%2 == 1 {
			steps = append(steps, s)
		}
	}
	return d.behind(steps)
}

// agrees fails, if the disk does not answer what is told of it.
func agrees(t *testing.T, what string, d *disk.Disk, m *told) {
	t.Helper()
	counts(t, what, d, len(m.done), m.dead)
	has(t, what, d, m.behind(m.done))
}

// asked asks both the same, and fails, if their answers differ.
func asked(t *testing.T, what string, d *disk.Disk, m *told, s step) {
	t.Helper()
	got, want := api.OK, m.do(s)
	if s.at < 0 {
		got = d.Sync()
	} else {
		got = d.Write(s.at, sector(s.c))
	}
	if got != want {
		t.Errorf("%s: %v: %v, want %v", what, s, got, want)
	}
}

// choices calls f for each choice of n bytes.
func choices(n int, f func(choice []byte)) {
	for bits := range 1 << n {
		choice := make([]byte, n)
		for i := range choice {
			choice[i] = byte(bits >> i & 1)
		}
		f(choice)
	}
}

// P4.2, P4.3, P4.4: all short rows of ops, with each fuse, and each choice behind them.
func TestAllShortRows(t *testing.T) {
	const long = 5
	kinds := []step{{0, 1}, {0, 0}, {1, 2}, {2, 3}, {at: -1}}
	var all func(steps []step)
	all = func(steps []step) {
		for fuse := -1; fuse < len(steps); fuse++ {
			what := fmt.Sprint("Fuse(", fuse, "), ", steps)
			d, m := loaded(t, image(8, 9)), &told{start: [][]byte{sector(8), sector(9)}}
			d.Fuse(fuse)
			m.fuse(fuse)
			for _, s := range steps {
				asked(t, what, d, m, s)
			}
			agrees(t, what, d, m)
			choices(len(m.loose()), func(choice []byte) {
				if got, want := d.Crash(choice).Image(), m.crash(choice); !bytes.Equal(got, want) {
					t.Errorf("%s: Crash(%v): %s, want %s", what, choice, short(got), short(want))
				}
			})
			if t.Failed() {
				t.FailNow()
			}
		}
		if len(steps) < long {
			for _, s := range kinds {
				all(append(slices.Clone(steps), s))
			}
		}
	}
	all(nil)
}

// P4.2, P4.3, P4.4: long lives, in which a disk that crashed is followed by what was left.
func TestAnyLives(t *testing.T) {
	r := rand.New(rand.NewSource(1))
	for life := range 100 {
		size := 2 + r.Intn(6)
		d, m := fresh(t, size), &told{waiting: -1}
		for range size {
			m.start = append(m.start, sector(0))
		}
		for i := range 150 {
			what := fmt.Sprint("life ", life, ", step ", i)
			switch k := r.Intn(40); {
			case k == 0 || k == 1 && m.dead:
				choice := make([]byte, r.Intn(12))
				r.Read(choice)
				crashes(t, what, d, choice, m.crash(choice))
				d, m = d.Crash(choice), &told{start: slices.Collect(slices.Chunk(m.crash(choice), api.Sector)), waiting: -1}
			case k < 4:
				n := r.Intn(9) - 2
				d.Fuse(n)
				m.fuse(n)
			case k < 10:
				asked(t, what, d, m, step{at: -1})
			default:
				asked(t, what, d, m, step{r.Intn(size + 1), byte(r.Intn(4))})
			}
			agrees(t, what, d, m)
		}
	}
}

// P4.4: what was synced is there behind every crash, unless it was written over since; each sector is some Write's, or as it was.
func TestWhatFollows(t *testing.T) {
	r := rand.New(rand.NewSource(2))
	for try := range 300 {
		d := fresh(t, 4)
		lasts, since := [4]byte{}, [4][]byte{}
		d.Fuse(r.Intn(30))
		for c := byte(1); c < 200; c++ {
			if r.Intn(4) == 0 {
				if d.Sync() != api.OK {
					break
				}
				for n := range since {
					if l := since[n]; len(l) > 0 {
						lasts[n], since[n] = l[len(l)-1], nil
					}
				}
				continue
			}
			n := r.Intn(4)
			since[n] = append(since[n], c)
			if d.Write(n, sector(c)) != api.OK {
				break
			}
		}
		for range 20 {
			choice := make([]byte, r.Intn(30))
			r.Read(choice)
			c := d.Crash(choice)
			for n := range 4 {
				b, e := c.Read(n)
				if e != api.OK || !bytes.Equal(b, sector(b[0])) || b[0] != lasts[n] && !slices.Contains(since[n], b[0]) {
					t.Fatalf("try %d, Crash(%v), sector %d: %v, %v, want %d or one of %v", try, choice, n, b, e, lasts[n], since[n])
				}
			}
		}
	}
}

// R1: many writes without a Sync, of which a crash leaves every third one.
func TestManyWrites(t *testing.T) {
	const many = 1 << 18
	d := fresh(t, most)
	want, choice := make([]byte, most*api.Sector), make([]byte, many)
	for i := range many {
		n, c := i*31%most, byte(i%251+1)
		if e := d.Write(n, sector(c)); e != api.OK {
			t.Fatalf("Write %d: %v", i, e)
		}
		if i%3 == 0 {
			choice[i] = 1
			copy(want[n*api.Sector:], sector(c))
		}
	}
	counts(t, "many writes", d, many, false)
	if got := d.Crash(choice).Image(); !bytes.Equal(got, want) {
		t.Errorf("every third one: %s, want %s", short(got), short(want))
	}
	whole := d.Image()
	if got := d.Crash(nil).Image(); !bytes.Equal(got, whole) {
		t.Errorf("all: %s, want %s", short(got), short(whole))
	}
	syncs(t, d, api.OK)
	crashes(t, "synced", d, []byte{0}, whole)
}
