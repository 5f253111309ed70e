// Tests of chapter 5, by what package slot exports alone.
package slot_test

import (
	"bytes"
	"fmt"
	"math"
	"math/rand"
	"slices"
	"testing"

	"pinstripe/api"
	"pinstripe/disk"
	"pinstripe/slot"
)

const (
	maxKey = 40
	sector = api.Sector
	each   = api.SlotSize
)

// kept is what a slot has; nil, if it is free.
type kept struct{ key, b []byte }

// noSlot are numbers of which no slots have one.
var noSlot = []int{-1, -8, 1 << 20, 1 << 32, 1 << 61, math.MaxInt, math.MaxInt / 8, math.MinInt, math.MinInt / 8}

// row answers n bytes of which neighbours are unlike, none of them a nought, and of which from says where they begin.
func row(n, from int) []byte {
	b := make([]byte, n)
	for i := range b {
		b[i] = byte(1 + (i*7+i/sector+from)%255)
	}
	return b
}

// filled answers b, and noughts behind it, as a sector.
func filled(b []byte) []byte {
	return append(slices.Clone(b), make([]byte, sector-len(b))...)
}

// headOf answers the head of a slot that has k.
func headOf(k *kept) []byte {
	if k == nil {
		return filled(nil)
	}
	n, l := len(k.b), len(k.key)
	return filled(append([]byte{1, byte(n >> 8), byte(n), byte(l >> 8), byte(l)}, k.key...))
}

// fresh answers a new disk.
func fresh(t *testing.T, sectors int) *disk.Disk {
	t.Helper()
	d, e := disk.New(sectors)
	if e != api.OK {
		t.Fatalf("disk.New(%d): %v", sectors, e)
	}
	return d
}

// loaded answers a disk of that image.
func loaded(t *testing.T, image []byte) *disk.Disk {
	t.Helper()
	d, e := disk.Load(image)
	if e != api.OK {
		t.Fatalf("disk.Load of %d bytes: %v", len(image), e)
	}
	return d
}

// killed answers a dead disk of that image.
func killed(t *testing.T, image []byte) *disk.Disk {
	t.Helper()
	d := loaded(t, image)
	kill(t, d)
	return d
}

// kill makes a disk a dead one.
func kill(t *testing.T, d *disk.Disk) {
	t.Helper()
	d.Fuse(0)
	if e := d.Sync(); e != api.ErrDead || !d.Dead() {
		t.Fatalf("a Sync that kills: %v", e)
	}
}

// opened answers the slots of a disk.
func opened(t *testing.T, what string, d *disk.Disk, first int) *slot.Slots {
	t.Helper()
	s, e := slot.Open(d, first)
	if e != api.OK || s == nil {
		t.Fatalf("%s: Open(%d): %v, %v, want slots", what, first, s, e)
	}
	return s
}

// refused fails, if Open does not answer that error, and no slots.
func refused(t *testing.T, what string, d *disk.Disk, first int, want api.Errno) {
	t.Helper()
	if s, e := slot.Open(d, first); s != nil || e != want {
		t.Errorf("%s: Open(%d): %v, %v, want none, %v", what, first, s, e, want)
	}
}

// puts fails, if Put does not answer want.
func puts(t *testing.T, what string, s *slot.Slots, i int, key, b []byte, want api.Errno) {
	t.Helper()
	if e := s.Put(i, key, b); e != want {
		t.Errorf("%s: Put(%d, %q, %d bytes): %v, want %v", what, i, key, len(b), e, want)
	}
}

// clears fails, if Clear does not answer want.
func clears(t *testing.T, what string, s *slot.Slots, i int, want api.Errno) {
	t.Helper()
	if e := s.Clear(i); e != want {
		t.Errorf("%s: Clear(%d): %v, want %v", what, i, e, want)
	}
}

// gets fails, if Get does not answer these bytes, and that error.
func gets(t *testing.T, what string, s *slot.Slots, i int, b []byte, want api.Errno) {
	t.Helper()
	if got, e := s.Get(i); e != want || !bytes.Equal(got, b) {
		t.Errorf("%s: Get(%d): %d bytes %v, %v, want %d bytes %v, %v", what, i, len(got), got, e, len(b), b, want)
	}
}

// tells fails, if the slots do not tell that they have just these: by all that no disk is asked for.
func tells(t *testing.T, what string, s *slot.Slots, want []*kept) {
	t.Helper()
	if n := s.Count(); n != len(want) {
		t.Errorf("%s: Count: %d, want %d", what, n, len(want))
	}
	free, first := -1, map[string]int{}
	for i, k := range want {
		if s.Used(i) != (k != nil) {
			t.Errorf("%s: Used(%d): %v", what, i, s.Used(i))
		}
		if k == nil {
			k = &kept{}
			if free < 0 {
				free = i
			}
		} else if _, there := first[string(k.key)]; !there {
			first[string(k.key)] = i
		}
		if key := s.Key(i); !bytes.Equal(key, k.key) {
			t.Errorf("%s: Key(%d): %v, want %v", what, i, key, k.key)
		}
	}
	for _, i := range append(noSlot, len(want), len(want)+1) {
		if key := s.Key(i); s.Used(i) || len(key) > 0 {
			t.Errorf("%s: there is no slot %d: Used %v, Key %v", what, i, s.Used(i), key)
		}
	}
	for key, i := range first {
		if got := s.Find([]byte(key)); got != i {
			t.Errorf("%s: Find(%q): %d, want %d", what, key, got, i)
		}
	}
	for _, key := range [][]byte{nil, {0}, []byte("nobody's"), make([]byte, maxKey), make([]byte, maxKey+1), make([]byte, 1000)} {
		if _, there := first[string(key)]; !there && s.Find(key) != -1 {
			t.Errorf("%s: Find(%q): %d, want -1", what, key, s.Find(key))
		}
	}
	if got := s.Free(); got != free {
		t.Errorf("%s: Free: %d, want %d", what, got, free)
	}
}

// has fails, if the slots do not answer that they have just these.
func has(t *testing.T, what string, s *slot.Slots, want []*kept) {
	t.Helper()
	tells(t, what, s, want)
	for i, k := range want {
		if k == nil {
			gets(t, what, s, i, nil, api.ErrNone)
		} else {
			gets(t, what, s, i, k.b, api.OK)
		}
	}
	for _, i := range append(noSlot, len(want), len(want)+1) {
		gets(t, what, s, i, nil, api.ErrArg)
	}
}

// lasts fails, if the slots do not have just these, or if these do not last.
func lasts(t *testing.T, what string, d *disk.Disk, first int, s *slot.Slots, want []*kept) {
	t.Helper()
	has(t, what, s, want)
	has(t, what+", opened again", opened(t, what, d, first), want)
	c := d.Crash(make([]byte, 99))
	has(t, what+", crashed", opened(t, what, c, first), want)
}

// rests fails, if what f does is to be seen on the disk.
func rests(t *testing.T, what string, d *disk.Disk, f func()) {
	t.Helper()
	ops, image, low, high := d.Ops(), d.Image(), d.Crash(make([]byte, 99)).Image(), d.Crash(nil).Image()
	f()
	if d.Ops() != ops || !bytes.Equal(d.Image(), image) || !bytes.Equal(d.Crash(make([]byte, 99)).Image(), low) || !bytes.Equal(d.Crash(nil).Image(), high) {
		t.Errorf("%s: the disk is not as it was", what)
	}
}

// The chapter's example.
func TestExample(t *testing.T) {
	d := fresh(t, 17)
	s := opened(t, "New(17)", d, 1)
	if s.Count() != 2 || s.Free() != 0 {
		t.Errorf("Count %d, Free %d, want 2, 0", s.Count(), s.Free())
	}
	puts(t, "New(17)", s, 0, []byte("k"), []byte("ab"), api.OK)
	gets(t, "New(17)", s, 0, []byte("ab"), api.OK)
	if i := s.Find([]byte("k")); i != 0 {
		t.Errorf("Find(k): %d, want 0", i)
	}
	lasts(t, "New(17)", d, 1, s, []*kept{{[]byte("k"), []byte("ab")}, nil})
}

// P5.1: as many slots as fit behind first; no first below 0, none above what the disk has.
func TestCount(t *testing.T) {
	for _, sectors := range []int{2, 7, 8, 9, 15, 16, 17, 26, 64} {
		d := fresh(t, sectors)
		for first := range sectors + 1 {
			what := fmt.Sprint(sectors, " sectors")
			has(t, fmt.Sprint(what, ", first ", first), opened(t, what, d, first), make([]*kept, (sectors-first)/8))
		}
		for _, first := range append(noSlot, sectors+1, sectors+8, -7) {
			refused(t, fmt.Sprint(sectors, " sectors"), d, first, api.ErrArg)
		}
	}
	most := fresh(t, 4160)
	for first, want := range map[int]int{0: 520, 1: 519, 64: 512, 65: 511, 4152: 1, 4153: 0, 4159: 0, 4160: 0} {
		s := opened(t, "4160 sectors", most, first)
		if s.Count() != want {
			t.Errorf("4160 sectors, first %d: Count %d, want %d", first, s.Count(), want)
		}
	}
	refused(t, "4160 sectors", most, 4161, api.ErrArg)
}

// P5.1: slot i begins at sector first + 8 i; what is ahead of the first, and the rest, are neither asked nor changed.
func TestWhere(t *testing.T) {
	for first := range 12 {
		for rest := range each {
			what := fmt.Sprint("first ", first, ", a rest of ", rest)
			image := slices.Concat(row(first*sector, 3), make([]byte, 3*each*sector), row(rest*sector, 4))
			d := loaded(t, image)
			s := opened(t, what, d, first)
			want := make([]*kept, 3)
			for _, i := range []int{1, 2, 0} {
				want[i] = &kept{row(1+i, 5), row(api.MaxHold, i)}
				puts(t, what, s, i, want[i].key, want[i].b, api.OK)
				at := (first + each*i) * sector
				copy(image[at:], headOf(want[i]))
				copy(image[at+sector:], want[i].b)
			}
			puts(t, what, s, 3, nil, nil, api.ErrArg)
			if !bytes.Equal(d.Image(), image) {
				t.Errorf("%s: the image is not as it should be", what)
			}
			lasts(t, what, d, first, s, want)
		}
	}
}

// P5.1: what a head may be.
func TestHeads(t *testing.T) {
	long := row(maxKey, 9)
	for what, k := range map[string]*kept{
		"noughts":                nil,
		"no bytes, no key":       {},
		"no bytes":               {[]byte("k"), nil},
		"a byte":                 {[]byte("k"), row(1, 0)},
		"255 bytes":              {nil, row(255, 0)},
		"256 bytes":              {nil, row(256, 0)},
		"all bytes that may be":  {nil, row(api.MaxHold, 0)},
		"the longest key":        {long, row(1, 0)},
		"as much as may be":      {long, row(api.MaxHold, 0)},
		"a key that is a nought": {[]byte{0}, nil},
		"a key of noughts":       {make([]byte, maxKey), row(64, 0)},
	} {
		image := row(10*sector, 1)
		copy(image[2*sector:], headOf(k))
		if k != nil {
			copy(image[3*sector:], k.b)
		}
		d := loaded(t, image)
		rests(t, what, d, func() { has(t, what, opened(t, what, d, 2), []*kept{k}) })
	}
}

// P5.1: what a head may not be: in the first slot, in one behind it, in the last one.
func TestHeadsThatAreNone(t *testing.T) {
	behind := func(n int, k *kept) []byte {
		b := headOf(k)
		b[n] = 1
		return b
	}
	heads := map[string][]byte{
		"a first byte of 2":           {2},
		"a first byte of 255":         {255},
		"a first byte of 3, all else": {3, 0, 1, 0, 1, 'k'},
		"one byte too many":           {1, 449 >> 8, 449 & 255},
		"512 bytes":                   {1, 2, 0},
		"65535 bytes":                 {1, 255, 255},
		"a key of 41 bytes":           append([]byte{1, 0, 0, 0, 41}, row(41, 0)...),
		"a key of 41 noughts":         {1, 0, 0, 0, 41},
		"a key of 59 bytes":           append([]byte{1, 0, 0, 0, 59}, row(59, 0)...),
		"a key of 60 bytes":           {1, 0, 0, 0, 60},
		"a key of 256 bytes":          {1, 0, 0, 1, 0},
		"a key of 65535 bytes":        {1, 0, 0, 255, 255},
		"a key and no length":         {1, 0, 5, 0, 0, 'k'},
		"a byte all over":             bytes.Repeat([]byte{1}, sector),
	}
	for n := 1; n < sector; n++ {
		heads[fmt.Sprint("noughts, but byte ", n)] = behind(n, nil)
	}
	for n := 5; n < sector; n++ {
		heads[fmt.Sprint("no key, but byte ", n)] = behind(n, &kept{})
	}
	for n := 5 + maxKey; n < sector; n++ {
		heads[fmt.Sprint("the longest key, and byte ", n)] = behind(n, &kept{row(maxKey, 0), row(api.MaxHold, 0)})
	}
	for what, head := range heads {
		for i := range 3 {
			d := fresh(t, 26)
			for n := 1; n < 25; n += each {
				if e := d.Write(n, headOf(&kept{[]byte("x"), row(3, 0)})); e != api.OK {
					t.Fatal(e)
				}
			}
			opened(t, what, d, 1)
			if e := d.Write(1+each*i, filled(head)); e != api.OK {
				t.Fatal(e)
			}
			rests(t, what, d, func() { refused(t, fmt.Sprint(what, ", slot ", i), d, 1, api.ErrForm) })
		}
	}
}

// P5.1: Open's errors, and the order in which they are asked.
func TestOpenRefuses(t *testing.T) {
	bad := row(9*sector, 0)
	for _, first := range append(noSlot, 0, 1) {
		refused(t, "a nil disk", nil, first, api.ErrArg)
	}
	for _, first := range append(noSlot, 10) {
		refused(t, "no such sector, a bad head", loaded(t, bad), first, api.ErrArg)
		refused(t, "no such sector, dead", killed(t, bad), first, api.ErrArg)
		refused(t, "no such sector, made by no call", &disk.Disk{}, first, api.ErrArg)
	}
	refused(t, "a bad head", loaded(t, bad), 0, api.ErrForm)
	refused(t, "a bad head", loaded(t, bad), 1, api.ErrForm)
	for first := range 10 {
		refused(t, "dead, a bad head", killed(t, bad), first, api.ErrDead)
		refused(t, "dead", killed(t, make([]byte, 9*sector)), first, api.ErrDead)
	}
	for first := 2; first < 10; first++ {
		has(t, "a bad head, of no slot", opened(t, "a bad head, of no slot", loaded(t, bad), first), nil)
	}
	refused(t, "made by no call", &disk.Disk{}, 0, api.ErrDead)
	refused(t, "made by no call", &disk.Disk{}, 1, api.ErrArg)
}

// P5.1, P5.2: Used, Key, Find, Free, Get, while slots are put and cleared; of a key that two have the first one counts.
func TestPutAndClear(t *testing.T) {
	d := fresh(t, 33)
	s := opened(t, "slots", d, 1)
	want := make([]*kept, 4)
	put := func(i int, key string, b []byte) {
		t.Helper()
		want[i] = &kept{[]byte(key), b}
		puts(t, "slots", s, i, want[i].key, b, api.OK)
		lasts(t, fmt.Sprint("put ", i), d, 1, s, want)
	}
	cut := func(i int) {
		t.Helper()
		want[i] = nil
		clears(t, "slots", s, i, api.OK)
		lasts(t, fmt.Sprint("cleared ", i), d, 1, s, want)
	}
	put(2, "a", row(9, 0))
	put(0, "b", row(64, 1))
	put(3, "a", row(64, 2))
	cut(2)
	put(2, "c", nil)
	put(1, "a", row(448, 3))
	if s.Free() != -1 {
		t.Errorf("all used: Free: %d, want -1", s.Free())
	}
	cut(1)
	cut(3)
	put(1, "", row(1, 4))
	put(3, "", row(2, 5))
	cut(1)
	cut(3)
	cut(0)
	put(0, "c", row(65, 6))
	cut(0)
	cut(2)
	put(1, "aa", row(3, 7))
	put(2, "a", row(4, 8))
	put(0, "a\x00", row(5, 9))
	put(3, "\x00", row(6, 10))
}

// lengths are those at which another sector begins or ends, and some between.
var lengths = []int{0, 1, 2, 63, 64, 65, 127, 128, 129, 255, 256, 257, 320, 383, 384, 385, 400, 447, 448}

// P5.2: rows of any length that may be, noughts too, and keys of any length that may be.
func TestLengths(t *testing.T) {
	for _, n := range lengths {
		for _, l := range []int{0, 1, 2, 39, 40} {
			for _, b := range [][]byte{row(n, l), make([]byte, n), bytes.Repeat([]byte{255}, n)} {
				what := fmt.Sprint("a key of ", l, ", a row of ", n)
				d := fresh(t, 17)
				s := opened(t, what, d, 1)
				puts(t, what, s, 1, b[:min(l, n)], b, api.OK)
				puts(t, what, s, 0, row(l, n), b, api.OK)
				lasts(t, what, d, 1, s, []*kept{{row(l, n), b}, {b[:min(l, n)], b}})
			}
		}
	}
}

// P5.2: a row that is shorter than the one that was there: nothing of that one is seen, and the last sector ends in noughts.
func TestShorterOverLonger(t *testing.T) {
	for _, n := range lengths {
		what := fmt.Sprint("a row of ", n, " over the longest")
		d := fresh(t, 8)
		s := opened(t, what, d, 0)
		old, k := row(api.MaxHold, 1), &kept{[]byte("k"), row(n, 2)}
		puts(t, what, s, 0, row(maxKey, 3), old, api.OK)
		clears(t, what, s, 0, api.OK)
		if want := slices.Concat(filled(nil), old); !bytes.Equal(d.Image(), want) {
			t.Errorf("%s: cleared: the image is not noughts and the old row", what)
		}
		puts(t, what, s, 0, k.key, k.b, api.OK)
		full := (n + sector - 1) / sector * sector
		want := slices.Concat(headOf(k), k.b, make([]byte, full-n), old[full:])
		if !bytes.Equal(d.Image(), want) {
			t.Errorf("%s: the image is not as it should be", what)
		}
		lasts(t, what, d, 0, s, []*kept{k})
	}
}

// P5.2: each error of Get, Put and Clear of a disk that is well; nothing is done to it, and nothing changes.
func TestRefused(t *testing.T) {
	d := fresh(t, 25)
	s := opened(t, "well", d, 1)
	want := []*kept{{[]byte("k"), row(99, 0)}, nil, {}}
	puts(t, "well", s, 0, want[0].key, want[0].b, api.OK)
	puts(t, "well", s, 2, nil, nil, api.OK)
	longKey, long := row(maxKey+1, 0), row(api.MaxHold+1, 0)
	rests(t, "refused", d, func() {
		for _, i := range append(noSlot, 3, 4) {
			gets(t, "no such slot", s, i, nil, api.ErrArg)
			clears(t, "no such slot", s, i, api.ErrArg)
			puts(t, "no such slot", s, i, nil, nil, api.ErrArg)
			puts(t, "no such slot, a long key", s, i, longKey, nil, api.ErrArg)
			puts(t, "no such slot, a long row", s, i, nil, long, api.ErrArg)
		}
		for i := range 3 {
			puts(t, "a long key", s, i, longKey, nil, api.ErrLong)
			puts(t, "a long row", s, i, nil, long, api.ErrLong)
			puts(t, "both long", s, i, longKey, long, api.ErrLong)
			puts(t, "both very long", s, i, make([]byte, 1<<16), make([]byte, 1<<17), api.ErrLong)
			puts(t, "a very long key", s, i, make([]byte, 1<<16+1), nil, api.ErrLong)
			puts(t, "a very long row", s, i, nil, make([]byte, 1<<16+1), api.ErrLong)
		}
		for _, i := range []int{0, 2} {
			puts(t, "used", s, i, []byte("x"), row(5, 0), api.ErrThere)
			puts(t, "used, the same again", s, i, want[i].key, want[i].b, api.ErrThere)
			puts(t, "used, as much as may be", s, i, longKey[:maxKey], long[:api.MaxHold], api.ErrThere)
		}
		gets(t, "not used", s, 1, nil, api.ErrNone)
		clears(t, "not used", s, 1, api.ErrNone)
		has(t, "refused", s, want)
	})
	lasts(t, "refused", d, 1, s, want)
	puts(t, "behind what was refused", s, 1, longKey[:maxKey], long[:api.MaxHold], api.OK)
	clears(t, "behind what was refused", s, 0, api.OK)
	clears(t, "behind what was refused", s, 0, api.ErrNone)
	lasts(t, "behind what was refused", d, 1, s, []*kept{nil, {longKey[:maxKey], long[:api.MaxHold]}, {}})
}

// P5.2: each error of Get, Put and Clear of a disk that is dead; what is known of the slots is as it was.
func TestRefusedByTheDead(t *testing.T) {
	d := fresh(t, 25)
	s := opened(t, "dead", d, 1)
	want := []*kept{{[]byte("k"), row(99, 0)}, nil, {}}
	puts(t, "dead", s, 0, want[0].key, want[0].b, api.OK)
	puts(t, "dead", s, 2, nil, nil, api.OK)
	kill(t, d)
	longKey, long := row(maxKey+1, 0), row(api.MaxHold+1, 0)
	rests(t, "dead", d, func() {
		for range 2 {
			for _, i := range append(noSlot, 3) {
				gets(t, "no such slot, dead", s, i, nil, api.ErrArg)
				clears(t, "no such slot, dead", s, i, api.ErrArg)
				puts(t, "no such slot, dead", s, i, longKey, long, api.ErrArg)
				puts(t, "no such slot, dead", s, i, nil, nil, api.ErrArg)
			}
			for i := range 3 {
				puts(t, "a long key, dead", s, i, longKey, nil, api.ErrLong)
				puts(t, "a long row, dead", s, i, nil, long, api.ErrLong)
			}
			for _, i := range []int{0, 2} {
				puts(t, "used, dead", s, i, nil, nil, api.ErrThere)
				gets(t, "used, dead", s, i, nil, api.ErrDead)
				clears(t, "used, dead", s, i, api.ErrDead)
			}
			gets(t, "not used, dead", s, 1, nil, api.ErrNone)
			clears(t, "not used, dead", s, 1, api.ErrNone)
			for _, n := range []int{0, 1, 64, 448} {
				puts(t, "dead", s, 1, nil, row(n, 0), api.ErrDead)
			}
			tells(t, "dead", s, want)
		}
	})
	has(t, "behind the death", opened(t, "behind the death", d.Crash(nil), 1), want)
}

// step is an op of a disk: a Write of b to a sector; a Sync, if b is nil.
type step struct {
	at int
	b  []byte
}

// putSteps answers the ops of a Put, as the chapter tells them.
func putSteps(begin int, k *kept) []step {
	l := []step{}
	for from := 0; from < len(k.b); from += sector {
		l = append(l, step{begin + 1 + from/sector, filled(k.b[from:min(from+sector, len(k.b))])})
	}
	return append(l, step{}, step{begin, headOf(k)}, step{})
}

// clearSteps answers the ops of a Clear, as the chapter tells them.
func clearSteps(begin int) []step {
	return []step{{begin, headOf(nil)}, {}}
}

// follow has a disk do these ops.
func follow(d *disk.Disk, steps []step) api.Errno {
	e := api.OK
	for _, s := range steps {
		if s.b == nil {
			e = d.Sync()
		} else {
			e = d.Write(s.at, s.b)
		}
		if e != api.OK {
			break
		}
	}
	return e
}

// choices calls f for each choice of n bytes.
func choices(n int, f func(choice []byte)) {
	for bits := range 1 << n {
		choice := make([]byte, n)
		for i := range choice {
			choice[i] = byte(bits >> i & 1)
		}
		f(choice)
	}
}

// alike fails, if two disks are not alike, with whatever is left of what does not last.
func alike(t *testing.T, what string, got, want *disk.Disk) {
	t.Helper()
	if got.Ops() != want.Ops() || got.Dead() != want.Dead() {
		t.Errorf("%s: %d ops, dead %v, want %d ops, dead %v", what, got.Ops(), got.Dead(), want.Ops(), want.Dead())
	}
	if !bytes.Equal(got.Image(), want.Image()) {
		t.Errorf("%s: the image is not as it should be", what)
	}
	choices(8, func(choice []byte) {
		if !bytes.Equal(got.Crash(choice).Image(), want.Crash(choice).Image()) {
			t.Errorf("%s: Crash(%v) leaves not what it should", what, choice)
		}
	})
}

// P5.2: Put and Clear do just the ops that the chapter names, in that order, dead or not.
func TestOps(t *testing.T) {
	for _, n := range []int{0, 1, 64, 65, 400, 448} {
		k := &kept{row(n%41, 7), row(n, 8)}
		steps := putSteps(12, k)
		if want := (n+sector-1)/sector + 3; len(steps) != want {
			t.Fatalf("%d ops, want %d", len(steps), want)
		}
		for fuse := -1; fuse <= len(steps); fuse++ {
			what := fmt.Sprint("Put of ", n, " bytes, Fuse(", fuse, ")")
			d, m := fresh(t, 20), fresh(t, 20)
			s := opened(t, what, d, 4)
			d.Fuse(fuse)
			m.Fuse(fuse)
			puts(t, what, s, 1, k.key, k.b, follow(m, steps))
			alike(t, what, d, m)
		}
		for fuse := -1; fuse <= 2; fuse++ {
			what := fmt.Sprint("Clear of ", n, " bytes, Fuse(", fuse, ")")
			d := fresh(t, 20)
			s := opened(t, what, d, 4)
			puts(t, what, s, 1, k.key, k.b, api.OK)
			m := loaded(t, d.Image())
			follow(m, slices.Repeat([]step{{}}, len(steps)))
			d.Fuse(fuse)
			m.Fuse(fuse)
			clears(t, what, s, 1, follow(m, clearSteps(12)))
			alike(t, what, d, m)
		}
	}
}

// either fails, if behind each crash of the disk slot i does not have one or the other, and the rest what they should. It answers how often it had one, and the other.
func either(t *testing.T, what string, d *disk.Disk, want []*kept, i int, one, other *kept) (ones, others int) {
	t.Helper()
	choices(8, func(choice []byte) {
		what := fmt.Sprint(what, ", Crash(", choice, ")")
		s := opened(t, what, d.Crash(choice), 1)
		if s.Used(i) == (one != nil) {
			want[i] = one
			ones++
		} else {
			want[i] = other
			others++
		}
		has(t, what, s, want)
	})
	return ones, others
}

// P5.2, P5.3: a Put in which the disk dies, at each op, with whatever left: the slot is free for this one; opened anew it is free, or has what was put.
func TestDeathOfAPut(t *testing.T) {
	for _, old := range [][]byte{nil, row(3, 1), row(448, 2)} {
		for _, n := range []int{0, 1, 64, 65, 128, 400, 448} {
			k, last := &kept{[]byte("new"), row(n, 3)}, (n+sector-1)/sector+2
			for fuse := 0; fuse <= last+1; fuse++ {
				what := fmt.Sprint("Put of ", n, " bytes over ", len(old), ", Fuse(", fuse, ")")
				d := fresh(t, 25)
				s := opened(t, what, d, 1)
				want := []*kept{{[]byte("other"), row(200, 4)}, nil, {[]byte("third"), row(64, 5)}}
				puts(t, what, s, 0, want[0].key, want[0].b, api.OK)
				puts(t, what, s, 2, want[2].key, want[2].b, api.OK)
				puts(t, what, s, 1, []byte("old"), old, api.OK)
				clears(t, what, s, 1, api.OK)
				d.Fuse(fuse)
				if fuse > last {
					puts(t, what, s, 1, k.key, k.b, api.OK)
					want[1] = k
					has(t, what, s, want)
					if free, _ := either(t, what, d, want, 1, nil, k); free > 0 {
						t.Errorf("%s: put, but %d times free", what, free)
					}
					continue
				}
				puts(t, what, s, 1, k.key, k.b, api.ErrDead)
				tells(t, what, s, want)
				gets(t, what, s, 1, nil, api.ErrNone)
				gets(t, what, s, 0, nil, api.ErrDead)
				free, there := either(t, what, d, want, 1, nil, k)
				if wants := fuse >= last-1; free == 0 || there > 0 != wants {
					t.Errorf("%s: free %d times, there %d times", what, free, there)
				}
			}
		}
	}
}

// P5.2, P5.3: a Clear in which the disk dies, at each op, with whatever left: the slot is used for this one; opened anew it is free, or has what it had.
func TestDeathOfAClear(t *testing.T) {
	for _, n := range []int{0, 1, 64, 65, 400, 448} {
		for fuse := range 3 {
			what := fmt.Sprint("Clear of ", n, " bytes, Fuse(", fuse, ")")
			d := fresh(t, 25)
			s := opened(t, what, d, 1)
			k := &kept{[]byte("k"), row(n, 3)}
			want := []*kept{{[]byte("other"), row(200, 4)}, k, {[]byte("third"), row(64, 5)}}
			for i, x := range want {
				puts(t, what, s, i, x.key, x.b, api.OK)
			}
			d.Fuse(fuse)
			if fuse == 2 {
				clears(t, what, s, 1, api.OK)
				want[1] = nil
				has(t, what, s, want)
				if _, there := either(t, what, d, want, 1, nil, k); there > 0 {
					t.Errorf("%s: cleared, but %d times there", what, there)
				}
				continue
			}
			clears(t, what, s, 1, api.ErrDead)
			tells(t, what, s, want)
			gets(t, what, s, 1, nil, api.ErrDead)
			puts(t, what, s, 1, nil, nil, api.ErrThere)
			clears(t, what, s, 1, api.ErrDead)
			free, there := either(t, what, d, want, 1, nil, k)
			if free == 0 || there == 0 {
				t.Errorf("%s: free %d times, there %d times", what, free, there)
			}
		}
	}
}

// P5.3: one slot that is put and cleared over and over: the death at each op, with whatever left.
func TestDeathInARowOfAll(t *testing.T) {
	ks := []*kept{{[]byte("a"), row(448, 1)}, nil, {[]byte("b"), row(70, 2)}, nil, {nil, nil}, nil, {[]byte("a"), row(129, 3)}, nil}
	for fuse := range 40 {
		what := fmt.Sprint("Fuse(", fuse, ")")
		d := fresh(t, 9)
		s := opened(t, what, d, 1)
		d.Fuse(fuse)
		var ahead, now *kept
		for _, k := range ks {
			ahead, now = now, k
			e := api.OK
			if k != nil {
				e = s.Put(0, k.key, k.b)
			} else {
				e = s.Clear(0)
			}
			if e != api.OK {
				tells(t, what, s, []*kept{ahead})
				break
			}
			has(t, what, s, []*kept{now})
		}
		if !d.Dead() {
			ahead = now
		}
		if ahead == nil {
			ahead, now = now, ahead
		}
		either(t, what, d, make([]*kept, 1), 0, now, ahead)
	}
}

// R7: no slots, and some that no call made.
func TestNone(t *testing.T) {
	for what, s := range map[string]*slot.Slots{"nil": nil, "made by no call": {}} {
		for range 2 {
			tells(t, what, s, nil)
			for _, i := range append(noSlot, 0, 1) {
				gets(t, what, s, i, nil, api.ErrDead)
				clears(t, what, s, i, api.ErrDead)
				puts(t, what, s, i, nil, nil, api.ErrDead)
				puts(t, what, s, i, make([]byte, 41), make([]byte, 449), api.ErrDead)
			}
		}
	}
}

// R4: what is handed in is not changed, spare room included, and not kept.
func TestWhatIsHandedIn(t *testing.T) {
	room := row(40, 0)
	ahead := slices.Clone(room)
	d := fresh(t, 9)
	s := opened(t, "handed in", d, 1)
	want := []*kept{{row(3, 0), ahead[5:15]}}
	puts(t, "handed in", s, 0, room[:3], room[5:15], api.OK)
	key := room[:3]
	if s.Find(key) != 0 || !bytes.Equal(room, ahead) {
		t.Errorf("what was handed in was changed: %v", room)
	}
	want[0].b = slices.Clone(want[0].b)
	clear(room)
	lasts(t, "what was handed in, changed", d, 1, s, want)
}

// R4: what is answered is new memory, spare room too.
func TestWhatIsAnswered(t *testing.T) {
	d := fresh(t, 17)
	s := opened(t, "answered", d, 1)
	want := []*kept{{row(5, 1), row(70, 2)}, {row(40, 3), row(448, 4)}}
	for i, k := range want {
		puts(t, "answered", s, i, k.key, k.b, api.OK)
	}
	keep, _ := s.Get(0)
	keepKey := s.Key(0)
	for i := range want {
		b, _ := s.Get(i)
		for _, l := range [][]byte{b, s.Key(i)} {
			l = l[:cap(l)]
			for j := range l {
				l[j] = 99
			}
		}
	}
	lasts(t, "answers that were changed", d, 1, s, want)
	clears(t, "answered", s, 0, api.OK)
	puts(t, "answered", s, 0, row(9, 8), row(71, 9), api.OK)
	if !bytes.Equal(keep, want[0].b) || !bytes.Equal(keepKey, want[0].key) {
		t.Errorf("answers share memory: %v, %v", keep, keepKey)
	}
}

// R5: slots of other disks know nothing of these, nor do those behind a crash.
func TestManySlots(t *testing.T) {
	a, b := fresh(t, 9), fresh(t, 9)
	x, y := opened(t, "one", a, 1), opened(t, "the other", b, 1)
	puts(t, "one", x, 0, []byte("x"), row(3, 0), api.OK)
	z := opened(t, "behind a crash", a.Crash(nil), 1)
	has(t, "the other", y, []*kept{nil})
	puts(t, "the other", y, 0, []byte("y"), row(4, 0), api.OK)
	clears(t, "behind a crash", z, 0, api.OK)
	has(t, "one", x, []*kept{{[]byte("x"), row(3, 0)}})
	has(t, "the other", y, []*kept{{[]byte("y"), row(4, 0)}})
	has(t, "behind a crash", z, []*kept{nil})
}

// anyRow answers a row or a key of at most that many bytes, mostly of a length at an end.
func anyRow(r *rand.Rand, most int) []byte {
	return row([]int{0, 1, most - 1, most, most + 1, r.Intn(most + 1), r.Intn(most + 1)}[r.Intn(7)], r.Intn(3))
}

// wanted answers what a Put or a Clear (k is nil) of a slot should, on a disk that does not die of it.
func wanted(want []*kept, i int, k *kept) api.Errno {
	switch {
	case i < 0 || i >= len(want):
		return api.ErrArg
	case k == nil && want[i] == nil:
		return api.ErrNone
	case k != nil && (len(k.key) > maxKey || len(k.b) > api.MaxHold):
		return api.ErrLong
	case k != nil && want[i] != nil:
		return api.ErrThere
	}
	return api.OK
}

// P5.2, P5.3: long lives, in which a disk that died is followed by what was left.
func TestAnyLives(t *testing.T) {
	r := rand.New(rand.NewSource(1))
	for life := range 60 {
		count, first := r.Intn(5), r.Intn(10)
		d := fresh(t, max(2, first+count*each))
		want := make([]*kept, (d.Sectors()-first)/each)
		s := opened(t, "a life", d, first)
		for n := range 150 {
			what := fmt.Sprint("life ", life, ", call ", n)
			if r.Intn(12) == 0 {
				d.Fuse(r.Intn(14))
			}
			i, k := r.Intn(count+2)-1, (*kept)(nil)
			e, asked := api.OK, api.OK
			if r.Intn(2) == 0 {
				k = &kept{anyRow(r, maxKey), anyRow(r, api.MaxHold)}
				e = s.Put(i, k.key, k.b)
			} else {
				e = s.Clear(i)
			}
			asked = wanted(want, i, k)
			if e == api.ErrDead && asked == api.OK && d.Dead() {
				tells(t, what, s, want)
				choice := make([]byte, r.Intn(9))
				r.Read(choice)
				d = d.Crash(choice)
				s = opened(t, what, d, first)
				if s.Used(i) == (k != nil) {
					want[i] = k
				}
			} else if e != asked {
				t.Fatalf("%s: %v, want %v", what, e, asked)
			} else if e == api.OK {
				want[i] = k
			}
			has(t, what, s, want)
			if t.Failed() {
				return
			}
		}
	}
}

// P5.1, R1: any bytes as a head: Open ends, and what it takes is just so.
func TestAnyHeads(t *testing.T) {
	r := rand.New(rand.NewSource(2))
	taken := 0
	for range 20000 {
		b := headOf(&kept{row(r.Intn(maxKey+1), 0), row(r.Intn(api.MaxHold+1), 0)})
		for range r.Intn(3) {
			b[[]int{0, 1, 2, 3, 4, r.Intn(sector)}[r.Intn(6)]] = byte([]int{0, 1, 2, 39, 40, 41, 192, 193, r.Intn(256)}[r.Intn(9)])
		}
		held, l := int(b[1])<<8|int(b[2]), int(b[3])<<8|int(b[4])
		so := b[0] == 1 && held <= api.MaxHold && l <= maxKey && !slices.ContainsFunc(b[min(5+l, sector):], func(c byte) bool { return c != 0 })
		d := fresh(t, 9)
		if e := d.Write(1, b); e != api.OK {
			t.Fatal(e)
		}
		if !so && !bytes.Equal(b, make([]byte, sector)) {
			refused(t, fmt.Sprint(b), d, 1, api.ErrForm)
			continue
		}
		s := opened(t, fmt.Sprint(b), d, 1)
		if !so {
			has(t, "noughts", s, []*kept{nil})
			continue
		}
		taken++
		has(t, fmt.Sprint(b), s, []*kept{{b[5 : 5+l], make([]byte, held)}})
	}
	if taken == 0 {
		t.Error("no head was taken")
	}
}

// P5.1, P5.2: all slots of the greatest disk.
func TestTheGreatest(t *testing.T) {
	d := fresh(t, 4160)
	s := opened(t, "the greatest", d, 64)
	want := make([]*kept, api.MaxSlots)
	for i := range want {
		if got := s.Free(); got != i {
			t.Fatalf("Free: %d, want %d", got, i)
		}
		want[i] = &kept{[]byte{byte(i >> 8), byte(i)}, row(i%449, i)}
		puts(t, "the greatest", s, i, want[i].key, want[i].b, api.OK)
	}
	if s.Free() != -1 {
		t.Errorf("all used: Free: %d, want -1", s.Free())
	}
	lasts(t, "the greatest", d, 64, s, want)
}
