// Tests of chapter 6, by what package store exports alone.
package store_test

import (
	"bytes"
	"fmt"
	"math"
	"math/rand"
	"slices"
	"testing"

	"pinstripe/api"
	"pinstripe/disk"
	"pinstripe/slot"
	"pinstripe/store"
)

const (
	sector = api.Sector
	each   = api.SlotSize
)

// kept is a fragment that a slot has; nil, if the slot is free.
type kept struct {
	id api.Id
	b  []byte
}

// id answers an id of four numbers.
func id(client, life, number, index int) api.Id {
	return api.Id{Stripe: api.Stripe{Client: client, Life: life, Number: number}, Index: index}
}

// greatest is the id of which each number is at its greatest.
var greatest = id(4, 1<<20, 1<<30, 15)

// noIds are ids that may not be: one number of each is past an end, the others are at either end.
func noIds() []api.Id {
	l := []api.Id{}
	for _, x := range []api.Id{{}, greatest} {
		for _, n := range []int{-1, math.MinInt, math.MaxInt, math.MinInt + 1, -1 << 8, 1 << 8, 1 << 24, 1 << 32, 1 << 62} {
			c, f, o, i := x, x, x, x
			c.Client, f.Life, o.Number, i.Index = n, n, n, n
			l = append(l, c, i)
			if n < 0 || n > 1<<20 {
				l = append(l, f)
			}
			if n < 0 || n > 1<<30 {
				l = append(l, o)
			}
		}
	}
	return append(l, id(5, 0, 0, 0), id(0, 1<<20+1, 0, 0), id(0, 0, 1<<30+1, 0), id(0, 0, 0, 16),
		id(5, 1<<20, 1<<30, 15), id(4, 1<<20+1, 1<<30, 15), id(4, 1<<20, 1<<30+1, 15), id(4, 1<<20, 1<<30, 16))
}

// ids are such that each is unlike the others in one number, or two, or has another's numbers in another order; not in List's order.
var ids = []api.Id{
	id(1, 0, 5, 2), id(0, 0, 0, 0), greatest, id(1, 0, 5, 3), id(1, 0, 6, 2), id(1, 1, 5, 2), id(2, 0, 5, 2), id(2, 5, 0, 1), id(0, 1, 2, 5),
	id(0, 0, 0, 1), id(0, 0, 1, 0), id(0, 1, 0, 0), id(1, 0, 0, 0), id(4, 0, 0, 0), id(0, 1<<20, 0, 0), id(0, 0, 1<<30, 0), id(0, 0, 0, 15),
	id(1, 256, 0, 0), id(1, 0, 256, 0), id(1, 0, 1<<16, 0), id(1, 1<<16, 0, 0), id(1, 0, 1<<24, 0), id(3, 9, 7, 10), id(3, 10, 7, 9), id(3, 9, 10, 7),
}

// keyOf answers an id's key, as the chapter tells it. Keys are in the order of their ids.
func keyOf(x api.Id) []byte {
	return []byte{
		byte(x.Client),
		byte(x.Life >> 16), byte(x.Life >> 8), byte(x.Life),
		byte(x.Number >> 24), byte(x.Number >> 16), byte(x.Number >> 8), byte(x.Number),
		byte(x.Index),
	}
}

// row answers n bytes of which neighbours are unlike, none of them a nought, and of which from says where they begin.
func row(n, from int) []byte {
	b := make([]byte, n)
	for i := range b {
		b[i] = byte(1 + (i*7+i/sector+from)%255)
	}
	return b
}

// filled answers b, and noughts behind it, as a sector.
func filled(b ...byte) []byte {
	return append(slices.Clone(b), make([]byte, sector-len(b))...)
}

// headOf answers the head of a slot that has k.
func headOf(k *kept) []byte {
	if k == nil {
		return filled()
	}
	n := len(k.b)
	return filled(append([]byte{1, byte(n >> 8), byte(n), 0, 9}, keyOf(k.id)...)...)
}

// again answers what a Put of b should, where there is had.
func again(had, b []byte) api.Errno {
	if bytes.Equal(had, b) {
		return api.OK
	}
	return api.ErrThere
}

// fresh answers a new disk.
func fresh(t *testing.T, sectors int) *disk.Disk {
	t.Helper()
	d, e := disk.New(sectors)
	if e != api.OK {
		t.Fatalf("disk.New(%d): %v", sectors, e)
	}
	return d
}

// loaded answers a disk of that image.
func loaded(t *testing.T, image []byte) *disk.Disk {
	t.Helper()
	d, e := disk.Load(image)
	if e != api.OK {
		t.Fatalf("disk.Load of %d bytes: %v", len(image), e)
	}
	return d
}

// kill makes a disk a dead one.
func kill(t *testing.T, d *disk.Disk) *disk.Disk {
	t.Helper()
	d.Fuse(0)
	if e := d.Sync(); e != api.ErrDead || !d.Dead() {
		t.Fatalf("a Sync that kills: %v", e)
	}
	return d
}

// formats answers the store that Format makes of a disk.
func formats(t *testing.T, what string, d *disk.Disk) *store.Store {
	t.Helper()
	s, e := store.Format(d)
	if e != api.OK || s == nil {
		t.Fatalf("%s: Format: %v, %v, want a store", what, s, e)
	}
	return s
}

// opened answers the store of a disk.
func opened(t *testing.T, what string, d *disk.Disk) *store.Store {
	t.Helper()
	s, e := store.Open(d)
	if e != api.OK || s == nil {
		t.Fatalf("%s: Open: %v, %v, want a store", what, s, e)
	}
	return s
}

// made answers a disk of so many sectors, and its store, that has these fragments in the first slots.
func made(t *testing.T, sectors int, fragments ...*kept) (*disk.Disk, *store.Store) {
	t.Helper()
	d := fresh(t, sectors)
	s := formats(t, "made", d)
	for _, k := range fragments {
		puts(t, "made", s, k.id, k.b, api.OK)
	}
	return d, s
}

// refuses fails, if Open does not answer that error, and no store; or if it does anything to the disk.
func refuses(t *testing.T, what string, d *disk.Disk, want api.Errno) {
	t.Helper()
	rests(t, what, d, func() {
		if s, e := store.Open(d); s != nil || e != want {
			t.Errorf("%s: Open: %v, %v, want none, %v", what, s, e, want)
		}
	})
}

// puts fails, if Put does not answer want.
func puts(t *testing.T, what string, s *store.Store, x api.Id, b []byte, want api.Errno) {
	t.Helper()
	if e := s.Put(x, b); e != want {
		t.Errorf("%s: Put(%v, %d bytes): %v, want %v", what, x, len(b), e, want)
	}
}

// gets fails, if Get does not answer these bytes, and that error.
func gets(t *testing.T, what string, s *store.Store, x api.Id, b []byte, want api.Errno) {
	t.Helper()
	if got, e := s.Get(x); e != want || !bytes.Equal(got, b) {
		t.Errorf("%s: Get(%v): %d bytes %v, %v, want %d bytes %v, %v", what, x, len(got), got, e, len(b), b, want)
	}
}

// deletes fails, if Delete does not answer want.
func deletes(t *testing.T, what string, s *store.Store, x api.Id, want api.Errno) {
	t.Helper()
	if e := s.Delete(x); e != want {
		t.Errorf("%s: Delete(%v): %v, want %v", what, x, e, want)
	}
}

// count answers the fragments that slots have, of each id the first one; their ids, sorted; and how many slots are free.
func count(want []*kept) (map[api.Id]*kept, []api.Id, int) {
	first, list, room := map[api.Id]*kept{}, []api.Id{}, 0
	for _, k := range want {
		if k == nil {
			room++
		} else if first[k.id] == nil {
			first[k.id] = k
			list = append(list, k.id)
		}
	}
	slices.SortFunc(list, func(a, b api.Id) int { return bytes.Compare(keyOf(a), keyOf(b)) })
	return first, list, room
}

// tells fails, if the store does not tell that its slots have just these, and whether it is whole: by all that no disk is asked for.
func tells(t *testing.T, what string, s *store.Store, want []*kept, whole bool) {
	t.Helper()
	_, list, room := count(want)
	if got := s.List(); !slices.Equal(got, list) {
		t.Errorf("%s: List: %v, want %v", what, got, list)
	}
	if got := s.Room(); got != room {
		t.Errorf("%s: Room: %d, want %d", what, got, room)
	}
	if s.Whole() != whole {
		t.Errorf("%s: Whole: %v", what, s.Whole())
	}
	for _, client := range []int{-1, 0, 1, 2, 3, 4, 5, 257, math.MaxInt, math.MinInt} {
		last, there := api.Id{}, false
		for _, x := range list {
			if x.Client == client {
				last, there = x, true
			}
		}
		if got, ok := s.Latest(client); got != last || ok != there {
			t.Errorf("%s: Latest(%d): %v, %v, want %v, %v", what, client, got, ok, last, there)
		}
	}
}

// has fails, if the store does not answer that its slots have just these, and whether it is whole.
func has(t *testing.T, what string, s *store.Store, want []*kept, whole bool) {
	t.Helper()
	tells(t, what, s, want, whole)
	first, _, _ := count(want)
	for _, k := range first {
		gets(t, what, s, k.id, k.b, api.OK)
	}
	for _, x := range ids {
		if first[x] == nil {
			gets(t, what, s, x, nil, api.ErrNone)
		}
	}
}

// lies fails, if the disk has not just these in its slots.
func lies(t *testing.T, what string, d *disk.Disk, want []*kept) {
	t.Helper()
	s, e := slot.Open(d, 1)
	if e != api.OK || s.Count() != len(want) {
		t.Fatalf("%s: %d slots, %v, want %d", what, s.Count(), e, len(want))
	}
	for i, k := range want {
		if s.Used(i) != (k != nil) {
			t.Errorf("%s: is slot %d used? %v", what, i, s.Used(i))
			continue
		}
		if k == nil {
			continue
		}
		if b, e := s.Get(i); e != api.OK || !bytes.Equal(b, k.b) || !bytes.Equal(s.Key(i), keyOf(k.id)) {
			t.Errorf("%s: slot %d has %v: %v, %v, want %v: %v", what, i, s.Key(i), b, e, keyOf(k.id), k.b)
		}
	}
}

// lasts fails, if the store has not just these, or if they are not where they should be, or do not last.
func lasts(t *testing.T, what string, s *store.Store, want []*kept, whole bool) {
	t.Helper()
	has(t, what, s, want, whole)
	has(t, what+", opened again", opened(t, what, s.Disk()), want, whole)
	c := s.Disk().Crash(make([]byte, 99))
	lies(t, what+", crashed", c, want)
	has(t, what+", crashed", opened(t, what, c), want, whole)
}

// rests fails, if what f does is to be seen on the disk, if there is one.
func rests(t *testing.T, what string, d *disk.Disk, f func()) {
	t.Helper()
	if d.Sectors() == 0 {
		f()
		return
	}
	ops, image, low, high := d.Ops(), d.Image(), d.Crash(make([]byte, 99)).Image(), d.Crash(nil).Image()
	f()
	if d.Ops() != ops || !bytes.Equal(d.Image(), image) || !bytes.Equal(d.Crash(make([]byte, 99)).Image(), low) || !bytes.Equal(d.Crash(nil).Image(), high) {
		t.Errorf("%s: the disk is not as it was", what)
	}
}

// The chapter's example.
func TestExample(t *testing.T) {
	d, s := made(t, 34)
	x := id(1, 0, 5, 2)
	puts(t, "the example", s, x, []byte("a"), api.OK)
	puts(t, "the example, again", s, x, []byte("a"), api.OK)
	puts(t, "the example, other bytes", s, x, []byte("b"), api.ErrThere)
	if got, ok := s.Latest(1); got != x || !ok {
		t.Errorf("Latest(1): %v, %v, want %v", got, ok, x)
	}
	lasts(t, "the example", s, []*kept{{x, []byte("a")}, nil, nil, nil}, false)
	if s.Disk() != d {
		t.Error("Disk is another one")
	}
}

// P6.1: which ids may be, and their keys: each number at its least, at its greatest, and between.
func TestIdsThatMayBe(t *testing.T) {
	for _, client := range []int{0, 1, 4} {
		for _, life := range []int{0, 1, 255, 256, 1<<16 + 3, 1<<20 - 1, 1 << 20} {
			for _, number := range []int{0, 1, 255, 256, 1<<24 + 5, 1<<30 - 1, 1 << 30} {
				for _, index := range []int{0, 1, 14, 15} {
					x := id(client, life, number, index)
					if key, e := store.Key(x); e != api.OK || !bytes.Equal(key, keyOf(x)) || !store.May(x) {
						t.Errorf("Key(%v): %v, %v, May %v, want %v", x, key, e, store.May(x), keyOf(x))
					}
				}
			}
		}
	}
	for what, want := range map[api.Id][]byte{
		id(1, 2, 3, 4):   {1, 0, 0, 2, 0, 0, 0, 3, 4},
		{}:               {0, 0, 0, 0, 0, 0, 0, 0, 0},
		greatest:         {4, 16, 0, 0, 64, 0, 0, 0, 15},
		id(3, 513, 7, 9): {3, 0, 2, 1, 0, 0, 0, 7, 9},
	} {
		if key, e := store.Key(what); e != api.OK || !bytes.Equal(key, want) {
			t.Errorf("Key(%v): %v, %v, want %v", what, key, e, want)
		}
	}
}

// P6.1, P6.2: ids that may not be have no key; Put, Get and Delete refuse them, whatever else is wrong.
func TestIdsThatMayNotBe(t *testing.T) {
	d, s := made(t, 9)
	full, f := made(t, 9, &kept{})
	dead, x := made(t, 9, &kept{})
	kill(t, dead)
	for _, no := range noIds() {
		what := fmt.Sprint(no)
		if key, e := store.Key(no); e != api.ErrArg || len(key) > 0 || store.May(no) {
			t.Errorf("Key(%v): %v, %v, May %v, want none, ErrArg", no, key, e, store.May(no))
		}
		for what, s := range map[string]*store.Store{what: s, what + ", full": f, what + ", dead": x} {
			rests(t, what, s.Disk(), func() {
				puts(t, what, s, no, nil, api.ErrArg)
				puts(t, what, s, no, row(448, 0), api.ErrArg)
				puts(t, what, s, no, row(449, 0), api.ErrArg)
				gets(t, what, s, no, nil, api.ErrArg)
				deletes(t, what, s, no, api.ErrArg)
			})
		}
	}
	if d.Ops() != 4 || full.Ops() != 7 {
		t.Errorf("%d and %d ops, want 4 and 7", d.Ops(), full.Ops())
	}
	lasts(t, "behind what may not be", s, []*kept{nil}, false)
	lasts(t, "behind what may not be, full", f, []*kept{{}}, false)
	tells(t, "behind what may not be, dead", x, []*kept{{}}, false)
}

// P6.1: unlike ids have unlike keys, and are kept apart: none is there because of another, none goes with another.
func TestUnlikeIds(t *testing.T) {
	n := len(ids)
	d, s := made(t, 1+each*n)
	keys, want := map[string]api.Id{}, make([]*kept, n)
	for i, x := range ids {
		key, _ := store.Key(x)
		if y, there := keys[string(key)]; there {
			t.Errorf("%v and %v have one key: %v", x, y, key)
		}
		keys[string(key)] = x
		want[i] = &kept{x, row(i, i)}
		puts(t, "unlike ids", s, x, want[i].b, api.OK)
		has(t, fmt.Sprint("unlike ids, put ", x), s, want, false)
	}
	lasts(t, "unlike ids", s, want, false)
	for i, x := range ids {
		deletes(t, "unlike ids", s, x, api.OK)
		want[i] = nil
		has(t, fmt.Sprint("unlike ids, deleted ", x), s, want, false)
	}
	lies(t, "unlike ids, deleted", d, want)
}

// step is an op of a disk: a Write of b to a sector; a Sync, if b is nil.
type step struct {
	at int
	b  []byte
}

// formatSteps answers the ops of a Format, as the chapter tells them.
func formatSteps(sectors int) []step {
	l := []step{}
	for n := range (sectors - 1) / each {
		l = append(l, step{1 + each*n, filled()})
	}
	return append(append(l, step{}), markSteps(1)...)
}

// markSteps answers the ops by which sector 0 comes to begin with c.
func markSteps(c byte) []step {
	return []step{{0, filled(c)}, {}}
}

// putSteps answers the ops of a Put into slot i, as the chapters tell them.
func putSteps(i int, k *kept) []step {
	l, begin := []step{}, 1+each*i
	for from := 0; from < len(k.b); from += sector {
		l = append(l, step{begin + 1 + from/sector, filled(k.b[from:min(from+sector, len(k.b))]...)})
	}
	return append(l, step{}, step{begin, headOf(k)}, step{})
}

// clearSteps answers the ops of a Delete out of slot i, as the chapters tell them.
func clearSteps(i int) []step {
	return []step{{1 + each*i, headOf(nil)}, {}}
}

// follow has a disk do these ops.
func follow(d *disk.Disk, steps []step) api.Errno {
	e := api.OK
	for _, s := range steps {
		if s.b == nil {
			e = d.Sync()
		} else {
			e = d.Write(s.at, s.b)
		}
		if e != api.OK {
			break
		}
	}
	return e
}

// choices calls f for each choice of n bytes.
func choices(n int, f func(choice []byte)) {
	for bits := range 1 << n {
		choice := make([]byte, n)
		for i := range choice {
			choice[i] = byte(bits >> i & 1)
		}
		f(choice)
	}
}

// alike fails, if two disks are not alike, with whatever is left of what does not last.
func alike(t *testing.T, what string, got, want *disk.Disk) {
	t.Helper()
	if got.Ops() != want.Ops() || got.Dead() != want.Dead() {
		t.Errorf("%s: %d ops, dead %v, want %d ops, dead %v", what, got.Ops(), got.Dead(), want.Ops(), want.Dead())
	}
	if !bytes.Equal(got.Image(), want.Image()) {
		t.Errorf("%s: the image is not as it should be", what)
	}
	choices(8, func(choice []byte) {
		if !bytes.Equal(got.Crash(choice).Image(), want.Crash(choice).Image()) {
			t.Errorf("%s: Crash(%v) leaves not what it should", what, choice)
		}
	})
}

// sameOps fails, if what f does to a disk like that of the image is not just these ops, dead of them or not.
func sameOps(t *testing.T, what string, image []byte, steps []step, f func(d *disk.Disk, s *store.Store) api.Errno) {
	t.Helper()
	for fuse := -1; fuse <= len(steps); fuse++ {
		what := fmt.Sprint(what, ", Fuse(", fuse, ")")
		d, m := loaded(t, image), loaded(t, image)
		s, _ := store.Open(d)
		d.Fuse(fuse)
		m.Fuse(fuse)
		if got, want := f(d, s), follow(m, steps); got != want {
			t.Errorf("%s: %v, want %v", what, got, want)
		}
		alike(t, what, d, m)
	}
}

// P6.1: Format's ops: each slot's head, Sync, sector 0, Sync; nothing else of the disk is written, not the rest that no slot fits into.
func TestFormatOps(t *testing.T) {
	for sectors := 9; sectors < 35; sectors++ {
		for what, image := range map[string][]byte{"noughts": make([]byte, sectors*sector), "anything": row(sectors*sector, sectors)} {
			what := fmt.Sprint("Format of ", sectors, " sectors of ", what)
			sameOps(t, what, image, formatSteps(sectors), func(d *disk.Disk, _ *store.Store) api.Errno {
				s, e := store.Format(d)
				if (s != nil) != (e == api.OK) {
					t.Errorf("%s: %v, %v", what, s, e)
				}
				return e
			})
			d := loaded(t, image)
			s := formats(t, what, d)
			want := slices.Concat(filled(1), image[sector:])
			for n := range (sectors - 1) / each {
				copy(want[(1+each*n)*sector:], filled())
			}
			if !bytes.Equal(d.Image(), want) {
				t.Errorf("%s: the image is not as it should be", what)
			}
			lasts(t, what, s, make([]*kept, (sectors-1)/each), false)
			if s.Disk() != d {
				t.Errorf("%s: Disk is another one", what)
			}
		}
	}
}

// P6.1: Format of a disk that has a store: nothing is there any more, and it is not whole.
func TestFormatAgain(t *testing.T) {
	d, s := made(t, 26, &kept{ids[0], row(9, 0)}, &kept{ids[1], row(448, 1)}, &kept{ids[2], nil})
	if e := s.SetWhole(); e != api.OK {
		t.Fatal(e)
	}
	again := formats(t, "again", d)
	lasts(t, "again", again, make([]*kept, 3), false)
	puts(t, "again", again, ids[1], row(3, 2), api.OK)
	lasts(t, "again", again, []*kept{{ids[1], row(3, 2)}, nil, nil}, false)
}

// P6.1: what Format and Open refuse of the disk itself, and in which order.
func TestDisksThatAreRefused(t *testing.T) {
	refused := func(what string, d *disk.Disk, want api.Errno) {
		t.Helper()
		rests(t, what, d, func() {
			if s, e := store.Format(d); s != nil || e != want {
				t.Errorf("%s: Format: %v, %v, want none, %v", what, s, e, want)
			}
		})
		refuses(t, what, d, want)
	}
	refused("a nil disk", nil, api.ErrArg)
	refused("a disk that no call made", &disk.Disk{}, api.ErrArg)
	for sectors := 2; sectors < 9; sectors++ {
		for _, image := range [][]byte{make([]byte, sectors*sector), row(sectors*sector, 0), append(filled(1), make([]byte, (sectors-1)*sector)...)} {
			refused(fmt.Sprint(sectors, " sectors"), loaded(t, image), api.ErrArg)
			refused(fmt.Sprint(sectors, " sectors, dead"), kill(t, loaded(t, image)), api.ErrArg)
		}
	}
	for sectors := 9; sectors < 19; sectors++ {
		for _, image := range [][]byte{make([]byte, sectors*sector), row(sectors*sector, 0), append(filled(1), make([]byte, (sectors-1)*sector)...)} {
			refused(fmt.Sprint(sectors, " sectors, dead"), kill(t, loaded(t, image)), api.ErrDead)
		}
	}
}

// P6.1: sector 0 is 1 or 2 and noughts, else Open refuses it.
func TestSectorZero(t *testing.T) {
	k := &kept{ids[3], row(70, 0)}
	d, _ := made(t, 17, k)
	image := d.Image()
	look := func(what string, mark []byte) *disk.Disk {
		return loaded(t, slices.Concat(mark, image[sector:]))
	}
	for c := range 256 {
		what := fmt.Sprint("sector 0 is ", c)
		d := look(what, filled(byte(c)))
		if c != 1 && c != 2 {
			refuses(t, what, d, api.ErrForm)
			refuses(t, what+", dead", kill(t, d), api.ErrDead)
			continue
		}
		rests(t, what, d, func() { has(t, what, opened(t, what, d), []*kept{k, nil}, c == 2) })
		lasts(t, what, opened(t, what, d), []*kept{k, nil}, c == 2)
		for n := 1; n < sector; n++ {
			for _, x := range []byte{1, 2, 128, 255} {
				b := filled(byte(c))
				b[n] = x
				what := fmt.Sprint(what, ", but byte ", n, " is ", x)
				refuses(t, what, look(what, b), api.ErrForm)
			}
		}
	}
	for c := range 3 {
		what := fmt.Sprint(c, " all over")
		refuses(t, what, look(what, bytes.Repeat([]byte{byte(c)}, sector)), api.ErrForm)
		what = fmt.Sprint(c, " in byte 1")
		refuses(t, what, look(what, filled(0, byte(c))), api.ErrForm)
	}
}

// P6.1: a slot's head that is none, and a used slot's key that is no id's, or that of one that may not be: in the first slot, between, in the last.
func TestSlotsThatAreRefused(t *testing.T) {
	past := func(n int, x ...byte) []byte {
		key := keyOf(greatest)
		copy(key[n:], x)
		return key
	}
	for what, key := range map[string][]byte{
		"no key":               {},
		"a key of one byte":    {1},
		"a key of 8 bytes":     keyOf(greatest)[:8],
		"a key of 10 bytes":    append(keyOf(greatest), 0),
		"a key of 40 bytes":    row(40, 0),
		"a key of 40 noughts":  make([]byte, 40),
		"Client 5":             past(0, 5),
		"Client 255":           past(0, 255),
		"Life 2^20 + 1":        past(1, 16, 0, 1),
		"Life 2^24 - 1":        past(1, 255, 255, 255),
		"Number 2^30 + 1":      past(4, 64, 0, 0, 1),
		"Number 2^32 - 1":      past(4, 255, 255, 255, 255),
		"Index 16":             past(8, 16),
		"Index 255":            past(8, 255),
		"Client 5, all else 0": {5, 0, 0, 0, 0, 0, 0, 0, 0},
		"all 255":              bytes.Repeat([]byte{255}, 9),
	} {
		for i := range 3 {
			what := fmt.Sprint(what, ", slot ", i)
			d, _ := made(t, 26, &kept{ids[0], row(3, 0)}, &kept{ids[1], nil}, &kept{ids[2], row(65, 1)})
			opened(t, what, d)
			s, e := slot.Open(d, 1)
			if e != api.OK || s.Clear(i) != api.OK || s.Put(i, key, row(5, 0)) != api.OK {
				t.Fatal(what)
			}
			refuses(t, what, d, api.ErrForm)
			refuses(t, what+", dead", kill(t, d), api.ErrDead)
		}
	}
	for what, head := range map[string][]byte{
		"a head of 2":       filled(2),
		"noughts and a 1":   filled(0, 1),
		"one byte too many": filled(append([]byte{1, 1, 193, 0, 9}, keyOf(ids[4])...)...),
		"a byte behind":     filled(append(headOf(&kept{ids[4], nil})[:14], 1)...),
	} {
		for i := range 3 {
			what := fmt.Sprint(what, ", slot ", i)
			d, _ := made(t, 26, &kept{ids[0], row(3, 0)})
			opened(t, what, d)
			if d.Write(1+each*i, head) != api.OK {
				t.Fatal(what)
			}
			refuses(t, what, d, api.ErrForm)
		}
	}
}

// P6.1: what a free slot held, and the rest that no slot fits into, are not looked at, and not changed.
func TestWhatIsNotLookedAt(t *testing.T) {
	for rest := range each {
		what := fmt.Sprint("a rest of ", rest)
		image := slices.Concat(filled(2), filled(), row(7*sector, 0), filled(), row(7*sector, 1), row(rest*sector, 2))
		d := loaded(t, image)
		s := opened(t, what, d)
		lasts(t, what, s, []*kept{nil, nil}, true)
		k := &kept{ids[5], row(448, 5)}
		puts(t, what, s, k.id, k.b, api.OK)
		want := slices.Concat(filled(2), headOf(k), k.b, image[9*sector:])
		if !bytes.Equal(d.Image(), want) {
			t.Errorf("%s: the image is not as it should be", what)
		}
		puts(t, what, s, ids[6], nil, api.OK)
		puts(t, what, s, ids[7], nil, api.ErrFull)
		lasts(t, what, s, []*kept{k, {ids[6], nil}}, true)
		if rest > 0 && !bytes.Equal(d.Image()[17*sector:], image[17*sector:]) {
			t.Errorf("%s: the rest was changed", what)
		}
	}
}

// P6.2: no bytes, and any number up to the greatest, noughts too; one more is refused, whatever else is wrong but the id.
func TestLengths(t *testing.T) {
	for _, n := range []int{0, 1, 2, 63, 64, 65, 127, 128, 129, 383, 384, 385, 400, 447, 448} {
		for _, b := range [][]byte{row(n, n), make([]byte, n)} {
			what := fmt.Sprint(n, " bytes")
			_, s := made(t, 17)
			puts(t, what, s, greatest, b, api.OK)
			puts(t, what+", again", s, greatest, b, api.OK)
			for _, other := range [][]byte{append(slices.Clone(b), 0)[:min(n+1, 448)], b[:n/2], row(n, n+1)} {
				puts(t, what+", again", s, greatest, other, again(b, other))
			}
			lasts(t, what, s, []*kept{{greatest, b}, nil}, false)
		}
	}
	_, s := made(t, 17)
	_, full := made(t, 9, &kept{ids[0], nil})
	_, dead := made(t, 17, &kept{ids[0], nil})
	kill(t, dead.Disk())
	for _, n := range []int{449, 450, 512, 1 << 16, 1<<16 + 1} {
		for what, s := range map[string]*store.Store{"well": s, "full": full, "dead": dead} {
			rests(t, what, s.Disk(), func() {
				puts(t, what, s, ids[0], row(n, 0), api.ErrLong)
				puts(t, what, s, ids[1], make([]byte, n), api.ErrLong)
			})
		}
	}
	has(t, "behind what was too long", s, []*kept{nil, nil}, false)
	has(t, "behind what was too long, full", full, []*kept{{ids[0], nil}}, false)
}

// P6.2: a Put goes into the least free slot; what it and a Delete leave lasts.
func TestPutAndDelete(t *testing.T) {
	_, s := made(t, 33)
	want := make([]*kept, 4)
	put := func(i int, x api.Id, b []byte) {
		t.Helper()
		want[i] = &kept{x, b}
		puts(t, "a row of calls", s, x, b, api.OK)
		lasts(t, fmt.Sprint("put ", x), s, want, false)
	}
	cut := func(i int) {
		t.Helper()
		deletes(t, "a row of calls", s, want[i].id, api.OK)
		gets(t, "a row of calls", s, want[i].id, nil, api.ErrNone)
		want[i] = nil
		lasts(t, fmt.Sprint("cut ", i), s, want, false)
	}
	put(0, ids[0], row(9, 0))
	put(1, ids[1], row(448, 1))
	put(2, ids[2], nil)
	cut(1)
	put(1, ids[3], row(64, 2))
	put(3, ids[1], row(1, 3))
	cut(3)
	cut(0)
	cut(2)
	put(0, ids[4], row(130, 4))
	put(2, ids[0], row(448, 5))
	put(3, ids[2], row(65, 6))
	cut(1)
	cut(0)
	put(0, ids[5], nil)
	put(1, ids[4], row(2, 7))
	for i := range 4 {
		cut(i)
	}
}

// P6.2: no slot is free: what is there is answered as ever; what is not is ErrFull, on a dead disk too.
func TestFull(t *testing.T) {
	want := []*kept{{ids[0], row(5, 0)}, {ids[1], nil}}
	d, s := made(t, 20, want...)
	full := func(what string, same, other api.Errno) {
		t.Helper()
		for _, n := range []int{0, 1, 448} {
			puts(t, what, s, ids[2], row(n, 0), api.ErrFull)
		}
		puts(t, what, s, ids[2], row(449, 0), api.ErrLong)
		puts(t, what, s, ids[0], want[0].b, same)
		puts(t, what, s, ids[1], nil, same)
		puts(t, what, s, ids[0], nil, other)
		puts(t, what, s, ids[1], row(1, 0), other)
	}
	rests(t, "full", d, func() { full("full", api.OK, api.ErrThere) })
	lasts(t, "full", s, want, false)
	deletes(t, "full", s, ids[0], api.OK)
	want[0] = &kept{ids[2], row(448, 2)}
	puts(t, "no longer full", s, ids[2], want[0].b, api.OK)
	puts(t, "full again", s, ids[0], nil, api.ErrFull)
	lasts(t, "full again", s, want, false)
	deletes(t, "full again", s, ids[2], api.OK)
	want[0] = &kept{ids[0], row(5, 0)}
	puts(t, "full again", s, ids[0], want[0].b, api.OK)
	kill(t, d)
	rests(t, "full and dead", d, func() { full("full and dead", api.ErrDead, api.ErrDead) })
	tells(t, "full and dead", s, want, false)
}

// P6.2: a Put of what is there, a Delete of what is not, and all that only asks, do nothing to the disk.
func TestNothingIsDone(t *testing.T) {
	want := []*kept{{ids[0], row(5, 0)}, nil, {ids[1], row(448, 1)}, {ids[3], nil}}
	d, s := made(t, 33, want[0], &kept{ids[2], nil}, want[2], want[3])
	deletes(t, "well", s, ids[2], api.OK)
	rests(t, "well", d, func() {
		for range 2 {
			for _, k := range []*kept{want[0], want[2], want[3]} {
				puts(t, "the same bytes", s, k.id, k.b, api.OK)
				for _, b := range [][]byte{nil, {0}, k.b[:len(k.b)/2], row(len(k.b), 77), append(slices.Clone(k.b), 0), row(448, 1)} {
					if len(b) <= 448 {
						puts(t, "other bytes", s, k.id, b, again(k.b, b))
					}
				}
			}
			for _, x := range []api.Id{ids[2], ids[4], ids[5], greatest} {
				deletes(t, "what is not there", s, x, api.OK)
			}
			has(t, "well", s, want, false)
			if _, e := store.Open(d); e != api.OK {
				t.Error(e)
			}
		}
	})
	lasts(t, "well", s, want, false)
}

// P6.2, P6.3: each error of a store whose disk is dead, and the order in which they are asked; what is known of it is as it was, and what lasts is there behind a crash.
func TestTheDead(t *testing.T) {
	for _, whole := range []bool{false, true} {
		want := []*kept{{ids[0], row(5, 0)}, nil, {ids[1], row(448, 1)}, {ids[3], nil}}
		d, s := made(t, 33, want[0], &kept{ids[2], nil}, want[2], want[3])
		deletes(t, "dead", s, ids[2], api.OK)
		if whole {
			setsWhole(t, "dead", s, api.OK)
		}
		kill(t, d)
		rests(t, "dead", d, func() {
			for range 2 {
				for _, k := range []*kept{want[0], want[2], want[3]} {
					puts(t, "there, the same bytes", s, k.id, k.b, api.ErrDead)
					puts(t, "there, other bytes", s, k.id, row(9, 9), api.ErrDead)
					puts(t, "there, too many bytes", s, k.id, row(449, 9), api.ErrLong)
					gets(t, "there", s, k.id, nil, api.ErrDead)
					deletes(t, "there", s, k.id, api.ErrDead)
				}
				for _, x := range []api.Id{ids[2], ids[4], greatest} {
					for _, n := range []int{0, 1, 64, 448} {
						puts(t, "not there", s, x, row(n, 0), api.ErrDead)
					}
					puts(t, "not there, too many bytes", s, x, row(449, 0), api.ErrLong)
					gets(t, "not there", s, x, nil, api.ErrNone)
					deletes(t, "not there", s, x, api.OK)
				}
				setsWhole(t, "dead", s, api.ErrDead)
				tells(t, "dead", s, want, whole)
			}
		})
		if s.Disk() != d {
			t.Error("Disk is another one")
		}
		refuses(t, "dead", d, api.ErrDead)
		for _, choice := range [][]byte{nil, make([]byte, 9)} {
			lasts(t, "behind the death", opened(t, "behind the death", d.Crash(choice)), want, whole)
		}
	}
}

// P6.3: List's order, and the latest of each client, whatever the order in which they were put, and deleted.
func TestListAndLatest(t *testing.T) {
	r := rand.New(rand.NewSource(3))
	some := func(greatest int) int {
		return []int{0, 1, 2, 9, 10, 255, 256, 257, greatest - 1, greatest}[r.Intn(10)]
	}
	for range 40 {
		want := make([]*kept, 20)
		d := fresh(t, 1+each*len(want))
		s := formats(t, "any ids", d)
		for i := range want {
			x := id(r.Intn(5), min(some(1<<20), 1<<20), some(1<<30), min(some(15), 15))
			if _, e := s.Get(x); e == api.OK {
				deletes(t, "any ids", s, x, api.OK)
				want[slices.IndexFunc(want, func(k *kept) bool { return k != nil && k.id == x })] = nil
			}
			free := slices.Index(want, nil)
			want[free] = &kept{x, row(i, i)}
			puts(t, "any ids", s, x, want[free].b, api.OK)
			tells(t, "any ids", s, want, false)
		}
		for range 15 {
			i := r.Intn(len(want))
			if want[i] != nil {
				deletes(t, "any ids", s, want[i].id, api.OK)
				want[i] = nil
			}
			tells(t, "any ids", s, want, false)
		}
		lasts(t, "any ids", s, want, false)
	}
	_, s := made(t, 65, &kept{id(1, 0, 9, 9), nil}, &kept{id(1, 0, 10, 0), nil}, &kept{id(1, 1, 0, 0), nil}, &kept{id(3, 2, 1, 15), nil}, &kept{id(3, 2, 1, 2), nil}, &kept{id(0, 256, 0, 0), nil}, &kept{id(0, 255, 1<<30, 15), nil})
	list := []api.Id{id(0, 255, 1<<30, 15), id(0, 256, 0, 0), id(1, 0, 9, 9), id(1, 0, 10, 0), id(1, 1, 0, 0), id(3, 2, 1, 2), id(3, 2, 1, 15)}
	if got := s.List(); !slices.Equal(got, list) {
		t.Errorf("List: %v, want %v", got, list)
	}
	for client, want := range map[int]api.Id{0: list[1], 1: list[4], 2: {}, 3: list[6], 4: {}} {
		if got, ok := s.Latest(client); got != want || ok != (client%2 == 1 || client == 0) {
			t.Errorf("Latest(%d): %v, %v, want %v", client, got, ok, want)
		}
	}
}

// setsWhole fails, if SetWhole does not answer want.
func setsWhole(t *testing.T, what string, s *store.Store, want api.Errno) {
	t.Helper()
	if e := s.SetWhole(); e != want {
		t.Errorf("%s: SetWhole: %v, want %v", what, e, want)
	}
}

// P6.3: SetWhole lasts, and changes nothing else; again it is done again.
func TestSetWhole(t *testing.T) {
	want := []*kept{{ids[0], row(64, 0)}, nil}
	d, s := made(t, 19, want[0])
	lasts(t, "not whole", s, want, false)
	image := d.Image()
	for range 2 {
		ops := d.Ops()
		setsWhole(t, "whole", s, api.OK)
		if d.Ops() != ops+2 {
			t.Errorf("SetWhole did %d ops, want 2", d.Ops()-ops)
		}
		lasts(t, "whole", s, want, true)
	}
	if got := d.Image(); !bytes.Equal(got, slices.Concat(filled(2), image[sector:])) {
		t.Error("SetWhole: the image is not as it should be")
	}
	want[1] = &kept{ids[1], nil}
	puts(t, "whole", s, ids[1], nil, api.OK)
	lasts(t, "whole", s, want, true)
	deletes(t, "whole", s, ids[0], api.OK)
	want[0] = nil
	lasts(t, "whole", s, want, true)
}

// P6.2, P6.3: Put, Delete and SetWhole do just the ops that the chapters name, in that order, dead of them or not.
func TestOps(t *testing.T) {
	for _, n := range []int{0, 1, 64, 65, 400, 448} {
		k, other := &kept{ids[0], row(n, 1)}, &kept{greatest, row(99, 2)}
		d, _ := made(t, 20, other)
		sameOps(t, fmt.Sprint("Put of ", n, " bytes"), d.Image(), putSteps(1, k), func(_ *disk.Disk, s *store.Store) api.Errno {
			return s.Put(k.id, k.b)
		})
		for i, l := range [][]*kept{{k, other}, {other, k}} {
			d, _ := made(t, 20, l...)
			sameOps(t, fmt.Sprint("Delete of ", n, " bytes"), d.Image(), clearSteps(i), func(_ *disk.Disk, s *store.Store) api.Errno {
				return s.Delete(k.id)
			})
		}
		for c := byte(1); c <= 2; c++ {
			d, _ := made(t, 20, k)
			image := slices.Concat(filled(c), d.Image()[sector:])
			sameOps(t, fmt.Sprint("SetWhole of ", c), image, markSteps(2), func(_ *disk.Disk, s *store.Store) api.Errno {
				return s.SetWhole()
			})
		}
	}
}

// state is what a store's slots have, and whether it is whole.
type state struct {
	slots []*kept
	whole bool
}

// death is a call in which the disk may die: how it finds the store, how it leaves it, and its ops.
type death struct {
	what          string
	ahead, behind state
	call          func(s *store.Store) api.Errno
	ops           int
}

// deaths answers a Put, a Delete and a SetWhole, each with rows of some lengths, of stores that are whole and that are not.
func deaths() []death {
	l := []death{}
	one, three := &kept{ids[0], row(200, 4)}, &kept{ids[2], row(64, 5)}
	for i, n := range []int{0, 65, 448, 1, 400} {
		k, whole := &kept{ids[1], row(n, 3)}, i%2 == 1
		without, with := state{[]*kept{one, nil, three, nil}, whole}, state{[]*kept{one, k, three, nil}, whole}
		l = append(l,
			death{
				fmt.Sprint("Put of ", n, " bytes"), without, with,
				func(s *store.Store) api.Errno { return s.Put(k.id, k.b) }, len(putSteps(1, k)),
			},
			death{
				fmt.Sprint("Delete of ", n, " bytes"), with, without,
				func(s *store.Store) api.Errno { return s.Delete(k.id) }, len(clearSteps(1)),
			},
			death{
				fmt.Sprint("SetWhole, ", n, " bytes there"), state{with.slots, false}, state{with.slots, true},
				func(s *store.Store) api.Errno { return s.SetWhole() }, len(markSteps(2)),
			},
		)
	}
	return l
}

// laid answers a disk, and its store, of that state; what is free has held something.
func laid(t *testing.T, want state) (*disk.Disk, *store.Store) {
	t.Helper()
	d := fresh(t, 1+each*len(want.slots))
	s := formats(t, "laid", d)
	for i, k := range want.slots {
		if k == nil {
			k = &kept{id(4, 4, 4, i), row(448, 9)}
		}
		puts(t, "laid", s, k.id, k.b, api.OK)
	}
	for i := range want.slots {
		deletes(t, "laid", s, id(4, 4, 4, i), api.OK)
	}
	if want.whole {
		setsWhole(t, "laid", s, api.OK)
	}
	lasts(t, "laid", s, want.slots, want.whole)
	return d, s
}

// P6.2, P6.4: a Put, a Delete, a SetWhole in which the disk dies, at each op, with whatever left: for this store all is as it was; opened anew it is as it was, or done. Asked again it is done.
func TestDeaths(t *testing.T) {
	for _, k := range deaths() {
		for fuse := range k.ops + 1 {
			what := fmt.Sprint(k.what, ", Fuse(", fuse, ")")
			d, s := laid(t, k.ahead)
			d.Fuse(fuse)
			e, want := api.ErrDead, k.ahead
			if fuse == k.ops {
				e, want = api.OK, k.behind
			}
			for range 2 { // a death is one for good; what is done may be asked again
				if got := k.call(s); got != e {
					t.Fatalf("%s: %v, want %v", what, got, e)
				}
				tells(t, what, s, want.slots, want.whole)
				if fuse == k.ops {
					d.Fuse(-1)
				}
			}
			olds, news := leaves(t, what, d, k)
			if (olds > 0) != (fuse < k.ops) || (news > 0) != (fuse >= k.ops-2) {
				t.Errorf("%s: as it was %d times, done %d times", what, olds, news)
			}
		}
	}
}

// leaves fails, if behind each crash of the disk the store is not as it was, or done; or if it is not done, when asked again. It answers how often it was as it was, and done.
func leaves(t *testing.T, what string, d *disk.Disk, k death) (olds, news int) {
	t.Helper()
	_, _, room := count(k.ahead.slots)
	choices(7, func(choice []byte) {
		what := fmt.Sprint(what, ", Crash(", choice, ")")
		s := opened(t, what, d.Crash(choice))
		if s.Room() == room && s.Whole() == k.ahead.whole {
			has(t, what, s, k.ahead.slots, k.ahead.whole)
			olds++
		} else {
			has(t, what, s, k.behind.slots, k.behind.whole)
			news++
		}
		for range 2 {
			if e := k.call(s); e != api.OK {
				t.Errorf("%s: asked again: %v", what, e)
			}
		}
		lasts(t, what+", asked again", s, k.behind.slots, k.behind.whole)
	})
	return olds, news
}

// P6.1, P6.4: a Format in which the disk dies, at each op, with whatever left: no store, or an empty one; over an old one, it, or it without some of its fragments; each as it was put. Behind all of it Format is done again.
func TestDeathsOfFormat(t *testing.T) {
	ks := []*kept{{ids[0], row(200, 4)}, {ids[1], nil}, {ids[2], row(448, 5)}, {ids[3], row(65, 5)}}
	for what, image := range map[string][]byte{"noughts": make([]byte, 35*sector), "anything": row(35*sector, 3)} {
		for fuse := range 7 {
			what := fmt.Sprint("Format of ", what, ", Fuse(", fuse, ")")
			d := loaded(t, image)
			d.Fuse(fuse)
			if s, e := store.Format(d); s != nil || e != api.ErrDead {
				t.Fatalf("%s: %v, %v, want none, ErrDead", what, s, e)
			}
			empty := 0
			choices(6, func(choice []byte) {
				what := fmt.Sprint(what, ", Crash(", choice, ")")
				c := d.Crash(choice)
				if s, e := store.Open(c); e == api.OK {
					has(t, what, s, make([]*kept, 4), false)
					empty++
				} else if s != nil || e != api.ErrForm {
					t.Errorf("%s: Open: %v, %v", what, s, e)
				}
				lasts(t, what, formats(t, what, c), make([]*kept, 4), false)
			})
			if (empty > 0) != (fuse >= 5) {
				t.Errorf("%s: %d times empty", what, empty)
			}
		}
	}
	for _, whole := range []bool{false, true} {
		for fuse := range 8 {
			what := fmt.Sprint("Format of a store, Fuse(", fuse, ")")
			d, _ := laid(t, state{ks, whole})
			d.Fuse(fuse)
			if _, e := store.Format(d); (e == api.OK) != (fuse == 7) {
				t.Fatalf("%s: %v", what, e)
			}
			choices(6, func(choice []byte) {
				what := fmt.Sprint(what, ", Crash(", choice, ")")
				s := opened(t, what, d.Crash(choice))
				want := slices.Clone(ks)
				for i, k := range ks {
					if b, e := s.Get(k.id); e != api.OK || len(b) != len(k.b) {
						want[i] = nil
					}
					if want[i] != nil && fuse > 4 {
						t.Errorf("%s: %v is there, though the heads were synced", what, k.id)
					}
				}
				has(t, what, s, want, s.Whole())
				if s.Whole() && (fuse == 7 || !whole) {
					t.Errorf("%s: whole", what)
				}
			})
		}
	}
}

// P6.1, P6.2: of two slots with one key the first one counts; a Delete clears all of them.
func TestOneKeyInTwoSlots(t *testing.T) {
	x, y := ids[0], ids[1]
	a, b, c, o := &kept{x, row(70, 1)}, &kept{x, row(90, 2)}, &kept{x, nil}, &kept{y, row(448, 3)}
	for n, want := range [][]*kept{{a, b}, {b, a}, {a, a}, {nil, a, o, b, nil, c, nil}, {o, c, nil, a, b}, {a, o, a, c, nil}} {
		what := fmt.Sprint("row ", n)
		d := doubled(t, want)
		s := opened(t, what, d)
		first := want[slices.IndexFunc(want, func(k *kept) bool { return k != nil && k.id == x })]
		rests(t, what, d, func() {
			has(t, what, s, want, false)
			for _, k := range []*kept{a, b, c} {
				puts(t, what, s, x, k.b, again(first.b, k.b))
			}
		})
		lasts(t, what, s, want, false)
		free := slices.Clone(want)
		for i, k := range free {
			if k != nil && k.id == x {
				free[i] = nil
			}
		}
		ops := d.Ops()
		deletes(t, what, s, x, api.OK)
		if _, _, room := count(want); d.Ops()-ops != 2*(s.Room()-room) {
			t.Errorf("%s: Delete did %d ops for %d slots", what, d.Ops()-ops, s.Room()-room)
		}
		gets(t, what, s, x, nil, api.ErrNone)
		lasts(t, what+", deleted", s, free, false)
		free[slices.Index(free, nil)] = b
		puts(t, what, s, x, b.b, api.OK)
		lasts(t, what+", put again", s, free, false)
	}
}

// doubled answers a disk of which each slot has what it should, one key in many slots too.
func doubled(t *testing.T, slots []*kept) *disk.Disk {
	t.Helper()
	d, _ := made(t, 1+each*len(slots))
	s, e := slot.Open(d, 1)
	if e != api.OK {
		t.Fatal(e)
	}
	for i, k := range slots {
		if k != nil && s.Put(i, keyOf(k.id), k.b) != api.OK {
			t.Fatalf("slot %d can't be put", i)
		}
	}
	return d
}

// P6.2, P6.4: a Delete of a key that many slots have, in which the disk dies: for this store all is as it was; behind each crash the fragment is as it was, or gone: never as one that did not count.
func TestDeathsOfOneKeyInManySlots(t *testing.T) {
	a, b, c, o := &kept{ids[0], row(70, 1)}, &kept{ids[0], row(90, 2)}, &kept{ids[0], nil}, &kept{ids[1], row(448, 3)}
	for n, want := range [][]*kept{{a, b, c}, {nil, b, o, a, c}, {c, o, b, a, nil}} {
		for fuse := range 7 {
			what := fmt.Sprint("row ", n, ", Fuse(", fuse, ")")
			d := doubled(t, want)
			s := opened(t, what, d)
			first, _, _ := count(want)
			d.Fuse(fuse)
			if fuse == 6 {
				deletes(t, what, s, ids[0], api.OK)
			} else {
				for range 3 {
					deletes(t, what, s, ids[0], api.ErrDead)
					gets(t, what, s, ids[0], nil, api.ErrDead)
					puts(t, what, s, ids[0], nil, api.ErrDead)
					tells(t, what, s, want, false)
				}
			}
			there := 0
			choices(4, func(choice []byte) {
				what := fmt.Sprint(what, ", Crash(", choice, ")")
				s := opened(t, what, d.Crash(choice))
				if slices.Contains(s.List(), ids[0]) {
					gets(t, what, s, ids[0], first[ids[0]].b, api.OK)
					there++
				} else {
					gets(t, what, s, ids[0], nil, api.ErrNone)
				}
				deletes(t, what, s, ids[0], api.OK)
				gets(t, what, s, ids[0], nil, api.ErrNone)
			})
			if (there > 0) != (fuse < 6) {
				t.Errorf("%s: %d times there", what, there)
			}
		}
	}
	full := []*kept{a, o, b}
	d := doubled(t, full)
	s := opened(t, "full", d)
	d.Fuse(3)
	deletes(t, "full", s, ids[0], api.ErrDead)
	puts(t, "full", s, ids[2], nil, api.ErrFull)
	tells(t, "full", s, full, false)
}

// R7: a store that is nil, and one that no call made.
func TestNone(t *testing.T) {
	for what, s := range map[string]*store.Store{"nil": nil, "made by no call": {}} {
		for range 2 {
			for _, x := range append(noIds(), ids...) {
				for _, n := range []int{0, 1, 448, 449} {
					puts(t, what, s, x, row(n, 0), api.ErrDead)
				}
				gets(t, what, s, x, nil, api.ErrDead)
				deletes(t, what, s, x, api.ErrDead)
			}
			setsWhole(t, what, s, api.ErrDead)
			tells(t, what, s, nil, false)
			if s.Disk() != nil {
				t.Errorf("%s: a Disk", what)
			}
		}
	}
}

// R4: what is handed in is not changed, spare room included, and not kept.
func TestWhatIsHandedIn(t *testing.T) {
	room := row(40, 0)
	ahead := slices.Clone(room)
	_, s := made(t, 17)
	puts(t, "handed in", s, ids[0], room[5:15], api.OK)
	puts(t, "handed in", s, ids[0], room[5:15], api.OK)
	puts(t, "handed in", s, ids[0], room[5:14], api.ErrThere)
	if !bytes.Equal(room, ahead) {
		t.Errorf("what was handed in was changed: %v", room)
	}
	clear(room)
	lasts(t, "what was handed in, changed", s, []*kept{{ids[0], ahead[5:15]}, nil}, false)
}

// R4: what is answered is new memory, spare room too.
func TestWhatIsAnswered(t *testing.T) {
	want := []*kept{{ids[0], row(70, 2)}, {ids[1], row(448, 4)}, {ids[2], row(3, 1)}}
	_, s := made(t, 26, want...)
	keep, _ := s.Get(ids[0])
	list := s.List()
	for _, k := range want {
		b, _ := s.Get(k.id)
		key, _ := store.Key(k.id)
		for _, l := range [][]byte{b, key} {
			l = l[:cap(l)]
			for j := range l {
				l[j] = 99
			}
		}
		if key, _ := store.Key(k.id); !bytes.Equal(key, keyOf(k.id)) {
			t.Errorf("Key(%v): %v", k.id, key)
		}
	}
	l := s.List()
	l = l[:cap(l)]
	for i := range l {
		l[i] = id(9, 9, 9, 9)
	}
	lasts(t, "answers that were changed", s, want, false)
	deletes(t, "answered", s, ids[0], api.OK)
	puts(t, "answered", s, ids[3], row(71, 9), api.OK)
	if !bytes.Equal(keep, want[0].b) || !slices.Equal(list, []api.Id{ids[1], ids[0], ids[2]}) {
		t.Errorf("answers share memory: %v, %v", keep, list)
	}
}

// R5: stores of other disks know nothing of this one, nor do those behind a crash.
func TestManyStores(t *testing.T) {
	_, x := made(t, 9)
	_, y := made(t, 9)
	puts(t, "one", x, ids[0], row(3, 0), api.OK)
	z := opened(t, "behind a crash", x.Disk().Crash(nil))
	has(t, "the other", y, []*kept{nil}, false)
	puts(t, "the other", y, ids[0], row(4, 0), api.OK)
	setsWhole(t, "the other", y, api.OK)
	deletes(t, "behind a crash", z, ids[0], api.OK)
	lasts(t, "one", x, []*kept{{ids[0], row(3, 0)}}, false)
	lasts(t, "the other", y, []*kept{{ids[0], row(4, 0)}}, true)
	lasts(t, "behind a crash", z, []*kept{nil}, false)
}

// wanted answers what a Put or a Delete should, on a disk that does not die of it.
func wanted(want []*kept, put bool, k *kept) api.Errno {
	first, _, room := count(want)
	had := first[k.id]
	switch {
	case !store.May(k.id):
		return api.ErrArg
	case !put:
		return api.OK
	case len(k.b) > api.MaxHold:
		return api.ErrLong
	case had != nil:
		return again(had.b, k.b)
	case room == 0:
		return api.ErrFull
	}
	return api.OK
}

// done answers the slots behind a Put or a Delete that is OK.
func done(want []*kept, put bool, k *kept) []*kept {
	l := slices.Clone(want)
	i := slices.IndexFunc(l, func(x *kept) bool { return x != nil && x.id == k.id })
	if put && i < 0 {
		l[slices.Index(l, nil)] = k
	}
	if !put && i >= 0 {
		l[i] = nil
	}
	return l
}

// P6.2, P6.4: long lives, in which a disk that died is followed by what was left.
func TestAnyLives(t *testing.T) {
	r := rand.New(rand.NewSource(1))
	died := 0
	for life := range 60 {
		n := 1 + r.Intn(6)
		d := fresh(t, 1+each*n+r.Intn(each))
		s, want, whole := formats(t, "a life", d), make([]*kept, n), false
		for call := range 120 {
			what := fmt.Sprint("life ", life, ", call ", call)
			if r.Intn(12) == 0 {
				d.Fuse(r.Intn(14))
			}
			if r.Intn(40) == 0 && s.SetWhole() == api.OK {
				whole = true
			}
			k, put := &kept{ids[r.Intn(9)], row([]int{0, 1, 447, 448, 449, r.Intn(449)}[r.Intn(6)], r.Intn(2))}, r.Intn(2) == 0
			if r.Intn(10) == 0 {
				k.id.Index = []int{-1, 16}[r.Intn(2)]
			}
			var e api.Errno
			if put {
				e = s.Put(k.id, k.b)
			} else {
				e = s.Delete(k.id)
			}
			asked := wanted(want, put, k)
			if asked != e && !d.Dead() {
				t.Fatalf("%s: %v, want %v", what, e, asked)
			}
			if asked == api.OK && e == api.OK {
				want = done(want, put, k)
			}
			if d.Dead() {
				died++
				tells(t, what, s, want, whole)
				choice := make([]byte, r.Intn(9))
				r.Read(choice)
				d = d.Crash(choice)
				s = opened(t, what, d)
				if _, _, room := count(want); asked == api.OK && s.Room() != room {
					want = done(want, put, k)
				}
				whole = s.Whole()
			}
			has(t, what, s, want, whole)
			if t.Failed() {
				return
			}
		}
		lasts(t, fmt.Sprint("life ", life), opened(t, "a life", d), want, whole)
	}
	if died < 100 {
		t.Errorf("only %d deaths", died)
	}
}

// P6.1, R1: any bytes as a disk: Open ends, and what it takes is just so.
func TestAnyDisks(t *testing.T) {
	r := rand.New(rand.NewSource(2))
	taken := 0
	for range 20000 {
		k := &kept{id(r.Intn(5), r.Intn(1<<20+1), r.Intn(1<<30+1), r.Intn(16)), row(r.Intn(449), 0)}
		head, mark := headOf(k), filled([]byte{1, 2, 1, 2, 0, 3}[r.Intn(6)])
		for range r.Intn(3) {
			head[[]int{0, 1, 3, 4, 5, 6, 7, 9, 13, 14, r.Intn(sector)}[r.Intn(11)]] = byte([]int{0, 1, 5, 9, 10, 15, 16, 17, 64, 65, r.Intn(256)}[r.Intn(11)])
		}
		d := loaded(t, slices.Concat(mark, head, filled(k.b[:min(len(k.b), sector)]...), make([]byte, 6*sector)))
		held := int(head[1])<<8 | int(head[2])
		x := id(int(head[5]), int(head[6])<<16|int(head[7])<<8|int(head[8]), int(head[9])<<24|int(head[10])<<16|int(head[11])<<8|int(head[12]), int(head[13]))
		so := bytes.Equal(head, headOf(&kept{x, make([]byte, held)})) && held <= 448 && store.May(x)
		free := bytes.Equal(head, filled())
		what := fmt.Sprint(mark[0], head)
		if mark[0] == 0 || mark[0] == 3 || !so && !free {
			refuses(t, what, d, api.ErrForm)
			continue
		}
		taken++
		want := []*kept{nil}
		if so {
			b := filled(k.b[:min(len(k.b), sector)]...)
			want[0] = &kept{x, append(b, make([]byte, 6*sector)...)[:held]}
		}
		has(t, what, opened(t, what, d), want, mark[0] == 2)
	}
	if taken < 1000 {
		t.Errorf("only %d disks were taken", taken)
	}
}

// P6.1, P6.2: all slots of the greatest disk.
func TestTheGreatest(t *testing.T) {
	d := fresh(t, 4160)
	s := formats(t, "the greatest", d)
	want := make([]*kept, 519)
	for i := range want {
		want[i] = &kept{id(i%5, i*7%512, 1000-i, i%16), row(i%449, i)}
		puts(t, "the greatest", s, want[i].id, want[i].b, api.OK)
	}
	puts(t, "the greatest", s, greatest, nil, api.ErrFull)
	lasts(t, "the greatest", s, want, false)
}
