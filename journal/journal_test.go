// Tests of chapter 18, by what package journal exports alone.
package journal_test

import (
	"bytes"
	"fmt"
	"math/rand"
	"slices"
	"testing"

	"pinstripe/api"
	"pinstripe/disk"
	"pinstripe/journal"
)

// row answers n bytes, of which neighbours are unlike and none is a nought; from says where they begin.
func row(n, from int) []byte {
	b := make([]byte, n)
	for i := range b {
		b[i] = byte(1 + (i*7+i/sector+from)%255)
	}
	return b
}

// loaded answers a disk of that image.
func loaded(t *testing.T, image []byte) *disk.Disk {
	t.Helper()
	d, e := disk.Load(image)
	if e != api.OK {
		t.Fatalf("disk.Load of %d bytes: %v", len(image), e)
	}
	return d
}

// fresh answers a new disk.
func fresh(t *testing.T, sectors int) *disk.Disk {
	t.Helper()
	return loaded(t, make([]byte, sectors*sector))
}

// killed answers a dead disk of that image.
func killed(t *testing.T, image []byte) *disk.Disk {
	t.Helper()
	d := loaded(t, image)
	kill(t, d)
	return d
}

// kill makes a disk a dead one.
func kill(t *testing.T, d *disk.Disk) {
	t.Helper()
	d.Fuse(0)
	if e := d.Sync(); e != api.ErrDead || !d.Dead() {
		t.Fatalf("a Sync that kills: %v", e)
	}
}

// formatted answers a new journal on a new disk.
func formatted(t *testing.T, sectors int) (*journal.Journal, *disk.Disk) {
	t.Helper()
	d := fresh(t, sectors)
	j, e := journal.Format(d)
	if e != api.OK || j == nil {
		t.Fatalf("Format of %d sectors: %v, %v", sectors, j, e)
	}
	return j, d
}

// opened answers the journal of a disk.
func opened(t *testing.T, what string, d *disk.Disk) *journal.Journal {
	t.Helper()
	j, e := journal.Open(d)
	if e != api.OK || j == nil {
		t.Fatalf("%s: Open: %v, %v, want a journal", what, j, e)
	}
	return j
}

// does answers what a journal answers to a call.
func does(j *journal.Journal, c call) api.Errno {
	if c.reset {
		return j.Reset(c.b)
	}
	return j.Append(c.b)
}

// same tells whether lists of rows are the same.
func same(a, b [][]byte) bool {
	return slices.EqualFunc(a, b, bytes.Equal)
}

// short answers the beginnings of long rows.
func short(rows [][]byte) string {
	s := fmt.Sprint(len(rows), ":")
	for _, b := range rows {
		s += fmt.Sprintf(" %d %v", len(b), b[:min(len(b), 6)])
	}
	return s
}

// tells fails, if a journal does not tell that it keeps just that.
func tells(t *testing.T, what string, j *journal.Journal, d *disk.Disk, k kept) {
	t.Helper()
	if got := j.All(); !same(got, k.records) {
		t.Fatalf("%s: All: %s, want %s", what, short(got), short(k.records))
	}
	if got := j.Room(); got != k.room() {
		t.Fatalf("%s: Room: %d, want %d", what, got, k.room())
	}
	if j.Disk() != d {
		t.Fatalf("%s: Disk: another one", what)
	}
}

// is fails, if a disk does not have that image, as last written and as it lasts.
func is(t *testing.T, what string, d *disk.Disk, image []byte) {
	t.Helper()
	if !bytes.Equal(d.Image(), image) {
		t.Fatalf("%s: the image is not as it should be", what)
	}
	if !bytes.Equal(d.Crash(make([]byte, 2000)).Image(), image) {
		t.Fatalf("%s: the image does not last", what)
	}
}

// holds fails, if a journal does not keep just that, or if its disk does not.
func holds(t *testing.T, what string, j *journal.Journal, k kept) {
	t.Helper()
	tells(t, what, j, j.Disk(), k)
	c := j.Disk().Crash(make([]byte, 2000))
	tells(t, what+", opened again", opened(t, what, c), c, k)
	if read, e := reads(c.Image()); e != api.OK || read.at != k.at || read.head != k.head {
		t.Fatalf("%s: the head that counts: %d %v, want %d %v", what, read.at, read.head, k.at, k.head)
	}
}

// goes does a call of a disk that is well, and answers what is kept then; it fails, if the answer, what the disk was asked, its image or what is kept is not as it should be.
func goes(t *testing.T, what string, j *journal.Journal, k kept, c call) kept {
	t.Helper()
	d := j.Disk()
	image, before := d.Image(), d.Ops()
	ops, to, want := k.asked(c)
	if e := does(j, c); e != want {
		t.Fatalf("%s: %v, want %v", what, e, want)
	}
	if n := d.Ops() - before; n != len(ops) {
		t.Fatalf("%s: %d ops, want %d", what, n, len(ops))
	}
	is(t, what, d, done(image, ops))
	holds(t, what, j, to)
	return to
}

// refuses fails, if a call is not refused with that error, or if journal or disk are not as they were.
func refuses(t *testing.T, what string, j *journal.Journal, c call, want api.Errno) {
	t.Helper()
	d := j.Disk()
	ops, image, low, high, room, all := d.Ops(), d.Image(), d.Crash(make([]byte, 2000)).Image(), d.Crash(nil).Image(), j.Room(), j.All()
	if e := does(j, c); e != want {
		t.Fatalf("%s: a row of %d: %v, want %v", what, len(c.b), e, want)
	}
	if d.Ops() != ops || !bytes.Equal(d.Image(), image) || !bytes.Equal(d.Crash(make([]byte, 2000)).Image(), low) || !bytes.Equal(d.Crash(nil).Image(), high) {
		t.Fatalf("%s: a row of %d: the disk is not as it was", what, len(c.b))
	}
	if j.Room() != room || !same(j.All(), all) || j.Disk() != d {
		t.Fatalf("%s: a row of %d: the journal is not as it was", what, len(c.b))
	}
}

// none fails, if a call of Format or Open does not answer that error, and no journal, or if the disk is not as it was.
func none(t *testing.T, what string, make func(d *disk.Disk) (*journal.Journal, api.Errno), d *disk.Disk, want api.Errno) {
	t.Helper()
	ops, image := d.Ops(), d.Image()
	if j, e := make(d); j != nil || e != want {
		t.Errorf("%s: %v, %v, want none, %v", what, j, e, want)
	}
	if d.Ops() != ops || !bytes.Equal(d.Image(), image) {
		t.Errorf("%s: the disk is not as it was", what)
	}
}

// closed fails, if Open does not answer that error, and no journal.
func closed(t *testing.T, what string, d *disk.Disk, want api.Errno) {
	t.Helper()
	none(t, "Open: "+what, journal.Open, d, want)
}

// The chapter's example.
func TestExample(t *testing.T) {
	j, d := formatted(t, 20)
	a, b, c := []byte("a"), []byte("b"), []byte("c")
	k := empty(20)
	holds(t, "Format", j, k)
	k = goes(t, "Append(a)", j, k, call{b: a})
	k = goes(t, "Append(b)", j, k, call{b: b})
	if !same(j.All(), [][]byte{a, b}) {
		t.Errorf("All: %s, want a, b", short(j.All()))
	}
	k = goes(t, "Reset(c)", j, k, call{reset: true, b: c})
	if !same(j.All(), [][]byte{c}) || j.Disk() != d {
		t.Errorf("All: %s, want c", short(j.All()))
	}
	is(t, "Reset(c)", d, imageOf(20, headOf(said{3, 0, 2}), headOf(said{4, 1, 1}), recordsOf(a, b), recordOf(c)))
}

// P18.1: how many sectors a half has; whatever was on the disk, Format writes its first two sectors alone.
func TestFormat(t *testing.T) {
	for _, sectors := range []int{6, 7, 8, 9, 10, 20, 21, most - 1, most} {
		what := fmt.Sprint(sectors, " sectors")
		old := imageOf(sectors, headOf(said{7, 1, 1}), headOf(said{6, 0, 1}), recordOf(row(9, 0)), recordOf(row(9, 1)))
		for i, image := range [][]byte{make([]byte, sectors*sector), row(sectors*sector, 3), bytes.Repeat([]byte{1}, sectors*sector), old} {
			d := loaded(t, image)
			j, e := journal.Format(d)
			if e != api.OK || j == nil || d.Ops() != 3 {
				t.Fatalf("%s, image %d: %v, %v, %d ops", what, i, j, e, d.Ops())
			}
			is(t, what, d, done(image, formats()))
			k := empty(sectors)
			holds(t, what, j, k)
			for n := range 5 {
				k = goes(t, what, j, k, call{b: row(n, n)})
				k = goes(t, what, j, k, call{reset: n%3 == 1, b: row(sector+n, n)})
			}
		}
	}
}

// P18.1: Format's errors, and the order in which they are asked; nothing is written.
func TestFormatRefuses(t *testing.T) {
	try := func(what string, d *disk.Disk, want api.Errno) {
		t.Helper()
		none(t, "Format: "+what, journal.Format, d, want)
	}
	try("no disk", nil, api.ErrArg)
	try("made by no call", &disk.Disk{}, api.ErrArg)
	for sectors := 2; sectors < 6; sectors++ {
		try("small", fresh(t, sectors), api.ErrArg)
		try("small, dead", killed(t, row(sectors*sector, 0)), api.ErrArg)
	}
	for _, sectors := range []int{6, 7, most} {
		try("dead", killed(t, make([]byte, sectors*sector)), api.ErrDead)
		try("dead", killed(t, row(sectors*sector, 0)), api.ErrDead)
	}
}

// P18.1: Open's errors, and the order in which they are asked.
func TestOpenRefuses(t *testing.T) {
	closed(t, "no disk", nil, api.ErrArg)
	closed(t, "made by no call", &disk.Disk{}, api.ErrArg)
	head := headOf(said{generation: 1})
	for sectors := 2; sectors < 6; sectors++ {
		image := done(make([]byte, sectors*sector), []op{{0, head}})
		closed(t, "small", loaded(t, image), api.ErrArg)
		closed(t, "small, dead", killed(t, image), api.ErrArg)
		closed(t, "small, no head", fresh(t, sectors), api.ErrArg)
	}
	for _, sectors := range []int{6, 7, 12, most} {
		closed(t, "no head", fresh(t, sectors), api.ErrForm)
		closed(t, "other bytes", loaded(t, row(sectors*sector, 0)), api.ErrForm)
		closed(t, "no head, dead", killed(t, make([]byte, sectors*sector)), api.ErrDead)
		image := imageOf(sectors, head, nil, nil, nil)
		closed(t, "dead", killed(t, image), api.ErrDead)
		d := loaded(t, image)
		tells(t, "well", opened(t, "well", d), d, empty(sectors))
		is(t, "Open", d, image)
		if d.Ops() != 0 {
			t.Errorf("Open: %d ops", d.Ops())
		}
	}
}

// P18.1: what a head may be, in either place, whatever else is there; Open goes on as it says.
func TestHeads(t *testing.T) {
	a, b := row(100, 1), row(3, 2)
	records := recordsOf(a, b, nil)
	for _, generation := range []int{2, 255, 256, 1 << 16, 1<<24 + 5, 1<<32 - 1, 1 << 32, 1<<39 + 1, last - 1, last} {
		for h := range 2 {
			for _, end := range []int{0, 2, 3, 4, 5} {
				for at := range 2 {
					head := said{generation, h, end}
					for i, other := range [][]byte{nil, row(sector, 0), {2}, headOf(said{1, 0, 5}), headOf(said{generation - 1, 1 - h, 4}), headOf(said{generation, 0, 6})} {
						what := fmt.Sprint("head ", head, " at ", at, ", other ", i)
						heads := [][]byte{headOf(head), other}
						halves := [][]byte{recordOf(nil), recordOf(nil)}
						halves[h] = records
						image := imageOf(12, heads[at], heads[1-at], halves[0], halves[1])
						k := kept{12, at, head, [][]byte{a, b, nil, nil}}
						k.records = k.records[:max(0, end-1)]
						d := loaded(t, image)
						j := opened(t, what, d)
						holds(t, what, j, k)
						k = goes(t, what, j, k, call{b: row(7, 3)})
						k = goes(t, what, j, k, call{reset: true, b: row(300, 4)})
						goes(t, what, j, k, call{b: row(61, 5)})
					}
				}
			}
		}
	}
}

// P18.1: what a head may not be: alone there is no journal, beside another one that one counts, however small its generation.
func TestHeadsThatAreNone(t *testing.T) {
	heads := map[string][]byte{
		"noughts":                filled([]byte{0}),
		"a first byte of 0":      headOf(said{9, 1, 1}),
		"a first byte of 2":      headOf(said{9, 1, 1}),
		"a first byte of 255":    headOf(said{9, 1, 1}),
		"generation 0":           headOf(said{0, 0, 0}),
		"generation 0, and more": headOf(said{0, 1, 2}),
		"half 2":                 headOf(said{9, 2, 1}),
		"half 255":               headOf(said{9, 255, 0}),
		"half 2, no record":      headOf(said{9, 2, 0}),
		"an end of one too many": headOf(said{9, 0, 6}),
		"an end in half 1":       headOf(said{9, 1, 6}),
		"an end of 256":          headOf(said{9, 0, 256}),
		"an end of 65536":        headOf(said{9, 0, 65536}),
		"an end of all ones":     headOf(said{last, 1, 1<<24 - 1}),
		"other bytes":            row(sector, 0),
		"a byte all over":        bytes.Repeat([]byte{1}, sector),
	}
	heads["a first byte of 0"][0] = 0
	heads["a first byte of 2"][0] = 2
	heads["a first byte of 255"][0] = 255
	for n := 10; n < sector; n++ {
		for _, x := range []byte{1, 128, 255} {
			b := headOf(said{9, 0, 1})
			b[n] = x
			heads[fmt.Sprint(x, " at byte ", n)] = b
		}
	}
	for what, head := range heads {
		for at := range 2 {
			for i, other := range [][]byte{nil, row(sector, 0), head} {
				both := [][]byte{head, other}
				closed(t, fmt.Sprint(what, " at ", at, ", other ", i), loaded(t, imageOf(12, both[at], both[1-at], nil, nil)), api.ErrForm)
			}
			for _, good := range []said{{1, 1, 2}, {9, 1, 2}, {last, 1, 2}} {
				both := [][]byte{head, headOf(good)}
				d := loaded(t, imageOf(12, both[at], both[1-at], nil, recordsOf(row(2, 3), row(5, 4))))
				k := kept{12, 1 - at, good, [][]byte{row(2, 3), row(5, 4)}}
				what := fmt.Sprint(what, " at ", at, " beside ", good)
				j := opened(t, what, d)
				holds(t, what, j, k)
				k = goes(t, what, j, k, call{b: row(1, 1)})
				goes(t, what, j, k, call{reset: true, b: row(1, 2)})
			}
		}
	}
}

// P18.1: both of one generation are refused, alike or not; a head that is none has no generation.
func TestOneGeneration(t *testing.T) {
	for _, g := range []int{1, 2, 255, 1 << 32, last} {
		for _, a := range []said{{g, 0, 0}, {g, 0, 1}, {g, 1, 0}, {g, 1, 5}} {
			for _, b := range []said{{g, 0, 0}, {g, 0, 1}, {g, 1, 0}, {g, 1, 5}} {
				closed(t, fmt.Sprint(a, b), loaded(t, imageOf(12, headOf(a), headOf(b), nil, nil)), api.ErrForm)
			}
			none := headOf(said{g, 0, 6})
			for i, image := range [][]byte{imageOf(12, headOf(a), none, nil, nil), imageOf(12, none, headOf(a), nil, nil)} {
				k := kept{12, i, a, make([][]byte, a.end)}
				holds(t, fmt.Sprint(a, " at ", i, " beside none of that generation"), opened(t, "one", loaded(t, image)), k)
			}
		}
	}
}

// P18.1: any byte of either head changed to any other; Open goes on as the chapter says.
func TestEachByteOfTheHeads(t *testing.T) {
	j, d := formatted(t, 12)
	k := empty(12)
	for i, c := range []call{{false, row(70, 0)}, {true, row(5, 1)}, {false, row(61, 2)}, {false, nil}} {
		k = goes(t, fmt.Sprint("call ", i), j, k, c)
	}
	image := d.Image()
	for n := range 2 * sector {
		for x := range 256 {
			changed := slices.Clone(image)
			changed[n] = byte(x)
			agrees(t, fmt.Sprint("byte ", n, " is ", x), changed)
		}
	}
}

// P18.1: any byte of the records changed; they are taken, if they end just at the end, whatever is behind a record in its last sector.
func TestEachByteOfTheRecords(t *testing.T) {
	for h := range 2 {
		records := recordsOf(row(70, 0), row(5, 1), nil, row(61, 2))
		halves := [][]byte{nil, nil}
		halves[h] = records
		image := imageOf(14, headOf(said{3, h, 5}), headOf(said{4, h, 5}), halves[0], halves[1])
		begin := (2 + h*6) * sector
		for n := range records {
			for x := range 256 {
				if n%sector > 3 && x%51 != 0 {
					continue
				}
				changed := slices.Clone(image)
				changed[begin+n] = byte(x)
				agrees(t, fmt.Sprint("byte ", n, " of half ", h, " is ", x), changed)
			}
		}
	}
}

// agrees fails, if Open does not answer to an image as the chapter says.
func agrees(t *testing.T, what string, image []byte) {
	t.Helper()
	k, want := reads(image)
	d := loaded(t, image)
	if want != api.OK {
		closed(t, what, d, want)
		return
	}
	tells(t, what, opened(t, what, d), d, k)
}

// P18.1: records that do not end just at the end, and some that just do.
func TestWhereRecordsEnd(t *testing.T) {
	length := func(n int) []byte { return filled([]byte{byte(n >> 16), byte(n >> 8), byte(n)}) }
	one := recordOf(row(9, 0))
	for _, c := range []struct {
		half []byte
		end  int
		well bool
	}{
		{nil, 0, true}, {nil, 1, true}, {nil, 5, true},
		{length(61), 1, true}, {length(62), 1, false}, {length(62), 2, true},
		{length(125), 2, true}, {length(126), 2, false}, {length(126), 3, true},
		{length(253), 4, true}, {length(254), 4, false},
		{length(317), 5, true}, {length(318), 5, false}, {length(256), 5, true},
		{length(1 << 16), 5, false}, {length(1<<24 - 1), 5, false}, {length(1<<24 - 1), 1, false}, {length(1<<24 - 1), 0, true},
		{slices.Concat(one, length(61)), 2, true}, {slices.Concat(one, length(62)), 2, false}, {slices.Concat(one, length(62)), 1, true},
		{slices.Concat(one, one, length(189)), 5, true}, {slices.Concat(one, one, length(190)), 5, false},
		{slices.Concat(one, one, length(1<<16)), 5, false}, {slices.Concat(one, one, length(1<<16)), 2, true},
	} {
		for h := range 2 {
			what := fmt.Sprint(len(c.half)/sector, " sectors of half ", h, ", end ", c.end, ", the last record's length ", c.half[max(0, len(c.half)-sector):max(0, len(c.half)-sector+3)])
			halves := [][]byte{recordOf(row(100, 0)), recordOf(row(100, 0))}
			halves[h] = append(slices.Clone(c.half), make([]byte, 5*sector-len(c.half))...)
			image := imageOf(12, headOf(said{1, 1 - h, 1}), headOf(said{2, h, c.end}), halves[0], halves[1])
			k, e := reads(image)
			if (e == api.OK) != c.well {
				t.Fatalf("%s: %v", what, e)
			}
			agrees(t, what, image)
			if c.well {
				goes(t, what, opened(t, what, loaded(t, image)), k, call{b: row(11, 1)})
			}
			closed(t, what+", dead", killed(t, image), api.ErrDead)
		}
	}
}

// P18.2, P18.3: records of any length at which another sector begins or ends, and some between; noughts too.
func TestLengths(t *testing.T) {
	lengths := []int{0, 1, 2, 3, 59, 60, 61, 62, 63, 64, 65, 124, 125, 126, 127, 189, 190, 253, 254, 255, 256, 257, 317, 318, 509, 510}
	for _, n := range lengths {
		for _, b := range [][]byte{row(n, n), make([]byte, n), bytes.Repeat([]byte{255}, n)} {
			for _, reset := range []bool{false, true} {
				what := fmt.Sprint("a row of ", n, ", ", reset)
				image := row(23*sector, 5)
				d := loaded(t, image)
				j, _ := journal.Format(d)
				k := goes(t, what, j, empty(23), call{b: row(1, 1)})
				k = goes(t, what, j, k, call{reset, b})
				k = goes(t, what, j, k, call{b: b[:min(n, 60)]})
				goes(t, what, j, k, call{!reset, row(10, 1)})
			}
		}
	}
}

// P18.2, P18.3: the longest record that may be, one of a byte more, and what Room says ahead of and behind each.
func TestLongest(t *testing.T) {
	longest, long := row(api.MaxBody, 1), row(api.MaxBody+1, 2)
	j, _ := formatted(t, most)
	k := empty(most)
	if j.Room() != api.MaxBody {
		t.Errorf("Room: %d, want %d", j.Room(), api.MaxBody)
	}
	refuses(t, "all is free", j, call{b: long}, api.ErrLong)
	refuses(t, "all is free", j, call{true, long}, api.ErrLong)
	k = goes(t, "first", j, k, call{b: longest})
	k = goes(t, "second", j, k, call{b: longest})
	refuses(t, "29 sectors are free", j, call{b: long}, api.ErrLong)
	refuses(t, "29 sectors are free", j, call{b: longest}, api.ErrFull)
	refuses(t, "29 sectors are free", j, call{b: longest[:29*sector-2]}, api.ErrFull)
	k = goes(t, "third", j, k, call{true, longest})
	k = goes(t, "fourth", j, k, call{b: longest[:api.MaxBody-1]})
	k = goes(t, "the rest", j, k, call{b: longest[:29*sector-3]})
	refuses(t, "full", j, call{b: nil}, api.ErrFull)
	goes(t, "fifth", j, k, call{true, longest[:1<<15]})
}

// P18.2, P18.3: a disk on which the longest record just fits into a half, and one of a sector less.
func TestJustTheLongest(t *testing.T) {
	longest := row(api.MaxBody, 1)
	for _, sectors := range []int{2052, 2053} { // halves of 1025 sectors; a record of 1025 has room for 61 bytes more than the longest
		j, _ := formatted(t, sectors)
		k := goes(t, "just", j, empty(sectors), call{b: longest})
		refuses(t, "full", j, call{b: nil}, api.ErrFull)
		k = goes(t, "just", j, k, call{true, longest})
		goes(t, "just", j, k, call{true, longest})
	}
	j, _ := formatted(t, 2051)
	if j.Room() != 1024*sector-3 {
		t.Errorf("Room: %d, want %d", j.Room(), 1024*sector-3)
	}
	for _, reset := range []bool{false, true} {
		refuses(t, "a sector less", j, call{reset, longest}, api.ErrFull)
		refuses(t, "a sector less", j, call{reset, longest[:1024*sector-2]}, api.ErrFull)
		refuses(t, "a sector less", j, call{reset, row(api.MaxBody+1, 1)}, api.ErrLong)
	}
	goes(t, "a sector less", j, empty(2051), call{b: longest[:1024*sector-3]})
}

// P18.2, P18.3: in each half, with so many sectors used: what Room says just fits, one byte more does not, one byte less does.
func TestRoom(t *testing.T) {
	for sectors := 6; sectors < 16; sectors++ {
		for used := range half(sectors) + 1 {
			for h := range 2 {
				for less := range 2 {
					what := fmt.Sprint(sectors, " sectors, ", used, " used of half ", h)
					d := loaded(t, imageOf(sectors, headOf(said{9, h, used}), nil, nil, nil))
					k := kept{sectors, 0, said{9, h, used}, make([][]byte, used)}
					j := opened(t, what, d)
					holds(t, what, j, k)
					room := j.Room()
					refuses(t, what, j, call{b: row(room+1, 0)}, api.ErrFull)
					refuses(t, what, j, call{true, row(half(sectors)*sector-2, 0)}, api.ErrFull)
					if used == half(sectors) {
						refuses(t, what, j, call{b: nil}, api.ErrFull)
					} else {
						k = goes(t, what, j, k, call{b: row(room-less, 0)})
						refuses(t, what, j, call{b: nil}, api.ErrFull)
					}
					goes(t, what, j, k, call{true, row(half(sectors)*sector-3-less, 1)})
				}
			}
		}
	}
}

// P18.2: Reset into the other half, again and again; what was there is written over as far as the record goes.
func TestResets(t *testing.T) {
	for _, sectors := range []int{6, 7, 12} {
		j, _ := formatted(t, sectors)
		k := empty(sectors)
		for n := range 20 {
			what := fmt.Sprint(sectors, " sectors, reset ", n)
			k = goes(t, what, j, k, call{true, row(n*7%(half(sectors)*sector-2), n)})
			refuses(t, what, j, call{true, row(half(sectors)*sector-2+n, n)}, api.ErrFull)
			if n%3 == 0 && k.room() > 0 {
				k = goes(t, what, j, k, call{b: row(k.room(), n)})
			}
		}
	}
}

// P18.2: behind the last generation there is none: ErrFull; ErrLong is asked ahead of it.
func TestLastGeneration(t *testing.T) {
	for h := range 2 {
		d := loaded(t, imageOf(12, headOf(said{last - 1, h, 1}), headOf(said{last - 2, h, 0}), recordOf(row(4, 0)), recordOf(row(4, 0))))
		for _, reset := range []bool{false, true} {
			c := d.Crash(nil)
			k, _ := reads(c.Image())
			j := opened(t, "the last but one", c)
			k = goes(t, "the last but one", j, k, call{reset, row(70, 1)})
			for range 2 {
				for _, reset := range []bool{false, true} {
					refuses(t, "the last one", j, call{reset, nil}, api.ErrFull)
					refuses(t, "the last one", j, call{reset, row(9, 0)}, api.ErrFull)
					refuses(t, "the last one", j, call{reset, row(api.MaxBody, 0)}, api.ErrFull)
					refuses(t, "the last one", j, call{reset, row(api.MaxBody+1, 0)}, api.ErrLong)
				}
				holds(t, "the last one", j, k)
				kill(t, c)
				j = opened(t, "the last one", c.Crash(nil))
				c = j.Disk()
			}
		}
	}
}

// P18.2, P18.3: of a dead disk: ErrLong, ErrFull, ErrDead, in that order; All and Room go on as they were.
func TestDead(t *testing.T) {
	d := loaded(t, imageOf(12, headOf(said{6, 0, 0}), headOf(said{7, 1, 3}), nil, recordsOf(row(100, 0), row(3, 1))))
	j := opened(t, "dead", d)
	k, _ := reads(d.Image())
	kill(t, d)
	refuses(t, "dead", j, call{b: nil}, api.ErrDead)
	refuses(t, "dead", j, call{b: row(2*sector-3, 0)}, api.ErrDead)
	refuses(t, "dead", j, call{b: row(2*sector-2, 0)}, api.ErrFull)
	refuses(t, "dead", j, call{b: row(api.MaxBody, 0)}, api.ErrFull)
	refuses(t, "dead", j, call{b: row(api.MaxBody+1, 0)}, api.ErrLong)
	refuses(t, "dead", j, call{true, nil}, api.ErrDead)
	refuses(t, "dead", j, call{true, row(5*sector-3, 0)}, api.ErrDead)
	refuses(t, "dead", j, call{true, row(5*sector-2, 0)}, api.ErrFull)
	refuses(t, "dead", j, call{true, row(api.MaxBody+1, 0)}, api.ErrLong)
	holds(t, "dead", j, k)
	if !d.Dead() {
		t.Error("the disk is not dead")
	}
	last := loaded(t, imageOf(12, headOf(said{last, 0, 0}), nil, nil, nil))
	j = opened(t, "the last generation", last)
	kill(t, last)
	refuses(t, "the last generation, dead", j, call{b: nil}, api.ErrFull)
	refuses(t, "the last generation, dead", j, call{true, nil}, api.ErrFull)
	refuses(t, "the last generation, dead", j, call{b: row(api.MaxBody+1, 0)}, api.ErrLong)
}

// R7: a journal that no call made.
func TestMadeByNoCall(t *testing.T) {
	for _, j := range []*journal.Journal{nil, {}} {
		for _, b := range [][]byte{nil, row(5, 0), row(api.MaxBody+1, 0)} {
			if a, r := j.Append(b), j.Reset(b); a != api.ErrDead || r != api.ErrDead {
				t.Errorf("Append: %v, Reset: %v, want both %v", a, r, api.ErrDead)
			}
		}
		if l := j.All(); len(l) != 0 || j.Room() != 0 || j.Disk() != nil {
			t.Errorf("All: %v, Room: %d, Disk: %v", l, j.Room(), j.Disk())
		}
	}
}

// R4: what is handed in is neither changed nor kept; what is answered is apart, spare room too.
func TestApart(t *testing.T) {
	image := row(20*sector, 0)
	d := loaded(t, image)
	j, _ := journal.Format(d)
	k := empty(20)
	for n, reset := range []bool{false, false, true, false, false} {
		room := row(200, n)
		b := room[:50+n]
		ops, to, _ := k.asked(call{reset, b})
		image := done(d.Image(), ops)
		if e := does(j, call{reset, b}); e != api.OK || !bytes.Equal(room, row(200, n)) {
			t.Fatalf("%v, or the row was changed", e)
		}
		k = to
		clear(room)
		holds(t, "the row is cleared", j, k)
		is(t, "the row is cleared", d, image)
		for _, from := range []*journal.Journal{j, opened(t, "opened", d)} {
			l := from.All()
			for i, b := range l {
				clear(b[:cap(b)])
				if !same(l[i+1:], k.records[i+1:]) {
					t.Fatalf("record %d shares with another one", i)
				}
			}
			clear(l[:cap(l)])
			_ = append(l[:0], row(3, 3))
			tells(t, "the answer is cleared", from, d, k)
		}
		is(t, "the answer is cleared", d, image)
	}
}

// R5: journals of other disks are apart; one that is opened goes on as the one that was there.
func TestOpenedGoesOn(t *testing.T) {
	j, d := formatted(t, 13)
	other, _ := formatted(t, 13)
	k := empty(13)
	for n := range 40 {
		c := call{n%4 == 3, row(n*29%130, n)}
		if n%5 == 2 {
			j = opened(t, "again", d)
		}
		if n%7 == 3 {
			d = d.Crash(nil)
			j = opened(t, "crashed", d)
		}
		k = goes(t, fmt.Sprint("call ", n), j, k, c)
	}
	holds(t, "apart", other, empty(13))
}

// dies does a call of a disk that dies at op n of it, and fails, if anything is not as it should be: the answer, the journal, what the disk was asked up to there.
func dies(t *testing.T, what string, j *journal.Journal, k kept, c call, n int) {
	t.Helper()
	d := j.Disk()
	image, before := d.Image(), d.Ops()
	ops, _, _ := k.asked(c)
	d.Fuse(n)
	if e := does(j, c); e != api.ErrDead || !d.Dead() || d.Ops()-before != n {
		t.Fatalf("%s: %v, %d ops", what, e, d.Ops()-before)
	}
	if !bytes.Equal(d.Image(), done(image, ops[:n])) {
		t.Fatalf("%s: the image is not as it should be", what)
	}
	tells(t, what, j, d, k)
	refuses(t, what+", dead", j, c, api.ErrDead)
	refuses(t, what+", dead", j, call{reset: true}, api.ErrDead)
	closed(t, what+", dead", d, api.ErrDead)
}

// survives fails, if what a death at op n of a call leaves is not a journal as it was, or as it should have become; it answers that one, and what it keeps.
func survives(t *testing.T, what string, dead *disk.Disk, image []byte, k kept, c call, n, choice int) (*journal.Journal, kept) {
	t.Helper()
	ops, to, _ := k.asked(c)
	d := dead.Crash(bitsOf(choice))
	is(t, what, d, left(image, ops, n, choice))
	got, e := reads(d.Image())
	if e != api.OK || !same(got.records, k.records) && !same(got.records, to.records) {
		t.Fatalf("%s: %v: %s, want %s, or %s", what, e, short(got.records), short(k.records), short(to.records))
	}
	j := opened(t, what, d)
	holds(t, what, j, got)
	return j, got
}

// ends are journals of which each is worth a death: halves that are empty, or full, or have what is written over.
func ends() map[string][]byte {
	old := slices.Concat(recordsOf(row(61, 8), row(62, 9)), row(2*sector, 1))
	return map[string][]byte{
		"new":             imageOf(12, headOf(said{1, 0, 0}), nil, nil, nil),
		"new, over old":   imageOf(12, headOf(said{1, 0, 0}), nil, old, old),
		"half 0":          imageOf(12, headOf(said{3, 0, 3}), headOf(said{2, 0, 1}), old, old),
		"half 1":          imageOf(13, headOf(said{3, 0, 3}), headOf(said{4, 1, 1}), old, old),
		"one head":        imageOf(12, row(sector, 0), headOf(said{8, 1, 3}), nil, old),
		"full":            imageOf(12, headOf(said{5, 1, 5}), headOf(said{4, 1, 3}), nil, recordsOf(row(61, 8), row(62, 9), row(70, 1))),
		"other's records": imageOf(12, headOf(said{1 << 32, 1, 1}), headOf(said{1<<32 - 1, 0, 3}), old, old),
	}
}

// P18.4: a death at every op of each Append and Reset, with every choice of what is left; then more, and another death.
func TestDeaths(t *testing.T) {
	calls := []call{{false, nil}, {false, row(61, 3)}, {false, row(70, 4)}, {true, nil}, {true, row(150, 5)}}
	then := []call{{false, row(62, 6)}, {true, row(130, 7)}}
	for name, image := range ends() {
		for i, c := range calls {
			eachDeath(t, fmt.Sprint(name, ", call ", i), image, c, func(what string, j *journal.Journal, k kept) {
				image := j.Disk().Image()
				for i, c := range then {
					eachDeath(t, fmt.Sprint(what, ", then ", i), image, c, nil)
				}
				for i, c := range then {
					k = goes(t, fmt.Sprint(what, ", call ", i), j, k, c)
				}
			})
		}
	}
}

// eachDeath does a call of a journal, with a death at each op, and each choice of what is left; with what is left it goes on by more.
func eachDeath(t *testing.T, what string, image []byte, c call, more func(what string, j *journal.Journal, k kept)) {
	t.Helper()
	k, e := reads(image)
	if e != api.OK {
		t.Fatalf("%s: %v", what, e)
	}
	ops, _, _ := k.asked(c)
	for n := range ops {
		d := loaded(t, image)
		dies(t, fmt.Sprint(what, ", op ", n), opened(t, what, d), k, c, n)
		for choice := range choices(ops, n) {
			what := fmt.Sprint(what, ", op ", n, ", choice ", choice)
			j, got := survives(t, what, d, image, k, c, n, choice)
			if more != nil {
				more(what, j, got)
			}
		}
	}
}

// P18.1, P18.4: a death at every op of a Format, with every choice of what is left: of noughts, of other bytes, of a journal.
func TestDeathsOfFormat(t *testing.T) {
	images := ends()
	images["noughts"], images["other bytes"] = make([]byte, 12*sector), row(12*sector, 0)
	for name, image := range images {
		for n := range formats() {
			what := fmt.Sprint(name, ", op ", n)
			d := loaded(t, image)
			d.Fuse(n)
			if j, e := journal.Format(d); j != nil || e != api.ErrDead || d.Ops() != n {
				t.Fatalf("%s: %v, %v, %d ops", what, j, e, d.Ops())
			}
			if !bytes.Equal(d.Image(), done(image, formats()[:n])) {
				t.Fatalf("%s: the image is not as it should be", what)
			}
			for choice := range choices(formats(), n) {
				what := fmt.Sprint(what, ", choice ", choice)
				c := d.Crash(bitsOf(choice))
				is(t, what, c, left(image, formats(), n, choice))
				agrees(t, what, c.Image())
				j, e := journal.Format(c)
				if e != api.OK {
					t.Fatalf("%s: Format: %v", what, e)
				}
				k := empty(c.Sectors())
				holds(t, what, j, k)
				goes(t, what, j, k, call{b: row(64, 0)})
			}
		}
	}
}

// All of chapter 18: long rows of any calls, with deaths, held against what the chapter says.
func TestAnyCalls(t *testing.T) {
	r := rand.New(rand.NewSource(18))
	for round := range 60 {
		sectors := 6 + r.Intn(30)
		j, _ := formatted(t, sectors)
		k := empty(sectors)
		for n := range 60 {
			what := fmt.Sprint("round ", round, ", call ", n)
			c := call{r.Intn(4) == 0, row(r.Intn(half(sectors)*sector/2+2), r.Intn(255))}
			switch r.Intn(12) {
			case 0:
				c.b = row(k.room()+r.Intn(2), n)
			case 1:
				c.b = row(half(sectors)*sector-3+r.Intn(2), n)
			case 2:
				c.b = row(api.MaxBody+r.Intn(3), n)
			}
			ops, _, e := k.asked(c)
			if e != api.OK || r.Intn(4) > 0 {
				k = goes(t, what, j, k, c)
				continue
			}
			image, at := j.Disk().Image(), r.Intn(len(ops))
			dies(t, what, j, k, c, at)
			j, k = survives(t, what, j.Disk(), image, k, c, at, r.Intn(1<<20))
		}
	}
}
