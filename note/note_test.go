// Tests of requests.
package note_test

import (
	"fmt"
	"math"
	"math/rand"
	"slices"
	"strings"
	"testing"

	"pinstripe/api"
	"pinstripe/note"
	"pinstripe/once"
)

// stripe answers a stripe of these numbers.
func stripe(client, life, number int) api.Stripe {
	return api.Stripe{Client: client, Life: life, Number: number}
}

// sized answers a stripe of these numbers, and its size.
func sized(client, life, number, size int) note.Sized {
	return note.Sized{Stripe: stripe(client, life, number), Size: size}
}

// Some pointers, and a delta of each kind.
var (
	p    = api.Ptr{Stripe: stripe(1, 0, 5), At: 0, Len: 10}
	q    = api.Ptr{Stripe: stripe(4, 0x10203, 0x4050607), At: 0x1708, Len: 9} // each of its bytes is another one
	put  = api.Delta{Do: api.Put, Ino: 0x7b, Block: 0x2c, Size: 0xd0e, To: q}
	cut  = api.Delta{Do: api.Cut, Ino: 2, Size: 5}
	move = api.Delta{Do: api.Move, Ino: 128, Block: 63, Old: p, To: q}
)

// What is written of them.
const (
	bytesOfP    = "\x01\x00\x00\x00\x00\x00\x00\x05\x00\x00\x0a"
	bytesOfQ    = "\x04\x01\x02\x03\x04\x05\x06\x07\x17\x08\x09"
	bytesOfPut  = "\x01\x00\x7b\x2c\x0d\x0e" + bytesOfQ
	bytesOfCut  = "\x02\x00\x02\x00\x00\x05"
	bytesOfMove = "\x03\x00\x80\x3f\x00\x00" + bytesOfP + bytesOfQ
)

// asks answers a request that has nothing but what it asks for.
func asks(do int) note.Request {
	return note.Request{Do: do}
}

// rich answers a request that has something of everything.
func rich() note.Request {
	return note.Request{
		Stamp: once.Stamp{Client: 1, Life: 0x20304, Seq: 0x5060708}, Do: note.Commit, Path: "/a", To: "/bcd", Dir: true, Closes: true,
		Handle: 0x11, Next: 0x12131415, Swaps: 0x161718,
		Stripes: []note.Sized{sized(0x19, 0x1a1b1c, 0x1d1e1f20, 0x2122), sized(4, 3, 2, 1)},
		Deltas:  []api.Delta{put, cut, move},
	}
}

// bytesOfRich is what is written of it.
const bytesOfRich = "\x01\x02\x03\x04\x05\x06\x07\x08" + "\x07" + "\x00\x02/a" + "\x00\x04/bcd" + "\x01\x00\x01" +
	"\x11" + "\x12\x13\x14\x15" + "\x16\x17\x18" +
	"\x00\x02" + "\x19\x1a\x1b\x1c\x1d\x1e\x1f\x20\x21\x22" + "\x04\x00\x00\x03\x00\x00\x00\x02\x00\x01" +
	"\x00\x03" + bytesOfPut + bytesOfCut + bytesOfMove

// with answers a request that is r, but for what change does to it.
func with(r note.Request, change func(r *note.Request)) note.Request {
	r.Stripes, r.Deltas = slices.Clone(r.Stripes), slices.Clone(r.Deltas)
	change(&r)
	return r
}

// fields answers all numbers of a request but Do; those of a stripe are the i-th one's.
func fields(i int) []field[note.Request] {
	return []field[note.Request]{
		{"Client", 1, func(r *note.Request) *int { return &r.Client }},
		{"Life", 3, func(r *note.Request) *int { return &r.Life }},
		{"Seq", 4, func(r *note.Request) *int { return &r.Seq }},
		{"Handle", 1, func(r *note.Request) *int { return &r.Handle }},
		{"Next", 4, func(r *note.Request) *int { return &r.Next }},
		{"Swaps", 3, func(r *note.Request) *int { return &r.Swaps }},
		{"a stripe's Client", 1, func(r *note.Request) *int { return &r.Stripes[i].Stripe.Client }},
		{"a stripe's Life", 3, func(r *note.Request) *int { return &r.Stripes[i].Stripe.Life }},
		{"a stripe's Number", 4, func(r *note.Request) *int { return &r.Stripes[i].Stripe.Number }},
		{"a stripe's Size", 2, func(r *note.Request) *int { return &r.Stripes[i].Size }},
	}
}

// The kinds are those of the chapter, in its order.
func TestKinds(t *testing.T) {
	kinds := []int{note.Make, note.Remove, note.Move, note.Look, note.List, note.Open, note.Commit, note.Map, note.Moved, note.Boot, note.Swap}
	for i, k := range kinds {
		if k != i+1 {
			t.Errorf("kind %d of the chapter is %d", i+1, k)
		}
	}
}

// P16.1: the bytes of a request, field by field.
func TestEncode(t *testing.T) {
	none := strings.Repeat("\x00", 8)
	for _, l := range []struct {
		what string
		r    note.Request
		want string
	}{
		{"all", rich(), bytesOfRich},
		{"nothing", asks(note.Make), none + "\x01" + strings.Repeat("\x00", 19)},
		{"nothing, the last kind", asks(note.Swap), none + "\x0b" + strings.Repeat("\x00", 19)},
		{"a path", note.Request{Do: note.Look, Path: "/a/b"}, none + "\x04\x00\x04/a/b" + strings.Repeat("\x00", 17)},
		{"another one", note.Request{Do: note.Move, To: "/a/b"}, none + "\x03\x00\x00\x00\x04/a/b" + strings.Repeat("\x00", 15)},
		{"Writes", note.Request{Do: note.Open, Writes: true}, none + "\x06\x00\x00\x00\x00\x00\x01" + strings.Repeat("\x00", 13)},
		{"a stripe", note.Request{Do: note.Moved, Stripes: []note.Sized{sized(4, 1, 2, 6000)}}, none + "\x09" + strings.Repeat("\x00", 15) + "\x00\x01\x04\x00\x00\x01\x00\x00\x00\x02\x17\x70\x00\x00"},
		{"a delta", note.Request{Do: note.Moved, Deltas: []api.Delta{move}}, none + "\x09" + strings.Repeat("\x00", 15) + "\x00\x00\x00\x01" + bytesOfMove},
	} {
		if b, why := note.Encode(l.r); string(b) != l.want || why != api.OK {
			t.Errorf("%s: %q, %v, want %q", l.what, b, why, l.want)
		}
		requests.isEncoded(t, l.what, l.r)
	}
}

// Each number at its least, at its most, between; and past either.
func TestNumbers(t *testing.T) {
	for i := range rich().Stripes {
		for _, f := range fields(i) {
			requests.hasEdges(t, f, func(change func(r *note.Request)) note.Request { return with(rich(), change) })
		}
	}
}

// Do at each of the kinds, at 0 and behind the last.
func TestDo(t *testing.T) {
	for _, r := range []note.Request{asks(0), rich()} {
		for do := 1; do <= 11; do++ {
			requests.isEncoded(t, fmt.Sprint("Do ", do), with(r, func(r *note.Request) { r.Do = do }))
		}
		for _, do := range []int{0, 12, -1, 13, 127, 128, 255, 256, 257, 263, 1<<32 + 1, math.MinInt, math.MaxInt} {
			requests.notEncoded(t, fmt.Sprint("Do ", do), with(r, func(r *note.Request) { r.Do = do }), api.ErrArg)
		}
		for do := range 256 {
			b := bytesOf(with(r, func(r *note.Request) { r.Do = do }))
			if do >= 1 && do <= 11 {
				requests.isDecoded(t, fmt.Sprint("Do ", do), b, with(r, func(r *note.Request) { r.Do = do }))
			} else {
				requests.notDecoded(t, fmt.Sprint("Do ", do), b, api.ErrForm)
			}
		}
	}
}

// All rows of Bools.
func TestBools(t *testing.T) {
	for i := range 8 {
		requests.isEncoded(t, fmt.Sprint("Bools ", i), with(rich(), func(r *note.Request) { r.Dir, r.Writes, r.Closes = i&1 > 0, i&2 > 0, i&4 > 0 }))
	}
	const at = 19 // of Dir in the bytes of rich
	for i := range 3 {
		for c := 2; c < 256; c++ {
			b := []byte(bytesOfRich)
			b[at+i] = byte(c)
			requests.notDecoded(t, fmt.Sprintf("Bool %d is %d", i, c), string(b), api.ErrForm)
		}
	}
}

// Texts of no byte, of some, and as long as a message has room for; of any bytes.
func TestTexts(t *testing.T) {
	const room = 65536 - 28 // bytes of a message, and those of one that has nothing
	for _, n := range []int{0, 1, 12, 103, 104, 105, 255, 256, 257, 4096, 32767, 32768, room - 1, room} {
		s := strings.Repeat("/abcdefghijk", n/12+1)[:n]
		requests.isEncoded(t, fmt.Sprint("a Path of ", n), note.Request{Do: note.Make, Path: s})
		requests.isEncoded(t, fmt.Sprint("a To of ", n), note.Request{Do: note.Make, To: s})
		requests.isEncoded(t, fmt.Sprint("both of ", n/2), note.Request{Do: note.Make, Path: s[:n/2], To: s[:n/2]})
	}
	for _, n := range []int{room + 1, room + 2, 65534, 65535, 65536, 65537, 70000, 1 << 20} {
		s := strings.Repeat("a", n)
		requests.notEncoded(t, fmt.Sprint("a Path of ", n), note.Request{Do: note.Make, Path: s}, api.ErrLong)
		requests.notEncoded(t, fmt.Sprint("a To of ", n), note.Request{Do: note.Make, To: s}, api.ErrLong)
		requests.notEncoded(t, fmt.Sprint("both of ", n), note.Request{Do: note.Make, Path: s, To: s}, api.ErrLong)
	}
	requests.isEncoded(t, "both, to the end", note.Request{Do: note.Make, Path: strings.Repeat("a", room-1000), To: strings.Repeat("b", 1000)})
	requests.notEncoded(t, "both, a byte too many", note.Request{Do: note.Make, Path: strings.Repeat("a", room-1000), To: strings.Repeat("b", 1001)}, api.ErrLong)
	for _, s := range []string{"/", "//", "a", "..", "\x00", "/\x00", "\xff\xfe", "\u00e4\u4e16", "/a/\xc3", " \n", strings.Repeat("\x00", 300)} {
		requests.isEncoded(t, fmt.Sprintf("%q", s), with(rich(), func(r *note.Request) { r.Path, r.To = s, s+s }))
	}
}

// No stripe and no delta, one, so many, and one more.
func TestMost(t *testing.T) {
	s := sized(1, 2, 3, 4)
	for _, n := range []int{0, 1, 2, 255, 256, 257, most - 1, most} {
		requests.isEncoded(t, fmt.Sprint(n, " stripes"), note.Request{Do: note.Commit, Stripes: many(s, n)})
		requests.isEncoded(t, fmt.Sprint(n, " deltas"), note.Request{Do: note.Commit, Deltas: many(cut, n)})
		requests.isEncoded(t, fmt.Sprint(n, " of both"), note.Request{Do: note.Commit, Stripes: many(s, n), Deltas: many(cut, n)})
		requests.isEncoded(t, fmt.Sprint(n, " stripes, 4,000 deltas"), note.Request{Do: note.Commit, Stripes: many(s, n), Deltas: many(cut, most)})
	}
	for _, n := range []int{most + 1, most + 2, 65535, 65536, 70000} {
		requests.notEncoded(t, fmt.Sprint(n, " stripes"), note.Request{Do: note.Commit, Stripes: many(s, n)}, api.ErrLong)
		requests.notEncoded(t, fmt.Sprint(n, " deltas"), note.Request{Do: note.Commit, Deltas: many(cut, n)}, api.ErrLong)
		requests.notEncoded(t, fmt.Sprint(n, " of both"), note.Request{Do: note.Commit, Stripes: many(s, n), Deltas: many(cut, n)}, api.ErrLong)
		requests.notEncoded(t, fmt.Sprint(n, " stripes, a delta"), note.Request{Do: note.Commit, Stripes: many(s, n), Deltas: []api.Delta{cut}}, api.ErrLong)
		requests.notEncoded(t, fmt.Sprint(n, " deltas, a stripe"), note.Request{Do: note.Commit, Stripes: []note.Sized{s}, Deltas: many(cut, n)}, api.ErrLong)
	}
	for _, r := range []note.Request{ // nil and an empty list are one
		{Do: note.Commit},
		{Do: note.Commit, Stripes: []note.Sized{}, Deltas: []api.Delta{}},
		{Do: note.Commit, Stripes: make([]note.Sized, 0, 9)},
	} {
		if b, why := note.Encode(r); string(b) != bytesOf(asks(note.Commit)) || why != api.OK {
			t.Errorf("no stripe and no delta: %q, %v", b, why)
		}
	}
}

// A message that is just full, and one byte too long.
func TestFull(t *testing.T) {
	for _, l := range [][]api.Delta{many(put, 3000), many(move, 2339), append(many(move, 2000), many(cut, 1500)...)} {
		r := note.Request{Do: note.Commit, Deltas: l}
		left := 65536 - len(bytesOf(r))
		if left < 0 {
			t.Fatalf("%d deltas do not go into a message", len(l))
		}
		requests.isEncoded(t, "room left", r)
		r.Path = strings.Repeat("a", left)
		requests.isEncoded(t, "just full", r)
		r.To = "b"
		requests.notEncoded(t, "a byte too long", r, api.ErrLong)
		r.To, r.Stripes = "", []note.Sized{{}}
		requests.notEncoded(t, "a stripe too long", r, api.ErrLong)
	}
	requests.notEncoded(t, "4,000 Moves", note.Request{Do: note.Commit, Deltas: many(move, most)}, api.ErrLong)
	requests.notEncoded(t, "4,000 Puts", note.Request{Do: note.Commit, Deltas: many(put, most)}, api.ErrLong)
}

// strange answers deltas that may not be. The first so many of them can be written all the same, and read so.
func strange() ([]api.Delta, int) {
	other := func(d api.Delta, change func(d *api.Delta)) api.Delta {
		change(&d)
		return d
	}
	l := []api.Delta{{}, {Do: 4, Ino: 2}, {Do: 255, Ino: 2, Size: 5}}
	for _, ino := range []int{0, 1, 129, 65535} {
		l = append(l, other(cut, func(d *api.Delta) { d.Ino = ino }), other(put, func(d *api.Delta) { d.Ino = ino }), other(move, func(d *api.Delta) { d.Ino = ino }))
	}
	for _, block := range []int{64, 255} {
		l = append(l, other(put, func(d *api.Delta) { d.Block = block }), other(move, func(d *api.Delta) { d.Block = block }))
	}
	for _, x := range []api.Ptr{{Stripe: stripe(5, 0, 0), Len: 1}, {Len: 65}, {At: 1}, {At: 5999, Len: 2}} {
		l = append(l, other(put, func(d *api.Delta) { d.To = x }), other(move, func(d *api.Delta) { d.To = x }), other(move, func(d *api.Delta) { d.Old = x }))
	}
	l = append(l, other(cut, func(d *api.Delta) { d.Block = 1 }), other(cut, func(d *api.Delta) { d.Size = 4097 }), other(move, func(d *api.Delta) { d.Size = 1 }))
	fit := len(l)
	return append(l,
		other(put, func(d *api.Delta) { d.Old = p }), // what its kind has no use for
		other(cut, func(d *api.Delta) { d.To = p }),
		other(cut, func(d *api.Delta) { d.Old = p }),
		api.Delta{Do: -1, Ino: 2}, // what does not fit
		api.Delta{Do: 256 + api.Cut, Ino: 2},
		api.Delta{Do: math.MaxInt, Ino: math.MinInt, Block: math.MaxInt, Size: math.MinInt},
		other(cut, func(d *api.Delta) { d.Size = -1 }),
		other(cut, func(d *api.Delta) { d.Ino = 65538 }),
		other(put, func(d *api.Delta) { d.Block = 256 }),
		other(put, func(d *api.Delta) { d.To.At = -1 }),
		other(move, func(d *api.Delta) { d.Old.Client = 256 })), fit
}

// A delta that may not be, at each place: ErrArg of what is written, ErrForm of what is read.
func TestDeltasThatMayNotBe(t *testing.T) {
	l, fit := strange()
	for i, d := range l {
		for _, deltas := range [][]api.Delta{{d}, {d, cut, put}, {move, d, cut}, {put, cut, d}, {d, d}} {
			r := with(rich(), func(r *note.Request) { r.Deltas = deltas })
			requests.notEncoded(t, fmt.Sprint(d), r, api.ErrArg)
			if i < fit {
				requests.notDecoded(t, fmt.Sprint(d), bytesOf(r), api.ErrForm)
			}
		}
	}
}

// Of several errors: Do, then a delta, then more than 4,000, then the pen's.
func TestOrderOfErrors(t *testing.T) {
	no := func(r *note.Request) { r.Do = note.Swap + 1 }
	may := func(r *note.Request) { r.Deltas = append(r.Deltas, api.Delta{}) }
	stripes := func(r *note.Request) { r.Stripes = append(r.Stripes, make([]note.Sized, most)...) }
	deltas := func(r *note.Request) { r.Deltas = append(r.Deltas, many(cut, most)...) }
	number := func(r *note.Request) { r.Client = -1 }
	later := func(r *note.Request) { r.Stripes[0].Size = 65536 }
	text := func(r *note.Request) { r.Path = strings.Repeat("a", 70000) }
	type change = func(r *note.Request)
	for _, l := range []struct {
		what    string
		changes []change
		want    api.Errno
	}{
		{"a Do that is none, more than 4,000 stripes", []change{no, stripes}, api.ErrArg},
		{"a Do that is none, more than 4,000 deltas", []change{no, deltas}, api.ErrArg},
		{"a Do that is none, a text too long", []change{no, text}, api.ErrArg},
		{"a Do that is none, a delta that may not be, more than 4,000 of both", []change{no, may, stripes, deltas}, api.ErrArg},
		{"a delta that may not be, more than 4,000 behind it", []change{may, deltas}, api.ErrArg},
		{"a delta that may not be, more than 4,000 ahead of it", []change{deltas, may}, api.ErrArg},
		{"a delta that may not be, more than 4,000 stripes", []change{may, stripes}, api.ErrArg},
		{"a delta that may not be, a text too long", []change{text, may}, api.ErrArg},
		{"more than 4,000 stripes, a number that does not fit", []change{stripes, number}, api.ErrLong},
		{"more than 4,000 deltas, a number that does not fit", []change{deltas, number}, api.ErrLong},
		{"more than 4,000 stripes, a stripe's number that does not fit", []change{later, stripes}, api.ErrLong},
		{"more than 4,000 deltas, a stripe's number that does not fit", []change{later, deltas}, api.ErrLong},
		{"a number that does not fit, then a text too long", []change{text, number}, api.ErrArg},
		{"a text too long, then a number that does not fit", []change{later, text}, api.ErrLong},
	} {
		r := rich()
		for _, c := range l.changes {
			r = with(r, c)
		}
		requests.notEncoded(t, l.what, r, l.want)
	}
}

// Each shorter beginning is ErrShort; bytes behind the last delta are ErrLong.
func TestShorterAndLonger(t *testing.T) {
	for _, r := range []note.Request{asks(note.Boot), rich(), {Do: note.Look, Path: "/abc"}, {Do: note.Moved, Stripes: many(sized(4, 3, 2, 1), 3)}, {Do: note.Commit, Deltas: []api.Delta{move}}} {
		requests.endsWell(t, r)
	}
	requests.notDecoded(t, "many noughts", strings.Repeat("\x00", 70000), api.ErrForm) // no Do
	requests.notDecoded(t, "nothing", "", api.ErrShort)
	if r, why := note.Decode(nil); !alike(r, note.Request{}) || why != api.ErrShort {
		t.Errorf("nil: %v, %v", r, why)
	}
}

// counted answers the bytes of a request without stripes and deltas ahead of how many there are, then these: so many are told, and they follow.
func counted(stripes int, ofStripes string, deltas int, ofDeltas string) string {
	w := &row{}
	w.num(stripes, 2)
	w.add(ofStripes)
	w.num(deltas, 2)
	w.add(ofDeltas)
	b := bytesOf(asks(note.Commit))
	return b[:len(b)-4] + w.b.String()
}

// A number of stripes or deltas that is more than there are, fewer, or more than may be.
func TestDecodeOfCounts(t *testing.T) {
	const one = "\x04\x00\x00\x03\x00\x00\x00\x02\x00\x01"
	s := []note.Sized{sized(4, 3, 2, 1)}
	requests.isDecoded(t, "one of both", counted(1, one, 1, bytesOfCut), note.Request{Do: note.Commit, Stripes: s, Deltas: []api.Delta{cut}})
	for _, n := range []int{2, 3, 256, 257, most - 1, most} {
		requests.notDecoded(t, fmt.Sprint(n, " deltas, one is there"), counted(1, one, n, bytesOfCut), api.ErrShort)
		requests.notDecoded(t, fmt.Sprint(n, " deltas, none is there"), counted(1, one, n, ""), api.ErrShort)
		requests.notDecoded(t, fmt.Sprint(n, " stripes, one is there"), counted(n, one, 0, ""), api.ErrShort)
	}
	for _, n := range []int{most + 1, most + 2, 4096, 32768, 65535} {
		requests.notDecoded(t, fmt.Sprint(n, " deltas"), counted(1, one, n, bytesOfCut), api.ErrLong)
		requests.notDecoded(t, fmt.Sprint(n, " deltas, nothing follows"), counted(0, "", n, ""), api.ErrLong)
		requests.notDecoded(t, fmt.Sprint(n, " deltas, one that may not be follows"), counted(0, "", n, strings.Repeat("\x00", 6)), api.ErrLong)
		requests.notDecoded(t, fmt.Sprint(n, " stripes"), counted(n, one, 1, bytesOfCut), api.ErrLong)
		requests.notDecoded(t, fmt.Sprint(n, " stripes, half a one follows"), counted(n, one[:5], 0, "")[:31], api.ErrLong)
	}
	requests.isDecoded(t, "4,000 stripes", counted(most, strings.Repeat(one, most), 0, ""), note.Request{Do: note.Commit, Stripes: many(s[0], most)})
	requests.notDecoded(t, "4,001 stripes, all there", counted(most+1, strings.Repeat(one, most+1), 0, ""), api.ErrLong)
	requests.isDecoded(t, "4,000 deltas", counted(0, "", most, strings.Repeat(bytesOfCut, most)), note.Request{Do: note.Commit, Deltas: many(cut, most)})
	requests.notDecoded(t, "4,001 deltas, all there", counted(0, "", most+1, strings.Repeat(bytesOfCut, most+1)), api.ErrLong)
	requests.notDecoded(t, "one delta, two are there", counted(0, "", 1, bytesOfCut+bytesOfPut), api.ErrLong)
	requests.notDecoded(t, "no delta, one is there", counted(1, one, 0, bytesOfCut), api.ErrLong)
	requests.notDecoded(t, "4,000 deltas, and the last one is cut", strings.TrimSuffix(counted(0, "", most, strings.Repeat(bytesOfCut, most)), "\x05"), api.ErrShort)
	requests.notDecoded(t, "4,000 deltas, and the last one may not be", counted(0, "", most, strings.Repeat(bytesOfCut, most-1)+"\x02\x00\x01\x00\x00\x05"), api.ErrForm)
}

// A text's length that is more than there is.
func TestDecodeOfLongTexts(t *testing.T) {
	b := bytesOf(asks(note.Make))
	for _, n := range []int{20, 255, 256, 65508, 65509, 65534, 65535} {
		long := string([]byte{byte(n >> 8), byte(n)})
		requests.notDecoded(t, fmt.Sprint("a Path of ", n), b[:9]+long+b[11:], api.ErrShort)
		requests.notDecoded(t, fmt.Sprint("a To of ", n), b[:11]+long+b[13:], api.ErrShort)
	}
}

// Nothing says that a reader has less room than the message needs: more bytes than a pen writes are read.
func TestDecodeOfMoreThanAPenWrites(t *testing.T) {
	b := bytesOf(asks(note.Commit))
	s := strings.Repeat("a", 65535)
	r, why := note.Decode([]byte(b[:9] + "\xff\xff" + s + "\xff\xff" + s + b[13:26] + "\x0f\xa0" + strings.Repeat(bytesOfMove, most)))
	if want := (note.Request{Do: note.Commit, Path: s, To: s, Deltas: many(move, most)}); !alike(r, want) || why != api.OK {
		t.Errorf("%d, %d, %d deltas, %v", len(r.Path), len(r.To), len(r.Deltas), why)
	}
}

// Of several that are not so, the one that a reader meets first.
func TestFirstOfTwo(t *testing.T) {
	const head = "\x01\x00\x00\x02\x00\x00\x00\x03" // Client, Life, Seq
	const rest = "\x00\x02/a\x00\x00"               // Path, To
	const numbers = "\x00\x00\x00\x00\x00\x00\x00\x00"
	for _, l := range []wrong{
		{"no Do", head, api.ErrShort},
		{"a Do that is none, then nothing", head + "\x00", api.ErrForm},
		{"a Do behind the last, then nothing", head + "\x0c", api.ErrForm},
		{"a Do that is none, then half a text", head + "\xff\x00\x02/", api.ErrForm},
		{"a Do that is none, then a Bool that is none", head + "\x0c" + rest + "\x02", api.ErrForm},
		{"a Do that is none, then too many stripes", head + "\x0c" + rest + "\x00\x00\x00" + numbers + "\xff\xff", api.ErrForm},
		{"half a text", head + "\x01\x00\x02/", api.ErrShort},
		{"a text that takes what is there", head + "\x01\x00\x04/a\x00\x00", api.ErrShort},
		{"a Bool that is none, then nothing", head + "\x01" + rest + "\x02", api.ErrForm},
		{"a Bool, then one that is none, then nothing", head + "\x01" + rest + "\x01\xff", api.ErrForm},
		{"two Bools, then one that is none, then nothing", head + "\x01" + rest + "\x01\x00\x03", api.ErrForm},
		{"a Bool that is none, then too many stripes", head + "\x01" + rest + "\x00\x00\x02" + numbers + "\xff\xff", api.ErrForm},
		{"too many stripes, then nothing", head + "\x01" + rest + "\x00\x00\x00" + numbers + "\x0f\xa1", api.ErrLong},
		{"too many stripes, then too many deltas", head + "\x01" + rest + "\x00\x00\x00" + numbers + "\x0f\xa1\x0f\xa1", api.ErrLong},
		{"half a number of stripes", head + "\x01" + rest + "\x00\x00\x00" + numbers + "\xff", api.ErrShort},
		{"half a stripe", head + "\x01" + rest + "\x00\x00\x00" + numbers + "\x00\x01\xff\xff\xff\xff\xff\xff\xff\xff\xff", api.ErrShort},
		{"too many deltas, then one that may not be", head + "\x01" + rest + "\x00\x00\x00" + numbers + "\x00\x00\x0f\xa1\x00\x00\x00\x00\x00\x00", api.ErrLong},
		{"half a number of deltas", head + "\x01" + rest + "\x00\x00\x00" + numbers + "\x00\x00\xff", api.ErrShort},
		{"a delta that may not be, then none", head + "\x01" + rest + "\x00\x00\x00" + numbers + "\x00\x00\x00\x02\x00\x00\x00\x00\x00\x00", api.ErrForm},
		{"a delta that may not be, and is cut", head + "\x01" + rest + "\x00\x00\x00" + numbers + "\x00\x00\x00\x02\x00\x00\x00\x00\x00", api.ErrShort},
		{"a delta that may not be, then bytes left", head + "\x01" + rest + "\x00\x00\x00" + numbers + "\x00\x00\x00\x01\x00\x00\x00\x00\x00\x00\x00", api.ErrForm},
		{"a delta, then half a one", head + "\x01" + rest + "\x00\x00\x00" + numbers + "\x00\x00\x00\x02" + bytesOfCut + "\x02", api.ErrShort},
		{"bytes left", head + "\x01" + rest + "\x00\x00\x00" + numbers + "\x00\x00\x00\x00\x00", api.ErrLong},
	} {
		requests.notDecoded(t, l.what, l.b, l.want)
	}
}

// Unlike requests have unlike bytes: one field is another one, or what one has is another's.
func TestUnlike(t *testing.T) {
	r := rich()
	l := []note.Request{r}
	add := func(change func(r *note.Request)) { l = append(l, with(r, change)) }
	for i := range r.Stripes {
		for j, f := range fields(i) {
			if i == 0 || j >= 6 { // the first six are no stripe's
				add(func(r *note.Request) { *f.of(r)++ })
			}
		}
	}
	add(func(r *note.Request) { r.Do++ })
	add(func(r *note.Request) { r.Path = "" })
	add(func(r *note.Request) { r.Path = "/a/" })
	add(func(r *note.Request) { r.Path, r.To = r.To, r.Path })
	add(func(r *note.Request) { r.Path, r.To = r.Path+r.To, "" })
	add(func(r *note.Request) { r.To = "/bce" })
	add(func(r *note.Request) { r.To = "" })
	add(func(r *note.Request) { r.Dir = false })
	add(func(r *note.Request) { r.Writes = true })
	add(func(r *note.Request) { r.Closes = false })
	add(func(r *note.Request) { r.Dir, r.Writes = false, true })
	add(func(r *note.Request) { r.Stripes = nil })
	add(func(r *note.Request) { r.Stripes = r.Stripes[:1] })
	add(func(r *note.Request) { r.Stripes = r.Stripes[1:] })
	add(func(r *note.Request) { r.Stripes[0], r.Stripes[1] = r.Stripes[1], r.Stripes[0] })
	add(func(r *note.Request) { r.Stripes = append(r.Stripes, r.Stripes[0]) })
	add(func(r *note.Request) { r.Deltas = nil })
	add(func(r *note.Request) { r.Deltas = r.Deltas[:2] })
	add(func(r *note.Request) { r.Deltas = r.Deltas[1:] })
	add(func(r *note.Request) { slices.Reverse(r.Deltas) })
	add(func(r *note.Request) { r.Deltas[2].Old, r.Deltas[2].To = r.Deltas[2].To, r.Deltas[2].Old })
	add(func(r *note.Request) { r.Deltas[0].Block++ })
	add(func(r *note.Request) { r.Deltas[1].Size++ })
	requests.areUnlike(t, l)
}

// No call changes what it is given, spare room included, nor keeps it; what it answers is nobody else's.
func TestWhatIsGiven(t *testing.T) {
	r := rich()
	stripes, deltas := append(slices.Clone(r.Stripes), sized(9, 9, 9, 9)), append(slices.Clone(r.Deltas), cut)
	wasStripes, wasDeltas := slices.Clone(stripes), slices.Clone(deltas)
	r.Stripes, r.Deltas = stripes[:2], deltas[:3]
	b, why := note.Encode(r)
	again, _ := note.Encode(r)
	if why != api.OK || !alike(r, rich()) || !slices.Equal(stripes, wasStripes) || !slices.Equal(deltas, wasDeltas) {
		t.Fatalf("Encode: %v, and what it was given is %v", why, r)
	}
	spoil(stripes, note.Sized{})
	spoil(deltas, api.Delta{})
	spoil(again, '!')
	if string(b) != bytesOfRich {
		t.Errorf("behind a write into what Encode was given: %q", b)
	}
	room := []byte(bytesOfRich + "spare")
	got, why := note.Decode(room[:len(b)])
	other, _ := note.Decode(room[:len(b)])
	if why != api.OK || string(room) != bytesOfRich+"spare" {
		t.Fatalf("Decode: %v, and what it was given is %q", why, room)
	}
	spoil(room, '!')
	spoil(other.Stripes, note.Sized{})
	spoil(other.Deltas, api.Delta{})
	if !alike(got, rich()) {
		t.Errorf("behind a write into what Decode was given: %v", got)
	}
	spoil(got.Stripes, note.Sized{})
	if !slices.Equal(got.Deltas, rich().Deltas) {
		t.Errorf("behind a write into the stripes: %v", got.Deltas)
	}
}

// Each byte of some requests made each other one.
func TestDecodeOfEachByte(t *testing.T) {
	for _, r := range []note.Request{asks(note.Swap), rich(), {Do: note.Make, Path: "/a", Dir: true}} {
		requests.eachByte(t, r)
	}
}

// anyRequest answers a request that may be.
func anyRequest(g *rand.Rand) note.Request {
	r := note.Request{Do: 1 + g.Intn(11), Path: anyText(g), To: anyText(g), Dir: g.Intn(2) > 0, Writes: g.Intn(2) > 0, Closes: g.Intn(2) > 0}
	r.Stripes = make([]note.Sized, g.Intn(4))
	for i := range max(1, len(r.Stripes)) {
		for j, f := range fields(i) {
			if j < 6 || len(r.Stripes) > 0 {
				*f.of(&r) = anyNumber(g, f.width)
			}
		}
	}
	for range g.Intn(4) {
		d := []api.Delta{put, cut, move}[g.Intn(3)]
		d.Ino = 2 + g.Intn(127)
		r.Deltas = append(r.Deltas, d)
	}
	return r
}

// Any requests, and what is near them.
func TestAnyRequests(t *testing.T) {
	requests.any(t, rand.New(rand.NewSource(16)), anyRequest)
}

// Any requests of which numbers, a Do or a delta may not be: held against what is to be told.
func TestAnyStrangeRequests(t *testing.T) {
	g := rand.New(rand.NewSource(61))
	deltas, _ := strange()
	count := map[api.Errno]int{}
	for range 20000 {
		r := anyRequest(g)
		for range g.Intn(3) {
			switch g.Intn(5) {
			case 0:
				f := fields(0)[g.Intn(6)]
				*f.of(&r) = strangers(f.width)[g.Intn(8)]
			case 1:
				r.Do = g.Intn(20) - 4
			case 2:
				r.Deltas = append(r.Deltas, deltas[g.Intn(len(deltas))])
			case 3:
				r.Path = strings.Repeat("a", 65500+g.Intn(50))
			case 4:
				if len(r.Stripes) > 0 {
					f := fields(len(r.Stripes) - 1)[6+g.Intn(4)]
					*f.of(&r) = strangers(f.width)[g.Intn(8)]
				}
			}
		}
		_, why := form(r)
		count[why]++
		if why == api.OK {
			requests.isEncoded(t, "any", r)
		} else {
			requests.notEncoded(t, "any", r, why)
		}
	}
	enough(t, count, api.OK, api.ErrArg, api.ErrLong)
}
