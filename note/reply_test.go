// Tests of replies.
package note_test

import (
	"fmt"
	"math"
	"math/rand"
	"slices"
	"strings"
	"testing"

	"pinstripe/api"
	"pinstripe/note"
)

// richReply answers a reply that has something of everything.
func richReply() note.Reply {
	return note.Reply{
		E: api.ErrBusy, Ino: 0x102, Size: 0x304, Handle: 5, Swaps: 0x60708, Dir: true,
		Entries: []api.Entry{{Name: "x", Ino: 0x90a, Dir: true}, {Name: "yz", Ino: 0xb0c}, {Name: "z", Ino: 2, Dir: true}},
		Map:     []byte{1, 2, 3},
	}
}

// bytesOfRichReply is what is written of it.
const bytesOfRichReply = "\x08" + "\x01\x02" + "\x03\x04" + "\x05" + "\x06\x07\x08" + "\x01" +
	"\x00\x03" + "\x00\x01x\x09\x0a\x01" + "\x00\x02yz\x0b\x0c\x00" + "\x00\x01z\x00\x02\x01" +
	"\x00\x03\x01\x02\x03"

// withReply answers a reply that is r, but for what change does to it.
func withReply(r note.Reply, change func(r *note.Reply)) note.Reply {
	r.Entries, r.Map = slices.Clone(r.Entries), slices.Clone(r.Map)
	change(&r)
	return r
}

// replyFields answers all numbers of a reply but E; that of an entry is the i-th one's.
func replyFields(i int) []field[note.Reply] {
	return []field[note.Reply]{
		{"Ino", 2, func(r *note.Reply) *int { return &r.Ino }},
		{"Size", 2, func(r *note.Reply) *int { return &r.Size }},
		{"Handle", 1, func(r *note.Reply) *int { return &r.Handle }},
		{"Swaps", 3, func(r *note.Reply) *int { return &r.Swaps }},
		{"an entry's Ino", 2, func(r *note.Reply) *int { return &r.Entries[i].Ino }},
	}
}

// The chapter's example: all else is zero.
func TestExample(t *testing.T) {
	b, why := note.EncodeReply(note.Reply{E: api.ErrBusy})
	if string(b) != "\x08"+strings.Repeat("\x00", 13) || why != api.OK {
		t.Fatalf("EncodeReply of ErrBusy alone: %q, %v", b, why)
	}
	r, why := note.DecodeReply(b)
	if r.E != api.ErrBusy || why != api.OK || !alikeReply(withReply(r, func(r *note.Reply) { r.E = api.OK }), note.Reply{}) {
		t.Errorf("DecodeReply of ErrBusy alone: %v, %v", r, why)
	}
}

// P16.2: the bytes of a reply, field by field.
func TestEncodeReply(t *testing.T) {
	for _, l := range []struct {
		what string
		r    note.Reply
		want string
	}{
		{"all", richReply(), bytesOfRichReply},
		{"nothing", note.Reply{}, strings.Repeat("\x00", 14)},
		{"the last error", note.Reply{E: api.ErrSyntax}, "\x12" + strings.Repeat("\x00", 13)},
		{"numbers", note.Reply{Ino: 0x7b, Size: 4096, Handle: 3, Swaps: 9}, "\x00\x00\x7b\x10\x00\x03\x00\x00\x09" + strings.Repeat("\x00", 5)},
		{"an entry", note.Reply{Entries: []api.Entry{{Name: "ab", Ino: 128}}}, strings.Repeat("\x00", 10) + "\x00\x01\x00\x02ab\x00\x80\x00\x00\x00"},
		{"a map", note.Reply{Map: []byte{7, 0}}, strings.Repeat("\x00", 12) + "\x00\x02\x07\x00"},
	} {
		if b, why := note.EncodeReply(l.r); string(b) != l.want || why != api.OK {
			t.Errorf("%s: %q, %v, want %q", l.what, b, why, l.want)
		}
		replies.isEncoded(t, l.what, l.r)
	}
}

// Each number at its least, at its most, between; and past either.
func TestReplyNumbers(t *testing.T) {
	for i := range richReply().Entries {
		for _, f := range replyFields(i) {
			replies.hasEdges(t, f, func(change func(r *note.Reply)) note.Reply { return withReply(richReply(), change) })
		}
	}
}

// E at each of the errors, and past them. One past the last is not said to be refused ahead of its reading; one that does not go into a byte is the pen's error.
func TestE(t *testing.T) {
	for _, r := range []note.Reply{{}, richReply()} {
		set := func(x int) note.Reply { return withReply(r, func(r *note.Reply) { r.E = api.Errno(x) }) }
		for x := range 19 {
			replies.isEncoded(t, fmt.Sprint("E ", x), set(x))
		}
		for x := 19; x < 256; x++ {
			b := bytesOfReply(set(x))
			if got, why := note.EncodeReply(set(x)); string(got) != b || why != api.OK {
				t.Errorf("E %d: EncodeReply %q, %v, want %q", x, got, why, b)
			}
			replies.notDecoded(t, fmt.Sprint("E ", x), b, api.ErrForm)
			replies.notDecoded(t, fmt.Sprint("E ", x, ", then nothing"), b[:1], api.ErrForm)
			replies.notDecoded(t, fmt.Sprint("E ", x, ", then bytes left"), b+"\x00", api.ErrForm)
		}
		for _, x := range []int{-1, -2, -256, 256, 257, 264, 1<<32 + 1, math.MinInt, math.MaxInt} {
			replies.notEncoded(t, fmt.Sprint("E ", x), set(x), api.ErrArg)
		}
	}
}

// Names and Maps of no byte, of some, and as long as a message has room for; of any bytes.
func TestNamesAndMaps(t *testing.T) {
	const room = 65536 - 14 // bytes of a message, and those of one that has nothing
	const roomOfName = room - 5
	named := func(s string) note.Reply { return note.Reply{Entries: []api.Entry{{Name: s, Ino: 2}}} }
	mapped := func(n int) note.Reply { return note.Reply{Map: []byte(strings.Repeat("\x00\xff", n/2+1)[:n])} }
	for _, n := range []int{0, 1, 11, 12, 13, 255, 256, 257, 706, 707, 4096, 32767, 32768, roomOfName - 1, roomOfName} {
		replies.isEncoded(t, fmt.Sprint("a name of ", n), named(strings.Repeat("a", n)))
		replies.isEncoded(t, fmt.Sprint("a Map of ", n), mapped(n))
	}
	replies.isEncoded(t, "a Map to the end", mapped(room))
	for _, n := range []int{room + 1, room + 2, 65534, 65535, 65536, 65537, 70000, 1 << 20} {
		replies.notEncoded(t, fmt.Sprint("a name of ", n), named(strings.Repeat("a", n)), api.ErrLong)
		replies.notEncoded(t, fmt.Sprint("a Map of ", n), mapped(n), api.ErrLong)
	}
	replies.notEncoded(t, "a name, a byte too long", named(strings.Repeat("a", roomOfName+1)), api.ErrLong)
	both := named(strings.Repeat("a", roomOfName-1000))
	both.Map = make([]byte, 1000)
	replies.isEncoded(t, "both, to the end", both)
	both.Map = make([]byte, 1001)
	replies.notEncoded(t, "both, a byte too long", both, api.ErrLong)
	for _, s := range []string{"/", ".", "..", "\x00", "\xff\xfe", "\u00e4\u4e16", " \n", strings.Repeat("\x00", 300)} {
		replies.isEncoded(t, fmt.Sprintf("%q", s), withReply(richReply(), func(r *note.Reply) { r.Entries[1].Name, r.Map = s, []byte(s+s) }))
	}
}

// No entry, one, so many, and one more.
func TestMostEntries(t *testing.T) {
	x := api.Entry{Name: "abc", Ino: 2, Dir: true}
	for _, n := range []int{0, 1, 2, 127, 128, 255, 256, 257, most - 1, most} {
		replies.isEncoded(t, fmt.Sprint(n, " entries"), note.Reply{Entries: many(x, n)})
		replies.isEncoded(t, fmt.Sprint(n, " entries without a name"), note.Reply{Entries: make([]api.Entry, n), Map: []byte("ab")})
	}
	for _, n := range []int{most + 1, most + 2, 65535, 65536, 70000} {
		replies.notEncoded(t, fmt.Sprint(n, " entries"), note.Reply{Entries: many(x, n)}, api.ErrLong)
		replies.notEncoded(t, fmt.Sprint(n, " entries without a name"), note.Reply{Entries: make([]api.Entry, n), Map: []byte("ab")}, api.ErrLong)
	}
	long := note.Reply{Entries: many(api.Entry{Name: "abcdefghijk"}, most)}
	long.Map = make([]byte, 65536-len(bytesOfReply(long)))
	replies.isEncoded(t, "just full", long)
	long.Map = append(long.Map, 0)
	replies.notEncoded(t, "a byte too long", long, api.ErrLong)
	replies.notEncoded(t, "long names", note.Reply{Entries: many(api.Entry{Name: "abcdefghijkl"}, most)}, api.ErrLong)
	for _, r := range []note.Reply{{}, {Entries: []api.Entry{}, Map: []byte{}}, {Entries: make([]api.Entry, 0, 9), Map: make([]byte, 0, 9)}} { // nil and an empty list are one
		if b, why := note.EncodeReply(r); string(b) != strings.Repeat("\x00", 14) || why != api.OK {
			t.Errorf("no entry and no Map: %q, %v", b, why)
		}
	}
}

// Of several errors: more than 4,000, then the pen's.
func TestOrderOfReplyErrors(t *testing.T) {
	entries := func(r *note.Reply) { r.Entries = append(r.Entries, make([]api.Entry, most)...) }
	number := func(r *note.Reply) { r.Handle = -1 }
	none := func(r *note.Reply) { r.E = -1 }
	later := func(r *note.Reply) { r.Entries[0].Ino = 65536 }
	name := func(r *note.Reply) { r.Entries[1].Name = strings.Repeat("a", 70000) }
	bytes := func(r *note.Reply) { r.Map = make([]byte, 70000) }
	type change = func(r *note.Reply)
	for _, l := range []struct {
		what    string
		changes []change
		want    api.Errno
	}{
		{"more than 4,000, a number that does not fit", []change{entries, number}, api.ErrLong},
		{"more than 4,000, an E that does not fit", []change{entries, none}, api.ErrLong},
		{"more than 4,000, an entry's number that does not fit", []change{later, entries}, api.ErrLong},
		{"a number that does not fit, then a name too long", []change{number, name}, api.ErrArg},
		{"an E that does not fit, then a Map too long", []change{none, bytes}, api.ErrArg},
		{"an entry's number that does not fit, then a name too long", []change{later, name}, api.ErrArg},
		{"a name too long, then an entry's number that does not fit", []change{name, func(r *note.Reply) { r.Entries[2].Ino = -1 }}, api.ErrLong},
		{"an entry's number that does not fit, then a Map too long", []change{later, bytes}, api.ErrArg},
	} {
		r := richReply()
		for _, c := range l.changes {
			r = withReply(r, c)
		}
		replies.notEncoded(t, l.what, r, l.want)
	}
}

// Each shorter beginning is ErrShort; bytes behind the Map are ErrLong.
func TestShorterAndLongerReplies(t *testing.T) {
	for _, r := range []note.Reply{{}, richReply(), {E: api.ErrSyntax}, {Entries: make([]api.Entry, 3)}, {Map: []byte("abc")}} {
		replies.endsWell(t, r)
	}
	replies.notDecoded(t, "many noughts", strings.Repeat("\x00", 70000), api.ErrLong)
	replies.notDecoded(t, "nothing", "", api.ErrShort)
	if r, why := note.DecodeReply(nil); !alikeReply(r, note.Reply{}) || why != api.ErrShort {
		t.Errorf("nil: %v, %v", r, why)
	}
}

// Numbers of entries and lengths that are more than there is, fewer, or more than may be; a Bool that is none.
func TestDecodeReplyOfCounts(t *testing.T) {
	const head = "\x08\x00\x01\x00\x02\x03\x00\x00\x04"
	const one = "\x00\x01x\x00\x05\x01"
	want := note.Reply{E: api.ErrBusy, Ino: 1, Size: 2, Handle: 3, Swaps: 4}
	replies.isDecoded(t, "no entry", head+"\x00\x00\x00\x00\x00", want)
	want.Entries = []api.Entry{{Name: "x", Ino: 5, Dir: true}}
	replies.isDecoded(t, "one", head+"\x00\x00\x01"+one+"\x00\x00", want)
	want.Entries = many(want.Entries[0], most)
	replies.isDecoded(t, "4,000", head+"\x00\x0f\xa0"+strings.Repeat(one, most)+"\x00\x00", want)
	for _, l := range []wrong{
		{"4,001", head + "\x00\x0f\xa1" + strings.Repeat(one, most+1) + "\x00\x00", api.ErrLong},
		{"4,001, nothing follows", head + "\x00\x0f\xa1", api.ErrLong},
		{"65,535, a Bool that is none follows", head + "\x00\xff\xff\x00\x00\x00\x00\x02", api.ErrLong},
		{"4,000, one is there", head + "\x00\x0f\xa0" + one + "\x00\x00", api.ErrShort},
		{"4,000, the last one is cut", head + "\x00\x0f\xa0" + strings.Repeat(one, most)[:6*most-1], api.ErrShort},
		{"4,000, the last Bool is none", head + "\x00\x0f\xa0" + strings.Repeat(one, most)[:6*most-1] + "\x02", api.ErrForm},
		{"4,000, then bytes left", head + "\x00\x0f\xa0" + strings.Repeat(one, most) + "\x00\x00\x00", api.ErrLong},
		{"two, one is there", head + "\x00\x00\x02" + one + "\x00\x00", api.ErrShort},
		{"none, one is there", head + "\x00\x00\x00" + one + "\x00\x00", api.ErrLong},
		{"half a number of entries", head + "\x00\xff", api.ErrShort},
		{"a name longer than there is", head + "\x00\x00\x01\x00\x06x\x00\x05\x01\x00", api.ErrShort},
		{"a name as long as may be, not there", head + "\x00\x00\x01\xff\xffx", api.ErrShort},
		{"a Map longer than there is", head + "\x00\x00\x00\x00\x02a", api.ErrShort},
		{"a Map as long as may be, not there", head + "\x00\x00\x00\xff\xff", api.ErrShort},
		{"a Map shorter than there is", head + "\x00\x00\x00\x00\x01ab", api.ErrLong},
		{"half a Map's length", head + "\x00\x00\x00\x00", api.ErrShort},
		{"a Dir that is none", head + "\x02\x00\x00\x00\x00", api.ErrForm},
		{"a Dir that is none, then nothing", head + "\xff", api.ErrForm},
		{"a Dir that is none, then too many entries", head + "\x02\xff\xff", api.ErrForm},
		{"an entry's Dir that is none", head + "\x00\x00\x01\x00\x01x\x00\x05\x02\x00\x00", api.ErrForm},
		{"an entry's Dir that is none, then nothing", head + "\x00\x00\x02\x00\x01x\x00\x05\x02", api.ErrForm},
		{"an entry, then half a one", head + "\x00\x00\x02" + one + "\x00\x01x\x00", api.ErrShort},
	} {
		replies.notDecoded(t, l.what, l.b, l.want)
	}
}

// Nothing says that a reader has less room than the message needs: more bytes than a pen writes are read.
func TestDecodeReplyOfMoreThanAPenWrites(t *testing.T) {
	s := strings.Repeat("a", 65535)
	r, why := note.DecodeReply([]byte(strings.Repeat("\x00", 10) + "\x00\x01\xff\xff" + s + "\x00\x02\x01\xff\xff" + s))
	if want := (note.Reply{Entries: []api.Entry{{Name: s, Ino: 2, Dir: true}}, Map: []byte(s)}); !alikeReply(r, want) || why != api.OK {
		t.Errorf("%d entries, %d bytes, %v", len(r.Entries), len(r.Map), why)
	}
}

// Unlike replies have unlike bytes: one field is another one, or what one has is another's.
func TestUnlikeReplies(t *testing.T) {
	r := richReply()
	l := []note.Reply{r, {}}
	add := func(change func(r *note.Reply)) { l = append(l, withReply(r, change)) }
	for i := range r.Entries {
		for j, f := range replyFields(i) {
			if i == 0 || j == 4 { // the first four are no entry's
				add(func(r *note.Reply) { *f.of(r)++ })
			}
		}
		add(func(r *note.Reply) { r.Entries[i].Dir = !r.Entries[i].Dir })
		add(func(r *note.Reply) { r.Entries[i].Name += "\x00" })
	}
	add(func(r *note.Reply) { r.E++ })
	add(func(r *note.Reply) { r.E = api.OK })
	add(func(r *note.Reply) { r.Ino, r.Size = r.Size, r.Ino })
	add(func(r *note.Reply) { r.Dir = false })
	add(func(r *note.Reply) { r.Entries = nil })
	add(func(r *note.Reply) { r.Entries = r.Entries[:1] })
	add(func(r *note.Reply) { r.Entries = r.Entries[1:] })
	add(func(r *note.Reply) { slices.Reverse(r.Entries) })
	add(func(r *note.Reply) { r.Entries[0].Name, r.Entries[1].Name = "", "xyz" })
	add(func(r *note.Reply) { r.Map = nil })
	add(func(r *note.Reply) { r.Map = r.Map[:2] })
	add(func(r *note.Reply) { r.Map = append(r.Map, 0) })
	add(func(r *note.Reply) { r.Map[0] = 2 })
	replies.areUnlike(t, l)
}

// No call changes what it is given, spare room included, nor keeps it; what it answers is nobody else's.
func TestWhatIsGivenOfReplies(t *testing.T) {
	r := richReply()
	entries, bytes := append(slices.Clone(r.Entries), api.Entry{Name: "spare"}), append(slices.Clone(r.Map), 9)
	wasEntries, wasBytes := slices.Clone(entries), slices.Clone(bytes)
	r.Entries, r.Map = entries[:3], bytes[:3]
	b, why := note.EncodeReply(r)
	again, _ := note.EncodeReply(r)
	if why != api.OK || !alikeReply(r, richReply()) || !slices.Equal(entries, wasEntries) || !slices.Equal(bytes, wasBytes) {
		t.Fatalf("EncodeReply: %v, and what it was given is %v", why, r)
	}
	spoil(entries, api.Entry{})
	spoil(bytes, '!')
	spoil(again, '!')
	if string(b) != bytesOfRichReply {
		t.Errorf("behind a write into what EncodeReply was given: %q", b)
	}
	room := []byte(bytesOfRichReply + "spare")
	got, why := note.DecodeReply(room[:len(b)])
	other, _ := note.DecodeReply(room[:len(b)])
	if why != api.OK || string(room) != bytesOfRichReply+"spare" {
		t.Fatalf("DecodeReply: %v, and what it was given is %q", why, room)
	}
	spoil(other.Entries, api.Entry{})
	spoil(other.Map, '!')
	spoil(got.Map[3:], '!')
	if !alikeReply(got, richReply()) || string(room) != bytesOfRichReply+"spare" {
		t.Errorf("behind a write into another answer: %v, %q", got, room)
	}
	spoil(room, '!')
	if !alikeReply(got, richReply()) {
		t.Errorf("behind a write into what DecodeReply was given: %v", got)
	}
}

// Each byte of some replies made each other one.
func TestDecodeReplyOfEachByte(t *testing.T) {
	for _, r := range []note.Reply{{}, richReply(), {E: api.ErrDir, Map: []byte("abcdefgh")}} {
		replies.eachByte(t, r)
	}
}

// anyReply answers a reply that may be.
func anyReply(g *rand.Rand) note.Reply {
	r := note.Reply{E: api.Errno(g.Intn(19)), Dir: g.Intn(2) > 0, Entries: make([]api.Entry, g.Intn(4)), Map: []byte(anyText(g))}
	for i := range max(1, len(r.Entries)) {
		for j, f := range replyFields(i) {
			if j < 4 || len(r.Entries) > 0 {
				*f.of(&r) = anyNumber(g, f.width)
			}
		}
	}
	for i := range r.Entries {
		r.Entries[i].Name, r.Entries[i].Dir = anyText(g), g.Intn(2) > 0
	}
	return r
}

// Any replies, and what is near them.
func TestAnyReplies(t *testing.T) {
	replies.any(t, rand.New(rand.NewSource(17)), anyReply)
}
