// Tests of P17.1, of what is asked of names and of handles, of the window, of Boot and Swap, and of the rules.
package state_test

import (
	"fmt"
	"math"
	"reflect"
	"testing"

	"pinstripe/api"
	"pinstripe/note"
	"pinstripe/once"
	"pinstripe/state"
)

// Requests.

func makes(path string) note.Request   { return note.Request{Do: note.Make, Path: path} }
func mkdir(path string) note.Request   { return note.Request{Do: note.Make, Path: path, Dir: true} }
func removes(path string) note.Request { return note.Request{Do: note.Remove, Path: path} }
func rmdir(path string) note.Request   { return note.Request{Do: note.Remove, Path: path, Dir: true} }
func moves(path, to string) note.Request {
	return note.Request{Do: note.Move, Path: path, To: to}
}
func looks(path string) note.Request  { return note.Request{Do: note.Look, Path: path} }
func lists(path string) note.Request  { return note.Request{Do: note.List, Path: path} }
func reads(path string) note.Request  { return note.Request{Do: note.Open, Path: path} }
func writes(path string) note.Request { return note.Request{Do: note.Open, Path: path, Writes: true} }
func maps(handle int) note.Request    { return note.Request{Do: note.Map, Handle: handle} }
func closes(handle int) note.Request {
	return note.Request{Do: note.Commit, Handle: handle, Closes: true}
}
func boots() note.Request {
	return note.Request{Stamp: once.Stamp{Client: cleaner}, Do: note.Boot}
}
func swaps() note.Request {
	return note.Request{Stamp: once.Stamp{Client: cleaner}, Do: note.Swap}
}

// at is a request with a stamp.
func at(client, life, seq int, r note.Request) note.Request {
	r.Stamp = once.Stamp{Client: client, Life: life, Seq: seq}
	return r
}

// is holds a reply against the one that is wanted.
func is(t *testing.T, what string, got, want note.Reply) {
	t.Helper()
	if !alike(got, want) {
		t.Errorf("%s: %+v, want %+v", what, got, want)
	}
}

// The chapter's example.
func TestExample(t *testing.T) {
	x := newTrial(t)
	is(t, "Make", x.applies(at(0, 0, 1, makes("/f"))), note.Reply{Ino: 2})
	is(t, "again", x.applies(at(0, 0, 1, makes("/f"))), note.Reply{Ino: 2})
	is(t, "the next one", x.applies(at(0, 0, 2, makes("/f"))), note.Reply{E: api.ErrThere})
}

// A state that was never asked.
func TestNew(t *testing.T) {
	x := newTrial(t)
	x.isRight("new")
	if b, _ := x.s.Encode(); len(b) != 12+20+1+2+1+2+2 {
		t.Errorf("new: %d bytes", len(b))
	}
	if l := x.s.Tree().Inos(); !reflect.DeepEqual(l, []int{1}) {
		t.Errorf("new: the tree has %v", l)
	}
	if x.s.Waste(api.Stripe{}) || x.s.Life(0) != -1 || x.s.Life(cleaner) != 0 {
		t.Errorf("new: Waste %v, Life %d, %d", x.s.Waste(api.Stripe{}), x.s.Life(0), x.s.Life(cleaner))
	}
	x.decodes()
}

// Each kind of request, from Make to Swap, and what is none.
func TestKinds(t *testing.T) {
	for _, do := range []int{math.MinInt, -1, 0, note.Make, note.Remove, note.Commit, note.Map, note.Moved, note.Boot, note.Swap, note.Swap + 1, 255, math.MaxInt} {
		for client := -1; client < 6; client++ {
			x := newTrial(t)
			x.applies(swaps())
			r := note.Request{Stamp: once.Stamp{Client: client, Seq: 1}, Do: do, Path: "/f"}
			got := x.applies(r)
			none := do < note.Make || do > note.Swap
			if (got.E == api.ErrArg) != none {
				t.Errorf("Do %d of client %d: %v", do, client, got.E)
			}
			if got.E == api.ErrArg && x.s.Clock() != 1 {
				t.Errorf("Do %d of client %d: the clock is %d", do, client, x.s.Clock())
			}
			if want := 1; do != note.Swap && got.Swaps != want {
				t.Errorf("Do %d of client %d: Swaps %d", do, client, got.Swaps)
			}
		}
	}
	x := newTrial(t)
	x.applies(at(1, 5, 5, makes("/f")))
	is(t, "none, of a newer life", x.applies(at(1, 6, 1, note.Request{})), note.Reply{E: api.ErrArg})
	is(t, "none, again", x.applies(at(1, 5, 5, note.Request{Do: note.Swap + 1})), note.Reply{E: api.ErrArg})
	is(t, "Swap of another client, again", x.applies(at(1, 5, 5, note.Request{Do: note.Swap})), note.Reply{E: api.ErrStale})
}

// What names a thing: Make, Look, List, Move, Remove.
func TestNames(t *testing.T) {
	x := newTrial(t)
	is(t, "a directory", x.asks(0, mkdir("/d")), note.Reply{Ino: 2})
	is(t, "a file", x.asks(1, makes("/d/f")), note.Reply{Ino: 3})
	is(t, "a file's Look", x.asks(0, looks("/d/f")), note.Reply{Ino: 3})
	is(t, "a directory's Look", x.asks(0, looks("/d")), note.Reply{Ino: 2, Dir: true})
	is(t, "the root's Look", x.asks(0, looks("/")), note.Reply{Ino: 1, Dir: true})
	is(t, "List", x.asks(0, lists("/d")), note.Reply{Entries: []api.Entry{{Name: "f", Ino: 3}}})
	is(t, "List of the root", x.asks(0, lists("/")), note.Reply{Entries: []api.Entry{{Name: "d", Ino: 2, Dir: true}}})
	is(t, "Move", x.asks(0, moves("/d/f", "/g")), note.Reply{})
	is(t, "List of no name", x.asks(0, lists("/d")), note.Reply{})
	is(t, "Remove", x.asks(0, rmdir("/d")), note.Reply{Ino: 2})
	if x.s.Map(2) != nil || x.s.Map(3) == nil {
		t.Errorf("maps: %v, %v", x.s.Map(2), x.s.Map(3))
	}
	is(t, "a file of a number that was a directory's", x.asks(0, makes("/h")), note.Reply{Ino: 2})
	is(t, "Remove of a file", x.asks(0, removes("/g")), note.Reply{Ino: 3})
	if x.s.Map(2) == nil || x.s.Map(3) != nil {
		t.Errorf("maps: %v, %v", x.s.Map(2), x.s.Map(3))
	}
	x.decodes()
}

// What names are refused with: nothing changes but the clock and the window.
func TestNamesRefused(t *testing.T) {
	for i, c := range []struct {
		r    note.Request
		want api.Errno
	}{
		{makes("/"), api.ErrThere}, {makes("/d"), api.ErrThere}, {makes("x"), api.ErrName}, {makes(""), api.ErrName},
		{makes("/no/f"), api.ErrNone}, {makes("/f/g"), api.ErrFile}, {mkdir("/d/e/"), api.ErrName}, {mkdir("/a-long-name-x"), api.ErrName},
		{removes("/no"), api.ErrNone}, {removes("/"), api.ErrBusy}, {rmdir("/"), api.ErrBusy}, {removes("/f"), api.ErrBusy},
		{rmdir("/f"), api.ErrFile}, {removes("/d"), api.ErrDir}, {rmdir("/d"), api.ErrNotEmpty}, {removes("/f/g"), api.ErrFile},
		{moves("/no", "/n"), api.ErrNone}, {moves("/", "/n"), api.ErrBusy}, {moves("/f", "/d"), api.ErrThere}, {moves("/d", "/d/n"), api.ErrArg},
		{moves("/f", "x"), api.ErrName}, {moves("/f", "/no/n"), api.ErrNone}, {looks("/no"), api.ErrNone}, {looks("//"), api.ErrName},
		{lists("/f"), api.ErrFile}, {lists("/no"), api.ErrNone}, {reads("/no"), api.ErrNone}, {reads("/d"), api.ErrDir}, {writes("/"), api.ErrDir},
		{reads("/f"), api.ErrBusy}, {writes("/f"), api.ErrBusy}, {writes("/g"), api.ErrBusy}, {maps(0), api.ErrOpen}, {maps(-1), api.ErrOpen},
		{maps(4), api.ErrOpen}, {maps(math.MaxInt), api.ErrOpen}, {closes(0), api.ErrOpen}, {closes(-1), api.ErrOpen},
		{note.Request{Do: note.Commit, Handle: math.MinInt, Next: -1}, api.ErrOpen},
	} {
		x := newTrial(t)
		x.asks(0, makes("/f"))
		x.asks(0, makes("/g"))
		x.asks(0, mkdir("/d"))
		x.asks(0, makes("/d/h"))
		x.asks(0, writes("/f"))
		x.asks(0, reads("/g"))
		clock := x.s.Clock()
		c.r.Dir = c.r.Dir || i%2 == 0 && c.r.Do != note.Make && c.r.Do != note.Remove // it counts nowhere else
		is(t, fmt.Sprintf("%+v", c.r), x.asks(1, c.r), note.Reply{E: c.want})
		if x.s.Clock() != clock+1 || x.s.Life(1) != 0 {
			t.Errorf("%+v: clock %d, life %d", c.r, x.s.Clock(), x.s.Life(1))
		}
		x.decodes()
	}
}

// A file that is open can't be removed, but moved; who asks that it be a directory hears that it is none.
func TestBusy(t *testing.T) {
	x := newTrial(t)
	x.asks(0, makes("/f"))
	x.asks(1, reads("/f"))
	x.asks(2, reads("/f"))
	x.wants("Remove of what two have open", 0, removes("/f"), api.ErrBusy)
	x.wants("Remove of it as a directory", 0, rmdir("/f"), api.ErrFile)
	x.wants("Move of it", 0, moves("/f", "/g"), api.OK)
	x.wants("one closes it", 1, closes(0), api.OK)
	x.wants("Remove of what one has open", 2, removes("/g"), api.ErrBusy)
	x.wants("the other closes it", 2, closes(0), api.OK)
	x.wants("Remove of what nobody has open", 2, removes("/g"), api.OK)
}

// Open, Map, and Commit that closes.
func TestHandles(t *testing.T) {
	x := newTrial(t)
	x.asks(0, makes("/f"))
	x.asks(0, makes("/g"))
	empty := []byte{0, 0}
	is(t, "Open", x.asks(0, writes("/g")), note.Reply{Ino: 3, Map: empty})
	for handle := 1; handle < 4; handle++ {
		is(t, "Open of another", x.asks(0, reads("/f")), note.Reply{Ino: 2, Handle: handle, Map: empty})
	}
	is(t, "a handle too many", x.asks(0, reads("/f")), note.Reply{E: api.ErrFull})
	is(t, "Map", x.asks(0, maps(0)), note.Reply{Ino: 3, Map: empty})
	is(t, "Map of another", x.asks(0, maps(3)), note.Reply{Ino: 2, Map: empty})
	is(t, "Map of who has none", x.asks(1, maps(0)), note.Reply{E: api.ErrOpen})
	is(t, "Commit that does not close", x.asks(0, note.Request{Do: note.Commit, Handle: 3}), note.Reply{Ino: 2})
	is(t, "Commit that closes", x.asks(0, closes(1)), note.Reply{Ino: 2})
	is(t, "Map of what was closed", x.asks(0, maps(1)), note.Reply{E: api.ErrOpen})
	is(t, "the least handle", x.asks(0, reads("/f")), note.Reply{Ino: 2, Handle: 1, Map: empty})
	x.decodes()
}

// Stamps: Fresh, Again, Old, Newer, and what may not be.
func TestStamps(t *testing.T) {
	for _, client := range []int{0, 1, api.MaxClients - 1} {
		x := newTrial(t)
		is(t, "the first one", x.applies(at(client, 3, 5, makes("/f"))), note.Reply{Ino: 2})
		is(t, "the same again", x.applies(at(client, 3, 5, makes("/f"))), note.Reply{Ino: 2})
		is(t, "the same again, of another kind", x.applies(at(client, 3, 5, lists("/"))), note.Reply{Ino: 2})
		is(t, "an earlier one", x.applies(at(client, 3, 4, looks("/f"))), note.Reply{E: api.ErrStale})
		is(t, "one of an elder life", x.applies(at(client, 2, 9, looks("/f"))), note.Reply{E: api.ErrStale})
		if x.s.Clock() != 1 {
			t.Errorf("client %d: the clock is %d", client, x.s.Clock())
		}
		is(t, "a later one", x.applies(at(client, 3, 9, writes("/f"))), note.Reply{Ino: 2, Map: []byte{0, 0}})
		is(t, "a refused one", x.applies(at(client, 3, 10, makes("/f"))), note.Reply{E: api.ErrThere})
		is(t, "a refused one again", x.applies(at(client, 3, 10, makes("/g"))), note.Reply{E: api.ErrThere})
		is(t, "the one ahead of it", x.applies(at(client, 3, 9, makes("/g"))), note.Reply{E: api.ErrStale})
		is(t, "of another client", x.applies(at((client+1)%4, 0, 1, maps(0))), note.Reply{E: api.ErrOpen})
		if len(x.s.Tokens()) != 1 {
			t.Errorf("client %d: tokens %v", client, x.s.Tokens())
		}
		is(t, "a newer life", x.applies(at(client, 4, 1, maps(0))), note.Reply{E: api.ErrOpen})
		if len(x.s.Tokens()) != 0 || x.s.Life(client) != 4 || x.s.Clock() != 5 {
			t.Errorf("client %d: tokens %v, life %d, clock %d", client, x.s.Tokens(), x.s.Life(client), x.s.Clock())
		}
		is(t, "of the elder life", x.applies(at(client, 3, 11, maps(0))), note.Reply{E: api.ErrStale})
		is(t, "the last life, the last one", x.applies(at(client, api.MaxLife, api.MaxNumber, maps(0))), note.Reply{E: api.ErrOpen})
		is(t, "it again", x.applies(at(client, api.MaxLife, api.MaxNumber, makes("/g"))), note.Reply{E: api.ErrOpen})
		x.decodes()
	}
}

// Stamps that may not be are stale, and change nothing.
func TestNoStamps(t *testing.T) {
	x := newTrial(t)
	x.applies(at(0, 3, 5, makes("/f")))
	x.applies(at(0, 3, 6, writes("/f")))
	for _, s := range []once.Stamp{
		{}, {Seq: 0, Life: 4}, {Seq: -1, Life: 4}, {Seq: api.MaxNumber + 1, Life: 4}, {Seq: math.MaxInt, Life: 4}, {Seq: math.MinInt, Life: 4},
		{Seq: 7, Life: -1}, {Seq: 7, Life: api.MaxLife + 1}, {Seq: 7, Life: math.MaxInt}, {Seq: 7, Life: math.MinInt},
		{Client: 4, Seq: 7}, {Client: 5, Seq: 7}, {Client: -1, Seq: 7, Life: 4}, {Client: math.MaxInt, Seq: 1}, {Client: math.MinInt, Seq: 1},
	} {
		for do := note.Make; do <= note.Map; do++ {
			is(t, fmt.Sprint(s, do), x.applies(note.Request{Stamp: s, Do: do, Path: "/x", To: "/y"}), note.Reply{E: api.ErrStale})
		}
	}
	if x.s.Clock() != 2 || len(x.s.Tokens()) != 1 {
		t.Errorf("clock %d, tokens %v", x.s.Clock(), x.s.Tokens())
	}
}

// Boot and Swap are the cleaner's, whatever their life and Seq are, and count each time.
func TestBootSwap(t *testing.T) {
	x := newTrial(t)
	x.asks(0, makes("/f"))
	x.asks(0, writes("/f"))
	for _, client := range []int{math.MinInt, -1, 0, 3, 5, math.MaxInt} {
		is(t, fmt.Sprint("Boot of ", client), x.applies(at(client, 0, 3, note.Request{Do: note.Boot})), note.Reply{E: api.ErrStale})
		is(t, fmt.Sprint("Swap of ", client), x.applies(at(client, 0, 3, note.Request{Do: note.Swap})), note.Reply{E: api.ErrStale})
	}
	is(t, "Boot", x.applies(boots()), note.Reply{})
	is(t, "Swap", x.applies(swaps()), note.Reply{Swaps: 1})
	is(t, "Swap again", x.applies(swaps()), note.Reply{Swaps: 2})
	is(t, "Boot of any stamp", x.applies(at(cleaner, -7, math.MaxInt, note.Request{Do: note.Boot, Path: "/f", Dir: true})), note.Reply{Swaps: 2})
	if x.s.Boots() != 2 || x.s.Swaps() != 2 || x.s.Clock() != 6 || x.s.Life(cleaner) != 2 || len(x.s.Tokens()) != 1 {
		t.Errorf("boots %d, swaps %d, clock %d, life %d, tokens %v", x.s.Boots(), x.s.Swaps(), x.s.Clock(), x.s.Life(cleaner), x.s.Tokens())
	}
	if b, seq := x.s.Last(cleaner); len(b) != 0 || seq != 0 {
		t.Errorf("Last of the cleaner: %v, %d", b, seq)
	}
	x.decodes()
}

// Each reply has the swaps; one that comes again has them as they were.
func TestSwapsInReplies(t *testing.T) {
	x := newTrial(t)
	x.applies(swaps())
	is(t, "one that is done", x.asks(0, makes("/f")), note.Reply{Ino: 2, Swaps: 1})
	x.applies(swaps())
	is(t, "one that comes again", x.applies(at(0, 0, 1, makes("/f"))), note.Reply{Ino: 2, Swaps: 1})
	is(t, "one that is refused", x.asks(0, makes("/f")), note.Reply{E: api.ErrThere, Swaps: 2})
	x.applies(swaps())
	is(t, "a refused one that comes again", x.applies(at(0, 0, 2, makes("/f"))), note.Reply{E: api.ErrThere, Swaps: 2})
	is(t, "one that is old", x.applies(at(0, 0, 1, makes("/f"))), note.Reply{E: api.ErrStale, Swaps: 3})
	is(t, "one that is none", x.applies(at(0, 0, 1, note.Request{})), note.Reply{E: api.ErrArg, Swaps: 3})
	is(t, "Boot of a client", x.applies(at(0, 0, 1, note.Request{Do: note.Boot})), note.Reply{E: api.ErrStale, Swaps: 3})
	is(t, "Moved of a client", x.applies(at(0, 0, 3, note.Request{Do: note.Moved})), note.Reply{E: api.ErrStale, Swaps: 3})
}

// A request that comes again answers the same, whatever was done since, and changes nothing.
func TestAgain(t *testing.T) {
	x := newTrial(t)
	x.asks(0, mkdir("/d"))
	x.asks(0, makes("/d/f"))
	for i, r := range []note.Request{makes("/g"), removes("/g"), moves("/d", "/e"), looks("/e/f"), lists("/"), writes("/e/f"), maps(0), closes(0), mkdir("/e"), {Do: note.Commit, Handle: 2}} {
		first := x.asks(0, r)
		x.asks(1, makes(fmt.Sprint("/n", i)))
		b, _ := x.s.Encode()
		r.Stamp = x.m.last[0].Stamp
		for range 2 {
			is(t, fmt.Sprintf("%+v again", r), x.applies(r), first)
		}
		if again, _ := x.s.Encode(); string(again) != string(b) {
			t.Errorf("%+v again: the bytes are others", r)
		}
		d := x.decodes()
		is(t, fmt.Sprintf("%+v again, decoded", r), d.applies(r), first)
	}
}

// As many things as may be, some too deep for a path.
func TestManyAndDeep(t *testing.T) {
	x := newTrial(t)
	deep := ""
	for range 7 {
		deep += "/d"
		x.asks(0, mkdir(deep))
	}
	x.asks(0, mkdir("/e"))
	x.asks(0, makes("/e/f"))
	x.asks(1, reads("/e/f"))
	x.wants("Move", 0, moves("/e", deep+"/e"), api.OK)
	x.wants("Look of what is too deep", 0, looks(deep+"/e/f"), api.ErrName)
	x.decodes().wants("Map of what is too deep", 1, maps(0), api.OK)
	x.wants("Move back", 0, moves(deep+"/e", "/e"), api.OK)
	for i := range api.MaxInodes - 10 {
		x.s.Apply(at(2, 0, i+1, makes(fmt.Sprint("/", i))))
		x.m.apply(at(2, 0, i+1, makes(fmt.Sprint("/", i))))
	}
	x.isRight("full")
	x.wants("one too many", 2, makes("/x"), api.ErrFull)
	is(t, "List of a full root", x.decodes().asks(2, lists("/")), x.asks(2, lists("/")))
}

// R4: what is answered is new memory, what is asked is neither kept nor changed.
func TestApart(t *testing.T) {
	x := newTrial(t)
	x.asks(0, makes("/f"))
	x.asks(0, writes("/f"))
	r := puts(0, 2, 0, 100, 30)
	r.Stripes = append(make([]note.Sized, 0, 9), r.Stripes...)
	r.Deltas = append(make([]api.Delta, 0, 9), r.Deltas...)
	was := fmt.Sprint(r.Stripes[:9], r.Deltas[:9])
	x.asks(0, r)
	if now := fmt.Sprint(r.Stripes[:9], r.Deltas[:9]); now != was {
		t.Errorf("what was asked is changed: %s, was %s", now, was)
	}
	clear(r.Stripes)
	clear(r.Deltas)
	x.isRight("behind what was asked is changed")
	list, open := x.asks(1, lists("/")), x.asks(0, maps(0))
	list.Entries[0].Name = "x"
	clear(open.Map)
	x.isRight("behind replies are changed")
	again := x.applies(at(1, 0, 1, lists("/")))
	again.Entries[0].Name = "x"
	clear(x.s.Stripes())
	clear(x.s.Tokens())
	b, _ := x.s.Last(1)
	clear(b)
	b, _ = x.s.Encode()
	x.s.Tree().Make("/x", true)
	x.s.Map(2).Apply(api.Delta{Do: api.Cut})
	x.isRight("behind answers are changed")
	d, _ := state.Decode(b)
	clear(b)
	(&trial{t, d, x.m.clone()}).isRight("decoded, behind its bytes are changed")
}

// A clone, and what was decoded, are apart from the state, whatever is asked of either.
func TestClone(t *testing.T) {
	start := func() *trial {
		x := newTrial(t)
		x.applies(boots())
		x.asks(0, makes("/f"))
		x.asks(0, writes("/f"))
		x.asks(0, puts(0, 2, 0, 100, 30))
		return x
	}
	for _, change := range []func(x *trial){
		func(x *trial) { x.applies(boots()) },
		func(x *trial) { x.applies(swaps()) },
		func(x *trial) { x.asks(1, makes("/g")) },
		func(x *trial) { x.asks(1, moves("/f", "/g")) },
		func(x *trial) { x.asks(0, closes(0)); x.asks(0, closes(0)) },
		func(x *trial) { x.asks(0, puts(0, 2, 1, 200, 40)) },
		func(x *trial) { x.applies(at(0, 1, 1, removes("/f"))) },
		func(x *trial) { x.applies(copies(1, 0, 2, api.Stripe{Number: 100}, 30)) },
	} {
		for _, apart := range []func(x *trial) *trial{(*trial).clones, (*trial).decodes} {
			x := start()
			c := apart(x)
			change(c)
			x.isRight("behind another is changed")
			d := apart(x)
			change(x)
			d.isRight("behind it is changed")
			c.isRight("behind both are changed")
		}
	}
}

// R7: of nil, and of what no call made.
func TestNone(t *testing.T) {
	for _, s := range []*state.State{nil, {}} {
		for do := -1; do < 13; do++ {
			for client := -1; client < 6; client++ {
				r := note.Request{Stamp: once.Stamp{Client: client, Seq: 1}, Do: do, Path: "/f"}
				is(t, fmt.Sprint("none: Do ", do), s.Apply(r), note.Reply{E: api.ErrDead})
			}
		}
		if b, why := s.Encode(); len(b) != 0 || why != api.ErrDead {
			t.Errorf("none: Encode: %v, %v", b, why)
		}
		b, seq := s.Last(0)
		got := fmt.Sprint(s.Boots(), s.Swaps(), s.Clock(), s.Tree() == nil, s.Map(2) == nil, len(s.Tokens()), len(s.Stripes()), s.Holds(api.Stripe{}), s.Waste(api.Stripe{Life: -5}), s.Life(0), s.Life(cleaner), s.Life(9), len(b), seq, s.Clone() == nil)
		if got != "0 0 0 true true 0 0 false false 0 0 0 0 0 true" {
			t.Errorf("none: %s", got)
		}
	}
}
