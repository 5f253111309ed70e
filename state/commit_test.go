// Tests of P17.1 to P17.3, of what changes stripes.
package state_test

import (
	"fmt"
	"math"
	"slices"
	"testing"

	"pinstripe/api"
	"pinstripe/note"
	"pinstripe/once"
	"pinstripe/state"
)

// ptr is a pointer to a stripe's bytes.
func ptr(x api.Stripe, at, size int) api.Ptr {
	return api.Ptr{Stripe: x, At: at, Len: size}
}

// put is a delta of a block that ends with its file.
func put(ino, block int, to api.Ptr) api.Delta {
	return api.Delta{Do: api.Put, Ino: ino, Block: block, Size: block*api.Block + max(to.Len, 1), To: to}
}

// cut is a delta that says a file's size.
func cut(ino, size int) api.Delta {
	return api.Delta{Do: api.Cut, Ino: ino, Size: size}
}

// move is a delta of a block that was copied.
func move(ino, block int, old, to api.Ptr) api.Delta {
	return api.Delta{Do: api.Move, Ino: ino, Block: block, Old: old, To: to}
}

// mine is a client's stripe of its life 0.
func mine(client, number int) api.Stripe {
	return api.Stripe{Client: client, Number: number}
}

// sized is a stripe that comes.
func sized(x api.Stripe, size int) note.Sized {
	return note.Sized{Stripe: x, Size: size}
}

// commits is a Commit, by handle 0, of one stripe.
func commits(x api.Stripe, size int, l ...api.Delta) note.Request {
	return note.Request{Do: note.Commit, Next: x.Number + 1, Stripes: []note.Sized{sized(x, size)}, Deltas: l}
}

// puts is a Commit, by handle 0, of one block in one stripe of a client's life 0.
func puts(client, ino, block, number, size int) note.Request {
	x := mine(client, number)
	return commits(x, size, put(ino, block, ptr(x, 0, size)))
}

// movesTo is a Moved of one stripe of the cleaner.
func movesTo(x api.Stripe, size int, l ...api.Delta) note.Request {
	r := commits(x, size, l...)
	r.Do, r.Stamp = note.Moved, once.Stamp{Client: cleaner, Life: x.Life}
	return r
}

// copies is a Moved of a file's block 0, all of a stripe, to one of the cleaner.
func copies(life, number, ino int, from api.Stripe, size int) note.Request {
	x := api.Stripe{Client: cleaner, Life: life, Number: number}
	return movesTo(x, size, move(ino, 0, ptr(from, 0, size), ptr(x, 0, size)))
}

// desk is a trial in which the cleaner is of life 1, client 0 writes file 2 by handle 0, and reads file 3 by handle 1; its next is 5.
func desk(t *testing.T) *trial {
	x := newTrial(t)
	x.applies(boots())
	x.asks(0, makes("/f"))
	x.asks(0, writes("/f"))
	x.asks(0, makes("/g"))
	x.asks(0, reads("/g"))
	x.wants("the first stripe", 0, puts(0, 2, 0, 4, 10), api.OK)
	return x
}

// hasStripes holds the stripes against those that are wanted.
func (x *trial) hasStripes(what string, want ...state.Use) {
	x.t.Helper()
	if got := x.s.Stripes(); !slices.Equal(got, want) {
		x.t.Errorf("%s: stripes %v, want %v", what, got, want)
	}
}

// refusesCommit holds what a Commit of client 0 says: it changes the clock and the window alone.
func refusesCommit(t *testing.T, what string, r note.Request, want api.Errno) {
	t.Helper()
	x := desk(t)
	before := x.m.clone()
	is(t, what, x.asks(0, r), note.Reply{E: want})
	before.clock++
	before.last[0] = x.m.last[0]
	if b, _ := x.s.Encode(); string(b) != string(before.bytes()) {
		t.Errorf("%s: more is changed than the clock and the window", what)
	}
}

// takesCommit holds what a Commit of client 0 says.
func takesCommit(t *testing.T, what string, r note.Request, want note.Reply) *trial {
	t.Helper()
	x := desk(t)
	is(t, what, x.asks(0, r), want)
	x.decodes()
	return x
}

// A stripe, its Size, what of it is Live, and when it was Born.
func TestCommit(t *testing.T) {
	x := desk(t)
	first := state.Use{Stripe: mine(0, 4), Size: 10, Live: 10, Born: 6}
	x.hasStripes("the first one", first)
	y := mine(0, 5)
	r := commits(y, 200, put(2, 1, ptr(y, 0, 64)), put(2, 3, ptr(y, 100, 8)), cut(2, 230))
	is(t, "two blocks in one", x.asks(0, r), note.Reply{Ino: 2, Size: 230})
	x.hasStripes("two", first, state.Use{Stripe: y, Size: 200, Live: 72, Born: 7})
	m := x.s.Map(2)
	if m.Size() != 230 || m.At(0) != ptr(mine(0, 4), 0, 10) || m.At(1) != ptr(y, 0, 64) || m.At(2) != (api.Ptr{}) || m.At(3) != ptr(y, 100, 8) {
		t.Errorf("map %v", m)
	}
	is(t, "Look", x.asks(1, looks("/f")), note.Reply{Ino: 2, Size: 230})
	is(t, "Map", x.asks(0, maps(0)), note.Reply{Ino: 2, Size: 230, Map: mapBytes(m)})
	is(t, "Commit of nothing", x.asks(0, note.Request{Do: note.Commit, Next: 6}), note.Reply{Ino: 2, Size: 230})
	is(t, "Commit of a reader", x.asks(0, note.Request{Do: note.Commit, Handle: 1, Next: 6, Closes: true}), note.Reply{Ino: 3})
	r = commits(mine(0, 6), 5, put(2, 0, ptr(mine(0, 6), 0, 5)), cut(2, 5))
	r.Closes = true
	is(t, "Commit that closes", x.asks(0, r), note.Reply{Ino: 2, Size: 5})
	x.hasStripes("one", state.Use{Stripe: mine(0, 6), Size: 5, Live: 5, Born: 12})
	if len(x.s.Tokens()) != 0 {
		t.Errorf("tokens %v", x.s.Tokens())
	}
	is(t, "Open", x.asks(1, reads("/f")), note.Reply{Ino: 2, Size: 5, Map: mapBytes(x.s.Map(2))})
	x.decodes()
}

// Who has no such handle, does not write, or knows of another number of swaps.
func TestCommitOfWho(t *testing.T) {
	good := puts(0, 2, 0, 5, 10)
	takesCommit(t, "good", good, note.Reply{Ino: 2, Size: 10})
	for _, handle := range []int{2, 3, 4, -1, math.MaxInt, math.MinInt} {
		r := good
		r.Handle = handle
		refusesCommit(t, fmt.Sprint("handle ", handle), r, api.ErrOpen)
	}
	r := puts(0, 3, 0, 5, 10)
	r.Handle = 1
	refusesCommit(t, "a reader", r, api.ErrFile)
	refusesCommit(t, "a reader of stripes alone", note.Request{Do: note.Commit, Handle: 1, Next: 6, Stripes: r.Stripes}, api.ErrFile)
	refusesCommit(t, "a reader of deltas alone", note.Request{Do: note.Commit, Handle: 1, Next: 6, Deltas: []api.Delta{cut(3, 0)}}, api.ErrFile)
	for _, swaps := range []int{1, -1, math.MaxInt, math.MinInt} {
		r := good
		r.Swaps = swaps
		refusesCommit(t, fmt.Sprint("swaps ", swaps), r, api.ErrLost)
		takesCommit(t, "swaps of no stripe", note.Request{Do: note.Commit, Next: 5, Swaps: swaps, Deltas: []api.Delta{cut(2, 70)}}, note.Reply{Ino: 2, Size: 70})
	}
	x := desk(t)
	x.applies(swaps())
	is(t, "a server was replaced", x.asks(0, good), note.Reply{E: api.ErrLost, Swaps: 1})
	r = good
	r.Swaps = 1
	is(t, "behind that", x.asks(0, r), note.Reply{Ino: 2, Size: 10, Swaps: 1})
}

// A Stripe's names and Size, at their ends and one past them.
func TestCommitOfStripes(t *testing.T) {
	for what, change := range map[string]func(r *note.Request){
		"another client's":   func(r *note.Request) { r.Stripes[0].Stripe.Client = 1 },
		"the cleaner's":      func(r *note.Request) { r.Stripes[0].Stripe.Client = cleaner },
		"of a client below":  func(r *note.Request) { r.Stripes[0].Stripe.Client = -1 },
		"of a newer life":    func(r *note.Request) { r.Stripes[0].Stripe.Life = 1 },
		"of an elder life":   func(r *note.Request) { r.Stripes[0].Stripe.Life = -1 },
		"below its next":     func(r *note.Request) { r.Stripes[0].Stripe.Number = 4 },
		"far below its next": func(r *note.Request) { r.Stripes[0].Stripe.Number = math.MinInt },
		"at Next":            func(r *note.Request) { r.Stripes[0].Stripe.Number = 8 },
		"far past Next":      func(r *note.Request) { r.Stripes[0].Stripe.Number = math.MaxInt },
		"no byte":            func(r *note.Request) { r.Stripes[0].Size = 0 },
		"a byte less":        func(r *note.Request) { r.Stripes[0].Size = -1 },
		"a byte too many":    func(r *note.Request) { r.Stripes[0].Size = most + 1 },
		"far too many":       func(r *note.Request) { r.Stripes[0].Size = math.MaxInt },
		"twice":              func(r *note.Request) { r.Stripes[1] = r.Stripes[0] },
		"twice, of unlike sizes": func(r *note.Request) {
			r.Stripes[1].Stripe, r.Stripes[1].Size = r.Stripes[0].Stripe, 11
		},
	} {
		for _, deltas := range [][]api.Delta{nil, {cut(2, 9)}} {
			r := note.Request{Do: note.Commit, Next: 8, Deltas: deltas, Stripes: []note.Sized{sized(mine(0, 6), 10), sized(mine(0, 7), 10)}}
			takesCommit(t, what, r, note.Reply{Ino: 2, Size: 10 - len(deltas)})
			change(&r)
			refusesCommit(t, what, r, api.ErrForm)
			slices.Reverse(r.Stripes)
			refusesCommit(t, what+", the last one", r, api.ErrForm)
		}
	}
	for _, number := range []int{5, 6, 7} {
		for _, size := range []int{1, 2, most - 1, most} {
			y := mine(0, number)
			r := commits(y, size, put(2, 0, ptr(y, size-1, 1)))
			r.Next = 8
			x := takesCommit(t, fmt.Sprint("number ", number, " size ", size), r, note.Reply{Ino: 2, Size: 10})
			x.hasStripes("one", state.Use{Stripe: y, Size: size, Live: 1, Born: 7})
		}
	}
	r := note.Request{Do: note.Commit, Next: 9}
	for _, number := range []int{8, 5, 7} { // in any order
		y := mine(0, number)
		r.Stripes = append(r.Stripes, sized(y, 10))
		r.Deltas = append(r.Deltas, put(2, number, ptr(y, 0, 10)))
	}
	x := takesCommit(t, "three", r, note.Reply{Ino: 2, Size: 8*64 + 10})
	for i, number := range []int{4, 5, 7, 8} {
		if got := x.s.Stripes()[i].Stripe; got != mine(0, number) {
			t.Errorf("stripe %d: %v", i, got)
		}
	}
}

// Next, at its ends and one past them; whether there are stripes or not, whoever asks.
func TestNext(t *testing.T) {
	for _, handle := range []int{0, 1} {
		for next, want := range map[int]api.Errno{
			math.MinInt: api.ErrForm, -1: api.ErrForm, 0: api.ErrForm, 4: api.ErrForm, 5: api.OK, 6: api.OK, api.MaxNumber: api.OK,
			api.MaxNumber + 1: api.OK, api.MaxNumber + 2: api.ErrForm, math.MaxInt: api.ErrForm,
		} {
			r := note.Request{Do: note.Commit, Handle: handle, Next: next, Closes: true}
			what := fmt.Sprint("handle ", handle, " Next ", next)
			if want != api.OK {
				refusesCommit(t, what, r, want)
				continue
			}
			x := takesCommit(t, what, r, note.Reply{Ino: 2 + handle, Size: 10 - 10*handle})
			if !x.s.Waste(mine(0, next-1)) && next != 5 || x.s.Waste(mine(0, next)) {
				t.Errorf("%s: Waste", what)
			}
		}
	}
	x := desk(t)
	y := mine(0, api.MaxNumber)
	x.wants("the last Number", 0, commits(y, 1, put(2, 0, ptr(y, 0, 1))), api.OK)
	x.wants("no Number is left", 0, note.Request{Do: note.Commit, Next: api.MaxNumber + 1}, api.OK)
	y.Number++
	x.wants("a Number too great", 0, commits(y, 1), api.ErrForm)
	x.applies(at(0, 1, 1, writes("/f")))
	y = api.Stripe{Life: 1}
	is(t, "a new life begins anew", x.asks(0, commits(y, 1, put(2, 0, ptr(y, 0, 1)))), note.Reply{Ino: 2, Size: 10})
}

// Deltas of each kind, and where they may point.
func TestCommitOfDeltas(t *testing.T) {
	y, z := mine(0, 5), mine(0, 6)
	all := []note.Sized{sized(y, 100), sized(z, 64)}
	for what, c := range map[string]struct {
		d    []api.Delta
		want note.Reply
	}{
		"none":                        {nil, note.Reply{Ino: 2, Size: 10}},
		"Cut":                         {[]api.Delta{cut(2, 4096)}, note.Reply{Ino: 2, Size: 4096}},
		"Cut to nothing":              {[]api.Delta{cut(2, 0)}, note.Reply{Ino: 2}},
		"Put":                         {[]api.Delta{put(2, 63, ptr(y, 0, 64))}, note.Reply{Ino: 2, Size: 4096}},
		"Put of noughts":              {[]api.Delta{put(2, 0, api.Ptr{})}, note.Reply{Ino: 2, Size: 10}},
		"Put at the other's end":      {[]api.Delta{put(2, 0, ptr(z, 0, 64))}, note.Reply{Ino: 2, Size: 64}},
		"Put at the end":              {[]api.Delta{put(2, 0, ptr(y, 99, 1))}, note.Reply{Ino: 2, Size: 10}},
		"Put that is not done":        {[]api.Delta{{Do: api.Put, Ino: 2, Block: 1, Size: 64, To: ptr(y, 0, 1)}}, note.Reply{Ino: 2, Size: 10}},
		"Put, Cut":                    {[]api.Delta{put(2, 1, ptr(y, 0, 1)), cut(2, 7)}, note.Reply{Ino: 2, Size: 7}},
		"Cut, Put":                    {[]api.Delta{cut(2, 7), put(2, 1, ptr(y, 0, 1))}, note.Reply{Ino: 2, Size: 65}},
		"Put beyond":                  {[]api.Delta{put(2, 0, ptr(y, 100, 1))}, note.Reply{E: api.ErrForm}},
		"Put partly beyond":           {[]api.Delta{put(2, 0, ptr(y, 60, 41))}, note.Reply{E: api.ErrForm}},
		"Put beyond the other":        {[]api.Delta{put(2, 0, ptr(z, 1, 64))}, note.Reply{E: api.ErrForm}},
		"Put to none of these":        {[]api.Delta{put(2, 0, ptr(mine(0, 7), 0, 1))}, note.Reply{E: api.ErrForm}},
		"Put to one that is there":    {[]api.Delta{put(2, 0, ptr(mine(0, 4), 0, 10))}, note.Reply{E: api.ErrForm}},
		"Put to another life's":       {[]api.Delta{put(2, 0, ptr(api.Stripe{Life: 1, Number: 5}, 0, 1))}, note.Reply{E: api.ErrForm}},
		"Put to another client's":     {[]api.Delta{put(2, 0, ptr(mine(1, 5), 0, 1))}, note.Reply{E: api.ErrForm}},
		"Move":                        {[]api.Delta{move(2, 0, ptr(mine(0, 4), 0, 10), ptr(y, 0, 10))}, note.Reply{E: api.ErrForm}},
		"of another file":             {[]api.Delta{put(3, 0, ptr(y, 0, 1))}, note.Reply{E: api.ErrForm}},
		"Cut of another file":         {[]api.Delta{cut(3, 0)}, note.Reply{E: api.ErrForm}},
		"of no file":                  {[]api.Delta{cut(9, 0)}, note.Reply{E: api.ErrForm}},
		"the last of two":             {[]api.Delta{cut(2, 0), cut(3, 0)}, note.Reply{E: api.ErrForm}},
		"of no kind":                  {[]api.Delta{{Do: 0, Ino: 2}}, note.Reply{E: api.ErrForm}},
		"of no kind either":           {[]api.Delta{{Do: 4, Ino: 2}}, note.Reply{E: api.ErrForm}},
		"Cut that may not be":         {[]api.Delta{cut(2, 4097)}, note.Reply{E: api.ErrForm}},
		"Cut of a block":              {[]api.Delta{{Do: api.Cut, Ino: 2, Block: 1}}, note.Reply{E: api.ErrForm}},
		"Put that may not be":         {[]api.Delta{put(2, 64, ptr(y, 0, 1))}, note.Reply{E: api.ErrForm}},
		"Put with an Old":             {[]api.Delta{{Do: api.Put, Ino: 2, Size: 1, To: ptr(y, 0, 1), Old: ptr(mine(0, 4), 0, 10)}}, note.Reply{E: api.ErrForm}},
		"Put of more than a block":    {[]api.Delta{{Do: api.Put, Ino: 2, Size: 65, To: ptr(y, 0, 65)}}, note.Reply{E: api.ErrForm}},
		"Put of no byte of a stripe":  {[]api.Delta{{Do: api.Put, Ino: 2, Size: 1, To: ptr(y, 0, 0)}}, note.Reply{E: api.ErrForm}},
		"Put far past the ends":       {[]api.Delta{{Do: api.Put, Ino: 2, Size: 1, To: ptr(y, math.MaxInt, 1)}}, note.Reply{E: api.ErrForm}},
		"Put of numbers below nought": {[]api.Delta{{Do: api.Put, Ino: 2, Block: -1, Size: 1, To: ptr(y, 0, 1)}}, note.Reply{E: api.ErrForm}},
	} {
		r := note.Request{Do: note.Commit, Next: 7, Stripes: all, Deltas: c.d}
		if c.want.E != api.OK {
			refusesCommit(t, what, r, c.want.E)
		} else {
			takesCommit(t, what, r, c.want)
		}
	}
	refusesCommit(t, "of no stripe", note.Request{Do: note.Commit, Next: 6, Deltas: []api.Delta{put(2, 0, ptr(y, 0, 1))}}, api.ErrForm)
	takesCommit(t, "noughts of no stripe", note.Request{Do: note.Commit, Next: 5, Deltas: []api.Delta{put(2, 0, api.Ptr{})}}, note.Reply{Ino: 2, Size: 10})
}

// The zero pointer's stripe is one that may come, but a block of noughts is none of its bytes.
func TestNoughts(t *testing.T) {
	x := newTrial(t)
	x.asks(0, makes("/f"))
	x.asks(0, writes("/f"))
	x.asks(0, commits(mine(0, 0), 5, put(2, 0, ptr(mine(0, 0), 0, 5)), put(2, 1, api.Ptr{})))
	x.hasStripes("the first of all", state.Use{Size: 5, Live: 5, Born: 3})
	x.asks(0, note.Request{Do: note.Commit, Next: 1, Deltas: []api.Delta{put(2, 0, api.Ptr{})}})
	x.hasStripes("none")
	x.decodes()
}

// A stripe of which nothing lives is there no more, however that came; one of which a byte lives is.
func TestVanish(t *testing.T) {
	y, z := mine(0, 5), mine(0, 6)
	fill := commits(y, 128, put(2, 0, ptr(y, 0, 64)), put(2, 1, ptr(y, 64, 64)), put(2, 2, ptr(y, 0, 64)))
	for what, c := range map[string]struct {
		r    note.Request
		live int
	}{
		"put over one":      {commits(z, 9, put(2, 1, ptr(z, 0, 9))), 128},
		"put over a twin":   {commits(z, 9, put(2, 0, ptr(z, 0, 9))), 128},
		"put over both":     {commits(z, 9, put(2, 0, ptr(z, 0, 9)), put(2, 2, ptr(z, 0, 9))), 64},
		"put over all":      {commits(z, 9, put(2, 0, ptr(z, 0, 9)), put(2, 1, ptr(z, 0, 9)), put(2, 2, ptr(z, 0, 9))), 0},
		"noughts over one":  {note.Request{Do: note.Commit, Next: 6, Deltas: []api.Delta{put(2, 1, api.Ptr{})}}, 128},
		"cut":               {note.Request{Do: note.Commit, Next: 6, Deltas: []api.Delta{cut(2, 128)}}, 128},
		"cut in the midst":  {note.Request{Do: note.Commit, Next: 6, Deltas: []api.Delta{cut(2, 65)}}, 128},
		"cut to a block":    {note.Request{Do: note.Commit, Next: 6, Deltas: []api.Delta{cut(2, 1)}}, 64},
		"cut to nothing":    {note.Request{Do: note.Commit, Next: 6, Deltas: []api.Delta{cut(2, 0)}}, 0},
		"cut to more":       {note.Request{Do: note.Commit, Next: 6, Deltas: []api.Delta{cut(2, 4096)}}, 192},
		"Remove while busy": {removes("/f"), 192},
		"Remove as a dir":   {rmdir("/f"), 192},
		"Move":              {moves("/f", "/h"), 192},
	} {
		x := desk(t)
		x.asks(0, fill)
		x.asks(0, c.r)
		i := slices.IndexFunc(x.s.Stripes(), func(u state.Use) bool { return u.Stripe == y })
		if c.live == 0 && i >= 0 || c.live > 0 && (i < 0 || x.s.Stripes()[i].Live != c.live) {
			t.Errorf("%s: stripes %v, want Live %d", what, x.s.Stripes(), c.live)
		}
		x.decodes()
	}
	x := desk(t)
	x.asks(0, fill)
	x.asks(0, closes(0))
	x.hasStripes("a Next that is too low closes nothing", state.Use{Stripe: y, Size: 128, Live: 192, Born: 7})
	x.asks(0, note.Request{Do: note.Commit, Next: 6, Closes: true})
	is(t, "Remove", x.asks(1, removes("/f")), note.Reply{Ino: 2})
	x.hasStripes("removed")
	x.wants("another file of its number", 1, makes("/h"), api.OK)
	if x.s.Map(2).Size() != 0 {
		t.Errorf("map of a new file: %v", x.s.Map(2))
	}
	x = desk(t)
	x.wants("a stripe that nothing points into", 0, commits(y, 9), api.OK)
	x.wants("one that is cut at once", 0, commits(z, 9, put(2, 3, ptr(z, 0, 9)), cut(2, 3)), api.OK)
	x.hasStripes("neither is there", state.Use{Stripe: mine(0, 4), Size: 10, Live: 10, Born: 6})
	if !x.s.Waste(y) || !x.s.Waste(z) {
		t.Errorf("they are no waste")
	}
}

// A stripe that is there, though its client's next is not above it: such a state is decoded.
func TestThereAlready(t *testing.T) {
	x := desk(t)
	x.m.next[0] = 3
	s, why := state.Decode(x.m.bytes())
	if why != api.OK {
		t.Fatalf("Decode: %v", why)
	}
	x.s = s
	x.isRight("decoded")
	x.wants("there already", 0, puts(0, 2, 0, 4, 10), api.ErrForm)
	x.wants("below it", 0, puts(0, 2, 0, 3, 10), api.OK)
	x.hasStripes("it went", state.Use{Stripe: mine(0, 3), Size: 10, Live: 10, Born: 8})
	x.wants("there no more", 0, puts(0, 2, 0, 4, 10), api.OK)
}

// Which error comes first.
func TestCommitOrder(t *testing.T) {
	refusesCommit(t, "handle, all else", note.Request{Do: note.Commit, Handle: 2, Swaps: 1, Next: -1, Stripes: []note.Sized{{}}, Deltas: []api.Delta{{}}}, api.ErrOpen)
	refusesCommit(t, "a reader, all else", note.Request{Do: note.Commit, Handle: 1, Swaps: 1, Next: -1, Stripes: []note.Sized{{}}, Deltas: []api.Delta{{}}}, api.ErrFile)
	refusesCommit(t, "swaps, all else", note.Request{Do: note.Commit, Swaps: 1, Next: -1, Stripes: []note.Sized{{}}, Deltas: []api.Delta{{}}}, api.ErrLost)
	refusesCommit(t, "no stripe, all else", note.Request{Do: note.Commit, Swaps: 1, Next: -1, Deltas: []api.Delta{{}}}, api.ErrForm)
	x := desk(t)
	x.applies(swaps())
	r := copies(0, 0, 2, mine(0, 4), 10)
	r.Stripes[0].Size = 0
	is(t, "Moved, elder, all else", x.applies(r), note.Reply{E: api.ErrStale, Swaps: 1})
	r.Life = 1
	is(t, "Moved, swaps, all else", x.applies(r), note.Reply{E: api.ErrLost, Swaps: 1})
	r.Swaps = 1
	is(t, "Moved, form", x.applies(r), note.Reply{E: api.ErrForm, Swaps: 1})
	r.Client = 3
	is(t, "Moved, a client", x.applies(r), note.Reply{E: api.ErrStale, Swaps: 1})
}

// What a refused request of a newer life changes: the tokens, the next, the window, the clock.
func TestRefusedNewer(t *testing.T) {
	x := desk(t)
	before := x.m.clone()
	is(t, "refused", x.applies(at(0, 1, 7, puts(0, 2, 0, 9, 10))), note.Reply{E: api.ErrOpen})
	before.clock++
	before.next[0] = 0
	before.tokens.Drop(0)
	before.last[0] = x.m.last[0]
	if b, _ := x.s.Encode(); string(b) != string(before.bytes()) {
		t.Errorf("something else is changed")
	}
	if !x.s.Holds(mine(0, 4)) || !x.s.Waste(mine(0, 5)) || x.s.Waste(api.Stripe{Life: 1}) {
		t.Errorf("Holds %v, Waste %v, %v", x.s.Holds(mine(0, 4)), x.s.Waste(mine(0, 5)), x.s.Waste(api.Stripe{Life: 1}))
	}
}

// Moved: blocks of any files get another place, unless they were put since.
func TestMoved(t *testing.T) {
	x := desk(t)
	x.asks(1, makes("/h"))
	x.asks(1, writes("/h"))
	x.asks(1, puts(1, 4, 0, 0, 30))
	clock := x.s.Clock()
	y := api.Stripe{Client: cleaner, Life: 1}
	r := movesTo(y, 50, move(2, 0, ptr(mine(0, 4), 0, 10), ptr(y, 0, 10)), move(4, 0, ptr(mine(1, 0), 0, 30), ptr(y, 10, 30)),
		move(3, 0, ptr(mine(0, 4), 0, 10), ptr(y, 0, 10)), move(99, 0, ptr(mine(0, 4), 0, 10), ptr(y, 0, 10)), move(2, 1, ptr(mine(0, 4), 0, 10), ptr(y, 0, 10)))
	is(t, "two files' blocks", x.applies(r), note.Reply{})
	x.hasStripes("one", state.Use{Stripe: y, Size: 50, Live: 40, Born: clock + 1})
	if x.s.Clock() != clock+1 || x.s.Map(2).At(0) != ptr(y, 0, 10) || x.s.Map(4).At(0) != ptr(y, 10, 30) || x.s.Map(2).Size() != 10 {
		t.Errorf("clock %d, maps %v, %v", x.s.Clock(), x.s.Map(2), x.s.Map(4))
	}
	is(t, "the same again", x.applies(r), note.Reply{E: api.ErrForm})
	y.Number = 1
	is(t, "not done", x.applies(movesTo(y, 10, move(2, 0, ptr(mine(0, 4), 0, 10), ptr(y, 0, 10)))), note.Reply{})
	if x.s.Holds(y) || !x.s.Waste(y) || x.s.Clock() != clock+2 {
		t.Errorf("not done: stripes %v, clock %d", x.s.Stripes(), x.s.Clock())
	}
	y.Number = 2
	old := ptr(api.Stripe{Client: cleaner, Life: 1}, 0, 10)
	is(t, "of another Len", x.applies(movesTo(y, 20, move(2, 0, old, ptr(y, 0, 11)))), note.Reply{})
	y.Number = 3
	is(t, "there and on", x.applies(movesTo(y, 20, move(2, 0, old, ptr(y, 0, 10)), move(2, 0, ptr(y, 0, 10), ptr(y, 10, 10)))), note.Reply{})
	if x.s.Map(2).At(0) != ptr(y, 10, 10) {
		t.Errorf("map %v", x.s.Map(2))
	}
	is(t, "nothing", x.applies(at(cleaner, 1, -9, note.Request{Do: note.Moved, Next: 4})), note.Reply{})
	is(t, "a Next that is further", x.applies(at(cleaner, 1, 0, note.Request{Do: note.Moved, Next: api.MaxNumber + 1})), note.Reply{})
	x.decodes()
	x.applies(boots())
	is(t, "of the elder life", x.applies(at(cleaner, 1, 0, note.Request{Do: note.Moved, Next: api.MaxNumber + 1})), note.Reply{E: api.ErrStale})
	is(t, "of the newer life", x.applies(copies(2, 0, 2, y, 10)), note.Reply{})
	x.decodes()
}

// What a Moved is refused with: it changes nothing.
func TestMovedRefused(t *testing.T) {
	y := api.Stripe{Client: cleaner, Life: 1, Number: 7}
	old := ptr(mine(0, 4), 0, 10)
	for what, c := range map[string]struct {
		change func(r *note.Request)
		want   api.Errno
	}{
		"nothing is wrong":        {func(r *note.Request) {}, api.OK},
		"any Seq":                 {func(r *note.Request) { r.Seq = math.MinInt }, api.OK},
		"what does not count":     {func(r *note.Request) { r.Handle, r.Path, r.Closes, r.Dir = -1, "x", true, true }, api.OK},
		"a client":                {func(r *note.Request) { r.Client = 3 }, api.ErrStale},
		"a client past":           {func(r *note.Request) { r.Client = 5 }, api.ErrStale},
		"a client below":          {func(r *note.Request) { r.Client = -1 }, api.ErrStale},
		"an elder life":           {func(r *note.Request) { r.Life = 0 }, api.ErrStale},
		"a newer life":            {func(r *note.Request) { r.Life = 2 }, api.ErrStale},
		"another number of swaps": {func(r *note.Request) { r.Swaps = 1 }, api.ErrLost},
		"a client's stripe":       {func(r *note.Request) { r.Stripes[0].Stripe.Client = 0 }, api.ErrForm},
		"an elder life's stripe":  {func(r *note.Request) { r.Stripes[0].Stripe.Life = 0 }, api.ErrForm},
		"below its next":          {func(r *note.Request) { r.Stripes[0].Stripe.Number = 4 }, api.ErrForm},
		"at its next": {func(r *note.Request) {
			r.Stripes = append(r.Stripes, sized(api.Stripe{Client: cleaner, Life: 1, Number: 5}, 1))
		}, api.OK},
		"at Next":               {func(r *note.Request) { r.Next = 7 }, api.ErrForm},
		"no byte":               {func(r *note.Request) { r.Stripes[0].Size = 0 }, api.ErrForm},
		"as many as may be":     {func(r *note.Request) { r.Stripes[0].Size = most }, api.OK},
		"a byte too many":       {func(r *note.Request) { r.Stripes[0].Size = most + 1 }, api.ErrForm},
		"twice":                 {func(r *note.Request) { r.Stripes = append(r.Stripes, r.Stripes[0]) }, api.ErrForm},
		"Next below its next":   {func(r *note.Request) { r.Next, r.Stripes, r.Deltas = 4, nil, nil }, api.ErrForm},
		"Next at its next":      {func(r *note.Request) { r.Next, r.Stripes, r.Deltas = 5, nil, nil }, api.OK},
		"Next at the last one":  {func(r *note.Request) { r.Next = api.MaxNumber + 1 }, api.OK},
		"Next past it":          {func(r *note.Request) { r.Next = api.MaxNumber + 2 }, api.ErrForm},
		"swaps of no stripe":    {func(r *note.Request) { r.Swaps, r.Stripes, r.Deltas = 1, nil, nil }, api.OK},
		"no stripe":             {func(r *note.Request) { r.Stripes = nil }, api.ErrForm},
		"a Put":                 {func(r *note.Request) { r.Deltas[0] = put(2, 0, ptr(y, 0, 10)) }, api.ErrForm},
		"a Cut":                 {func(r *note.Request) { r.Deltas[0] = cut(2, 0) }, api.ErrForm},
		"of no kind":            {func(r *note.Request) { r.Deltas[0].Do = 4 }, api.ErrForm},
		"one that may not be":   {func(r *note.Request) { r.Deltas[0].Size = 1 }, api.ErrForm},
		"of a thing too great":  {func(r *note.Request) { r.Deltas[0].Ino = 129 }, api.ErrForm},
		"of no file":            {func(r *note.Request) { r.Deltas[0].Ino = 128 }, api.OK},
		"of a block too great":  {func(r *note.Request) { r.Deltas[0].Block = 64 }, api.ErrForm},
		"of no block":           {func(r *note.Request) { r.Deltas[0].Block = 63 }, api.OK},
		"of no Old":             {func(r *note.Request) { r.Deltas[0].Old = api.Ptr{} }, api.OK},
		"to noughts":            {func(r *note.Request) { r.Deltas[0].To = api.Ptr{} }, api.ErrForm},
		"to the end":            {func(r *note.Request) { r.Deltas[0].To.At = 10 }, api.OK},
		"beyond the end":        {func(r *note.Request) { r.Deltas[0].To.At = 11 }, api.ErrForm},
		"to a stripe that is":   {func(r *note.Request) { r.Deltas[0].To = old }, api.ErrForm},
		"the last one is wrong": {func(r *note.Request) { r.Deltas = append(r.Deltas, cut(2, 0)) }, api.ErrForm},
	} {
		x := desk(t)
		x.applies(at(cleaner, 1, 0, note.Request{Do: note.Moved, Next: 5}))
		before, _ := x.s.Encode()
		r := movesTo(y, 20, move(2, 0, old, ptr(y, 0, 10)))
		r.Next = 9
		c.change(&r)
		is(t, what, x.applies(r), note.Reply{E: c.want})
		if after, _ := x.s.Encode(); (string(after) == string(before)) != (c.want != api.OK) {
			t.Errorf("%s: the bytes are %v, were %v", what, after, before)
		}
		x.decodes()
	}
}

// Holds and Waste, of stripes of each life and Number; Stripes in their order.
func TestWaste(t *testing.T) {
	x := newTrial(t)
	x.asks(1, makes("/f"))
	x.applies(at(1, 2, 1, writes("/f")))
	for _, number := range []int{3, 5} {
		y := api.Stripe{Client: 1, Life: 2, Number: number}
		x.asks(1, commits(y, 10, put(2, number, ptr(y, 0, 10))))
	}
	x.applies(at(1, 4, 1, writes("/f")))
	y := api.Stripe{Client: 1, Life: 4, Number: 1}
	x.asks(1, commits(y, 10, put(2, 0, ptr(y, 0, 10))))
	for probe, want := range map[api.Stripe]string{
		{Client: 1, Life: 2, Number: 3}: "true false", {Client: 1, Life: 2, Number: 4}: "false true", {Client: 1, Life: 2, Number: 5}: "true false",
		{Client: 1, Life: 2, Number: math.MaxInt}: "false true", {Client: 1, Life: 3}: "false true", {Client: 1, Life: -1}: "false true",
		{Client: 1, Life: 4}: "false true", {Client: 1, Life: 4, Number: 1}: "true false", {Client: 1, Life: 4, Number: 2}: "false false",
		{Client: 1, Life: 4, Number: -1}: "false true", {Client: 1, Life: 5}: "false false", {Client: 1, Life: 5, Number: -1}: "false false",
		{Client: 0}: "false false", {Client: 0, Life: -1}: "false false", {Client: 4}: "false false", {Client: 4, Life: -1}: "false true",
		{Client: 5, Life: -1}: "false false", {Client: -1, Life: -9}: "false false", {Client: math.MaxInt}: "false false", {Client: math.MinInt}: "false false",
	} {
		if got := fmt.Sprint(x.s.Holds(probe), " ", x.s.Waste(probe)); got != want {
			t.Errorf("%v: Holds, Waste: %s, want %s", probe, got, want)
		}
	}
	x.applies(boots())
	x.applies(movesTo(api.Stripe{Client: cleaner, Life: 1, Number: 2}, 10, move(2, 0, ptr(y, 0, 10), ptr(api.Stripe{Client: cleaner, Life: 1, Number: 2}, 0, 10))))
	x.applies(boots())
	for probe, want := range map[api.Stripe]string{
		{Client: 4, Life: 1, Number: 2}: "true false", {Client: 4, Life: 1, Number: 3}: "false true", {Client: 4, Life: 0}: "false true", {Client: 4, Life: 2}: "false false",
	} {
		if got := fmt.Sprint(x.s.Holds(probe), " ", x.s.Waste(probe)); got != want {
			t.Errorf("the cleaner's %v: Holds, Waste: %s, want %s", probe, got, want)
		}
	}
	z := api.Stripe{Client: 1, Life: 4, Number: 9}
	x.asks(1, commits(z, 20, put(2, 6, ptr(z, 0, 20))))
	x.asks(0, makes("/g"))
	x.asks(0, writes("/g"))
	x.asks(0, puts(0, 3, 0, 40, 10))
	var got []api.Stripe
	for _, u := range x.s.Stripes() {
		got = append(got, u.Stripe)
	}
	want := []api.Stripe{{Number: 40}, {Client: 1, Life: 2, Number: 3}, {Client: 1, Life: 2, Number: 5}, z, {Client: 4, Life: 1, Number: 2}}
	if !slices.Equal(got, want) {
		t.Errorf("Stripes: %v, want %v", got, want)
	}
	x.decodes()
}
