package state

import (
	"pinstripe/api"
	"pinstripe/blocks"
	"pinstripe/delta"
	"pinstripe/giveup"
	"pinstripe/note"
	"pinstripe/once"
	"pinstripe/wire"
)

const (
	maxSize = api.MaxEach * (api.MaxServers - 1) // bytes of a stripe
	maxNext = api.MaxNumber + 1                  // the next of who had the last Number
)

// deed does a request of one kind, or gives up ahead of any change. What it answers has neither E nor Swaps.
type deed func(*State, note.Request) note.Reply

// deedOf answers how a kind of request is done; nil, if that is none.
func deedOf(do int) deed {
	switch do {
	case note.Make:
		return (*State).create
	case note.Remove:
		return (*State).remove
	case note.Move:
		return (*State).move
	case note.Look:
		return (*State).look
	case note.List:
		return (*State).list
	case note.Open:
		return (*State).open
	case note.Commit:
		return (*State).commit
	case note.Map:
		return (*State).show
	case note.Moved:
		return (*State).moved
	case note.Boot:
		return (*State).boot
	case note.Swap:
		return (*State).swap
	}
	return nil
}

// Apply does what is asked, and answers what there is to say.
func (s *State) Apply(r note.Request) note.Reply {
	if !s.isMade() {
		return note.Reply{E: api.ErrDead}
	}
	do := deedOf(r.Do)
	if do == nil {
		return s.refusal(api.ErrArg)
	}
	switch r.Do {
	case note.Moved, note.Boot, note.Swap: // the cleaner is not in the window: what it asks counts each time
		return s.tried(do, r)
	}
	return s.byWindow(do, r)
}

// byWindow does a client's request, unless it was done already, or comes too late.
func (s *State) byWindow(do deed, r note.Request) note.Reply {
	kind, had := s.window.Ask(r.Stamp)
	switch kind {
	case once.Old:
		return s.refusal(api.ErrStale)
	case once.Again:
		return s.again(had)
	case once.Newer:
		s.tokens.Drop(r.Client)
		s.next[r.Client] = 0
	}
	s.clock++
	reply := s.tried(do, r)
	said, _ := note.EncodeReply(reply) // refused only where there are more swaps than are ever written
	s.window.Done(r.Stamp, said)
	return reply
}

// again answers the reply that a request had. One that was only read, and is none, says so.
func (s *State) again(had []byte) note.Reply {
	reply, why := note.DecodeReply(had)
	if why != api.OK {
		return s.refusal(why)
	}
	return reply
}

// tried answers what a deed answers, or why it gave up.
func (s *State) tried(do deed, r note.Request) note.Reply {
	reply, why := giveup.Attempt(func() note.Reply { return do(s, r) })
	reply.E, reply.Swaps = why, s.swaps
	return reply
}

// refusal answers the reply of what is refused.
func (s *State) refusal(why api.Errno) note.Reply {
	return note.Reply{E: why, Swaps: s.swaps}
}

// create makes a thing.
func (s *State) create(r note.Request) note.Reply {
	ino := giveup.Given(s.tree.Make(r.Path, r.Dir))
	if !r.Dir {
		s.files[ino] = blocks.New()
	}
	return note.Reply{Ino: ino}
}

// remove takes a thing out, with all that a file's map points at.
func (s *State) remove(r note.Request) note.Reply {
	ino, _, why := s.tree.Look(r.Path)
	giveup.Pass(why)
	giveup.Must(r.Dir || !s.tokens.Busy(ino), api.ErrBusy) // nobody has a directory open
	giveup.Given(s.tree.Remove(r.Path, r.Dir))
	s.count(s.files[ino], -1) // a directory's map is nil: it points at nothing
	s.sweep()
	delete(s.files, ino)
	return note.Reply{Ino: ino}
}

// move gives a thing another path.
func (s *State) move(r note.Request) note.Reply {
	giveup.Pass(s.tree.Move(r.Path, r.To))
	return note.Reply{}
}

// look tells what a path names.
func (s *State) look(r note.Request) note.Reply {
	ino, dir, why := s.tree.Look(r.Path)
	giveup.Pass(why)
	return note.Reply{Ino: ino, Dir: dir, Size: s.files[ino].Size()} // a directory's map is nil: it has no size
}

// list tells what is in a directory.
func (s *State) list(r note.Request) note.Reply {
	return note.Reply{Entries: giveup.Given(s.tree.List(r.Path))}
}

// open gives a client a handle of a file.
func (s *State) open(r note.Request) note.Reply {
	ino, dir, why := s.tree.Look(r.Path)
	giveup.Pass(why)
	giveup.Must(!dir, api.ErrDir)
	handle := giveup.Given(s.tokens.Open(r.Client, ino, r.Writes))
	reply := s.shown(ino)
	reply.Handle = handle
	return reply
}

// show tells of the file that a handle has open.
func (s *State) show(r note.Request) note.Reply {
	row, has := s.tokens.Of(r.Client, r.Handle)
	giveup.Must(has, api.ErrOpen)
	return s.shown(row.Ino)
}

// shown tells of a file, with its map's bytes.
func (s *State) shown(ino int) note.Reply {
	m := s.files[ino]
	p := &wire.Pen{}
	m.Write(p)
	return note.Reply{Ino: ino, Size: m.Size(), Map: giveup.Given(p.Bytes())}
}

// commit changes the file that a handle has open, and may close that.
func (s *State) commit(r note.Request) note.Reply {
	row, has := s.tokens.Of(r.Client, r.Handle)
	giveup.Must(has, api.ErrOpen)
	giveup.Must(row.Writes || len(r.Deltas)+len(r.Stripes) == 0, api.ErrFile)
	sizes := s.coming(r)
	for _, d := range r.Deltas {
		giveup.Must(delta.May(d) && d.Ino == row.Ino && d.Do != api.Move, api.ErrForm)
		giveup.Must(d.To == api.Ptr{} || isIn(d.To, sizes), api.ErrForm)
	}
	s.land(r)
	if r.Closes {
		s.tokens.Close(r.Client, r.Handle)
	}
	return note.Reply{Ino: row.Ino, Size: s.files[row.Ino].Size()}
}

// moved changes where files' blocks are: the cleaner copied them.
func (s *State) moved(r note.Request) note.Reply {
	giveup.Must(r.Client == cleaner && r.Life == s.boots, api.ErrStale)
	sizes := s.coming(r)
	for _, d := range r.Deltas {
		giveup.Must(delta.May(d) && d.Do == api.Move && isIn(d.To, sizes), api.ErrForm)
	}
	s.clock++
	s.land(r)
	return note.Reply{}
}

// boot begins another life of the cleaner.
func (s *State) boot(r note.Request) note.Reply {
	giveup.Must(r.Client == cleaner, api.ErrStale)
	s.boots++
	s.next[cleaner] = 0
	s.clock++
	return note.Reply{}
}

// swap says that a server was replaced.
func (s *State) swap(r note.Request) note.Reply {
	giveup.Must(r.Client == cleaner, api.ErrStale)
	s.swaps++
	s.clock++
	return note.Reply{}
}

// coming answers the sizes of the stripes that come with a request, or gives up, if one may not come, or its Next may not be.
func (s *State) coming(r note.Request) map[api.Stripe]int {
	giveup.Must(len(r.Stripes) == 0 || r.Swaps == s.swaps, api.ErrLost)
	next := s.next[r.Client]
	giveup.Must(within(r.Next, next, maxNext), api.ErrForm)
	sizes := map[api.Stripe]int{}
	for _, c := range r.Stripes {
		x := c.Stripe
		giveup.Must(x.Client == r.Client && x.Life == r.Life && within(x.Number, next, r.Next-1), api.ErrForm)
		_, twice := sizes[x]
		giveup.Must(!twice && !s.Holds(x) && within(c.Size, 1, maxSize), api.ErrForm)
		sizes[x] = c.Size
	}
	return sizes
}

// isIn tells whether a pointer that may be lies in one of the stripes of these sizes.
func isIn(p api.Ptr, sizes map[api.Stripe]int) bool {
	size, there := sizes[p.Stripe]
	return there && p.At+p.Len <= size
}

// land has the stripes be there that come with a request, and its deltas be done. What nothing points into behind that is there no more.
func (s *State) land(r note.Request) {
	s.next[r.Client] = r.Next
	for _, c := range r.Stripes {
		s.stripes[c.Stripe] = Use{Stripe: c.Stripe, Size: c.Size, Born: s.clock}
	}
	changed := s.changed(r.Deltas)
	for _, m := range changed {
		s.count(m, -1)
	}
	for _, d := range r.Deltas {
		changed[d.Ino].Apply(d) // the map of no file is nil: it does nothing
	}
	for _, m := range changed {
		s.count(m, 1)
	}
	s.sweep()
}

// changed answers the maps of the files that deltas are of, by ino.
func (s *State) changed(l []api.Delta) map[int]*blocks.Map {
	changed := map[int]*blocks.Map{}
	for _, d := range l {
		changed[d.Ino] = s.files[d.Ino]
	}
	return changed
}
