// Tests of chapter 17, by what package state exports alone: names_test.go has what is asked of names and handles, commit_test.go what changes stripes, bytes_test.go what is encoded, any_test.go long rows of any requests, this file the chapter told anew, which they are all held against.
package state_test

import (
	"bytes"
	"fmt"
	"reflect"
	"slices"
	"testing"

	"pinstripe/api"
	"pinstripe/blocks"
	"pinstripe/delta"
	"pinstripe/note"
	"pinstripe/once"
	"pinstripe/state"
	"pinstripe/tokens"
	"pinstripe/tree"
	"pinstripe/wire"
)

const (
	cleaner = 4
	most    = 6000    // bytes of a stripe
	last    = 1 << 30 // Number
)

// said is a client's last request, and what was replied.
type said struct {
	once.Stamp
	reply note.Reply
}

// model is what the manager knows, told anew out of the chapter: what lower layers do is theirs.
type model struct {
	boots, swaps, clock int
	next                [5]int
	last                [4]*said
	tree                *tree.Tree
	tokens              *tokens.Tokens
	files               map[int]*blocks.Map
	uses                []state.Use
}

func newModel() *model {
	return &model{tree: tree.New(), tokens: tokens.New(), files: map[int]*blocks.Map{}}
}

// refuses answers the reply of what is refused.
func (m *model) refuses(why api.Errno) note.Reply {
	return note.Reply{E: why, Swaps: m.swaps}
}

// apply does what P17.1 and P17.2 say.
func (m *model) apply(r note.Request) note.Reply {
	switch {
	case r.Do < 1 || r.Do > 11:
		return m.refuses(api.ErrArg)
	case r.Do > 8:
		return m.cleans(r)
	case r.Client < 0 || r.Client > 3 || r.Life < 0 || r.Life > 1<<20 || r.Seq < 1 || r.Seq > 1<<30:
		return m.refuses(api.ErrStale)
	}
	was := m.last[r.Client]
	switch {
	case was == nil || was.Life < r.Life:
		m.tokens.Drop(r.Client)
		m.next[r.Client] = 0
	case was.Stamp == r.Stamp:
		return was.reply
	case was.Life > r.Life || was.Seq > r.Seq:
		return m.refuses(api.ErrStale)
	}
	m.clock++
	reply := m.does(r)
	reply.Swaps = m.swaps
	m.last[r.Client] = &said{r.Stamp, reply}
	return reply
}

// cleans does what the cleaner alone may ask.
func (m *model) cleans(r note.Request) note.Reply {
	if r.Client != cleaner || r.Do == note.Moved && r.Life != m.boots {
		return m.refuses(api.ErrStale)
	}
	if r.Do == note.Moved {
		if why := m.mayCome(r); why != api.OK {
			return m.refuses(why)
		}
		for _, d := range r.Deltas {
			if !delta.May(d) || d.Do != api.Move || !lies(d.To, r.Stripes) {
				return m.refuses(api.ErrForm)
			}
		}
	}
	m.clock++
	switch r.Do {
	case note.Moved:
		m.lands(r)
	case note.Boot:
		m.boots++
		m.next[cleaner] = 0
	case note.Swap:
		m.swaps++
	}
	return m.refuses(api.OK)
}

// does what a client asks.
func (m *model) does(r note.Request) note.Reply {
	switch r.Do {
	case note.Make:
		ino, why := m.tree.Make(r.Path, r.Dir)
		if why == api.OK && !r.Dir {
			m.files[ino] = blocks.New()
		}
		return note.Reply{E: why, Ino: ino}
	case note.Remove:
		return m.removes(r)
	case note.Move:
		return note.Reply{E: m.tree.Move(r.Path, r.To)}
	case note.Look:
		ino, dir, why := m.tree.Look(r.Path)
		if why == api.OK && !dir {
			return note.Reply{Ino: ino, Size: m.files[ino].Size()}
		}
		return note.Reply{E: why, Ino: ino, Dir: dir}
	case note.List:
		l, why := m.tree.List(r.Path)
		return note.Reply{E: why, Entries: l}
	case note.Open:
		return m.opens(r)
	case note.Map:
		row, ok := m.tokens.Of(r.Client, r.Handle)
		if !ok {
			return note.Reply{E: api.ErrOpen}
		}
		return note.Reply{Ino: row.Ino, Size: m.files[row.Ino].Size(), Map: mapBytes(m.files[row.Ino])}
	}
	return m.commits(r)
}

// removes a thing.
func (m *model) removes(r note.Request) note.Reply {
	ino, dir, why := m.tree.Look(r.Path)
	if why == api.OK && !dir && !r.Dir && m.tokens.Busy(ino) {
		return note.Reply{E: api.ErrBusy}
	}
	if why == api.OK {
		_, why = m.tree.Remove(r.Path, r.Dir)
	}
	if why != api.OK {
		return note.Reply{E: why}
	}
	delete(m.files, ino)
	m.settle()
	return note.Reply{Ino: ino}
}

// opens a file.
func (m *model) opens(r note.Request) note.Reply {
	ino, dir, why := m.tree.Look(r.Path)
	if why == api.OK && dir {
		why = api.ErrDir
	}
	if why != api.OK {
		return note.Reply{E: why}
	}
	handle, why := m.tokens.Open(r.Client, ino, r.Writes)
	if why != api.OK {
		return note.Reply{E: why}
	}
	return note.Reply{Ino: ino, Handle: handle, Size: m.files[ino].Size(), Map: mapBytes(m.files[ino])}
}

// commits what a file is to be.
func (m *model) commits(r note.Request) note.Reply {
	row, ok := m.tokens.Of(r.Client, r.Handle)
	if !ok {
		return note.Reply{E: api.ErrOpen}
	}
	if !row.Writes && len(r.Deltas)+len(r.Stripes) > 0 {
		return note.Reply{E: api.ErrFile}
	}
	if why := m.mayCome(r); why != api.OK {
		return note.Reply{E: why}
	}
	for _, d := range r.Deltas {
		zero := d.To == api.Ptr{}
		if !delta.May(d) || d.Ino != row.Ino || d.Do == api.Move || !zero && !lies(d.To, r.Stripes) {
			return note.Reply{E: api.ErrForm}
		}
	}
	m.lands(r)
	if r.Closes {
		m.tokens.Close(r.Client, r.Handle)
	}
	return note.Reply{Ino: row.Ino, Size: m.files[row.Ino].Size()}
}

// mayCome tells what a request's stripes, and its Next, are refused with.
func (m *model) mayCome(r note.Request) api.Errno {
	if len(r.Stripes) > 0 && r.Swaps != m.swaps {
		return api.ErrLost
	}
	if r.Next < m.next[r.Client] || r.Next > last+1 {
		return api.ErrForm
	}
	for i, c := range r.Stripes {
		x := c.Stripe
		twice := slices.ContainsFunc(r.Stripes[:i], func(o note.Sized) bool { return o.Stripe == x })
		switch {
		case twice, m.holds(x), x.Client != r.Client, x.Life != r.Life:
			return api.ErrForm
		case x.Number < m.next[r.Client], x.Number >= r.Next, c.Size < 1, c.Size > most:
			return api.ErrForm
		}
	}
	return api.OK
}

// lies tells whether a pointer is in one of these stripes.
func lies(p api.Ptr, l []note.Sized) bool {
	return slices.ContainsFunc(l, func(c note.Sized) bool { return c.Stripe == p.Stripe && p.At+p.Len <= c.Size })
}

// lands does what a request that may be says.
func (m *model) lands(r note.Request) {
	m.next[r.Client] = r.Next
	for _, c := range r.Stripes {
		m.uses = append(m.uses, state.Use{Stripe: c.Stripe, Size: c.Size, Born: m.clock})
	}
	for _, d := range r.Deltas {
		if f := m.files[d.Ino]; f != nil {
			f.Apply(d)
		}
	}
	m.settle()
}

// settle counts what lives of each stripe, and takes those out of which nothing does.
func (m *model) settle() {
	var l []state.Use
	for _, u := range m.uses {
		u.Live = 0
		for _, f := range m.files {
			for _, p := range f.Ptrs() {
				if p.Stripe == u.Stripe {
					u.Live += p.Len
				}
			}
		}
		if u.Live > 0 {
			l = append(l, u)
		}
	}
	slices.SortFunc(l, func(a, b state.Use) int { return slices.Compare(numbers(a.Stripe), numbers(b.Stripe)) })
	m.uses = l
}

// numbers answers a stripe's numbers.
func numbers(x api.Stripe) []int {
	return []int{x.Client, x.Life, x.Number}
}

// holds tells whether a stripe is there.
func (m *model) holds(x api.Stripe) bool {
	return slices.ContainsFunc(m.uses, func(u state.Use) bool { return u.Stripe == x })
}

// life answers a client's life.
func (m *model) life(client int) int {
	if client == cleaner {
		return m.boots
	}
	if client < 0 || client > cleaner || m.last[client] == nil {
		return -1
	}
	return m.last[client].Life
}

// waste tells whether a stripe is not there, and never will be.
func (m *model) waste(x api.Stripe) bool {
	if x.Client < 0 || x.Client > cleaner || m.holds(x) {
		return false
	}
	life := m.life(x.Client)
	return x.Life < life || x.Life == life && x.Number < m.next[x.Client]
}

// clone answers another one of just the same.
func (m *model) clone() *model {
	c := *m
	c.tree, c.tokens, c.uses = m.tree.Clone(), m.tokens.Clone(), slices.Clone(m.uses)
	c.files = map[int]*blocks.Map{}
	for ino, f := range m.files {
		c.files[ino] = f.Clone()
	}
	return &c
}

// written answers what is written.
func written(write func(p *wire.Pen)) []byte {
	p := &wire.Pen{}
	write(p)
	b, why := p.Bytes()
	if why != api.OK {
		panic(why)
	}
	return b
}

// mapBytes answers a map's bytes.
func mapBytes(f *blocks.Map) []byte {
	return written(f.Write)
}

// num answers a number's bytes.
func num(x, width int) []byte {
	b := make([]byte, width)
	for i := width - 1; i >= 0; i-- {
		b[i] = byte(x)
		x >>= 8
	}
	return b
}

// replyBytes answers a reply's bytes.
func replyBytes(r note.Reply) []byte {
	b, why := note.EncodeReply(r)
	if why != api.OK {
		panic(why)
	}
	return b
}

// filed is a file's number, and its map's bytes.
type filed struct {
	ino int
	m   []byte
}

// parts is what P17.4 says is encoded, whether it may be or not.
type parts struct {
	boots, swaps, clock int
	next                [5]int
	rows                []once.Row
	tree, tokens        []byte
	files               []filed
	uses                []state.Use
}

// parts answers what is to be encoded.
func (m *model) parts() *parts {
	p := &parts{boots: m.boots, swaps: m.swaps, clock: m.clock, next: m.next, uses: slices.Clone(m.uses)}
	for _, was := range m.last {
		if was != nil {
			p.rows = append(p.rows, once.Row{Stamp: was.Stamp, Reply: replyBytes(was.reply)})
		}
	}
	p.tree, p.tokens = written(m.tree.Write), written(m.tokens.Write)
	for ino := range 129 {
		if m.files[ino] != nil {
			p.files = append(p.files, filed{ino, mapBytes(m.files[ino])})
		}
	}
	return p
}

// bytes answers its bytes.
func (p *parts) bytes() []byte {
	b := slices.Concat(num(p.boots, 3), num(p.swaps, 3), num(p.clock, 6))
	for _, next := range p.next {
		b = append(b, num(next, 4)...)
	}
	b = append(b, num(len(p.rows), 1)...)
	for _, r := range p.rows {
		b = slices.Concat(b, num(r.Client, 1), num(r.Life, 3), num(r.Seq, 4), num(len(r.Reply), 2), r.Reply)
	}
	b = slices.Concat(b, p.tree, p.tokens, num(len(p.files), 2))
	for _, f := range p.files {
		b = slices.Concat(b, num(f.ino, 2), f.m)
	}
	b = append(b, num(len(p.uses), 2)...)
	for _, u := range p.uses {
		x := u.Stripe
		b = slices.Concat(b, num(x.Client, 1), num(x.Life, 3), num(x.Number, 4), num(u.Size, 2), num(u.Born, 6))
	}
	return b
}

// bytes answers what P17.4 says is encoded.
func (m *model) bytes() []byte {
	return m.parts().bytes()
}

// alike tells whether two replies are the same: nil and an empty list are one.
func alike(a, b note.Reply) bool {
	same := slices.Equal(a.Entries, b.Entries) && bytes.Equal(a.Map, b.Map)
	a.Entries, b.Entries, a.Map, b.Map = nil, nil, nil, nil
	return same && reflect.DeepEqual(a, b)
}

// trial is a state, and what it should be.
type trial struct {
	t *testing.T
	s *state.State
	m *model
}

func newTrial(t *testing.T) *trial {
	return &trial{t, state.New(), newModel()}
}

// applies a request, and holds all that can be asked behind it against the model.
func (x *trial) applies(r note.Request) note.Reply {
	x.t.Helper()
	got, want := x.s.Apply(r), x.m.apply(r)
	if !alike(got, want) {
		x.t.Fatalf("%+v: %+v, want %+v", r, got, want)
	}
	x.isRight(fmt.Sprintf("%+v", r))
	return got
}

// stamp answers the stamp of a client's next request.
func (x *trial) stamp(client int) once.Stamp {
	if was := x.m.last[client]; was != nil {
		return once.Stamp{Client: client, Life: was.Life, Seq: was.Seq + 1}
	}
	return once.Stamp{Client: client, Seq: 1}
}

// asks applies a client's next request.
func (x *trial) asks(client int, r note.Request) note.Reply {
	x.t.Helper()
	r.Stamp = x.stamp(client)
	return x.applies(r)
}

// wants applies a client's next request, and holds its error against the one that is wanted.
func (x *trial) wants(what string, client int, r note.Request, want api.Errno) note.Reply {
	x.t.Helper()
	got := x.asks(client, r)
	if got.E != want {
		x.t.Errorf("%s: %v, want %v", what, got.E, want)
	}
	return got
}

// isRight holds all that can be asked of the state against the model.
func (x *trial) isRight(what string) {
	x.t.Helper()
	s, m := x.s, x.m
	if s.Boots() != m.boots || s.Swaps() != m.swaps || s.Clock() != m.clock {
		x.t.Fatalf("%s: boots, swaps, clock: %d, %d, %d, want %d, %d, %d", what, s.Boots(), s.Swaps(), s.Clock(), m.boots, m.swaps, m.clock)
	}
	if !slices.Equal(s.Stripes(), m.uses) {
		x.t.Fatalf("%s: stripes %v, want %v", what, s.Stripes(), m.uses)
	}
	if !slices.Equal(s.Tokens(), m.tokens.Rows()) {
		x.t.Fatalf("%s: tokens %v, want %v", what, s.Tokens(), m.tokens.Rows())
	}
	if !bytes.Equal(written(s.Tree().Write), written(m.tree.Write)) {
		x.t.Fatalf("%s: tree %v, want %v", what, s.Tree(), m.tree)
	}
	for ino := -1; ino < 131; ino++ {
		if f := s.Map(ino); (f == nil) != (m.files[ino] == nil) || f != nil && !bytes.Equal(mapBytes(f), mapBytes(m.files[ino])) {
			x.t.Fatalf("%s: map of %d: %v, want %v", what, ino, f, m.files[ino])
		}
	}
	x.clientsAreRight(what)
	if b, why := s.Encode(); why != api.OK || !bytes.Equal(b, m.bytes()) {
		x.t.Fatalf("%s: Encode: %v, %v, want %v", what, b, why, m.bytes())
	}
}

// clientsAreRight holds what can be asked of each client against the model.
func (x *trial) clientsAreRight(what string) {
	x.t.Helper()
	for client := -1; client < 7; client++ {
		if got, want := x.s.Life(client), x.m.life(client); got != want {
			x.t.Fatalf("%s: Life(%d): %d, want %d", what, client, got, want)
		}
		var want []byte
		seq := 0
		if client >= 0 && client < 4 && x.m.last[client] != nil {
			was := x.m.last[client]
			want, seq = replyBytes(was.reply), was.Seq
		}
		if b, n := x.s.Last(client); !bytes.Equal(b, want) || n != seq {
			x.t.Fatalf("%s: Last(%d): %v, %d, want %v, %d", what, client, b, n, want, seq)
		}
		for _, probe := range x.probes(client) {
			if got, want := x.s.Holds(probe), x.m.holds(probe); got != want {
				x.t.Fatalf("%s: Holds(%v): %v, want %v", what, probe, got, want)
			}
			if got, want := x.s.Waste(probe), x.m.waste(probe); got != want {
				x.t.Fatalf("%s: Waste(%v): %v, want %v", what, probe, got, want)
			}
		}
	}
}

// probes answers stripes of a client about those that are there, or may come.
func (x *trial) probes(client int) []api.Stripe {
	next := 0
	if client >= 0 && client < 5 {
		next = x.m.next[client]
	}
	var l []api.Stripe
	for _, life := range []int{-1, 0, x.m.life(client) - 1, x.m.life(client), x.m.life(client) + 1} {
		for _, number := range []int{-1, 0, next - 1, next, next + 1} {
			l = append(l, api.Stripe{Client: client, Life: life, Number: number})
		}
	}
	for _, u := range x.m.uses {
		l = append(l, u.Stripe)
	}
	return l
}

// decodes answers the trial of the state that this one's bytes are, whose own bytes are the same.
func (x *trial) decodes() *trial {
	x.t.Helper()
	b, _ := x.s.Encode()
	s, why := state.Decode(b)
	if why != api.OK || s == nil {
		x.t.Fatalf("Decode of what was encoded: %v, %v: %v", s, why, b)
	}
	c := &trial{x.t, s, x.m.clone()}
	c.isRight("what was decoded")
	return c
}

// clones answers the trial of a clone.
func (x *trial) clones() *trial {
	x.t.Helper()
	c := &trial{x.t, x.s.Clone(), x.m.clone()}
	c.isRight("a clone")
	return c
}
