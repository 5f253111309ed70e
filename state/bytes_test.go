// Tests of P17.4 and P17.5, of what is encoded and decoded.
package state_test

import (
	"bytes"
	"fmt"
	"math/rand"
	"slices"
	"testing"

	"pinstripe/api"
	"pinstripe/blocks"
	"pinstripe/note"
	"pinstripe/once"
	"pinstripe/state"
	"pinstripe/tokens"
	"pinstripe/tree"
	"pinstripe/wire"
)

// eye reads bytes, till something is not so.
type eye struct {
	b   []byte
	why api.Errno
}

// take reads so many bytes.
func (e *eye) take(n int) []byte {
	if e.why == api.OK && len(e.b) < n {
		e.why = api.ErrShort
	}
	if e.why != api.OK {
		return make([]byte, n)
	}
	b := e.b[:n]
	e.b = e.b[n:]
	return b
}

// num reads a number.
func (e *eye) num(width int) int {
	x := 0
	for _, c := range e.take(width) {
		x = x*256 + int(c)
	}
	return x
}

// layer reads what a layer below reads, and answers its bytes.
func (e *eye) layer(read func(w *wire.Eye) api.Errno) []byte {
	w := wire.NewEye(e.b)
	if why := read(w); e.why == api.OK && why != api.OK {
		e.why = why
	}
	return e.take(len(e.b) - w.Left())
}

// readParts answers what is read of bytes, with what is left of them, or why a reader gives up.
func readParts(b []byte) (*parts, []byte, api.Errno) {
	e := &eye{b: b}
	p := &parts{boots: e.num(3), swaps: e.num(3), clock: e.num(6)}
	for i := range p.next {
		p.next[i] = e.num(4)
	}
	for n := e.num(1); n > 0 && e.why == api.OK; n-- {
		p.rows = append(p.rows, once.Row{Stamp: once.Stamp{Client: e.num(1), Life: e.num(3), Seq: e.num(4)}, Reply: e.take(e.num(2))})
	}
	p.tree = e.layer(func(w *wire.Eye) api.Errno { _, why := tree.Read(w); return why })
	p.tokens = e.layer(func(w *wire.Eye) api.Errno { _, why := tokens.Read(w); return why })
	for n := e.num(2); n > 0 && e.why == api.OK; n-- {
		p.files = append(p.files, filed{e.num(2), e.layer(func(w *wire.Eye) api.Errno { _, why := blocks.Read(w); return why })})
	}
	for n := e.num(2); n > 0 && e.why == api.OK; n-- {
		x := api.Stripe{Client: e.num(1), Life: e.num(3), Number: e.num(4)}
		p.uses = append(p.uses, state.Use{Stripe: x, Size: e.num(2), Born: e.num(6)})
	}
	return p, e.b, e.why
}

// mayBe tells whether what was read may be.
func (p *parts) mayBe() bool {
	return p.clientsMayBe() && p.filesMayBe() && p.stripesMayBe()
}

// clientsMayBe looks at what is of clients.
func (p *parts) clientsMayBe() bool {
	for i, r := range p.rows {
		if r.Client > 3 || r.Life > 1<<20 || r.Seq < 1 || r.Seq > 1<<30 || i > 0 && p.rows[i-1].Client >= r.Client {
			return false
		}
	}
	return slices.Max(p.next[:]) <= last+1
}

// filesMayBe holds the files against the tree and the tokens.
func (p *parts) filesMayBe() bool {
	var want, got []int
	e := &eye{b: p.tree}
	for n := e.num(2); n > 0; n-- {
		ino := e.num(2)
		e.take(2)
		e.take(e.num(2))
		if e.num(1) == 0 {
			want = append(want, ino)
		}
	}
	for _, f := range p.files {
		got = append(got, f.ino)
	}
	e = &eye{b: p.tokens}
	for n := e.num(1); n > 0; n-- {
		e.take(2)
		if !slices.Contains(want, e.num(2)) {
			return false
		}
		e.take(1)
	}
	return slices.Equal(got, want)
}

// stripesMayBe holds the stripes against the files' pointers.
func (p *parts) stripesMayBe() bool {
	hit := map[api.Stripe]int{}
	for _, f := range p.files {
		m, _ := blocks.Read(wire.NewEye(f.m))
		for _, x := range m.Ptrs() {
			hit[x.Stripe] = max(hit[x.Stripe], x.At+x.Len)
		}
	}
	for i, u := range p.uses {
		x := u.Stripe
		if i > 0 && slices.Compare(numbers(p.uses[i-1].Stripe), numbers(x)) >= 0 || x.Client > 4 || x.Life > 1<<20 || x.Number > 1<<30 {
			return false
		}
		if u.Size < 1 || u.Size > most || hit[x] == 0 || hit[x] > u.Size {
			return false
		}
	}
	return len(hit) == len(p.uses)
}

// tells answers what Decode is to say of bytes: the chapter told anew.
func tells(b []byte) api.Errno {
	p, left, why := readParts(b)
	switch {
	case why != api.OK:
		return why
	case !p.mayBe():
		return api.ErrForm
	case len(left) > 0:
		return api.ErrLong
	}
	return api.OK
}

// isTold holds what Decode says against what it is to say; what was decoded is encoded as it was.
func isTold(t *testing.T, what string, b []byte) api.Errno {
	t.Helper()
	want := tells(b)
	s, why := state.Decode(b)
	if why != want || (s == nil) != (want != api.OK) {
		t.Fatalf("%s: Decode: %v, %v, want %v: %v", what, s, why, want, b)
	}
	if want != api.OK {
		return want
	}
	if again, why := s.Encode(); why != api.OK || !bytes.Equal(again, b) {
		t.Fatalf("%s: decoded, then encoded: %v, %v, want %v", what, again, why, b)
	}
	return want
}

// rich is a trial that has all that there is to be encoded.
func rich(t *testing.T) *trial {
	x := desk(t)
	x.asks(0, mkdir("/d"))
	x.asks(1, makes("/d/h"))
	x.asks(1, writes("/d/h"))
	y := mine(1, 2)
	x.asks(1, commits(y, 80, put(5, 0, ptr(y, 0, 64)), put(5, 2, ptr(y, 64, 16))))
	x.applies(swaps())
	x.asks(3, lists("/"))
	x.applies(at(cleaner, 1, 0, note.Request{Do: note.Moved, Next: 3}))
	return x
}

// The bytes themselves.
func TestBytes(t *testing.T) {
	x := newTrial(t)
	want := make([]byte, 12+20+1+2+1+2+2)
	if b, why := x.s.Encode(); !bytes.Equal(b, want) || why != api.OK {
		t.Errorf("new: %v, %v", b, why)
	}
	x.applies(boots())
	x.applies(at(2, 3, 1, makes("/f")))
	x.applies(at(2, 3, 0x01020304, writes("/f")))
	y := api.Stripe{Client: 2, Life: 3, Number: 0x0a0b}
	x.asks(2, commits(y, 300, put(2, 0, ptr(y, 0x0102, 7))))
	x.applies(swaps())
	x.applies(swaps())
	want = slices.Concat(
		[]byte{0, 0, 1, 0, 0, 2, 0, 0, 0, 0, 0, 6}, // boots, swaps, clock
		make([]byte, 10), []byte{0x0a, 0x0c}, make([]byte, 8), // each client's next
		[]byte{1, 2, 0, 0, 3, 1, 2, 3, 5, 0, 14}, []byte{0, 0, 2, 0, 7}, make([]byte, 9), // the window
		[]byte{0, 1, 0, 2, 0, 1, 0, 1, 'f', 0},                              // the tree
		[]byte{1, 2, 0, 0, 2, 1},                                            // the tokens
		[]byte{0, 1, 0, 2, 0, 7, 2, 0, 0, 3, 0, 0, 0x0a, 0x0b, 1, 2, 7},     // the files
		[]byte{0, 1, 2, 0, 0, 3, 0, 0, 0x0a, 0x0b, 1, 44, 0, 0, 0, 0, 0, 4}, // the stripes
	)
	if b, why := x.s.Encode(); !bytes.Equal(b, want) || why != api.OK {
		t.Errorf("Encode: %v, %v, want %v", b, why, want)
	}
	if u := x.decodes().s.Stripes(); len(u) != 1 || u[0] != (state.Use{Stripe: y, Size: 300, Live: 7, Born: 4}) {
		t.Errorf("decoded: stripes %v", u)
	}
}

// What was decoded goes on as what was encoded would.
func TestDecodeGoesOn(t *testing.T) {
	for _, change := range []func(x *trial){
		func(x *trial) { x.applies(at(0, 0, x.m.last[0].Seq, looks("/"))) },
		func(x *trial) { x.wants("the same number", 0, puts(0, 2, 0, 4, 9), api.ErrLost) },
		func(x *trial) { r := puts(0, 2, 0, 5, 9); r.Swaps = 1; x.wants("the next number", 0, r, api.OK) },
		func(x *trial) {
			x.wants("close", 1, note.Request{Do: note.Commit, Closes: true, Next: 3}, api.OK)
			x.wants("Remove", 2, removes("/d/h"), api.OK)
		},
		func(x *trial) { x.wants("Make", 2, makes("/k"), api.OK) },
		func(x *trial) { r := copies(1, 3, 2, mine(0, 4), 10); r.Swaps = 1; x.applies(r) },
		func(x *trial) { x.applies(at(1, 9, 1, maps(0))) },
	} {
		x := rich(t).decodes()
		change(x)
		x.decodes()
	}
}

// Bytes that are cut at every place, and bytes with something left over.
func TestCutAndLeft(t *testing.T) {
	for what, x := range map[string]*trial{"new": newTrial(t), "a desk": desk(t), "rich": rich(t)} {
		b := x.m.bytes()
		for n := range b {
			if s, why := state.Decode(b[:n]); s != nil || why != api.ErrShort {
				t.Fatalf("%s: %d of %d bytes: %v, %v, want ErrShort", what, n, len(b), s, why)
			}
		}
		for _, more := range [][]byte{{0}, {1}, {255}, make([]byte, 300)} {
			if s, why := state.Decode(slices.Concat(b, more)); s != nil || why != api.ErrLong {
				t.Errorf("%s: %d bytes more: %v, %v, want ErrLong", what, len(more), s, why)
			}
		}
	}
}

// What is wrong with the whole is asked when all was read, and ahead of what is left over.
func TestWrongWhole(t *testing.T) {
	for what, change := range map[string]func(p *parts){
		"clients do not rise":         func(p *parts) { p.rows[0], p.rows[1] = p.rows[1], p.rows[0] },
		"a client twice":              func(p *parts) { p.rows[1].Client = 0 },
		"a client that is none":       func(p *parts) { p.rows[2].Client = 4 },
		"a Seq of nought":             func(p *parts) { p.rows[0].Seq = 0 },
		"a Seq too great":             func(p *parts) { p.rows[0].Seq = last + 1 },
		"a Life too great":            func(p *parts) { p.rows[0].Life = api.MaxLife + 1 },
		"files do not rise":           func(p *parts) { p.files[0], p.files[1] = p.files[1], p.files[0] },
		"a file twice":                func(p *parts) { p.files = slices.Insert(p.files, 0, p.files[0]) },
		"a file too few":              func(p *parts) { p.files = slices.Delete(p.files, 1, 2) },
		"a file too many":             func(p *parts) { p.files = append(p.files, filed{9, []byte{0, 0}}) },
		"a file that is a directory":  func(p *parts) { p.files = slices.Insert(p.files, 2, filed{4, []byte{0, 0}}) },
		"a file of another number":    func(p *parts) { p.files[1].ino = 4 },
		"a file that is the root":     func(p *parts) { p.files = slices.Insert(p.files, 0, filed{1, []byte{0, 0}}) },
		"a file of no number":         func(p *parts) { p.files = slices.Insert(p.files, 0, filed{0, []byte{0, 0}}) },
		"a token of a directory":      func(p *parts) { p.tokens = []byte{1, 0, 0, 0, 4, 0} },
		"a token of nothing":          func(p *parts) { p.tokens = []byte{1, 3, 3, 0, 128, 1} },
		"a pointer into no stripe":    func(p *parts) { p.uses = p.uses[:1] },
		"pointers into no stripe":     func(p *parts) { p.uses = nil },
		"a pointer beyond the Size":   func(p *parts) { p.uses[1].Size = 79 },
		"a stripe without a pointer":  func(p *parts) { p.uses = append(p.uses, state.Use{Stripe: api.Stripe{Client: 4}, Size: 1}) },
		"a stripe without one, ahead": func(p *parts) { p.uses = slices.Insert(p.uses, 0, state.Use{Size: 1}) },
		"stripes do not rise":         func(p *parts) { p.uses[0], p.uses[1] = p.uses[1], p.uses[0] },
		"a stripe twice":              func(p *parts) { p.uses = append(p.uses, p.uses[1]) },
		"a stripe of another client":  func(p *parts) { p.uses[1].Stripe.Client = 2 },
		"a stripe of no client":       func(p *parts) { p.uses = append(p.uses, state.Use{Stripe: api.Stripe{Client: 5}, Size: 1}) },
		"a stripe of too great a Life": func(p *parts) {
			p.uses = append(p.uses, state.Use{Stripe: api.Stripe{Client: 4, Life: api.MaxLife + 1}, Size: 1})
		},
		"a stripe of too great a Number": func(p *parts) {
			p.uses = append(p.uses, state.Use{Stripe: api.Stripe{Client: 4, Number: api.MaxNumber + 1}, Size: 1})
		},
		"a Size of nought":     func(p *parts) { p.uses[0].Size = 0 },
		"a Size too great":     func(p *parts) { p.uses[0].Size = most + 1 },
		"the first next":       func(p *parts) { p.next[0] = last + 2 },
		"the cleaner's next":   func(p *parts) { p.next[4] = last + 2 },
		"a next far too great": func(p *parts) { p.next[2] = 1<<32 - 1 },
	} {
		p := rich(t).m.parts()
		change(p)
		b := p.bytes()
		for _, c := range []struct {
			b    []byte
			want api.Errno
		}{{b, api.ErrForm}, {b[:len(b)-1], api.ErrShort}, {slices.Concat(b, b), api.ErrForm}, {append(slices.Clone(b), 0), api.ErrForm}} {
			if s, why := state.Decode(c.b); s != nil || why != c.want {
				t.Errorf("%s: %d of %d bytes: %v, %v, want %v", what, len(c.b), len(b), s, why, c.want)
			}
			isTold(t, what, c.b)
		}
	}
}

// What a layer below refuses is told at once.
func TestWrongAtOnce(t *testing.T) {
	for what, change := range map[string]func(p *parts){
		"a tree of too many":               func(p *parts) { p.tree[0] = 1 },
		"a tree of a thing that is none":   func(p *parts) { p.tree[3] = 0 },
		"a thing below nothing":            func(p *parts) { p.tree[5] = 77 },
		"a Bool that is none":              func(p *parts) { p.tree[len(p.tree)-1] = 2 },
		"a token of a client that is none": func(p *parts) { p.tokens[1] = 4 },
		"tokens do not rise":               func(p *parts) { p.tokens[2] = 3 },
		"a map too great":                  func(p *parts) { p.files[0].m[0] = 17 },
		"a pointer that may not be":        func(p *parts) { p.files[0].m[2] = 5 },
		"a pointer of too many bytes":      func(p *parts) { p.files[0].m[12] = 65 },
	} {
		p := rich(t).m.parts()
		change(p)
		p.next[0] = last + 2
		b := p.bytes()
		for _, c := range [][]byte{b, b[:len(b)-1], append(slices.Clone(b), 0)} {
			if s, why := state.Decode(c); s != nil || why != api.ErrForm {
				t.Errorf("%s: %d of %d bytes: %v, %v, want ErrForm", what, len(c), len(b), s, why)
			}
			isTold(t, what, c)
		}
	}
}

// What is at its ends, and what may be though no request leads there.
func TestRightWhole(t *testing.T) {
	for what, change := range map[string]func(p *parts){
		"all at their ends": func(p *parts) {
			p.boots, p.swaps, p.clock = 1<<24-1, 1<<24-1, 1<<48-1
			p.next = [5]int{last + 1, last + 1, 0, last + 1, last + 1}
			p.rows[1].Life, p.rows[1].Seq = api.MaxLife, api.MaxNumber
			p.uses[0].Size, p.uses[0].Born = most, 1<<48-1
		},
		"no next":                   func(p *parts) { p.next = [5]int{} },
		"no row":                    func(p *parts) { p.rows = nil },
		"a reply of no bytes":       func(p *parts) { p.rows[0].Reply = nil },
		"a reply that is none":      func(p *parts) { p.rows[0].Reply = []byte{99} },
		"a long reply that is none": func(p *parts) { p.rows[0].Reply = make([]byte, 1<<16-1-len(rich(t).m.bytes())) },
		"no token":                  func(p *parts) { p.tokens = []byte{0} },
		"just its Size":             func(p *parts) { p.uses[1].Size = 80 },
		"Born at nought":            func(p *parts) { p.uses[1].Born = 0 },
	} {
		p := rich(t).m.parts()
		change(p)
		if why := isTold(t, what, p.bytes()); why != api.OK {
			t.Errorf("%s: %v", what, why)
		}
	}
}

// A reply that is read, though it is none, is not answered: what is wrong with it is.
func TestAgainOfNoReply(t *testing.T) {
	for why, reply := range map[api.Errno][]byte{
		api.ErrShort: nil, api.ErrForm: slices.Concat([]byte{19}, make([]byte, 13)), api.ErrLong: make([]byte, 15),
	} {
		p := rich(t).m.parts()
		p.rows[0].Reply = reply
		s, _ := state.Decode(p.bytes())
		r := makes("/x")
		r.Stamp = p.rows[0].Stamp
		is(t, fmt.Sprint("again: ", reply), s.Apply(r), note.Reply{E: why, Swaps: 1})
		if b, seq := s.Last(0); !bytes.Equal(b, reply) || seq != r.Seq {
			t.Errorf("Last: %v, %d", b, seq)
		}
		if b, _ := s.Encode(); !bytes.Equal(b, p.bytes()) {
			t.Errorf("again: %v: the bytes are others", reply)
		}
	}
}

// What does not fit into its bytes any more is the pen's error; Apply goes on.
func TestEncodeRefused(t *testing.T) {
	for what, c := range map[string]struct {
		change func(p *parts)
		r      note.Request
	}{
		"boots": {func(p *parts) { p.boots = 1<<24 - 1 }, boots()},
		"swaps": {func(p *parts) { p.swaps = 1<<24 - 1 }, swaps()},
		"clock": {func(p *parts) { p.clock = 1<<48 - 1 }, boots()},
	} {
		p := rich(t).m.parts()
		c.change(p)
		s, why := state.Decode(p.bytes())
		if why != api.OK {
			t.Fatalf("%s: Decode: %v", what, why)
		}
		if got := s.Apply(c.r); got.E != api.OK {
			t.Errorf("%s: %v", what, got)
		}
		if b, why := s.Encode(); len(b) != 0 || why != api.ErrArg {
			t.Errorf("%s: Encode: %d bytes, %v, want ErrArg", what, len(b), why)
		}
		if got := s.Apply(at(0, 9, 1, looks("/f"))); got.Ino != 2 || got.Swaps != s.Swaps() {
			t.Errorf("%s: Look behind it: %v", what, got)
		}
	}
}

// As many files, blocks and stripes as a pen has room for, and more.
func TestEncodeLong(t *testing.T) {
	x := newTrial(t)
	for i := range api.MaxInodes - 1 {
		path := fmt.Sprint("/", i)
		b, why := x.s.Encode()
		if len(x.m.bytes()) > api.MaxBody {
			if len(b) != 0 || why != api.ErrLong {
				t.Errorf("%d files: %d bytes, %v, want ErrLong", i, len(b), why)
			}
			if c := x.s.Clone(); !slices.Equal(c.Stripes(), x.m.uses) {
				t.Errorf("%d files: the clone's stripes are others", i)
			}
			return
		}
		if why != api.OK || !bytes.Equal(b, x.m.bytes()) {
			t.Fatalf("%d files: %d bytes, %v", i, len(b), why)
		}
		isTold(t, path, b)
		y := mine(0, i)
		var l []api.Delta
		for block := range api.MaxBlocks {
			l = append(l, put(2+i, block, ptr(y, block*64, 64)))
		}
		for _, r := range []note.Request{makes(path), writes(path), commits(y, 4096, l...)} {
			r.Stamp = x.stamp(0)
			r.Closes = true
			if got, want := x.s.Apply(r), x.m.apply(r); !alike(got, want) || got.E != api.OK {
				t.Fatalf("%d files: %+v, want %+v", i, got, want)
			}
		}
	}
	t.Error("all files fit into a pen")
}

// Each byte changed: what Decode says is what the chapter says.
func TestEachByte(t *testing.T) {
	met := map[api.Errno]int{}
	for what, x := range map[string]*trial{"new": newTrial(t), "rich": rich(t)} {
		b := x.m.bytes()
		for i := range b {
			for _, to := range []byte{0, 1, 2, 3, 4, 5, 9, 64, 65, 127, 128, 254, 255, b[i] + 1, b[i] - 1, b[i] ^ 64} {
				c := slices.Clone(b)
				c[i] = to
				met[isTold(t, fmt.Sprintf("%s: byte %d is %d", what, i, to), c)]++
			}
			met[isTold(t, fmt.Sprintf("%s: byte %d is not there", what, i), slices.Delete(slices.Clone(b), i, i+1))]++
			met[isTold(t, fmt.Sprintf("%s: byte %d is there twice", what, i), slices.Insert(slices.Clone(b), i, b[i]))]++
		}
	}
	for _, why := range []api.Errno{api.OK, api.ErrShort, api.ErrForm, api.ErrLong} {
		if met[why] < 50 {
			t.Errorf("%v is met %d times", why, met[why])
		}
	}
}

// Any two parts changed: what Decode says is what the chapter says.
func TestAnyParts(t *testing.T) {
	r := rand.New(rand.NewSource(17))
	near := func(x, top int) int { return min(max(0, x+r.Intn(5)-2), top) }
	base := rich(t).m
	for range 20000 {
		p := base.parts()
		for range 1 + r.Intn(2) {
			switch r.Intn(9) {
			case 0:
				p.next[r.Intn(5)] = last + r.Intn(4)
			case 1:
				i := r.Intn(len(p.rows))
				p.rows[i].Client = near(p.rows[i].Client, 255)
			case 2:
				i := r.Intn(len(p.rows))
				p.rows[i].Life, p.rows[i].Seq = api.MaxLife-1+r.Intn(3), r.Intn(2)*api.MaxNumber+r.Intn(2)
			case 3:
				p.tree[r.Intn(len(p.tree))] ^= byte(1 << r.Intn(4))
			case 4:
				p.tokens[r.Intn(len(p.tokens))] ^= byte(1 << r.Intn(3))
			case 5:
				i := r.Intn(len(p.files))
				p.files[i].ino = near(p.files[i].ino, 255)
			case 6:
				m := p.files[r.Intn(len(p.files))].m
				m[r.Intn(len(m))] ^= byte(1 << r.Intn(8))
			case 7:
				u := &p.uses[r.Intn(len(p.uses))]
				u.Stripe.Client, u.Stripe.Life, u.Stripe.Number = near(u.Stripe.Client, 255), near(u.Stripe.Life, 255), near(u.Stripe.Number, 255)
			case 8:
				u := &p.uses[r.Intn(len(p.uses))]
				u.Size = []int{0, 1, near(u.Size, most), most, most + 1}[r.Intn(5)]
			}
		}
		isTold(t, fmt.Sprintf("%+v", p), p.bytes())
	}
}
