// Tests of chapter 15, by what package tokens exports alone: this file has who has what open, bytes_test.go what is written and read.
package tokens_test

import (
	"fmt"
	"math"
	"math/rand"
	"slices"
	"strings"
	"testing"

	"pinstripe/api"
	"pinstripe/tokens"
	"pinstripe/wire"
)

// Numbers that may not be.
var (
	noClients = []int{-1, -2, 4, 5, 128, 255, 256, 1 << 32, -1 << 32, math.MaxInt, math.MinInt}
	noHandles = []int{-1, -2, 4, 5, 128, 255, 256, 1 << 32, -1 << 32, math.MaxInt, math.MinInt}
	noInos    = []int{1, 0, -1, -2, 129, 130, 255, 256, 258, 65535, 65536, 65538, 1<<32 + 2, -1 << 32, math.MaxInt, math.MinInt}
)

// The model: the chapter told anew.

// held is what a handle has open; of ino 0, if there is none.
type held struct {
	ino    int
	writes bool
}

// model has what each handle of each client has open.
type model [4][4]held

// clone answers another model of the same.
func (m *model) clone() *model {
	c := *m
	return &c
}

func (m *model) open(client, ino int, writes bool) (int, api.Errno) {
	if client < 0 || client > 3 || ino < 2 || ino > 128 {
		return 0, api.ErrArg
	}
	handle := slices.Index(m[client][:], held{})
	if handle < 0 {
		return 0, api.ErrFull
	}
	for _, l := range m {
		for _, x := range l {
			if x.ino == ino && (writes || x.writes) {
				return 0, api.ErrBusy
			}
		}
	}
	m[client][handle] = held{ino, writes}
	return handle, api.OK
}

func (m *model) of(client, handle int) (tokens.Row, bool) {
	if client < 0 || client > 3 || handle < 0 || handle > 3 || m[client][handle].ino == 0 {
		return tokens.Row{}, false
	}
	x := m[client][handle]
	return tokens.Row{Client: client, Handle: handle, Ino: x.ino, Writes: x.writes}, true
}

func (m *model) close(client, handle int) api.Errno {
	if _, ok := m.of(client, handle); !ok {
		return api.ErrOpen
	}
	m[client][handle] = held{}
	return api.OK
}

func (m *model) busy(ino int) bool {
	return slices.ContainsFunc(m.rows(), func(r tokens.Row) bool { return r.Ino == ino })
}

func (m *model) drop(client int) int {
	n := 0
	for handle := range 4 {
		if m.close(client, handle) == api.OK {
			n++
		}
	}
	return n
}

func (m *model) rows() []tokens.Row {
	l := []tokens.Row{}
	for i := range 16 {
		if r, ok := m.of(i/4, i%4); ok {
			l = append(l, r)
		}
	}
	return l
}

// bytes answers what is written.
func (m *model) bytes() string {
	b := string(rune(len(m.rows())))
	for _, r := range m.rows() {
		b += form(r)
	}
	return b
}

// row answers one of these numbers.
func row(client, handle, ino int, writes bool) tokens.Row {
	return tokens.Row{Client: client, Handle: handle, Ino: ino, Writes: writes}
}

// form answers what is written of a row.
func form(r tokens.Row) string {
	b := []byte{byte(r.Client), byte(r.Handle), byte(r.Ino / 256), byte(r.Ino % 256), 0}
	if r.Writes {
		b[4] = 1
	}
	return string(b)
}

// pair is tokens, and what is to be told of them.
type pair struct {
	k *tokens.Tokens
	m *model
}

func newPair() pair {
	return pair{tokens.New(), &model{}}
}

// clone answers a clone of both.
func (p pair) clone() pair {
	return pair{p.k.Clone(), p.m.clone()}
}

// open has both open something; nothing else is done.
func (p pair) open(t *testing.T, client, ino int, writes bool) (int, api.Errno) {
	t.Helper()
	handle, e := p.m.open(client, ino, writes)
	if got, why := p.k.Open(client, ino, writes); got != handle || why != e {
		t.Fatalf("Open(%d, %d, %v): %d, %v, want %d, %v", client, ino, writes, got, why, handle, e)
	}
	return handle, e
}

// opens has both open something, and looks at how that went.
func (p pair) opens(t *testing.T, client, ino int, writes bool, handle int, e api.Errno) {
	t.Helper()
	if got, why := p.open(t, client, ino, writes); got != handle || why != e {
		t.Fatalf("Open(%d, %d, %v): %d, %v, want %d, %v", client, ino, writes, got, why, handle, e)
	}
}

// closes has both close a handle, and looks at how that went.
func (p pair) closes(t *testing.T, client, handle int, e api.Errno) {
	t.Helper()
	want := p.m.close(client, handle)
	if got := p.k.Close(client, handle); got != e || want != e {
		t.Fatalf("Close(%d, %d): %v, want %v (model: %v)", client, handle, got, e, want)
	}
}

// drops has both drop a client, and looks at how that went.
func (p pair) drops(t *testing.T, client, n int) {
	t.Helper()
	want := p.m.drop(client)
	if got := p.k.Drop(client); got != n || want != n {
		t.Fatalf("Drop(%d): %d, want %d (model: %d)", client, got, n, want)
	}
}

// isRight looks at all that can be told of tokens; twice, as that changes nothing.
func (p pair) isRight(t *testing.T, what string) {
	t.Helper()
	for range 2 {
		rows := p.k.Rows()
		if !slices.Equal(rows, p.m.rows()) {
			t.Fatalf("%s: Rows: %v, want %v", what, rows, p.m.rows())
		}
		writerIsAlone(t, what, rows)
		for i := range 36 {
			client, handle := i/6-1, i%6-1
			want, there := p.m.of(client, handle)
			if r, ok := p.k.Of(client, handle); r != want || ok != there {
				t.Fatalf("%s: Of(%d, %d): %v, %v, want %v, %v", what, client, handle, r, ok, want, there)
			}
		}
		for ino := -1; ino <= 130; ino++ {
			if p.k.Busy(ino) != p.m.busy(ino) {
				t.Fatalf("%s: Busy(%d): %v, want %v", what, ino, p.k.Busy(ino), p.m.busy(ino))
			}
		}
		if b := written(t, p.k); b != p.m.bytes() {
			t.Fatalf("%s: Write: %q, want %q", what, b, p.m.bytes())
		}
	}
}

// writerIsAlone looks at P15.3.
func writerIsAlone(t *testing.T, what string, rows []tokens.Row) {
	t.Helper()
	for _, r := range rows {
		for _, x := range rows {
			if r.Writes && x != r && x.Ino == r.Ino {
				t.Fatalf("%s: %v writes, and is not alone: %v", what, r, x)
			}
		}
	}
}

// written answers what Write writes.
func written(t *testing.T, k *tokens.Tokens) string {
	t.Helper()
	p := &wire.Pen{}
	k.Write(p)
	b, e := p.Bytes()
	if e != api.OK {
		t.Fatalf("Write: %v", e)
	}
	return string(b)
}

// filled answers tokens of all handles, each of which has another thing open, from ino on.
func filled(t *testing.T, ino int, writes bool) pair {
	t.Helper()
	p := newPair()
	for i := range 16 {
		p.opens(t, i/4, ino+i, writes, i%4, api.OK)
	}
	return p
}

// garden answers tokens in which there is something of each kind: readers of one thing, a writer, a client that closed one in the middle, one that has none.
func garden(t *testing.T) pair {
	t.Helper()
	p := newPair()
	p.opens(t, 3, 5, false, 0, api.OK)
	p.opens(t, 0, 5, false, 0, api.OK)
	p.opens(t, 3, 128, true, 1, api.OK)
	p.opens(t, 3, 7, false, 2, api.OK)
	p.opens(t, 0, 5, false, 1, api.OK)
	p.opens(t, 1, 2, true, 0, api.OK)
	p.closes(t, 3, 0, api.OK)
	return p
}

func TestExample(t *testing.T) {
	p := newPair()
	p.isRight(t, "a new one")
	p.opens(t, 1, 5, true, 0, api.OK)
	p.isRight(t, "one that writes")
	p.opens(t, 2, 5, false, 0, api.ErrBusy)
	p.isRight(t, "one that was refused")
	p.closes(t, 1, 0, api.OK)
	p.isRight(t, "closed")
	p.opens(t, 2, 5, false, 0, api.OK)
	p.opens(t, 1, 5, false, 0, api.OK)
	p.isRight(t, "two that read")
}

// Each client and each ino at its least and its most, and past either.
func TestOpenEdges(t *testing.T) {
	for _, writes := range []bool{false, true} {
		for _, client := range []int{0, 1, 2, 3} {
			for _, ino := range []int{2, 3, 127, 128} {
				p := newPair()
				p.opens(t, client, ino, writes, 0, api.OK)
				p.isRight(t, "opened")
				r, ok := p.k.Of(client, 0)
				if want := row(client, 0, ino, writes); r != want || !ok {
					t.Errorf("Of(%d, 0): %v, %v, want %v", client, r, ok, want)
				}
				if !p.k.Busy(ino) || p.k.Busy(ino+1) || p.k.Busy(ino-1) {
					t.Errorf("Busy about %d: %v, %v, %v", ino, p.k.Busy(ino-1), p.k.Busy(ino), p.k.Busy(ino+1))
				}
			}
		}
		for _, p := range []pair{newPair(), garden(t)} {
			for _, client := range noClients {
				for _, ino := range append(slices.Clone(noInos), 2, 5, 9, 128) {
					p.opens(t, client, ino, writes, 0, api.ErrArg)
				}
			}
			for _, ino := range noInos {
				for client := range 4 {
					p.opens(t, client, ino, writes, 0, api.ErrArg)
				}
				if p.k.Busy(ino) {
					t.Errorf("Busy(%d)", ino)
				}
			}
			p.isRight(t, "behind what is refused")
		}
	}
}

// Each handle at its least and its most, and past either, of a client that has all, of one that has none, and of clients that may not be.
func TestHandleEdges(t *testing.T) {
	p := filled(t, 2, true)
	p.drops(t, 2, 4)
	refused := func(client, handle int) {
		t.Helper()
		if r, ok := p.k.Of(client, handle); r != (tokens.Row{}) || ok {
			t.Errorf("Of(%d, %d): %v, %v", client, handle, r, ok)
		}
		p.closes(t, client, handle, api.ErrOpen)
	}
	for _, client := range []int{0, 1, 2, 3} {
		for _, handle := range noHandles {
			refused(client, handle)
		}
	}
	for _, client := range append(slices.Clone(noClients), 2) {
		for _, handle := range append(slices.Clone(noHandles), 0, 1, 2, 3) {
			refused(client, handle)
		}
	}
	p.isRight(t, "behind what is refused")
	for i, handle := range []int{3, 0, 1, 2} {
		for _, client := range []int{0, 1, 3} {
			r, ok := p.k.Of(client, handle)
			if want := row(client, handle, 2+4*client+handle, true); r != want || !ok {
				t.Errorf("Of(%d, %d): %v, %v, want %v", client, handle, r, ok, want)
			}
			p.closes(t, client, handle, api.OK)
			refused(client, handle)
			p.isRight(t, fmt.Sprint("closed of each: ", i+1))
		}
	}
}

// Of several errors that could be it is the one that is named first.
func TestOrderOfErrors(t *testing.T) {
	p := newPair() // client 1 has all, 4 and 6 read by it, 5 written
	p.opens(t, 1, 4, false, 0, api.OK)
	p.opens(t, 1, 5, true, 1, api.OK)
	p.opens(t, 1, 6, false, 2, api.OK)
	p.opens(t, 1, 6, false, 3, api.OK)
	for _, l := range []struct {
		what        string
		client, ino int
		writes      bool
		want        api.Errno
	}{
		{"no ino, all handles", 1, 1, false, api.ErrArg},
		{"no ino, all handles, writes", 1, 129, true, api.ErrArg},
		{"no client, and busy", -1, 5, false, api.ErrArg},
		{"no client, and busy, writes", 4, 4, true, api.ErrArg},
		{"no client, no ino", 4, 1, true, api.ErrArg},
		{"all handles, and busy as it is written", 1, 5, false, api.ErrFull},
		{"all handles, and busy as it is read", 1, 4, true, api.ErrFull},
		{"all handles, and busy by many", 1, 6, true, api.ErrFull},
		{"all handles, not busy", 1, 7, false, api.ErrFull},
		{"all handles, not busy, writes", 1, 7, true, api.ErrFull},
		{"all handles, another reads", 1, 4, false, api.ErrFull},
		{"handles left, and written", 0, 5, false, api.ErrBusy},
		{"handles left, and written, writes", 0, 5, true, api.ErrBusy},
		{"handles left, and read, writes", 2, 4, true, api.ErrBusy},
		{"handles left, and read by many, writes", 3, 6, true, api.ErrBusy},
	} {
		handle, e := p.open(t, l.client, l.ino, l.writes)
		if handle != 0 || e != l.want {
			t.Errorf("%s: %d, %v, want 0, %v", l.what, handle, e, l.want)
		}
		p.isRight(t, l.what)
	}
	p.closes(t, 1, 2, api.OK)
	p.opens(t, 1, 5, false, 0, api.ErrBusy) // a handle is free again
	p.opens(t, 1, 6, true, 0, api.ErrBusy)
	p.opens(t, 1, 7, true, 2, api.OK)
}

// A client with one handle less than may be, and with all; whatever others have.
func TestAllHandles(t *testing.T) {
	for client := range 4 {
		for _, writes := range []bool{false, true} {
			p := newPair()
			for handle := range 4 {
				p.isRight(t, fmt.Sprint(handle, " handles"))
				p.opens(t, client, 10+handle, writes, handle, api.OK)
			}
			for range 2 {
				p.opens(t, client, 20, writes, 0, api.ErrFull)
				p.isRight(t, "all handles")
			}
			for other := range 4 {
				if other != client {
					p.opens(t, other, 20, false, 0, api.OK)
				}
			}
			p.closes(t, client, 3, api.OK)
			p.opens(t, client, 21, writes, 3, api.OK)
			p.opens(t, client, 22, writes, 0, api.ErrFull)
			p.isRight(t, "all again")
		}
	}
	p := filled(t, 2, false)
	p.isRight(t, "as many as may be")
	for client := range 4 {
		p.opens(t, client, 100, false, 0, api.ErrFull)
	}
	p.isRight(t, "one more")
}

// Whichever handles were closed, in whatever order, the next ones that are given are the least.
func TestLeastHandle(t *testing.T) {
	for set := range 16 {
		for _, backward := range []bool{false, true} {
			p := filled(t, 2, true)
			shut := []int{}
			for handle := range 4 {
				if set>>handle&1 == 1 {
					shut = append(shut, handle)
				}
			}
			for i := range shut {
				if backward {
					i = len(shut) - 1 - i
				}
				p.closes(t, 2, shut[i], api.OK)
			}
			p.isRight(t, fmt.Sprint("closed: ", shut))
			for i, handle := range shut {
				p.opens(t, 2, 50+i, true, handle, api.OK)
				p.isRight(t, fmt.Sprint("closed: ", shut, ", opened again: ", i+1))
			}
			p.opens(t, 2, 60, true, 0, api.ErrFull)
		}
	}
	p := newPair()
	for i := range 100 { // a handle that is closed is given again, however often
		p.opens(t, 0, 2+i, true, 0, api.OK)
		p.closes(t, 0, 0, api.OK)
	}
}

// Who has a thing open keeps others from it, if either writes: by the same client and by another, till the first has closed, or was dropped.
func TestAlone(t *testing.T) {
	free := map[string]func(p pair){
		"closed":  func(p pair) { p.closes(t, 1, 0, api.OK) },
		"dropped": func(p pair) { p.drops(t, 1, 1) },
	}
	for _, first := range []bool{false, true} {
		for _, then := range []bool{false, true} {
			for client := range 4 {
				for how, let := range free {
					what := fmt.Sprintf("client 1 (writes: %v), then client %d (writes: %v), %s", first, client, then, how)
					p := newPair()
					p.opens(t, 1, 9, first, 0, api.OK)
					if first || then {
						p.opens(t, client, 9, then, 0, api.ErrBusy)
						p.opens(t, client, 9, then, 0, api.ErrBusy)
					}
					p.isRight(t, what)
					p.opens(t, 2, 8, true, 0, api.OK) // another thing is nobody's
					p.closes(t, 2, 0, api.OK)
					let(p)
					if p.k.Busy(9) {
						t.Errorf("%s: Busy", what)
					}
					p.opens(t, client, 9, then, 0, api.OK)
					p.isRight(t, what)
				}
			}
		}
	}
}

// Many read one thing: the last of them keeps a writer from it, the writer then keeps all of them.
func TestManyReaders(t *testing.T) {
	p := newPair()
	for i := range 16 {
		p.opens(t, i/4, 9, false, i%4, api.OK)
	}
	p.isRight(t, "all read")
	for i := range 15 {
		p.closes(t, i/4, i%4, api.OK)
		p.opens(t, i/4, 9, true, 0, api.ErrBusy)
		p.isRight(t, fmt.Sprint("closed: ", i+1))
	}
	p.closes(t, 3, 3, api.OK)
	p.opens(t, 0, 9, true, 0, api.OK)
	for client := range 4 {
		p.opens(t, client, 9, false, 0, api.ErrBusy)
		p.opens(t, client, 9, true, 0, api.ErrBusy)
	}
	p.isRight(t, "one writes")
	p.opens(t, 0, 8, false, 1, api.OK) // its writer reads another, and closes that: it is the writer still
	p.closes(t, 0, 1, api.OK)
	p.drops(t, 1, 0) // it had none
	p.opens(t, 1, 9, false, 0, api.ErrBusy)
	p.closes(t, 0, 0, api.OK)
	p.opens(t, 1, 9, false, 0, api.OK)
}

// A handle of one client is not another's.
func TestAnothersHandle(t *testing.T) {
	for client := range 4 {
		for other := range 4 {
			if other == client {
				continue
			}
			p := newPair()
			p.opens(t, client, 5, true, 0, api.OK)
			p.opens(t, client, 6, false, 1, api.OK)
			p.opens(t, other, 7, false, 0, api.OK)
			if r, ok := p.k.Of(other, 1); r != (tokens.Row{}) || ok {
				t.Errorf("Of(%d, 1): %v, %v", other, r, ok)
			}
			p.closes(t, other, 1, api.ErrOpen)
			p.isRight(t, "what is another's was not closed")
			p.closes(t, other, 0, api.OK)
			p.closes(t, other, 0, api.ErrOpen)
			p.isRight(t, "one's own was closed, not another's of the same number")
			p.closes(t, client, 1, api.OK)
			p.closes(t, client, 0, api.OK)
			p.isRight(t, "all were closed")
		}
	}
}

// Drop of a client with none, with some, with all; of one that may not be.
func TestDrop(t *testing.T) {
	for n := range 5 {
		for client := range 4 {
			p := filled(t, 2, true)
			p.drops(t, client, 4)
			p.isRight(t, "with all")
			for handle := range n {
				p.opens(t, client, 40+handle, handle%2 == 0, handle, api.OK)
			}
			for _, x := range noClients {
				p.drops(t, x, 0)
			}
			p.isRight(t, "clients that may not be")
			p.drops(t, client, n)
			p.isRight(t, fmt.Sprint("with ", n))
			p.drops(t, client, 0)
			p.closes(t, client, 0, api.ErrOpen)
			p.opens(t, client, 2+4*client, true, 0, api.OK)
			p.isRight(t, "behind it")
		}
	}
	p := newPair()
	for client := range 4 {
		p.drops(t, client, 0)
	}
	p.isRight(t, "nobody has any")
	p = garden(t) // a handle in the middle was closed
	p.drops(t, 3, 2)
	p.drops(t, 0, 2)
	p.drops(t, 1, 1)
	p.isRight(t, "the garden")
}

// In whatever order they were opened, rows are by client, then by handle.
func TestRowsRise(t *testing.T) {
	for order := range 24 {
		left, p := []int{0, 1, 2, 3}, newPair()
		for len(left) > 0 {
			i := order % len(left)
			order /= len(left)
			client := left[i]
			left = slices.Delete(left, i, i+1)
			p.opens(t, client, 100-client, true, 0, api.OK)
			p.opens(t, client, 50-client, false, 1, api.OK)
			p.isRight(t, "clients in some order")
		}
	}
	for seed := range int64(200) {
		r, p := rand.New(rand.NewSource(seed)), filled(t, 2, true)
		for range 3 {
			shut := r.Perm(16)[:r.Intn(17)]
			for _, i := range shut {
				p.closes(t, i/4, i%4, api.OK)
				p.isRight(t, "closed in some order")
			}
			r.Shuffle(len(shut), func(i, j int) { shut[i], shut[j] = shut[j], shut[i] })
			for k, i := range shut {
				p.open(t, i/4, 128-k, true)
				p.isRight(t, "opened again in some order")
			}
			for i := range 16 {
				p.closes(t, i/4, i%4, api.OK)
			}
			for k, i := range r.Perm(16) {
				p.open(t, i/4, 30+k, false)
			}
			p.isRight(t, "all anew")
		}
	}
}

// changes answers calls by which the garden is changed, one by one.
func changes(t *testing.T) map[string]func(p pair) {
	return map[string]func(p pair){
		"Open at the front":    func(p pair) { p.opens(t, 0, 3, true, 2, api.OK) },
		"Open in the middle":   func(p pair) { p.opens(t, 3, 7, false, 0, api.OK) },
		"Open of a new client": func(p pair) { p.opens(t, 2, 5, false, 0, api.OK) },
		"Open at the end":      func(p pair) { p.opens(t, 3, 9, false, 0, api.OK); p.opens(t, 3, 10, true, 3, api.OK) },
		"Close at the front":   func(p pair) { p.closes(t, 0, 0, api.OK) },
		"Close in the middle":  func(p pair) { p.closes(t, 1, 0, api.OK) },
		"Close at the end":     func(p pair) { p.closes(t, 3, 2, api.OK) },
		"Drop at the front":    func(p pair) { p.drops(t, 0, 2) },
		"Drop at the end":      func(p pair) { p.drops(t, 3, 2) },
		"Drop of all":          func(p pair) { p.drops(t, 0, 2); p.drops(t, 1, 1); p.drops(t, 3, 2) },
	}
}

// What is done to a clone, or to a copy, is not to be seen in what it was made of; nor the other way round.
func TestClone(t *testing.T) {
	for name, change := range changes(t) {
		p := garden(t)
		c := p.clone()
		c.isRight(t, "a clone")
		change(c)
		c.isRight(t, name+" of a clone")
		p.isRight(t, name+" of a clone: what it was cloned from")
		change(p)
		p.isRight(t, name+" of both")
		for other, again := range changes(t) {
			p, q := garden(t), garden(t)
			copied := *q.k
			c, d := p.clone(), pair{&copied, q.m.clone()}
			change(p)
			change(q)
			c.isRight(t, name+" of what was cloned: the clone")
			again(c)
			again(d)
			p.isRight(t, name+", then "+other+" of the clone")
			c.isRight(t, name+" of what was cloned, then "+other)
			q.isRight(t, name+", then "+other+" of a copy")
			d.isRight(t, name+" of what was copied, then "+other)
		}
	}
	p := newPair()
	c := p.clone()
	c.opens(t, 0, 2, true, 0, api.OK)
	p.isRight(t, "a clone of none was changed")
	d := c.clone().clone()
	c.closes(t, 0, 0, api.OK)
	d.isRight(t, "a clone's clone")
}

// None of two tokens hears of the other.
func TestManyTokens(t *testing.T) {
	p, q := garden(t), filled(t, 2, true)
	for _, change := range changes(t) {
		x := garden(t)
		change(x)
		p.isRight(t, "one")
		q.isRight(t, "another")
	}
	newPair().isRight(t, "a new one")
}

// Of tokens that are nil, or that no call made.
func TestNone(t *testing.T) {
	for name, k := range map[string]*tokens.Tokens{"nil": nil, "no call's": {}, "a new one": new(tokens.Tokens)} {
		for range 2 {
			for _, client := range append(slices.Clone(noClients), 0, 1, 2, 3) {
				for _, n := range append(slices.Clone(noInos), 2, 3, 128) {
					for _, writes := range []bool{false, true} {
						if handle, e := k.Open(client, n, writes); handle != 0 || e != api.ErrDead {
							t.Fatalf("%s: Open(%d, %d, %v): %d, %v", name, client, n, writes, handle, e)
						}
					}
					if e := k.Close(client, n-2); e != api.ErrDead {
						t.Fatalf("%s: Close(%d, %d): %v", name, client, n-2, e)
					}
					if r, ok := k.Of(client, n-2); r != (tokens.Row{}) || ok {
						t.Fatalf("%s: Of(%d, %d): %v, %v", name, client, n-2, r, ok)
					}
					if k.Busy(n) {
						t.Fatalf("%s: Busy(%d)", name, n)
					}
				}
				if n := k.Drop(client); n != 0 {
					t.Fatalf("%s: Drop(%d): %d", name, client, n)
				}
			}
			if l := k.Rows(); len(l) != 0 {
				t.Fatalf("%s: Rows: %v", name, l)
			}
			if c := k.Clone(); c != nil {
				t.Fatalf("%s: Clone: %v", name, c)
			}
			if b := written(t, k); b != "" {
				t.Fatalf("%s: Write: %q", name, b)
			}
			k.Write(nil)
		}
	}
}

// spoil writes into all of a list, its spare room too, and behind it.
func spoil(l []tokens.Row) {
	whole := l[:cap(l)]
	for i := range whole {
		whole[i] = row(2, 2, 99, true)
	}
	_ = append(l, row(2, 3, 98, true))
}

// Whoever writes into what Rows answered changes neither the tokens nor another answer; no later call changes what it answered.
func TestWhatIsAnswered(t *testing.T) {
	for name, change := range changes(t) {
		p := garden(t)
		want := p.m.rows()
		first, second := p.k.Rows(), p.k.Rows()
		spoil(first)
		if !slices.Equal(second, want) {
			t.Fatalf("a write into one answer of Rows shows in another: %v", second)
		}
		p.isRight(t, "behind a write into what Rows answered")
		c := p.clone()
		change(p)
		change(c)
		if !slices.Equal(second, want) {
			t.Fatalf("%s changes what Rows answered: %v", name, second)
		}
		spoil(p.k.Rows())
		p.isRight(t, name+", then a write into what Rows answered")
		c.isRight(t, name+", then a write into what another's Rows answered")
	}
	p := filled(t, 2, false)
	for i := range 16 {
		p.closes(t, i/4, i%4, api.OK)
		spoil(p.k.Rows())
		p.isRight(t, "rows that were closed, then a write into what Rows answered")
	}
}

// call is one of any, done to both.
type call struct {
	what string
	do   func(t *testing.T, p pair)
}

// opening, closing and dropping answer calls.
func opening(client, ino int, writes bool) call {
	return call{fmt.Sprintf("Open(%d, %d, %v)", client, ino, writes), func(t *testing.T, p pair) {
		t.Helper()
		p.open(t, client, ino, writes)
	}}
}

func closing(client, handle int) call {
	return call{fmt.Sprintf("Close(%d, %d)", client, handle), func(t *testing.T, p pair) {
		t.Helper()
		want := p.m.close(client, handle)
		if e := p.k.Close(client, handle); e != want {
			t.Fatalf("Close(%d, %d): %v, want %v", client, handle, e, want)
		}
	}}
}

func dropping(client int) call {
	return call{fmt.Sprintf("Drop(%d)", client), func(t *testing.T, p pair) {
		t.Helper()
		want := p.m.drop(client)
		if n := p.k.Drop(client); n != want {
			t.Fatalf("Drop(%d): %d, want %d", client, n, want)
		}
	}}
}

// All rows of four calls of two clients, by two things.
func TestAllShortRows(t *testing.T) {
	calls := []call{}
	for _, client := range []int{0, 3} {
		for _, ino := range []int{2, 128} {
			calls = append(calls, opening(client, ino, false), opening(client, ino, true))
		}
		calls = append(calls, closing(client, 0), closing(client, 1), dropping(client))
	}
	k := len(calls)
	for r := range k * k * k * k {
		p, what := newPair(), []string{}
		for range 4 {
			calls[r%k].do(t, p)
			what = append(what, calls[r%k].what)
			r /= k
		}
		if !slices.Equal(p.k.Rows(), p.m.rows()) {
			t.Fatalf("%s: Rows: %v, want %v", strings.Join(what, ", "), p.k.Rows(), p.m.rows())
		}
		writerIsAlone(t, strings.Join(what, ", "), p.k.Rows())
	}
}

// anyCall answers one of any, most of which may be.
func anyCall(r *rand.Rand) call {
	client, ino, handle := r.Intn(4), 2+r.Intn(12), r.Intn(4)
	if r.Intn(20) == 0 {
		client = noClients[r.Intn(len(noClients))]
	}
	if r.Intn(20) == 0 {
		ino = append([]int{127, 128}, noInos...)[r.Intn(2+len(noInos))]
	}
	if r.Intn(20) == 0 {
		handle = noHandles[r.Intn(len(noHandles))]
	}
	switch n := r.Intn(60); {
	case n == 0:
		return dropping(client)
	case n < 15:
		return closing(client, handle)
	}
	return opening(client, ino, r.Intn(3) == 0)
}

// Long rows of any calls; now and then there is a clone, or what was written is read again, which is not to be seen.
func TestAnyRowsOfCalls(t *testing.T) {
	count := map[api.Errno]int{}
	for seed := range int64(60) {
		r := rand.New(rand.NewSource(seed))
		p := newPair()
		for range 150 {
			c := anyCall(r)
			c.do(t, p)
			p.isRight(t, "behind "+c.what)
			switch r.Intn(20) {
			case 0:
				p.k = p.k.Clone()
			case 1:
				p = reads(t, written(t, p.k), p.m)
			}
			_, e := p.m.clone().open(r.Intn(5), 2+r.Intn(12), r.Intn(2) == 0)
			count[e]++
		}
	}
	for _, e := range []api.Errno{api.OK, api.ErrArg, api.ErrFull, api.ErrBusy} {
		if count[e] < 100 {
			t.Errorf("%d of %v: too few to tell anything", count[e], e)
		}
	}
}
