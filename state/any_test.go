// Long rows of any requests, held against the chapter told anew behind each.
package state_test

import (
	"math"
	"math/rand"
	"testing"

	"pinstripe/api"
	"pinstripe/note"
	"pinstripe/once"
)

// source makes requests that mostly may be, by what the model knows.
type source struct {
	*rand.Rand
	m *model
}

// pick answers one of these.
func pick[T any](g *source, l ...T) T {
	return l[g.Intn(len(l))]
}

// path answers a path that may be there.
func (g *source) path() string {
	return pick(g, "/a", "/b", "/d", "/d/a", "/d/b", "/d/e", "/d/e/a", "/", "/a", "/b", "/d/a", "/x/y", "//", "")
}

// stamp answers a client's stamp, mostly the next one.
func (g *source) stamp(client int) once.Stamp {
	s := once.Stamp{Client: client, Seq: 1}
	if client >= 0 && client < 4 && g.m.last[client] != nil {
		s = g.m.last[client].Stamp
	}
	switch g.Intn(40) {
	case 0: // the same again
	case 1:
		s.Seq--
	case 2:
		s.Life, s.Seq = s.Life+1, 1+g.Intn(3)
	case 3:
		s.Life--
	case 4:
		s.Seq += 7
	case 5:
		s.Seq = pick(g, -1, 0, math.MaxInt, api.MaxNumber+1)
	default:
		s.Seq++
	}
	return s
}

// handle answers one of a client's handles, mostly one that writes.
func (g *source) handle(client int) (int, int) {
	for _, i := range g.Perm(len(g.m.tokens.Rows())) {
		if r := g.m.tokens.Rows()[i]; r.Client == client && (r.Writes || g.Intn(5) == 0) {
			return r.Handle, r.Ino
		}
	}
	return g.Intn(5) - 1, 2
}

// request answers any request.
func (g *source) request() note.Request {
	client := pick(g, 0, 0, 0, 0, 1, 1, 1, 2, 3, 0, 1, 0, 1, 0, 0, 1, 2, -1, 4, 5)
	r := note.Request{Path: g.path(), To: g.path(), Dir: g.Intn(3) == 0, Writes: g.Intn(3) > 0}
	r.Handle, _ = g.handle(client)
	switch n := g.Intn(100); {
	case n < 45:
		r = g.commit(client)
	case n < 60:
		r.Do = note.Open
	case n < 90:
		r.Do = pick(g, note.Make, note.Make, note.Make, note.Remove, note.Move, note.Look, note.List, note.Map)
	case n < 97:
		return g.moved()
	default:
		r.Do = pick(g, note.Boot, note.Swap, 0, 12, -1, note.Moved)
		r.Client, r.Life = pick(g, 4, 4, 4, client), g.m.boots
		return r
	}
	r.Stamp = g.stamp(client)
	return r
}

// comes answers a request of so many stripes, of a client's life, from its next on.
func (g *source) comes(client, life, count int) note.Request {
	r := note.Request{Swaps: g.m.swaps}
	if client >= 0 && client < 5 {
		r.Next = g.m.next[client]
	}
	for range count {
		r.Next += g.Intn(2)
		r.Stripes = append(r.Stripes, sized(api.Stripe{Client: client, Life: life, Number: r.Next}, 60+g.Intn(90)))
		r.Next++
	}
	r.Next += g.Intn(2)
	return r
}

// spot answers a pointer into one of these stripes.
func (g *source) spot(l []note.Sized, size int) api.Ptr {
	c := l[g.Intn(len(l))]
	return ptr(c.Stripe, g.Intn(max(1, c.Size-size+1)), size)
}

// commit answers a Commit, mostly one that may be.
func (g *source) commit(client int) note.Request {
	life := max(0, g.m.life(client))
	if client == cleaner {
		life = 0
	}
	r := g.comes(client, life, g.Intn(3))
	r.Do, r.Closes = note.Commit, g.Intn(6) == 0
	ino := 0
	r.Handle, ino = g.handle(client)
	for range g.Intn(4) {
		block := g.Intn(5)
		switch {
		case g.Intn(4) == 0:
			r.Deltas = append(r.Deltas, cut(ino, g.Intn(300)))
		case g.Intn(5) == 0 || len(r.Stripes) == 0:
			r.Deltas = append(r.Deltas, put(ino, block, api.Ptr{}))
		default:
			r.Deltas = append(r.Deltas, put(ino, block, g.spot(r.Stripes, 1+g.Intn(60))))
		}
	}
	if g.Intn(4) == 0 {
		g.spoil(&r)
	}
	return r
}

// moved answers a Moved of all that lives in one stripe, mostly one that may be.
func (g *source) moved() note.Request {
	r := g.comes(cleaner, g.m.boots, 1)
	r.Do, r.Stamp = note.Moved, once.Stamp{Client: cleaner, Life: g.m.boots, Seq: g.Intn(3)}
	r.Stripes[0].Size = most
	if len(g.m.uses) > 0 {
		victim := pick(g, g.m.uses...).Stripe
		at := 0
		for ino := range api.MaxInodes + 1 {
			f := g.m.files[ino]
			for block := range f.Count() {
				if old := f.At(block); old.Len > 0 && old.Stripe == victim {
					r.Deltas = append(r.Deltas, move(ino, block, old, ptr(r.Stripes[0].Stripe, at, old.Len)))
					at += old.Len
				}
			}
		}
	}
	if g.Intn(3) == 0 {
		g.spoil(&r)
	}
	return r
}

// spoil changes one thing of a request.
func (g *source) spoil(r *note.Request) {
	near := func(x int) int { return x + g.Intn(3) - 1 }
	switch g.Intn(10) {
	case 0:
		r.Swaps = near(r.Swaps)
	case 1:
		r.Next = pick(g, near(r.Next), r.Next-3, -1, api.MaxNumber+2, math.MaxInt)
	case 2:
		r.Handle = near(r.Handle)
	case 3:
		r.Client = near(r.Client)
	case 4:
		r.Life = near(r.Life)
	case 5, 6:
		if len(r.Stripes) > 0 {
			c := &r.Stripes[g.Intn(len(r.Stripes))]
			*c = pick(g, sized(c.Stripe, 0), sized(c.Stripe, most+1), sized(c.Stripe, 1), sized(c.Stripe, -1), r.Stripes[0],
				sized(api.Stripe{Client: near(c.Stripe.Client), Life: c.Stripe.Life, Number: c.Stripe.Number}, c.Size),
				sized(api.Stripe{Client: c.Stripe.Client, Life: near(c.Stripe.Life), Number: c.Stripe.Number}, c.Size),
				sized(api.Stripe{Client: c.Stripe.Client, Life: c.Stripe.Life, Number: near(c.Stripe.Number)}, c.Size))
		}
	default:
		if len(r.Deltas) > 0 {
			d := &r.Deltas[g.Intn(len(r.Deltas))]
			*pick(g, &d.Do, &d.Ino, &d.Block, &d.Size, &d.To.At, &d.To.Len, &d.To.Number, &d.To.Life, &d.Old.Len) += pick(g, -1, 1, 60, math.MinInt)
		}
	}
}

// Whatever is asked, in whatever order: what is answered, and all that can be asked behind it, is what the chapter says; a clone, and what was decoded, go on likewise.
func TestAny(t *testing.T) {
	r := rand.New(rand.NewSource(1))
	done, refused := map[int]int{}, map[api.Errno]int{}
	stripes := 0
	for range 300 {
		x := newTrial(t)
		x.applies(boots())
		for _, path := range []string{"/d", "/d/e"} {
			x.asks(3, mkdir(path))
		}
		for range 200 {
			g := &source{r, x.m}
			ask := g.request()
			if got := x.applies(ask); got.E == api.OK {
				done[ask.Do]++
			} else {
				refused[got.E]++
			}
			stripes = max(stripes, len(x.m.uses))
			switch r.Intn(20) {
			case 0:
				x = x.clones()
			case 1:
				x = x.decodes()
			}
		}
	}
	for do := note.Make; do <= note.Swap; do++ {
		if done[do] < 50 {
			t.Errorf("Do %d is done %d times", do, done[do])
		}
	}
	for _, why := range []api.Errno{api.ErrArg, api.ErrForm, api.ErrNone, api.ErrThere, api.ErrBusy, api.ErrDir, api.ErrFile, api.ErrNotEmpty, api.ErrName, api.ErrOpen, api.ErrLost, api.ErrStale} {
		if refused[why] < 20 {
			t.Errorf("%v is met %d times", why, refused[why])
		}
	}
	if stripes < 5 {
		t.Errorf("at most %d stripes are there", stripes)
	}
}

// All short rows of a few requests.
func TestShortRows(t *testing.T) {
	kinds := []func(x *trial){
		func(x *trial) { x.asks(0, makes("/f")) },
		func(x *trial) { x.asks(0, writes("/f")) },
		func(x *trial) { x.asks(0, puts(0, 2, 0, x.m.next[0], 10)) },
		func(x *trial) { x.asks(0, note.Request{Do: note.Commit, Next: x.m.next[0], Closes: true}) },
		func(x *trial) { x.asks(1, removes("/f")) },
		func(x *trial) { x.applies(copies(x.m.boots, x.m.next[cleaner], 2, mine(0, 0), 10)) },
		func(x *trial) { x.applies(at(0, x.m.life(0)+1, 1, reads("/f"))) },
		func(x *trial) { x.applies(boots()) },
	}
	for row := range 8 * 8 * 8 * 8 {
		x := newTrial(t)
		x.asks(0, makes("/f"))
		x.asks(0, writes("/f"))
		x.asks(0, puts(0, 2, 1, 0, 10))
		for range 4 {
			kinds[row%8](x)
			row /= 8
		}
	}
}
