// Tests of chapter 8, by what package once exports alone.
package once_test

import (
	"bytes"
	"fmt"
	"math"
	"math/rand"
	"slices"
	"strings"
	"testing"

	"pinstripe/api"
	"pinstripe/once"
)

// Numbers that may be: the least and the greatest of each, those beside them, and some between.
var (
	clients = []int{0, 1, 2, api.MaxClients - 1}
	lives   = []int{0, 1, 2, 255, 256, 65535, 65536, api.MaxLife - 1, api.MaxLife}
	seqs    = []int{1, 2, 3, 255, 256, 65535, 65536, api.MaxNumber - 1, api.MaxNumber}
)

// Numbers that may not be.
var (
	noClients = []int{-1, -2, api.MaxClients, api.MaxClients + 1, 255, 256, 1 << 32, -1 << 32, math.MaxInt, math.MinInt}
	noLives   = []int{-1, -2, api.MaxLife + 1, api.MaxLife + 2, 1<<24 - 1, 1 << 32, -1 << 32, math.MaxInt, math.MinInt}
	noSeqs    = []int{0, -1, -2, api.MaxNumber + 1, api.MaxNumber + 2, 1<<32 - 1, 1 << 32, 1<<32 + 1, -1 << 32, math.MaxInt, math.MinInt}
)

// stamp answers one of its own numbers.
func stamp(client, life, seq int) once.Stamp {
	return once.Stamp{Client: client, Life: life, Seq: seq}
}

// row answers one of its own reply.
func row(client, life, seq int, reply string) once.Row {
	return once.Row{Stamp: stamp(client, life, seq), Reply: []byte(reply)}
}

// bad answers stamps that may not be: each of one number that may not, and some of more.
func bad() []once.Stamp {
	l := []once.Stamp{{}, stamp(-1, -1, 0), stamp(api.MaxClients, api.MaxLife+1, api.MaxNumber+1), stamp(0, -1, 0), stamp(-1, 0, 0), stamp(-1, -1, 1)}
	for _, c := range noClients {
		l = append(l, stamp(c, 0, 1), stamp(c, 1, 5), stamp(c, api.MaxLife, api.MaxNumber))
	}
	for _, c := range clients {
		for _, n := range noLives {
			l = append(l, stamp(c, n, 1), stamp(c, n, 5), stamp(c, n, api.MaxNumber))
		}
		for _, n := range noSeqs {
			l = append(l, stamp(c, 0, n), stamp(c, 1, n), stamp(c, api.MaxLife, n))
		}
	}
	return l
}

// about answers a number's neighbours, itself, and the ends.
func about(n, least, most int) []int {
	l := []int{}
	for _, x := range []int{least, n - 2, n - 1, n, n + 1, n + 2, most} {
		if x >= least && x <= most && !slices.Contains(l, x) {
			l = append(l, x)
		}
	}
	return l
}

// text tells rows, so that nil and an empty list are one.
func text(l []once.Row) string {
	s := []string{}
	for _, r := range l {
		s = append(s, fmt.Sprintf("%d/%d/%d:%q", r.Client, r.Life, r.Seq, r.Reply))
	}
	return strings.Join(s, " ")
}

// asks looks at what Ask says; twice, as it changes nothing.
func asks(t *testing.T, w *once.Window, s once.Stamp, kind int, reply string) {
	t.Helper()
	for range 2 {
		if k, b := w.Ask(s); k != kind || string(b) != reply {
			t.Fatalf("Ask(%v) of %s: %d, %q, want %d, %q", s, text(w.Rows()), k, b, kind, reply)
		}
	}
}

// dones looks at what Done says.
func dones(t *testing.T, w *once.Window, s once.Stamp, reply string, want api.Errno) {
	t.Helper()
	ahead := text(w.Rows())
	if e := w.Done(s, []byte(reply)); e != want {
		t.Fatalf("Done(%v, %q) of %s: %v, want %v", s, reply, ahead, e, want)
	}
}

// has looks at all that a window has.
func has(t *testing.T, what string, w *once.Window, want ...once.Row) {
	t.Helper()
	if got := text(w.Rows()); got != text(want) {
		t.Fatalf("%s: Rows: %s, want %s", what, got, text(want))
	}
	life := map[int]int{}
	for _, r := range want {
		life[r.Client] = r.Life
		asks(t, w, r.Stamp, once.Again, string(r.Reply))
	}
	for _, c := range append(slices.Clone(noClients), 0, 1, 2, 3) {
		n, ok := life[c]
		if !ok {
			n = -1
		}
		if got := w.Life(c); got != n {
			t.Fatalf("%s: Life(%d) of %s: %d, want %d", what, c, text(want), got, n)
		}
	}
}

// loads loads rows that may be.
func loads(t *testing.T, rows ...once.Row) *once.Window {
	t.Helper()
	w, e := once.Load(rows)
	if e != api.OK || w == nil {
		t.Fatalf("Load(%s): %v, %v, want a window", text(rows), w, e)
	}
	return w
}

// made answers windows that have one row, by each way in which there may be one.
func made(t *testing.T, r once.Row) map[string]*once.Window {
	t.Helper()
	first, later := once.New(), once.New()
	dones(t, first, r.Stamp, string(r.Reply), api.OK)
	if r.Seq > 1 {
		dones(t, later, stamp(r.Client, r.Life, r.Seq-1), "an elder one", api.OK)
	} else if r.Life > 0 {
		dones(t, later, stamp(r.Client, r.Life-1, api.MaxNumber), "an elder life", api.OK)
	}
	dones(t, later, r.Stamp, string(r.Reply), api.OK)
	return map[string]*once.Window{"one that was done": first, "one that was done behind another": later, "one that was loaded": loads(t, r)}
}

// spoil writes into all of a list of bytes, its spare room too, and behind it.
func spoil(b []byte) {
	whole := b[:cap(b)]
	for i := range whole {
		whole[i] ^= 0xff
	}
	_ = append(b, 0xee, 0xee, 0xee)
}

// spoilRows writes into all of a list of rows, their replies and spare room too.
func spoilRows(l []once.Row) {
	whole := l[:cap(l)]
	for i := range whole {
		spoil(whole[i].Reply)
		whole[i] = row(3, 9, 9, "spoilt")
	}
	_ = append(l, row(3, 8, 8, "spoilt"))
}

// everyReply answers replies of all kinds.
func everyReply() []string {
	every := make([]byte, 256)
	for i := range every {
		every[i] = byte(i)
	}
	return []string{"", "a", "\x00", "\xff", string(every), strings.Repeat(string(every), api.MaxBody/256), strings.Repeat("x", api.MaxBody+1), strings.Repeat("y", 1<<20)}
}

func TestExample(t *testing.T) {
	w := once.New()
	asks(t, w, stamp(1, 0, 1), once.Newer, "")
	dones(t, w, stamp(1, 0, 1), "a", api.OK)
	asks(t, w, stamp(1, 0, 1), once.Again, "a")
	asks(t, w, stamp(1, 0, 2), once.Fresh, "")
	asks(t, w, stamp(1, 2, 1), once.Newer, "")
	asks(t, w, stamp(1, 0, 0), once.Old, "")
	has(t, "then", w, row(1, 0, 1, "a"))
}

func TestKinds(t *testing.T) {
	if k := [...]int{once.Fresh, once.Again, once.Old, once.Newer}; k != [...]int{0, 1, 2, 3} {
		t.Errorf("Fresh, Again, Old, Newer: %v, want 0 to 3", k)
	}
}

// TestNeverDone: whatever may be is Newer of a client that never was Done, and may be Done.
func TestNeverDone(t *testing.T) {
	for _, c := range clients {
		for _, n := range lives {
			for _, s := range seqs {
				for name, w := range map[string]*once.Window{"New": once.New(), "Load of none": loads(t), "Load of an empty list": loads(t, []once.Row{}...)} {
					has(t, name, w)
					asks(t, w, stamp(c, n, s), once.Newer, "")
					has(t, name+", asked", w)
					dones(t, w, stamp(c, n, s), "a", api.OK)
					has(t, name+", done", w, row(c, n, s, "a"))
				}
			}
		}
	}
}

// TestNeverDoneBesideOthers: a client that never was Done is so, whatever was done of all others.
func TestNeverDoneBesideOthers(t *testing.T) {
	for _, c := range clients {
		l := []once.Row{}
		for _, o := range clients {
			if o != c {
				l = append(l, row(o, 5, 7, fmt.Sprint("of ", o)))
			}
		}
		for _, n := range []int{0, 4, 5, 6, api.MaxLife} {
			for _, s := range []int{1, 6, 7, 8, api.MaxNumber} {
				w := loads(t, l...)
				asks(t, w, stamp(c, n, s), once.Newer, "")
				has(t, "all but one", w, l...)
				dones(t, w, stamp(c, n, s), "a", api.OK)
				has(t, "all", w, slices.Insert(slices.Clone(l), c, row(c, n, s, "a"))...)
			}
		}
	}
}

// TestAskBeside: each kind, for each row that may be, of lives and numbers about its own and at the ends.
func TestAskBeside(t *testing.T) {
	for _, c := range clients {
		for _, life := range lives {
			for _, seq := range seqs {
				r := row(c, life, seq, "the last")
				for name, w := range made(t, r) {
					for _, n := range about(life, 0, api.MaxLife) {
						for _, s := range about(seq, 1, api.MaxNumber) {
							kind, reply := once.Fresh, ""
							switch {
							case n < life:
								kind = once.Old
							case n > life:
								kind = once.Newer
							case s < seq:
								kind = once.Old
							case s == seq:
								kind, reply = once.Again, "the last"
							}
							asks(t, w, stamp(c, n, s), kind, reply)
						}
					}
					has(t, name, w, r)
				}
			}
		}
	}
}

// TestDoneBeside: what is stale or comes again is refused and changes nothing; all else is the row from then on.
func TestDoneBeside(t *testing.T) {
	for _, c := range clients {
		for _, life := range []int{0, 1, 7, api.MaxLife} {
			for _, seq := range []int{1, 2, 9, api.MaxNumber} {
				r := row(c, life, seq, "the last")
				for _, n := range about(life, 0, api.MaxLife) {
					for _, s := range about(seq, 1, api.MaxNumber) {
						for name, w := range made(t, r) {
							what := fmt.Sprintf("%s, behind Done of life %d, number %d", name, n, s)
							if n < life || n == life && s <= seq {
								dones(t, w, stamp(c, n, s), "another", api.ErrStale)
								dones(t, w, stamp(c, n, s), "", api.ErrStale)
								has(t, what, w, r)
								continue
							}
							dones(t, w, stamp(c, n, s), "another", api.OK)
							has(t, what, w, row(c, n, s, "another"))
							asks(t, w, r.Stamp, once.Old, "")
							dones(t, w, r.Stamp, "the last", api.ErrStale)
							dones(t, w, stamp(c, n, s), "a third", api.ErrStale)
							has(t, what+", and what was last", w, row(c, n, s, "another"))
						}
					}
				}
			}
		}
	}
}

// TestBadStamps: a stamp that may not be is Old, and changes nothing.
func TestBadStamps(t *testing.T) {
	l := []once.Row{row(0, 0, 1, "a"), row(1, 1, 5, "b"), row(2, api.MaxLife, api.MaxNumber, "c")}
	for _, s := range bad() {
		for _, rows := range [][]once.Row{nil, l, l[1:2]} {
			w := loads(t, rows...)
			asks(t, w, s, once.Old, "")
			dones(t, w, s, "x", api.ErrStale)
			dones(t, w, s, "", api.ErrStale)
			asks(t, w, s, once.Old, "")
			has(t, fmt.Sprintf("behind Ask and Done of %v", s), w, rows...)
		}
	}
}

// TestOneClientAlone: what is done of one client is not heard by another.
func TestOneClientAlone(t *testing.T) {
	all := []once.Row{row(0, 3, 5, "of 0"), row(1, 3, 5, "of 1"), row(2, 3, 5, "of 2"), row(3, 3, 5, "of 3")}
	for _, c := range clients {
		for _, s := range []once.Stamp{stamp(c, 3, 6), stamp(c, 3, api.MaxNumber), stamp(c, 4, 1), stamp(c, api.MaxLife, 5)} {
			w, want := loads(t, all...), slices.Clone(all)
			dones(t, w, s, "new", api.OK)
			want[c] = row(s.Client, s.Life, s.Seq, "new")
			has(t, fmt.Sprintf("all, behind Done(%v)", s), w, want...)
			for _, o := range clients {
				if o != c {
					asks(t, w, stamp(o, s.Life, s.Seq), []int{once.Fresh, once.Newer}[min(s.Life-3, 1)], "")
					asks(t, w, stamp(o, 3, 4), once.Old, "")
				}
			}
			for _, o := range clients {
				w := loads(t, all[o])
				dones(t, w, s, "new", api.OK)
				switch {
				case o < c:
					has(t, "two", w, all[o], want[c])
				case o > c:
					has(t, "two", w, want[c], all[o])
				default:
					has(t, "one", w, want[c])
				}
			}
		}
	}
}

// TestRowsRise: in whichever order clients were done, their rows are by client.
func TestRowsRise(t *testing.T) {
	for order := range 24 {
		left, w := []int{0, 1, 2, 3}, once.New()
		l := []once.Row{}
		for len(left) > 0 {
			i := order % len(left)
			order /= len(left)
			c := left[i]
			left = slices.Delete(left, i, i+1)
			r := row(c, 9-c, 1+c, fmt.Sprint("of ", c))
			dones(t, w, r.Stamp, string(r.Reply), api.OK)
			at := 0
			for at < len(l) && l[at].Client < c {
				at++
			}
			l = slices.Insert(l, at, r)
			has(t, "clients that were done in some order", w, l...)
		}
	}
}

func TestAnyReply(t *testing.T) {
	for _, a := range everyReply() {
		for _, b := range everyReply() {
			w := loads(t, row(0, 0, 1, b), row(2, 1, 1, a))
			dones(t, w, stamp(2, 1, 2), b, api.OK)
			dones(t, w, stamp(3, 0, 1), a, api.OK)
			dones(t, w, stamp(3, 0, 1), b, api.ErrStale)
			has(t, "any replies", w, row(0, 0, 1, b), row(2, 1, 2, b), row(3, 0, 1, a))
		}
	}
	w := once.New()
	for i, b := range [][]byte{nil, {}, []byte("a"), nil} {
		if e := w.Done(stamp(0, 0, i+1), b); e != api.OK {
			t.Fatalf("Done of reply %v: %v", b, e)
		}
		has(t, "a reply that is nil, or empty", w, row(0, 0, i+1, string(b)))
	}
}

// TestLoad: all sets of clients that rise, each with numbers at the ends and between; what was loaded is as if it were done.
func TestLoad(t *testing.T) {
	for set := range 1 << api.MaxClients {
		for k := range 4 {
			l := []once.Row{}
			for c := range api.MaxClients {
				if set>>c&1 == 1 {
					l = append(l, row(c, []int{0, 1, 77, api.MaxLife}[(c+k)%4], []int{1, api.MaxNumber, 2, 99}[(c+k)%4], strings.Repeat("r", c+k)))
				}
			}
			w, done := loads(t, l...), once.New()
			for _, r := range l {
				dones(t, done, r.Stamp, string(r.Reply), api.OK)
			}
			has(t, "loaded", w, l...)
			has(t, "done", done, l...)
			has(t, "loaded of Rows", loads(t, w.Rows()...), l...)
		}
	}
}

// TestLoadRefuses: each way in which rows may not be.
func TestLoadRefuses(t *testing.T) {
	refused := func(l ...once.Row) {
		t.Helper()
		if w, e := once.Load(l); e != api.ErrForm || w != nil {
			t.Fatalf("Load(%s): %v, %v, want none and ErrForm", text(l), w, e)
		}
	}
	for _, s := range bad() {
		r := once.Row{Stamp: s, Reply: []byte("x")}
		refused(r)
		refused(once.Row{Stamp: s})
		if s.Client > 0 {
			refused(row(0, 0, 1, "a"), r)
		}
		if s.Client < 3 {
			refused(r, row(3, 0, 1, "a"))
		}
		refused(row(0, 0, 1, ""), r, row(3, 0, 1, "a"))
	}
	for a := range api.MaxClients {
		for b := range a + 1 {
			for _, n := range []int{0, 1, 2} {
				for _, s := range []int{1, 2, 3} {
					x, y := row(a, 1, 2, "a"), row(b, n, s, "b")
					refused(x, y)
					refused(x, y, row(3, 0, 1, ""))
					if b > 0 {
						refused(row(0, 0, 1, ""), x, y)
					}
				}
			}
		}
	}
	rise := []once.Row{row(0, 0, 1, ""), row(1, 0, 1, ""), row(2, 0, 1, ""), row(3, 0, 1, "")}
	for c := range api.MaxClients + 1 {
		refused(append(slices.Clone(rise), row(c, 0, 1, ""))...)
	}
	refused(slices.Concat(rise, rise)...)
	for i := range rise {
		for j := range i {
			l := slices.Clone(rise)
			l[i], l[j] = l[j], l[i]
			refused(l...)
		}
	}
}

// TestNone: of a window that is nil, or that no call made.
func TestNone(t *testing.T) {
	var none *once.Window
	for name, w := range map[string]*once.Window{"nil": none, "no call's": {}, "a new one": new(once.Window)} {
		for range 2 {
			for _, s := range append(bad(), stamp(0, 0, 1), stamp(1, 2, 3), stamp(3, api.MaxLife, api.MaxNumber)) {
				if k, b := w.Ask(s); k != 0 || len(b) != 0 {
					t.Fatalf("%s: Ask(%v): %d, %q, want 0 and none", name, s, k, b)
				}
				for _, b := range [][]byte{nil, []byte("a")} {
					if e := w.Done(s, b); e != api.ErrDead {
						t.Fatalf("%s: Done(%v, %q): %v, want ErrDead", name, s, b, e)
					}
				}
			}
			for _, c := range append(slices.Clone(noClients), 0, 1, 2, 3) {
				if n := w.Life(c); n != 0 {
					t.Fatalf("%s: Life(%d): %d, want 0", name, c, n)
				}
			}
			if l := w.Rows(); len(l) != 0 {
				t.Fatalf("%s: Rows: %s, want none", name, text(l))
			}
		}
	}
}

// TestWhatDoneIsGiven: the reply is not changed, spare room included, and not kept.
func TestWhatDoneIsGiven(t *testing.T) {
	for _, n := range []int{0, 1, 2, 100} {
		whole := bytes.Repeat([]byte("abc"), n+5)
		was := slices.Clone(whole)
		reply := string(was[:n])
		w := once.New()
		for i, e := range []api.Errno{api.OK, api.OK, api.ErrStale} {
			if got := w.Done(stamp(1, 0, min(i+1, 2)), whole[:n]); got != e {
				t.Fatalf("Done: %v, want %v", got, e)
			}
		}
		w.Done(stamp(2, 0, 1), whole[:n])
		if !bytes.Equal(whole, was) {
			t.Fatalf("Done wrote into a reply of %d bytes, or its spare room", n)
		}
		spoil(whole)
		has(t, "behind a write into what Done was given", w, row(1, 0, 2, reply), row(2, 0, 1, reply))
		whole = slices.Clone(was)
		w.Done(stamp(1, 0, 3), whole[:n])
		_, b := w.Ask(stamp(1, 0, 3))
		spoil(b)
		spoilRows(w.Rows())
		if !bytes.Equal(whole, was) {
			t.Fatalf("what Done was given, %d bytes, was kept", n)
		}
	}
}

// TestWhatLoadIsGiven: neither the rows nor their replies are changed, spare room included, nor kept.
func TestWhatLoadIsGiven(t *testing.T) {
	for _, n := range []int{0, 1, 2, 100} {
		bytesOf := bytes.Repeat([]byte("abc"), n+5)
		was := slices.Clone(bytesOf)
		whole := []once.Row{row(0, 1, 1, ""), row(1, 2, 2, ""), row(3, 3, 3, ""), row(3, 4, 4, "spare"), row(0, 5, 5, "spare")}
		for i := range 3 {
			whole[i].Reply = bytesOf[:n] // all three of one list
		}
		want := []once.Row{row(0, 1, 1, string(was[:n])), row(1, 2, 2, string(was[:n])), row(3, 3, 3, string(was[:n]))}
		ahead := text(whole)
		w, other := loads(t, whole[:3]...), loads(t, whole[:3]...)
		if _, e := once.Load(whole[:4]); e != api.ErrForm {
			t.Fatalf("Load of clients that do not rise: %v", e)
		}
		dones(t, w, stamp(1, 2, 3), "new", api.OK)
		_, b := w.Ask(stamp(0, 1, 1))
		spoil(b)
		spoilRows(w.Rows())
		if text(whole) != ahead || !bytes.Equal(bytesOf, was) {
			t.Fatalf("what Load was given, %d bytes a row, was changed, or kept: %s", n, text(whole))
		}
		has(t, "another of the same rows", other, want...)
		spoil(bytesOf)
		spoilRows(whole)
		has(t, "another, behind a write into what Load was given", other, want...)
		want[1] = row(1, 2, 3, "new")
		has(t, "behind a write into what Load was given", w, want...)
	}
}

// TestWhatIsAnswered: whoever writes into what Ask and Rows answered changes neither the window nor another answer.
func TestWhatIsAnswered(t *testing.T) {
	l := []once.Row{row(0, 0, 1, "first"), row(1, 0, 1, ""), row(2, 5, 6, "third"), row(3, 0, 1, strings.Repeat("long", 100))}
	w := loads(t, l...)
	for _, r := range l {
		k, one := w.Ask(r.Stamp)
		_, two := w.Ask(r.Stamp)
		rows := w.Rows()
		spoil(one)
		if k != once.Again || string(two) != string(r.Reply) || text(rows) != text(l) {
			t.Fatalf("a write into what Ask(%v) answered shows in %q or %s", r.Stamp, two, text(rows))
		}
		has(t, "behind a write into what Ask answered", w, l...)
	}
	first, second := w.Rows(), w.Rows()
	for i := range first { // of one answer, one list behind the other
		spoil(first[i].Reply)
		first[i].Reply = slices.Clone(l[i].Reply)
		if text(first) != text(l) {
			t.Fatalf("a write into reply %d, or behind it: %s", i, text(first))
		}
	}
	spoilRows(w.Rows())
	spoilRows(first)
	has(t, "behind a write into all that Rows answered", w, l...)
	if text(second) != text(l) {
		t.Fatalf("a write into one answer of Rows shows in another: %s", text(second))
	}
}

// TestAnswersStay: no later call changes what Ask or Rows answered.
func TestAnswersStay(t *testing.T) {
	l := []once.Row{row(0, 0, 1, "first"), row(2, 5, 6, "third")}
	for name, f := range map[string]func(w *once.Window){
		"Done, fresh":       func(w *once.Window) { w.Done(stamp(2, 5, 7), []byte("THIRD")) },
		"Done, shorter":     func(w *once.Window) { w.Done(stamp(2, 5, 7), []byte("x")) },
		"Done, newer":       func(w *once.Window) { w.Done(stamp(2, 6, 1), []byte("THIRD")) },
		"Done, none":        func(w *once.Window) { w.Done(stamp(2, 6, 1), nil) },
		"Done, again":       func(w *once.Window) { w.Done(stamp(2, 5, 6), []byte("THIRD")) },
		"Done, stale":       func(w *once.Window) { w.Done(stamp(2, 5, 5), []byte("THIRD")) },
		"Done of another":   func(w *once.Window) { w.Done(stamp(0, 0, 2), []byte("FIRST")) },
		"Done of a new one": func(w *once.Window) { w.Done(stamp(1, 0, 1), []byte("second")) },
		"Ask, Life, Rows":   func(w *once.Window) { w.Ask(stamp(2, 5, 6)); w.Life(2); w.Rows() },
	} {
		w := loads(t, l...)
		_, b := w.Ask(stamp(2, 5, 6))
		rows := w.Rows()
		for range 3 {
			f(w)
			if string(b) != "third" || text(rows) != text(l) {
				t.Errorf("%s: Ask's answer is %q, that of Rows %s", name, b, text(rows))
			}
		}
	}
}

// TestManyWindows: what is done to one window is not to be seen in another, nor in a copy of it.
func TestManyWindows(t *testing.T) {
	l := []once.Row{row(0, 1, 1, "first"), row(2, 5, 6, "third")}
	one, other := loads(t, l...), loads(t, l...)
	twin := *one
	dones(t, one, stamp(0, 1, 2), "FIRST", api.OK)
	dones(t, one, stamp(1, 0, 1), "x", api.OK)
	has(t, "another", other, l...)
	has(t, "a copy", &twin, l...)
	dones(t, &twin, stamp(2, 5, 7), "THIRD", api.OK)
	has(t, "one", one, row(0, 1, 2, "FIRST"), row(1, 0, 1, "x"), row(2, 5, 6, "third"))
	has(t, "the copy", &twin, row(0, 1, 1, "first"), row(2, 5, 7, "THIRD"))
	has(t, "another", other, l...)
	has(t, "a new one", once.New())
}

// told is the chapter told anew: all requests that were done, in order; a client's last one counts.
type told []once.Row

// last answers a client's last request.
func (x told) last(client int) (once.Row, bool) {
	for _, r := range slices.Backward(x) {
		if r.Client == client {
			return r, true
		}
	}
	return once.Row{}, false
}

// ask tells what Ask does.
func (x told) ask(s once.Stamp) (int, string) {
	within := s.Client >= 0 && s.Client <= 3 && s.Life >= 0 && s.Life <= 1048576 && s.Seq >= 1 && s.Seq <= 1073741824
	r, ok := x.last(s.Client)
	if !within || ok && s.Life < r.Life {
		return once.Old, ""
	}
	if !ok || s.Life > r.Life {
		return once.Newer, ""
	}
	if s.Seq == r.Seq {
		return once.Again, string(r.Reply)
	}
	if s.Seq < r.Seq {
		return once.Old, ""
	}
	return once.Fresh, ""
}

// done does a request to a window and to what is told of it.
func (x *told) done(t *testing.T, w *once.Window, s once.Stamp, reply string) {
	t.Helper()
	kind, had := x.ask(s)
	asks(t, w, s, kind, had)
	if kind == once.Old || kind == once.Again {
		dones(t, w, s, reply, api.ErrStale)
	} else {
		dones(t, w, s, reply, api.OK)
		*x = append(*x, row(s.Client, s.Life, s.Seq, reply))
	}
	has(t, fmt.Sprintf("behind Done(%v)", s), w, x.rows()...)
}

// rows tells what Rows does.
func (x told) rows() []once.Row {
	l := []once.Row{}
	for c := range 4 {
		if r, ok := x.last(c); ok {
			l = append(l, r)
		}
	}
	return l
}

// TestAllShortRows: all rows of four requests of two clients.
func TestAllShortRows(t *testing.T) {
	calls := []once.Stamp{}
	for _, c := range []int{0, 3} {
		for n := range 2 {
			for s := range 3 {
				calls = append(calls, stamp(c, n, s))
			}
		}
	}
	k := len(calls)
	for r := range k * k * k * k {
		w, x := once.New(), &told{}
		for i := range 4 {
			x.done(t, w, calls[r%k], string(rune('a'+i)))
			r /= k
		}
	}
}

// TestAnyLives: long rows of any requests; now and then the window is loaded anew of its rows, which is not to be seen.
func TestAnyLives(t *testing.T) {
	for seed := range int64(200) {
		r := rand.New(rand.NewSource(seed))
		w, x := once.New(), &told{}
		life, seq := []int{0, 50, api.MaxLife - 3}[seed%3], []int{1, 50, api.MaxNumber - 3}[seed/3%3]
		for i := range 200 {
			s := stamp(r.Intn(6)-1, life+r.Intn(8)/2-1, seq+r.Intn(8)-2)
			x.done(t, w, s, fmt.Sprintf("%d of %d", i, r.Intn(1000)))
			if r.Intn(20) == 0 {
				w = loads(t, w.Rows()...)
			}
			life, seq = life+r.Intn(20)/19, seq+r.Intn(4)/3
		}
	}
}
