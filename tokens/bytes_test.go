// Tests of P15.2: what is written and read.
package tokens_test

import (
	"fmt"
	"math/rand"
	"slices"
	"strings"
	"testing"

	"pinstripe/api"
	"pinstripe/tokens"
	"pinstripe/wire"
)

// forms answers what is written of rows.
func forms(l ...tokens.Row) string {
	b := string([]byte{byte(len(l))})
	for _, r := range l {
		b += form(r)
	}
	return b
}

// reads answers the tokens that bytes are, and what is to be told of them; the bytes are those that they write, and no others.
func reads(t *testing.T, b string, m *model) pair {
	t.Helper()
	e := wire.NewEye([]byte(b))
	k, why := tokens.Read(e)
	if why != api.OK || k == nil {
		t.Fatalf("Read(%q): %v, %v, want tokens", b, k, why)
	}
	if why := e.End(); why != api.OK {
		t.Fatalf("Read(%q): %v at the end", b, why)
	}
	if got := written(t, k); got != b {
		t.Fatalf("Read(%q) writes %q", b, got)
	}
	return pair{k, m}
}

// refused looks at what Read says of what are no tokens.
func refused(t *testing.T, what, b string, want api.Errno) {
	t.Helper()
	if k, why := tokens.Read(wire.NewEye([]byte(b))); k != nil || why != want {
		t.Errorf("%s: Read(%q): %v, %v, want none, %v", what, b, k, why, want)
	}
}

// tells answers what Read is to say of bytes, and, where it says OK, the rows: the chapter told anew.
func tells(b string) (api.Errno, []tokens.Row) {
	if b == "" {
		return api.ErrShort, nil
	}
	n, b := int(b[0]), b[1:]
	l := []tokens.Row{}
	for range n {
		if len(b) < 5 {
			return api.ErrShort, nil
		}
		r := row(int(b[0]), int(b[1]), int(b[2])<<8+int(b[3]), b[4] == 1)
		if b[4] > 1 || r.Client > 3 || r.Handle > 3 || r.Ino < 2 || r.Ino > 128 {
			return api.ErrForm, nil
		}
		for _, x := range l {
			if x.Client*4+x.Handle >= r.Client*4+r.Handle || x.Ino == r.Ino && (x.Writes || r.Writes) {
				return api.ErrForm, nil
			}
		}
		l, b = append(l, r), b[5:]
	}
	return api.OK, l
}

// isTold holds what Read says against what it is to say.
func isTold(t *testing.T, b string) api.Errno {
	t.Helper()
	want, rows := tells(b)
	e := wire.NewEye([]byte(b))
	k, why := tokens.Read(e)
	if why != want || (k == nil) != (want != api.OK) {
		t.Fatalf("Read(%q): %v, %v, want %v, %v", b, k, why, want, rows)
	}
	if want != api.OK {
		return want
	}
	if !slices.Equal(k.Rows(), rows) || e.Left() != len(b)-1-5*len(rows) {
		t.Fatalf("Read(%q): %v, %d left, want %v", b, k.Rows(), e.Left(), rows)
	}
	return want
}

// The bytes themselves.
func TestWrite(t *testing.T) {
	p := newPair()
	if b := written(t, p.k); b != "\x00" {
		t.Errorf("no row: %q", b)
	}
	p.opens(t, 3, 128, true, 0, api.OK)
	if b := written(t, p.k); b != "\x01\x03\x00\x00\x80\x01" {
		t.Errorf("one row: %q", b)
	}
	p.opens(t, 0, 2, false, 0, api.OK)
	p.opens(t, 3, 2, false, 1, api.OK)
	if b := written(t, p.k); b != "\x03\x00\x00\x00\x02\x00\x03\x00\x00\x80\x01\x03\x01\x00\x02\x00" {
		t.Errorf("three rows: %q", b)
	}
	p.closes(t, 3, 0, api.OK)
	if b := written(t, p.k); b != "\x02\x00\x00\x00\x02\x00\x03\x01\x00\x02\x00" {
		t.Errorf("two rows: %q", b)
	}
	want := "\x10"
	for client := range 4 {
		for handle := range 4 {
			want += string([]byte{byte(client), byte(handle), 0, byte(113 + 4*client + handle), 1})
		}
	}
	if b := written(t, filled(t, 113, true).k); b != want {
		t.Errorf("as many as may be: %q, want %q", b, want)
	}
}

// Write writes behind what the pen has; one that has failed, or has no room, says so; one that is nil is none.
func TestWriteToAnyPen(t *testing.T) {
	p := garden(t)
	pen := &wire.Pen{}
	pen.Num(7, 1)
	p.k.Write(pen)
	pen.Text("x")
	tokens.New().Write(pen)
	if b, e := pen.Bytes(); string(b) != "\x07"+p.m.bytes()+"\x00\x01x\x00" || e != api.OK {
		t.Errorf("behind others: %q, %v", b, e)
	}
	pen.Num(-1, 1)
	p.k.Write(pen)
	if b, e := pen.Bytes(); len(b) != 0 || e != api.ErrArg {
		t.Errorf("a pen that has failed: %q, %v", b, e)
	}
	for left := range len(p.m.bytes()) + 2 {
		pen, want := &wire.Pen{}, api.OK
		pen.Raw(make([]byte, api.MaxBody-2-left))
		if left < len(p.m.bytes()) {
			want = api.ErrLong
		}
		p.k.Write(pen)
		if _, e := pen.Bytes(); e != want {
			t.Errorf("a pen in which %d bytes go: %v, want %v", left, e, want)
		}
	}
	p.k.Write(nil)
	p.isRight(t, "behind all of these")
}

// What was written is read: no row, one of each kind, as many as may be.
func TestReadBack(t *testing.T) {
	reads(t, "\x00", &model{}).isRight(t, "no row")
	for _, client := range []int{0, 1, 2, 3} {
		for _, handle := range []int{0, 1, 2, 3} {
			for _, ino := range []int{2, 3, 127, 128} {
				for _, writes := range []bool{false, true} {
					r := row(client, handle, ino, writes)
					m := &model{}
					m[client][handle] = held{ino, writes}
					reads(t, forms(r), m).isRight(t, fmt.Sprint("one row: ", r))
				}
			}
		}
	}
	same := newPair()
	for i := range 16 {
		same.opens(t, i/4, 9, false, i%4, api.OK)
	}
	for what, p := range map[string]pair{
		"none": newPair(), "a garden": garden(t), "all read": filled(t, 2, false), "all write": filled(t, 113, true), "all read one": same,
	} {
		reads(t, written(t, p.k), p.m).isRight(t, what)
		isTold(t, written(t, p.k))
	}
}

// What was read is changed as what was written would be, and apart from it.
func TestReadGoesOn(t *testing.T) {
	for name, change := range changes(t) {
		p := garden(t)
		c := reads(t, written(t, p.k), p.clone().m)
		change(c)
		c.isRight(t, name+" of what was read")
		p.isRight(t, name+" of what was read: what was written")
		change(p)
		c = reads(t, written(t, p.k), p.clone().m)
		c.isRight(t, name+", then read")
	}
	p := reads(t, forms(row(1, 2, 5, true)), &model{1: {2: {5, true}}})
	p.opens(t, 1, 5, false, 0, api.ErrBusy)
	for _, handle := range []int{0, 1, 3} { // handle 2 is there
		p.opens(t, 1, 6, false, handle, api.OK)
	}
	p.opens(t, 1, 6, false, 0, api.ErrFull)
	p.isRight(t, "handles about one that was read")
}

// The eye stands behind the rows: what is left is another's.
func TestReadLeavesWhatFollows(t *testing.T) {
	p, q := garden(t), filled(t, 2, true)
	e := wire.NewEye([]byte("\x09" + p.m.bytes() + "\x00" + q.m.bytes() + p.m.bytes() + "rest"))
	if x := e.Num(1); x != 9 {
		t.Fatalf("the first byte: %d", x)
	}
	for i, m := range []*model{p.m, {}, q.m, p.m} {
		k, why := tokens.Read(e)
		if why != api.OK {
			t.Fatalf("tokens %d: %v", i, why)
		}
		pair{k, m}.isRight(t, fmt.Sprint("tokens ", i))
	}
	if e.Left() != 4 || e.Fail() != api.OK || e.Num(4) != 0x72657374 {
		t.Errorf("behind four of them: %d left, %v", e.Left(), e.Fail())
	}
}

// Every beginning that is shorter is ErrShort.
func TestShorter(t *testing.T) {
	for _, p := range []pair{newPair(), garden(t), filled(t, 2, true), filled(t, 113, false)} {
		b := written(t, p.k)
		for n := range len(b) {
			refused(t, "a beginning", b[:n], api.ErrShort)
			isTold(t, b[:n])
		}
		reads(t, b, p.m).isRight(t, "all of it")
	}
	for n := 1; n < 256; n++ { // a count alone
		refused(t, "a count alone", string([]byte{byte(n)}), api.ErrShort)
	}
}

// An eye that is none, or that failed ahead, says so.
func TestReadOfNoEye(t *testing.T) {
	for name, l := range map[string]struct {
		e    *wire.Eye
		want api.Errno
	}{
		"nil":         {nil, api.ErrDead},
		"no call's":   {&wire.Eye{}, api.ErrDead},
		"no bytes":    {wire.NewEye(nil), api.ErrShort},
		"failed arg":  {failed(func(e *wire.Eye) { e.Num(0) }), api.ErrArg},
		"failed long": {failed(func(e *wire.Eye) { e.Text(0) }), api.ErrLong},
		"failed form": {failed(func(e *wire.Eye) { e.Num(1); e.Bool() }), api.ErrForm},
	} {
		for range 2 {
			if k, why := tokens.Read(l.e); k != nil || why != l.want {
				t.Errorf("%s: %v, %v, want none, %v", name, k, why, l.want)
			}
		}
	}
}

// failed answers an eye that would have rows to read, but failed.
func failed(f func(e *wire.Eye)) *wire.Eye {
	e := wire.NewEye([]byte("\x01\x02" + forms(row(0, 0, 2, true))))
	f(e)
	return e
}

// Each thing that may not be, one by one: alone, and ahead of and behind others.
func TestForm(t *testing.T) {
	low, mid, high := row(0, 0, 50, false), row(1, 2, 51, true), row(3, 3, 52, false)
	bad := []tokens.Row{}
	for _, n := range []int{4, 5, 128, 254, 255} {
		bad = append(bad, row(n, 0, 60, false), row(n, 3, 60, true), row(2, n, 60, false), row(2, n, 60, true), row(n, n, 60, true))
	}
	for _, ino := range []int{0, 1, 129, 130, 255, 256, 258, 384, 65535} {
		bad = append(bad, row(2, 0, ino, false), row(2, 3, ino, true))
	}
	for _, r := range bad {
		refused(t, "a row that may not be", forms(r), api.ErrForm)
		refused(t, "a row that may not be, behind others", forms(low, mid, r), api.ErrForm)
		refused(t, "a row that may not be, ahead of another", forms(r, high), api.ErrForm)
		refused(t, "a row that may not be, between others", forms(low, r, high), api.ErrForm)
	}
	for _, kind := range []string{"\x02", "\x03", "\x80", "\xff"} {
		none := strings.TrimSuffix(form(row(2, 0, 60, false)), "\x00") + kind
		refused(t, "a bool that is none", "\x01"+none, api.ErrForm)
		refused(t, "a bool that is none, behind another", "\x02"+form(mid)+none, api.ErrForm)
		refused(t, "a bool that is none, ahead of another", "\x02"+none+form(high), api.ErrForm)
	}
	seventeen := append(filled(t, 2, false).k.Rows(), row(3, 3, 100, false))
	refused(t, "more than may be", forms(seventeen...), api.ErrForm)
	for client := range 5 {
		seventeen[16] = row(client, 4, 100, false)
		refused(t, "more than may be", forms(seventeen...), api.ErrForm)
	}
}

// Rows that do not rise, or that are one another.
func TestRise(t *testing.T) {
	for i := range 16 {
		for j := range 16 {
			for _, writes := range []bool{false, true} {
				r, x := row(i/4, i%4, 10, writes), row(j/4, j%4, 11, !writes)
				want := api.OK
				if j <= i {
					want = api.ErrForm
				}
				if e := isTold(t, forms(r, x)); e != want {
					t.Errorf("%v, %v: %v, want %v", r, x, e, want)
				}
			}
		}
	}
	all := filled(t, 2, true).k.Rows()
	for i := range all {
		for j := range i {
			l := slices.Clone(all)
			l[i], l[j] = l[j], l[i]
			refused(t, "two that are changed about", forms(l...), api.ErrForm)
		}
		twice := slices.Insert(slices.Clone(all[:i+1]), i, all[i])
		refused(t, "a row that is there twice", forms(twice...), api.ErrForm)
		twice[i].Writes, twice[i+1].Writes = false, false
		refused(t, "a row that is there twice, and reads", forms(twice...), api.ErrForm)
		rest := slices.Delete(slices.Clone(all), i, i+1)
		if e := isTold(t, forms(rest...)); e != api.OK {
			t.Errorf("all but one: %v", e)
		}
	}
}

// Two rows with one ino of which one writes, by one client and by two, wherever they stand.
func TestClash(t *testing.T) {
	for i := range 16 {
		for j := i + 1; j < 16; j++ {
			for k := range 4 {
				all := filled(t, 2, true).k.Rows()
				all[i].Writes, all[j].Writes, all[j].Ino = k&1 == 1, k&2 == 2, all[i].Ino
				want := api.ErrForm
				if k == 0 {
					want = api.OK
				}
				for _, l := range [][]tokens.Row{{all[i], all[j]}, all, all[i : j+1]} {
					if e := isTold(t, forms(l...)); e != want {
						t.Errorf("%v: %v, want %v", l, e, want)
					}
				}
			}
		}
	}
	r, x, last := row(0, 0, 9, false), row(1, 0, 9, false), row(2, 0, 9, true)
	refused(t, "many that read, and one that writes", forms(r, x, last), api.ErrForm)
	refused(t, "one that writes, and many that read", forms(row(0, 0, 9, true), x, row(2, 0, 9, false)), api.ErrForm)
}

// Of two things that may not be, the one that a reader meets first: rows one by one, each when it was read whole.
func TestFirstOfTwo(t *testing.T) {
	a, b := form(row(1, 1, 50, true)), form(row(1, 2, 51, false))
	for _, l := range []struct {
		what, b string
		want    api.Errno
	}{
		// a row, ahead of the next one
		{"a client that may not be, then no row", "\x02" + form(row(4, 0, 2, false)), api.ErrForm},
		{"a handle that may not be, then no row", "\x02" + form(row(0, 4, 2, false)), api.ErrForm},
		{"an ino that may not be, then no row", "\x02" + form(row(0, 0, 129, false)), api.ErrForm},
		{"a bool that is none, then no row", "\x02\x00\x00\x00\x02\x02", api.ErrForm},
		{"rows that do not rise, then no row", "\x03" + b + a, api.ErrForm},
		{"rows that are one another, then no row", "\x03" + b + b, api.ErrForm},
		{"one that writes and one that reads, then no row", "\x03" + a + form(row(1, 2, 50, false)), api.ErrForm},
		{"one that reads and one that writes, then a row that is cut", "\x03" + b + form(row(2, 2, 51, true)) + "\x03\x00", api.ErrForm},
		{"a row that is cut, behind what may be", "\x03" + a + b + "\x03\x00", api.ErrShort},
		// what the eye says of a row, ahead of what the row says
		{"a client that may not be, in a row that is cut", "\x01\x04\x00\x00\x02", api.ErrShort},
		{"a client that may not be, and nothing else", "\x01\x04", api.ErrShort},
		{"a handle that may not be, in a row that is cut", "\x01\x00\x04\x00\x02", api.ErrShort},
		{"an ino that may not be, in a row that is cut", "\x01\x00\x00\x00\x01", api.ErrShort},
		{"a row that does not rise, in a row that is cut", "\x02" + a + a[:4], api.ErrShort},
		{"a row that does not rise, and a bool that is none", "\x02" + a + a[:4] + "\x02", api.ErrForm},
		// a count of more than may be is met at the first row that can't be
		{"the greatest count, no rows", "\xff", api.ErrShort},
		{"the greatest count, as many rows as may be", "\xff" + filled(t, 2, true).m.bytes()[1:], api.ErrShort},
		{"the greatest count, and a row more than may be", "\xff" + filled(t, 2, true).m.bytes()[1:] + form(row(3, 3, 90, false)), api.ErrForm},
		// bytes that are left are not looked at
		{"no row, bytes left", "\x00\xff\xff", api.OK},
		{"a row, bytes left", "\x01" + a + a, api.OK},
		{"a row that may not be, bytes left", "\x01" + form(row(4, 0, 2, false)) + "\x00", api.ErrForm},
	} {
		if e := isTold(t, l.b); e != l.want {
			t.Errorf("%s: Read(%q): %v, want %v", l.what, l.b, e, l.want)
		}
	}
}

// What Read is given is not changed, and not kept.
func TestWhatReadIsGiven(t *testing.T) {
	p := garden(t)
	b := []byte(p.m.bytes())
	whole := append(b, "spare"...)
	was := string(whole)
	k, why := tokens.Read(wire.NewEye(whole[:len(b)]))
	if why != api.OK || string(whole) != was {
		t.Fatalf("Read: %v, and what it was given is %q", why, whole)
	}
	for i := range whole {
		whole[i] = '!'
	}
	pair{k, p.m}.isRight(t, "behind a write into what Read was given")
}

// Each byte of some rows made each other one: held against what is to be told.
func TestEachByte(t *testing.T) {
	for _, s := range []string{
		forms(),
		forms(row(0, 0, 2, false)),
		forms(row(3, 3, 128, true)),
		forms(row(0, 1, 7, false), row(0, 2, 7, false), row(2, 0, 8, true)),
		garden(t).m.bytes(),
		filled(t, 2, true).m.bytes(),
	} {
		for i := range len(s) {
			for c := range 256 {
				b := []byte(s + "\x03\x03\x00\x02\x00\x00")
				b[i] = byte(c)
				isTold(t, string(b))
				isTold(t, string(b[:len(s)]))
			}
		}
	}
}

// Any rows of few numbers, most of which rise, some cut or with a byte changed: held against what is to be told.
func TestAnyRows(t *testing.T) {
	r := rand.New(rand.NewSource(15))
	count := map[api.Errno]int{}
	for range 60000 {
		l, at := []tokens.Row{}, -1
		for range r.Intn(8) {
			at += 1 + r.Intn(3)
			x := row(at/4, at%4, 2+r.Intn(20), r.Intn(4) == 0)
			if r.Intn(30) == 0 {
				x = row(r.Intn(6), r.Intn(6), r.Intn(140), r.Intn(2) == 0)
			}
			l = append(l, x)
		}
		b := []byte(forms(l...))
		switch r.Intn(8) {
		case 0:
			b = b[:r.Intn(len(b)+1)]
		case 1:
			b[r.Intn(len(b))] = byte(r.Intn(256))
		case 2:
			b = append(b, "more"...)
		}
		count[isTold(t, string(b))]++
	}
	for _, e := range []api.Errno{api.OK, api.ErrShort, api.ErrForm} {
		if count[e] < 100 {
			t.Errorf("%d of %v: too few to tell anything", count[e], e)
		}
	}
}
