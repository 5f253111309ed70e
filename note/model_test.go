// Tests of chapter 16, by what package note exports alone: note_test.go has requests, reply_test.go replies, this file the chapter told anew, which both are held against.
package note_test

import (
	"fmt"
	"math"
	"math/rand"
	"reflect"
	"slices"
	"strings"
	"testing"

	"pinstripe/api"
	"pinstripe/delta"
	"pinstripe/note"
	"pinstripe/once"
)

// most is how many stripes, deltas or entries there may be in one message.
const most = 4000

// row is what is written, till something may not be.
type row struct {
	b   strings.Builder
	why api.Errno
}

// fail makes the first thing that may not be the row's error.
func (w *row) fail(why api.Errno) {
	if w.why == api.OK {
		w.why = why
	}
}

// add puts bytes behind what is written.
func (w *row) add(s string) {
	if w.b.Len()+len(s) > 65536 {
		w.fail(api.ErrLong)
	}
	if w.why == api.OK {
		w.b.WriteString(s)
	}
}

// num writes a number in width bytes.
func (w *row) num(x, width int) {
	if x < 0 || x >= 1<<(8*width) {
		w.fail(api.ErrArg)
		return
	}
	s := ""
	for range width {
		s = string([]byte{byte(x % 256)}) + s
		x /= 256
	}
	w.add(s)
}

// text writes how many bytes there are, and they.
func (w *row) text(s string) {
	if len(s) > 65535 {
		w.fail(api.ErrLong)
		return
	}
	w.num(len(s), 2)
	w.add(s)
}

// truth writes 1 or 0.
func (w *row) truth(yes bool) {
	if yes {
		w.num(1, 1)
	} else {
		w.num(0, 1)
	}
}

// stripe writes a stripe.
func (w *row) stripe(s api.Stripe) {
	w.num(s.Client, 1)
	w.num(s.Life, 3)
	w.num(s.Number, 4)
}

// pointer writes a pointer.
func (w *row) pointer(x api.Ptr) {
	w.stripe(x.Stripe)
	w.num(x.At, 2)
	w.num(x.Len, 1)
}

// delta writes a delta.
func (w *row) delta(d api.Delta) {
	w.num(d.Do, 1)
	w.num(d.Ino, 2)
	w.num(d.Block, 1)
	w.num(d.Size, 2)
	switch d.Do {
	case 1:
		w.pointer(d.To)
	case 3:
		w.pointer(d.Old)
		w.pointer(d.To)
	}
}

// request writes a request, whether it may be or not.
func (w *row) request(r note.Request) {
	w.num(r.Client, 1)
	w.num(r.Life, 3)
	w.num(r.Seq, 4)
	w.num(r.Do, 1)
	w.text(r.Path)
	w.text(r.To)
	w.truth(r.Dir)
	w.truth(r.Writes)
	w.truth(r.Closes)
	w.num(r.Handle, 1)
	w.num(r.Next, 4)
	w.num(r.Swaps, 3)
	w.num(len(r.Stripes), 2)
	for _, s := range r.Stripes {
		w.stripe(s.Stripe)
		w.num(s.Size, 2)
	}
	w.num(len(r.Deltas), 2)
	for _, d := range r.Deltas {
		w.delta(d)
	}
}

// reply writes a reply, whether it may be or not.
func (w *row) reply(r note.Reply) {
	w.num(int(r.E), 1)
	w.num(r.Ino, 2)
	w.num(r.Size, 2)
	w.num(r.Handle, 1)
	w.num(r.Swaps, 3)
	w.truth(r.Dir)
	w.num(len(r.Entries), 2)
	for _, n := range r.Entries {
		w.text(n.Name)
		w.num(n.Ino, 2)
		w.truth(n.Dir)
	}
	w.text(string(r.Map))
}

// told answers all that is written; or none, and why.
func (w *row) told() (string, api.Errno) {
	if w.why != api.OK {
		return "", w.why
	}
	return w.b.String(), api.OK
}

// form answers what Encode is to say of a request.
func form(r note.Request) (string, api.Errno) {
	if r.Do < 1 || r.Do > 11 {
		return "", api.ErrArg
	}
	for _, d := range r.Deltas {
		if !delta.May(d) {
			return "", api.ErrArg
		}
	}
	if len(r.Stripes) > most || len(r.Deltas) > most {
		return "", api.ErrLong
	}
	w := &row{}
	w.request(r)
	return w.told()
}

// replyForm answers what EncodeReply is to say of a reply.
func replyForm(r note.Reply) (string, api.Errno) {
	if len(r.Entries) > most {
		return "", api.ErrLong
	}
	w := &row{}
	w.reply(r)
	return w.told()
}

// bytesOf answers a request's bytes, whether there may be such a request or not: its numbers fit.
func bytesOf(r note.Request) string {
	w := &row{}
	w.request(r)
	return w.whole()
}

// bytesOfReply answers a reply's bytes, whether there may be such a reply or not: its numbers fit.
func bytesOfReply(r note.Reply) string {
	w := &row{}
	w.reply(r)
	return w.whole()
}

// whole answers all that is written, of which nothing is refused.
func (w *row) whole() string {
	if w.why != api.OK {
		panic(w.why)
	}
	return w.b.String()
}

// tape is what is read, till something is not so.
type tape struct {
	b   string
	why api.Errno
}

// take reads so many bytes.
func (x *tape) take(n int) string {
	if x.why == api.OK && len(x.b) < n {
		x.why = api.ErrShort
	}
	if x.why != api.OK {
		return strings.Repeat("\x00", n)
	}
	s := x.b[:n]
	x.b = x.b[n:]
	return s
}

// num reads a number of width bytes.
func (x *tape) num(width int) int {
	n := 0
	for _, c := range []byte(x.take(width)) {
		n = n*256 + int(c)
	}
	return n
}

// text reads how many bytes there are, and they.
func (x *tape) text() string {
	return x.take(x.num(2))
}

// truth reads 1 or 0.
func (x *tape) truth() bool {
	n := x.num(1)
	x.asks(n < 2, api.ErrForm)
	return n == 1
}

// asks makes it the tape's error, if what was read is not so.
func (x *tape) asks(so bool, why api.Errno) {
	if x.why == api.OK && !so {
		x.why = why
	}
}

// stripe reads a stripe.
func (x *tape) stripe() api.Stripe {
	return api.Stripe{Client: x.num(1), Life: x.num(3), Number: x.num(4)}
}

// pointer reads a pointer.
func (x *tape) pointer() api.Ptr {
	return api.Ptr{Stripe: x.stripe(), At: x.num(2), Len: x.num(1)}
}

// delta reads a delta.
func (x *tape) delta() api.Delta {
	d := api.Delta{Do: x.num(1), Ino: x.num(2), Block: x.num(1), Size: x.num(2)}
	if d.Do == 3 {
		d.Old = x.pointer()
	}
	if d.Do == 1 || d.Do == 3 {
		d.To = x.pointer()
	}
	x.asks(delta.May(d), api.ErrForm)
	return d
}

// count reads how many there are.
func (x *tape) count() int {
	n := x.num(2)
	x.asks(n <= most, api.ErrLong)
	return n
}

// readForm answers what Decode is to say of bytes.
func readForm(b string) (note.Request, api.Errno) {
	x := &tape{b: b}
	r := note.Request{Stamp: once.Stamp{Client: x.num(1), Life: x.num(3), Seq: x.num(4)}, Do: x.num(1)}
	x.asks(r.Do >= 1 && r.Do <= 11, api.ErrForm)
	r.Path, r.To = x.text(), x.text()
	r.Dir, r.Writes, r.Closes = x.truth(), x.truth(), x.truth()
	r.Handle, r.Next, r.Swaps = x.num(1), x.num(4), x.num(3)
	for n := x.count(); n > 0 && x.why == api.OK; n-- {
		r.Stripes = append(r.Stripes, note.Sized{Stripe: x.stripe(), Size: x.num(2)})
	}
	for n := x.count(); n > 0 && x.why == api.OK; n-- {
		r.Deltas = append(r.Deltas, x.delta())
	}
	x.asks(x.b == "", api.ErrLong)
	if x.why != api.OK {
		return note.Request{}, x.why
	}
	return r, api.OK
}

// readReplyForm answers what DecodeReply is to say of bytes.
func readReplyForm(b string) (note.Reply, api.Errno) {
	x := &tape{b: b}
	r := note.Reply{E: api.Errno(x.num(1))}
	x.asks(r.E <= 18, api.ErrForm)
	r.Ino, r.Size, r.Handle, r.Swaps, r.Dir = x.num(2), x.num(2), x.num(1), x.num(3), x.truth()
	for n := x.count(); n > 0 && x.why == api.OK; n-- {
		r.Entries = append(r.Entries, api.Entry{Name: x.text(), Ino: x.num(2), Dir: x.truth()})
	}
	r.Map = []byte(x.text())
	x.asks(x.b == "", api.ErrLong)
	if x.why != api.OK {
		return note.Reply{}, x.why
	}
	return r, api.OK
}

// alike tells whether two requests are the same: nil and an empty list are one.
func alike(a, b note.Request) bool {
	same := slices.Equal(a.Stripes, b.Stripes) && slices.Equal(a.Deltas, b.Deltas)
	a.Stripes, b.Stripes, a.Deltas, b.Deltas = nil, nil, nil, nil
	return same && reflect.DeepEqual(a, b)
}

// alikeReply tells whether two replies are the same.
func alikeReply(a, b note.Reply) bool {
	same := slices.Equal(a.Entries, b.Entries) && slices.Equal(a.Map, b.Map)
	a.Entries, b.Entries, a.Map, b.Map = nil, nil, nil, nil
	return same && reflect.DeepEqual(a, b)
}

// short tells bytes that a line can hold.
func short(b string) string {
	if len(b) > 200 {
		return b[:200] + ".."
	}
	return b
}

// side is how requests, or replies, are written and read: by the package, and by the chapter told anew.
type side[T any] struct {
	encode   func(T) ([]byte, api.Errno)
	decode   func([]byte) (T, api.Errno)
	form     func(T) (string, api.Errno)
	readForm func(string) (T, api.Errno)
	bytesOf  func(T) string
	alike    func(a, b T) bool
}

// The two sides.
var (
	requests = side[note.Request]{note.Encode, note.Decode, form, readForm, bytesOf, alike}
	replies  = side[note.Reply]{note.EncodeReply, note.DecodeReply, replyForm, readReplyForm, bytesOfReply, alikeReply}
)

// isEncoded looks at a message's bytes, and at what is read of them: P16.3 both ways.
func (s side[T]) isEncoded(t *testing.T, what string, x T) {
	t.Helper()
	want, why := s.form(x)
	if why != api.OK {
		t.Fatalf("%s: the chapter refuses it: %v", what, why)
	}
	b, why := s.encode(x)
	if string(b) != want || why != api.OK {
		t.Errorf("%s: encoded %q, %v, want %q", what, short(string(b)), why, short(want))
	}
	s.isDecoded(t, what, want, x)
}

// isDecoded looks at what is read of bytes, and at that one's bytes.
func (s side[T]) isDecoded(t *testing.T, what, b string, want T) {
	t.Helper()
	x, why := s.decode([]byte(b))
	if !s.alike(x, want) || why != api.OK {
		t.Errorf("%s: decoded of %q: %v, %v, want %v", what, short(b), x, why, want)
	}
	if again, why := s.encode(x); string(again) != b || why != api.OK {
		t.Errorf("%s: decoded, then encoded: %q, %v, want %q", what, short(string(again)), why, short(b))
	}
}

// notEncoded looks at what is said of a message that may not be.
func (s side[T]) notEncoded(t *testing.T, what string, x T, want api.Errno) {
	t.Helper()
	if b, why := s.encode(x); len(b) != 0 || why != want {
		t.Errorf("%s: encoded %d bytes, %v, want none, %v", what, len(b), why, want)
	}
	if _, why := s.form(x); why != want {
		t.Errorf("%s: the model says %v, want %v", what, why, want)
	}
}

// notDecoded looks at what is said of bytes that may not be.
func (s side[T]) notDecoded(t *testing.T, what, b string, want api.Errno) {
	t.Helper()
	var none T
	if x, why := s.decode([]byte(b)); !s.alike(x, none) || why != want {
		t.Errorf("%s: decoded of %q: %v, %v, want none, %v", what, short(b), x, why, want)
	}
	if _, why := s.readForm(b); why != want {
		t.Errorf("%s: the model says %v, want %v", what, why, want)
	}
}

// isTold holds what is said of bytes against what is to be said.
func (s side[T]) isTold(t *testing.T, b string) api.Errno {
	t.Helper()
	want, why := s.readForm(b)
	if why != api.OK {
		s.notDecoded(t, "told", b, why)
		return why
	}
	s.isDecoded(t, "told", b, want)
	return why
}

// endsWell looks at each shorter beginning of a message, which is ErrShort, and at bytes behind it, which are ErrLong.
func (s side[T]) endsWell(t *testing.T, x T) {
	t.Helper()
	b := s.bytesOf(x)
	for n := range len(b) {
		s.notDecoded(t, fmt.Sprint(n, " bytes"), b[:n], api.ErrShort)
	}
	for _, rest := range []string{"\x00", "\x01", "\xff\xff", bytesOfCut, b} {
		s.notDecoded(t, fmt.Sprintf("%q behind", rest), b+rest, api.ErrLong)
	}
	s.isDecoded(t, "just all", b, x)
}

// areUnlike looks at messages of which no two may have the same bytes.
func (s side[T]) areUnlike(t *testing.T, l []T) {
	t.Helper()
	seen := map[string]T{}
	for _, x := range l {
		b, why := s.encode(x)
		if why != api.OK {
			t.Errorf("%v: %v", x, why)
		}
		if other, ok := seen[string(b)]; ok {
			t.Errorf("%v and %v have the same bytes", x, other)
		}
		seen[string(b)] = x
		s.isEncoded(t, "unlike", x)
	}
}

// eachByte makes each byte of a message each other one, and holds what is said of it, alone and with noughts behind it, against what is to be said.
func (s side[T]) eachByte(t *testing.T, x T) {
	t.Helper()
	was := s.bytesOf(x)
	for i := range len(was) {
		for c := range 256 {
			b := []byte(was)
			b[i] = byte(c)
			s.isTold(t, string(b))
			s.isTold(t, string(b)+strings.Repeat("\x00", 21))
		}
	}
}

// any has messages written and read; some are cut, have a byte changed or more behind, and are held against what is to be said.
func (s side[T]) any(t *testing.T, g *rand.Rand, next func(g *rand.Rand) T) {
	t.Helper()
	count := map[api.Errno]int{}
	for range 20000 {
		x := next(g)
		s.isEncoded(t, "any", x)
		b := []byte(s.bytesOf(x))
		switch g.Intn(4) {
		case 0:
			b = b[:g.Intn(len(b)+1)]
		case 1:
			b[g.Intn(len(b))] = byte(g.Intn(256))
		case 2:
			b = append(b, make([]byte, g.Intn(3))...)
		}
		count[s.isTold(t, string(b))]++
	}
	enough(t, count, api.OK, api.ErrShort, api.ErrLong, api.ErrForm)
}

// enough fails, if one of the errors was told too seldom to tell anything.
func enough(t *testing.T, count map[api.Errno]int, errors ...api.Errno) {
	t.Helper()
	for _, e := range errors {
		if count[e] < 100 {
			t.Errorf("%d of %v: too few to tell anything", count[e], e)
		}
	}
}

// field is a number of a message, and in how many bytes it is written.
type field[T any] struct {
	name  string
	width int
	of    func(x *T) *int
}

// strangers answers numbers that do not go into so many bytes.
func strangers(width int) []int {
	return []int{-1, -2, -256, math.MinInt, 1 << (8 * width), 1<<(8*width) + 1, 1 << 40, math.MaxInt}
}

// hasEdges looks at a number of a message that with makes anew: at its least, at its most, between, and past either.
func (s side[T]) hasEdges(t *testing.T, f field[T], with func(change func(x *T)) T) {
	t.Helper()
	set := func(n int) T { return with(func(x *T) { *f.of(x) = n }) }
	greatest := 1<<(8*f.width) - 1
	for _, n := range []int{0, 1, 127, 128, 255, greatest - 1, greatest, greatest / 2, greatest/2 + 1} {
		s.isEncoded(t, fmt.Sprintf("%s %d", f.name, n), set(n))
	}
	for _, n := range strangers(f.width) {
		s.notEncoded(t, fmt.Sprintf("%s %d", f.name, n), set(n), api.ErrArg)
	}
}

// wrong is bytes that may not be, and why.
type wrong struct {
	what, b string
	want    api.Errno
}

// many answers a thing so many times.
func many[T any](x T, n int) []T {
	return slices.Repeat([]T{x}, n)
}

// anyNumber answers a number of so many bytes, often at an end of them.
func anyNumber(g *rand.Rand, width int) int {
	switch g.Intn(4) {
	case 0:
		return 0
	case 1:
		return 1<<(8*width) - 1
	}
	return g.Intn(1 << (8 * width))
}

// anyText answers a text.
func anyText(g *rand.Rand) string {
	b := make([]byte, g.Intn(8))
	for i := range b {
		b[i] = "/ab\x00\xff"[g.Intn(5)]
	}
	return string(b)
}

// spoil writes into all of a list, its spare room too.
func spoil[T any](l []T, x T) {
	l = l[:cap(l)]
	for i := range l {
		l[i] = x
	}
}
