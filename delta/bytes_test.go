// Tests of rows of deltas, as bytes.
package delta_test

import (
	"fmt"
	"math/rand"
	"slices"
	"strings"
	"testing"

	"pinstripe/api"
	"pinstripe/delta"
)

// most is how many deltas are written together at most.
const most = 4000

// forms answers what is written of deltas.
func forms(l ...api.Delta) string {
	b := num(len(l), 2)
	for _, d := range l {
		b += form(d)
	}
	return b
}

// many answers a delta so many times.
func many(d api.Delta, n int) []api.Delta {
	return slices.Repeat([]api.Delta{d}, n)
}

// decodes answers what is to be told of bytes.
func decodes(b string) ([]api.Delta, api.Errno) {
	if len(b) < 2 {
		return nil, api.ErrShort
	}
	x := &reader{b}
	n := x.num(2)
	if n > most {
		return nil, api.ErrLong
	}
	l := []api.Delta{}
	for len(l) < n {
		d, why := x.delta()
		if why != api.OK {
			return nil, why
		}
		l = append(l, d)
	}
	if x.b != "" {
		return nil, api.ErrLong
	}
	return l, api.OK
}

// isCoded looks at a list's bytes, and at what is read of them: P12.2 both ways.
func isCoded(t *testing.T, l []api.Delta) {
	t.Helper()
	b, why := delta.Encode(l)
	if want := forms(l...); string(b) != want || why != api.OK {
		t.Fatalf("Encode(%v): %q, %v, want %q", l, b, why, want)
	}
	isDecoded(t, string(b), l)
}

// isDecoded looks at what is read of bytes, and at that one's bytes.
func isDecoded(t *testing.T, b string, want []api.Delta) {
	t.Helper()
	l, why := delta.Decode([]byte(b))
	if !slices.Equal(l, want) || why != api.OK || !delta.Same(l, want) {
		t.Fatalf("Decode(%q): %v, %v, want %v", b, l, why, want)
	}
	if again, why := delta.Encode(l); string(again) != b || why != api.OK {
		t.Fatalf("Encode of Decode: %q, %v, want %q", again, why, b)
	}
}

// notCoded looks at what Encode says of a list that it refuses.
func notCoded(t *testing.T, what string, l []api.Delta, want api.Errno) {
	t.Helper()
	if b, why := delta.Encode(l); len(b) != 0 || why != want {
		t.Errorf("%s: Encode %d bytes, %v, want none, %v", what, len(b), why, want)
	}
}

// notDecoded looks at what Decode says of bytes that it refuses.
func notDecoded(t *testing.T, what, b string, want api.Errno) {
	t.Helper()
	if l, why := delta.Decode([]byte(b)); len(l) != 0 || why != want {
		t.Errorf("%s: Decode %d deltas, %v, want none, %v", what, len(l), why, want)
	}
}

// The chapter's example, and rows of each kind.
func TestEncode(t *testing.T) {
	for _, l := range []struct {
		l    []api.Delta
		want string
	}{
		{[]api.Delta{cut(2, 5)}, "\x00\x01\x02\x00\x02\x00\x00\x05"},
		{nil, "\x00\x00"},
		{[]api.Delta{}, "\x00\x00"},
		{[]api.Delta{cut(2, 5), cut(128, 4096)}, "\x00\x02\x02\x00\x02\x00\x00\x05\x02\x00\x80\x00\x10\x00"},
		{[]api.Delta{put(2, 1, 70, p), cut(2, 5)}, "\x00\x02\x01\x00\x02\x01\x00\x46\x01\x00\x00\x00\x00\x00\x00\x05\x00\x00\x0a\x02\x00\x02\x00\x00\x05"},
		{[]api.Delta{move(2, 1, p, r)}, "\x00\x01\x03\x00\x02\x01\x00\x00\x01\x00\x00\x00\x00\x00\x00\x05\x00\x00\x0a\x04\x01\x02\x03\x04\x05\x06\x07\x17\x08\x09"},
	} {
		if b, why := delta.Encode(l.l); string(b) != l.want || why != api.OK {
			t.Errorf("Encode(%v): %q, %v, want %q", l.l, b, why, l.want)
		}
		isCoded(t, l.l)
	}
}

// P12.2: each delta alone, behind others and ahead of others, and all of them.
func TestCoded(t *testing.T) {
	for _, d := range usual() {
		isCoded(t, []api.Delta{d})
		isCoded(t, []api.Delta{d, d})
		isCoded(t, []api.Delta{cut(2, 5), d, move(3, 0, p, q)})
		isCoded(t, []api.Delta{put(2, 1, 70, p), d})
	}
	isCoded(t, usual())
}

// So many deltas, and one more; and as many as a pen has room for, and one more.
func TestMost(t *testing.T) {
	mixed := append(many(put(2, 0, 10, p), 3774), many(cut(2, 5), 226)...) // 17 and 6 bytes each
	for name, l := range map[string][]api.Delta{
		"4,000 Cuts":        many(cut(2, 5), most),
		"3,999 Cuts":        many(cut(128, 4096), most-1),
		"256 Cuts":          many(cut(2, 5), 256),
		"4,000 of two":      mixed,
		"Puts to the end":   append(many(put(2, 0, 10, p), 3854), cut(2, 0), cut(3, 1))[:3854], // 2 + 3854 times 17 is 65,520
		"and Cuts, to 2":    append(many(put(2, 0, 10, p), 3854), cut(2, 0), cut(3, 1)),
		"Moves to the end":  many(move(2, 0, p, q), 2340), // 2 + 2340 times 28 is 65,522
		"and Cuts, to none": append(many(move(2, 0, p, q), 2340), cut(2, 0), cut(3, 1)),
	} {
		if len(forms(l...)) > 65536 {
			t.Fatalf("%s: %d bytes", name, len(forms(l...)))
		}
		isCoded(t, l)
	}
	for name, l := range map[string][]api.Delta{
		"4,001 Cuts":                          many(cut(2, 5), most+1),
		"65,536 Cuts":                         many(cut(2, 5), 65536),
		"70,000 Cuts":                         many(cut(2, 5), 70000),
		"Puts, more than a pen has room for":  many(put(2, 0, 10, p), 3855),
		"Moves, more than a pen has room for": many(move(2, 0, p, q), 2341),
		"both":                                many(move(2, 0, p, q), most+1),
		"Cuts behind Moves, a byte too many":  append(many(move(2, 0, p, q), 2340), cut(2, 0), cut(3, 1), cut(4, 1)),
	} {
		if len(l) <= most && len(forms(l...)) <= 65536 {
			t.Fatalf("%s: %d of %d bytes", name, len(l), len(forms(l...)))
		}
		notCoded(t, name, l, api.ErrLong)
	}
}

// One that may not be is ErrArg, at each place, ahead of ErrLong.
func TestEncodeOfWhatMayNotBe(t *testing.T) {
	c := cut(2, 5)
	for _, d := range strange() {
		what := fmt.Sprint(d)
		notCoded(t, what, []api.Delta{d}, api.ErrArg)
		notCoded(t, what, []api.Delta{d, c, c}, api.ErrArg)
		notCoded(t, what, []api.Delta{c, d, c}, api.ErrArg)
		notCoded(t, what, []api.Delta{c, c, d}, api.ErrArg)
		notCoded(t, what, []api.Delta{d, d}, api.ErrArg)
	}
	for name, d := range map[string]api.Delta{"fits": cut(1, 5), "does not fit": cut(-1, 5), "is of no kind": {}} {
		for _, n := range []int{most - 1, most, 70000} {
			notCoded(t, name+", at the first place", append([]api.Delta{d}, many(c, n)...), api.ErrArg)
			notCoded(t, name+", at the last place", append(many(c, n), d), api.ErrArg)
		}
		notCoded(t, name+", behind more than a pen has room for", append(many(move(2, 0, p, q), 3000), d), api.ErrArg)
		notCoded(t, name+", all of them", many(d, most+1), api.ErrArg)
	}
}

// A number of deltas that is none, that is more than there are, and that is fewer.
func TestDecodeOfNumbers(t *testing.T) {
	notDecoded(t, "nil", "", api.ErrShort)
	notDecoded(t, "one byte", "\x00", api.ErrShort)
	notDecoded(t, "one byte of a great number", "\xff", api.ErrShort)
	isDecoded(t, "\x00\x00", nil)
	isDecoded(t, "\x00\x01\x02\x00\x02\x00\x00\x05", []api.Delta{cut(2, 5)})
	for _, l := range [][]api.Delta{nil, {cut(2, 5)}, {put(2, 0, 10, p)}, {move(2, 0, p, q), cut(2, 5), put(3, 1, 70, r)}, many(cut(2, 0), 300)} {
		b := forms(l...)[2:]
		for n := range len(l) {
			notDecoded(t, fmt.Sprint(n, " of ", len(l)), num(n, 2)+b, api.ErrLong)
		}
		for _, n := range []int{len(l) + 1, len(l) + 2, len(l) + 256, most - 1, most} {
			notDecoded(t, fmt.Sprint(n, " of ", len(l)), num(n, 2)+b, api.ErrShort)
		}
		for _, n := range []int{most + 1, most + 2, 4096, 32768, 65535} {
			notDecoded(t, fmt.Sprint(n, " of ", len(l)), num(n, 2)+b, api.ErrLong)
		}
		isDecoded(t, num(len(l), 2)+b, l)
	}
}

// One more than there may be is ErrLong at once, whatever follows.
func TestDecodeOfMost(t *testing.T) {
	c := cut(2, 5)
	isDecoded(t, forms(many(c, most)...), many(c, most))
	for _, n := range []int{most + 1, most + 2, 65535} {
		notDecoded(t, "nothing follows", num(n, 2), api.ErrLong)
		notDecoded(t, "half a delta follows", num(n, 2)+"\x02\x00", api.ErrLong)
		notDecoded(t, "one that may not be follows", num(n, 2)+form(cut(1, 5)), api.ErrLong)
		notDecoded(t, "all follow", forms(many(c, n)...), api.ErrLong)
	}
	notDecoded(t, "4,000, and nothing follows", num(most, 2), api.ErrShort)
	notDecoded(t, "4,000, and the last one is cut", forms(many(c, most)...)[:2+6*most-1], api.ErrShort)
	notDecoded(t, "4,000, and the last one may not be", forms(append(many(c, most-1), cut(1, 5))...), api.ErrForm)
	notDecoded(t, "4,000, and a byte", forms(many(c, most)...)+"\x00", api.ErrLong)
}

// Nothing says that a reader has less room than the deltas need: more bytes than a pen writes are read.
func TestDecodeOfMoreThanAPenWrites(t *testing.T) {
	want := many(move(2, 0, p, q), most)
	l, why := delta.Decode([]byte(forms(want...)))
	if !slices.Equal(l, want) || why != api.OK {
		t.Errorf("%d deltas, %v", len(l), why)
	}
}

// Each shorter beginning is ErrShort; bytes behind the last delta are ErrLong.
func TestShorterAndLonger(t *testing.T) {
	for _, l := range [][]api.Delta{nil, {cut(2, 5)}, {put(128, 63, 4096, p)}, {move(2, 0, p, q)}, {put(2, 0, 10, p), cut(2, 5), move(3, 1, q, r), cut(4, 0)}} {
		b := forms(l...)
		for n := range len(b) {
			notDecoded(t, fmt.Sprintf("%d bytes of %q", n, b), b[:n], api.ErrShort)
		}
		for _, rest := range []string{"\x00", "\x01", "\xff\xff", form(cut(2, 5)), b} {
			notDecoded(t, fmt.Sprintf("%q behind %q", rest, b), b+rest, api.ErrLong)
		}
		isDecoded(t, b, l)
	}
}

// Bytes that are read as a delta that may not be, at each place.
func TestDecodeOfWhatMayNotBe(t *testing.T) {
	count, c := 0, cut(2, 5)
	for _, d := range strange() {
		if !fits(d) {
			continue
		}
		if _, why := (&reader{form(d)}).delta(); why != api.ErrForm { // what may not be of it is not written
			continue
		}
		count++
		what := fmt.Sprint(d)
		notDecoded(t, what, forms(d), api.ErrForm)
		notDecoded(t, what, forms(d, c, c), api.ErrForm)
		notDecoded(t, what, forms(c, d, c), api.ErrForm)
		notDecoded(t, what, forms(c, c, d), api.ErrForm)
		notDecoded(t, what, forms(c, c, d)+"\x00", api.ErrForm)
	}
	if count < 100 {
		t.Errorf("%d: too few to tell anything", count)
	}
}

// Of several that may not be, the one that a reader meets first.
func TestFirstOfTwo(t *testing.T) {
	no, c, m := form(cut(1, 5)), form(cut(2, 5)), form(move(2, 0, p, full(5, 0, 0, 0, 1)))
	for _, l := range []struct {
		what, b string
		want    api.Errno
	}{
		{"one that may not be, then none", "\x00\x02" + no, api.ErrForm},
		{"one that may not be, then one that is cut", "\x00\x02" + no + c[:3], api.ErrForm},
		{"one that may not be, then bytes that are left", "\x00\x01" + no + c, api.ErrForm},
		{"one, then one that is cut", "\x00\x02" + c + c[:3], api.ErrShort},
		{"one that may not be, and is cut", "\x00\x01" + no[:5], api.ErrShort},
		{"one of no kind, and is cut", "\x00\x01" + "\x07\x00\x02\x00\x00", api.ErrShort},
		{"one of no kind, whole", "\x00\x01" + "\x07\x00\x02\x00\x00\x00", api.ErrForm},
		{"one of no kind, then half a pointer", "\x00\x01" + "\x00\x00\x02\x00\x00\x00\x01\x00", api.ErrForm},
		{"a Put whose Ino may not be, and whose To is cut", "\x00\x01" + form(put(1, 0, 0, p))[:16], api.ErrShort},
		{"a Move whose To may not be, and is cut", "\x00\x01" + m[:27], api.ErrShort},
		{"a Move whose Old may not be, and whose To is cut", "\x00\x01" + form(move(2, 0, full(5, 0, 0, 0, 1), p))[:27], api.ErrShort},
		{"a Move whose To may not be, then one that is cut", "\x00\x02" + m + c[:5], api.ErrForm},
		{"a great number, then one that may not be", "\x0f\xa1" + no, api.ErrLong},
		{"none, then one that may not be", "\x00\x00" + no, api.ErrLong},
		{"one, then one behind that may not be", "\x00\x01" + c + no, api.ErrLong},
	} {
		notDecoded(t, l.what, l.b, l.want)
		if _, why := decodes(l.b); why != l.want {
			t.Errorf("%s: the model says %v, want %v", l.what, why, l.want)
		}
	}
}

// No call changes what it is given, spare room included, nor keeps it; what it answers is nobody else's.
func TestWhatIsGiven(t *testing.T) {
	l := []api.Delta{put(2, 0, 10, p), cut(2, 5), move(3, 1, q, r)}
	whole := append(slices.Clone(l), cut(9, 9), move(9, 9, p, p))
	was := slices.Clone(whole)
	b, why := delta.Encode(whole[:3])
	again, _ := delta.Encode(whole[:3])
	if !delta.Same(whole[:3], l) || why != api.OK || !slices.Equal(whole, was) {
		t.Fatalf("Encode: %v, and what it was given is %v, want %v", why, whole, was)
	}
	clear(whole)
	spoil(again)
	if want := forms(l...); string(b) != want {
		t.Errorf("behind a write into what Encode was given: %q, want %q", b, want)
	}
	room := []byte(string(b) + "spare")
	got, why := delta.Decode(room[:len(b)])
	other, _ := delta.Decode(room[:len(b)])
	if why != api.OK || string(room) != string(b)+"spare" {
		t.Fatalf("Decode: %v, and what it was given is %q", why, room)
	}
	spoil(room)
	clear(other[:cap(other)])
	if !slices.Equal(got, l) {
		t.Errorf("behind a write into what Decode was given: %v, want %v", got, l)
	}
}

// spoil writes into all of a row of bytes, its spare room too.
func spoil(b []byte) {
	b = b[:cap(b)]
	for i := range b {
		b[i] = '!'
	}
}

// isTold holds what Decode says of bytes against what it is to say.
func isTold(t *testing.T, b string) api.Errno {
	t.Helper()
	want, why := decodes(b)
	if why != api.OK {
		notDecoded(t, fmt.Sprintf("%q", b), b, why)
		return why
	}
	isDecoded(t, b, want)
	return why
}

// Each byte of some rows made each other one: held against what is to be told.
func TestDecodeOfEachByte(t *testing.T) {
	for _, s := range []string{
		forms(),
		forms(cut(2, 5)),
		forms(put(128, 63, 4096, full(4, 1048576, 1073741824, 5936, 64))),
		forms(move(2, 0, p, q), cut(2, 0), put(9, 7, 64, zero)),
	} {
		for i := range len(s) {
			for c := range 256 {
				b := []byte(s)
				b[i] = byte(c)
				isTold(t, string(b))
				isTold(t, string(b)+strings.Repeat("\x00", 11))
			}
		}
	}
}

// Any rows of deltas: they are written and read; some are cut, have a byte changed or more behind: held against what is to be told.
func TestAnyRows(t *testing.T) {
	g := rand.New(rand.NewSource(12))
	yes, no := usual(), slices.DeleteFunc(strange(), func(d api.Delta) bool { return !fits(d) })
	count := map[api.Errno]int{}
	for range 20000 {
		l := []api.Delta{}
		for range g.Intn(6) {
			l = append(l, yes[g.Intn(len(yes))])
		}
		isCoded(t, l)
		if g.Intn(4) == 0 {
			l = slices.Insert(l, g.Intn(len(l)+1), no[g.Intn(len(no))])
			notCoded(t, "one that may not be", l, api.ErrArg)
		}
		b := []byte(forms(l...))
		switch g.Intn(4) {
		case 0:
			b = b[:g.Intn(len(b)+1)]
		case 1:
			b[g.Intn(len(b))] = byte(g.Intn(256))
		case 2:
			b = append(b, make([]byte, g.Intn(3))...)
		}
		count[isTold(t, string(b))]++
	}
	for _, e := range []api.Errno{api.OK, api.ErrShort, api.ErrLong, api.ErrForm} {
		if count[e] < 100 {
			t.Errorf("%d of %v: too few to tell anything", count[e], e)
		}
	}
}
