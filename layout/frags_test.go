// Tests of what is made of fragments: what is read of one, and a stripe's bytes and its fragments out of the others.
package layout_test

import (
	"fmt"
	"math"
	"math/rand"
	"slices"
	"strings"
	"testing"

	"pinstripe/api"
	"pinstripe/layout"
)

// head answers a head.
func head(s api.Stripe, index, n, size int) layout.Head {
	return layout.Head{Stripe: s, Index: index, Servers: n, Size: size}
}

// value answers the number that bytes are.
func value(b string) int {
	x := 0
	for i := range len(b) {
		x = x*256 + int(b[i])
	}
	return x
}

// reads is Read, told anew.
func reads(b string) (layout.Head, string, api.Errno) {
	if len(b) < headLen {
		return layout.Head{}, "", api.ErrShort
	}
	h := head(stripe(value(b[:1]), value(b[1:4]), value(b[4:8])), value(b[8:9]), value(b[9:10]), value(b[10:12]))
	s, n := h.Stripe, h.Servers
	if s.Client > 4 || s.Life > 1048576 || s.Number > 1073741824 || n < 3 || n > 16 || h.Index >= n || h.Size > 400*(n-1) {
		return layout.Head{}, "", api.ErrForm
	}
	if len(rowsOf(strings.Repeat("a", h.Size), n)[h.Index]) != len(b)-headLen {
		return layout.Head{}, "", api.ErrForm
	}
	return h, b[headLen:], api.OK
}

// gathers answers, told anew, the bytes of all of a stripe's fragments but at most one, with those of that one told out of the others, and the stripe's size. The fragment at but is none.
func gathers(s api.Stripe, frags []string, but, n int) ([]string, int, api.Errno) {
	if n < 3 || n > 16 || len(frags) != n {
		return nil, 0, api.ErrArg
	}
	rows, told, gone := make([]string, n), []int{}, []int{}
	for i, f := range frags {
		if f == "" || i == but {
			gone = append(gone, i)
			continue
		}
		h, row, why := reads(f)
		if told = append(told, h.Size); why != api.OK || h != head(s, i, n, told[0]) {
			return nil, 0, api.ErrForm
		}
		rows[i] = row
	}
	if len(gone) > 1 {
		return nil, 0, api.ErrLost
	}
	sum := make([]byte, each(told[0], n))
	for _, row := range rows {
		for at := range len(row) {
			sum[at] ^= row[at]
		}
	}
	if len(gone) == 0 && string(sum) != strings.Repeat("\x00", len(sum)) {
		return nil, 0, api.ErrForm
	}
	if len(gone) == 1 {
		row := rowsOf(strings.Repeat("a", told[0]), n)[gone[0]]
		rows[gone[0]] = string(sum[:len(row)])
	}
	return rows, told[0], api.OK
}

// isRead looks at what is read of a fragment that may be.
func isRead(t *testing.T, b string, want layout.Head, row string) {
	t.Helper()
	if h, got, why := layout.Read([]byte(b)); h != want || string(got) != row || why != api.OK {
		t.Errorf("Read(%q): %v, %q, %v, want %v, %q", b, h, got, why, want, row)
	}
}

// notRead looks at what Read says of what is no fragment.
func notRead(t *testing.T, what, b string, want api.Errno) {
	t.Helper()
	if h, got, why := layout.Read([]byte(b)); h != (layout.Head{}) || len(got) != 0 || why != want {
		t.Errorf("%s: Read(%.40q): %v, %q, %v, want none, %v", what, b, h, got, why, want)
	}
}

// isTold holds what Read says against what it is to say, and answers it.
func isTold(t *testing.T, b string) api.Errno {
	t.Helper()
	h, row, why := reads(b)
	if why == api.OK {
		isRead(t, b, h, row)
	} else {
		notRead(t, "told anew", b, why)
	}
	return why
}

// isJoined holds what Join and Mend of each index say against what they are to say, and answers what Join says.
func isJoined(t *testing.T, s api.Stripe, frags []string, n int) api.Errno {
	t.Helper()
	rows, _, why := gathers(s, frags, -1, n)
	want := strings.Join(rows[:max(len(rows)-1, 0)], "")
	got, is := layout.Join(s, bytesOf(frags), n)
	if string(got) != want || is != why {
		t.Fatalf("Join(%v, %q, %d): %q, %v, want %q, %v", s, frags, n, got, is, want, why)
	}
	for i := -1; i <= len(frags) && i < 20; i++ {
		isMended(t, s, frags, i, n)
	}
	return is
}

// isMended holds what Mend says against what it is to say, and answers that.
func isMended(t *testing.T, s api.Stripe, frags []string, index, n int) api.Errno {
	t.Helper()
	want, why := "", api.ErrArg
	if index >= 0 && index < n {
		var rows []string
		var size int
		if rows, size, why = gathers(s, frags, index, n); why == api.OK {
			want = headOf(head(s, index, n, size)) + rows[index]
		}
	}
	got, is := layout.Mend(s, bytesOf(frags), index, n)
	if string(got) != want || is != why {
		t.Fatalf("Mend(%v, %q, %d, %d): %q, %v, want %q, %v", s, frags, index, n, got, is, want, why)
	}
	return is
}

// joins looks at what Join says.
func joins(t *testing.T, what string, s api.Stripe, frags []string, n int, b string, want api.Errno) {
	t.Helper()
	if got, why := layout.Join(s, bytesOf(frags), n); string(got) != b || why != want {
		t.Errorf("%s: Join %q, %v, want %q, %v", what, got, why, b, want)
	}
	if why := isJoined(t, s, frags, n); why != want {
		t.Errorf("%s: told anew %v, want %v", what, why, want)
	}
}

// mends looks at what Mend says.
func mends(t *testing.T, what string, s api.Stripe, frags []string, index, n int, b string, want api.Errno) {
	t.Helper()
	if got, why := layout.Mend(s, bytesOf(frags), index, n); string(got) != b || why != want {
		t.Errorf("%s: Mend of %d %q, %v, want %q, %v", what, index, got, why, b, want)
	}
	isMended(t, s, frags, index, n)
}

// but answers the list with other texts at some places: the place, then the text, and so on.
func but(l []string, changes ...any) []string {
	l = slices.Clone(l)
	for i := 0; i < len(changes); i += 2 {
		l[changes[i].(int)] = changes[i+1].(string)
	}
	return l
}

// flip answers b with the byte at i xor'd by x.
func flip(b string, i int, x byte) string {
	c := []byte(b)
	c[i] ^= x
	return string(c)
}

// P13.1: what stands in a fragment, field by field; each field at its least and at its most.
func TestRead(t *testing.T) {
	s := stripe(3, 0x010203, 0x04050607)
	isRead(t, "\x03\x01\x02\x03\x04\x05\x06\x07\x01\x04\x00\x0aefgh", head(s, 1, 4, 10), "efgh")
	isRead(t, "\x03\x01\x02\x03\x04\x05\x06\x07\x02\x04\x00\x0aij", head(s, 2, 4, 10), "ij")
	isRead(t, "\x03\x01\x02\x03\x04\x05\x06\x07\x03\x04\x00\x0amn\x04\x0c", head(s, 3, 4, 10), "mn\x04\x0c")
	isRead(t, strings.Repeat("\x00", 9)+"\x03\x00\x00", head(api.Stripe{}, 0, 3, 0), "")
	isRead(t, "\x04\x10\x00\x00\x40\x00\x00\x00\x0f\x10\x17\x70"+data(400), head(stripe(4, 1<<20, 1<<30), 15, 16, 6000), data(400))
	for _, n := range numbers() {
		for _, size := range []int{0, 1, n - 2, n - 1, n, 255, 256, 257, 400*(n-1) - 1, 400 * (n - 1)} {
			for _, s := range some {
				for i, row := range rowsOf(data(size), n) {
					h := head(s, i, n, size)
					isRead(t, headOf(h)+row, h, row)
				}
			}
		}
	}
}

// A parity may be any bytes: it is told by how many there are alone.
func TestReadOfAnyBytes(t *testing.T) {
	for i := range 4 {
		h := head(stripe(1, 2, 5), i, 4, 12)
		for _, row := range []string{"\x00\x00\x00\x00", "\xff\xff\xff\xff", "abcd"} {
			isRead(t, headOf(h)+row, h, row)
		}
	}
}

// Each shorter beginning: of a head ErrShort, whatever stands there; else ErrForm. Bytes behind are ErrForm.
func TestReadOfShorterAndLonger(t *testing.T) {
	for _, n := range []int{3, 4, 16} {
		for _, size := range []int{0, 1, 2, 10, 257, 400 * (n - 1)} {
			for i, f := range fragsOf(stripe(4, 1<<20, 1<<30), data(size), n) {
				what := fmt.Sprint("fragment ", i, " of ", size, " bytes over ", n)
				for long := range len(f) {
					want := api.ErrForm
					if long < headLen {
						want = api.ErrShort
					}
					notRead(t, what, f[:long], want)
				}
				for _, more := range []string{"\x00", "a", f, strings.Repeat("\x00", 1<<16)} {
					notRead(t, what, f+more, api.ErrForm)
				}
			}
		}
	}
	for long := range headLen {
		notRead(t, "no head", strings.Repeat("\xff", long), api.ErrShort)
		notRead(t, "no head", strings.Repeat("\x00", long), api.ErrShort)
	}
	notRead(t, "a head of noughts", strings.Repeat("\x00", headLen), api.ErrForm)
	notRead(t, "noughts", strings.Repeat("\x00", 70000), api.ErrForm)
	notRead(t, "255s", strings.Repeat("\xff", 512), api.ErrForm)
	if h, b, why := layout.Read(nil); h != (layout.Head{}) || len(b) != 0 || why != api.ErrShort {
		t.Errorf("Read(nil): %v, %q, %v", h, b, why)
	}
}

// Each field of a head one past its end, with just the bytes that it would have were there no end.
func TestReadOfHeadsThatMayNotBe(t *testing.T) {
	s := stripe(1, 2, 5)
	for _, l := range []struct {
		what string
		h    layout.Head
		row  string
	}{
		{"Client 5", head(stripe(5, 2, 5), 1, 4, 10), "efgh"},
		{"Client 255", head(stripe(255, 2, 5), 1, 4, 10), "efgh"},
		{"Life", head(stripe(1, 1<<20+1, 5), 1, 4, 10), "efgh"},
		{"Life at its width's end", head(stripe(1, 1<<24-1, 5), 1, 4, 10), "efgh"},
		{"Number", head(stripe(1, 2, 1<<30+1), 1, 4, 10), "efgh"},
		{"Number at its width's end", head(stripe(1, 2, 1<<32-1), 1, 4, 10), "efgh"},
		{"Index n, without bytes", head(s, 4, 4, 10), ""},
		{"Index n, with bytes", head(s, 4, 4, 10), "efgh"},
		{"Index n of no bytes", head(s, 4, 4, 0), ""},
		{"Index 16", head(s, 16, 16, 10), "e"},
		{"Index 15 of 15", head(s, 15, 15, 0), ""},
		{"Index 3 of 3", head(s, 3, 3, 0), ""},
		{"Index 255", head(s, 255, 4, 0), ""},
		{"n 2", head(s, 1, 2, 10), "abcdefghij"},
		{"n 2 of no bytes", head(s, 0, 2, 0), ""},
		{"n 1", head(s, 0, 1, 0), ""},
		{"n 0", head(s, 0, 0, 0), ""},
		{"n 17", head(s, 1, 17, 16), "a"},
		{"n 17 of no bytes", head(s, 1, 17, 0), ""},
		{"n 255", head(s, 1, 255, 0), ""},
		{"size over 3", head(s, 0, 3, 801), data(401)},
		{"size over 3, the rest", head(s, 1, 3, 801), data(400)},
		{"size over 4", head(s, 0, 4, 1201), data(401)},
		{"size over 4, the least rest", head(s, 2, 4, 1201), data(399)},
		{"size over 16", head(s, 0, 16, 6001), data(401)},
		{"size over 16, none of it", head(s, 14, 16, 6001), data(387)},
		{"the greatest size", head(s, 0, 3, 65535), data(32768)},
	} {
		notRead(t, l.what, headOf(l.h)+l.row, api.ErrForm)
		if _, _, why := reads(headOf(l.h) + l.row); why != api.ErrForm {
			t.Errorf("%s: told anew %v", l.what, why)
		}
	}
}

// Each byte of some heads made each other one: held against the chapter told anew.
func TestReadOfEachByte(t *testing.T) {
	count := map[api.Errno]int{}
	for _, l := range [][]string{fragsOf(stripe(1, 2, 5), "abcdefghij", 4), fragsOf(stripe(4, 1<<20, 1<<30), data(6000), 16), fragsOf(api.Stripe{}, "", 3), fragsOf(stripe(1, 2, 5), data(256), 3)} {
		for _, f := range l {
			for i := range headLen {
				for c := range 256 {
					b := f[:i] + string([]byte{byte(c)}) + f[i+1:]
					count[isTold(t, b)]++
					count[isTold(t, b[:headLen-1])]++
				}
			}
		}
	}
	for _, e := range []api.Errno{api.OK, api.ErrShort, api.ErrForm} {
		if count[e] < 100 {
			t.Errorf("%d of %v: too few to tell anything", count[e], e)
		}
	}
}

// P13.3 of some bytes: with all there, and with each one missing; each one is mended.
func TestJoin(t *testing.T) {
	const b = "abcdefghij"
	s := stripe(1, 2, 5)
	l := fragsOf(s, b, 4)
	joins(t, "all", s, l, 4, b, api.OK)
	for i := range l {
		joins(t, fmt.Sprint("without ", i), s, but(l, i, ""), 4, b, api.OK)
		mends(t, "all", s, l, i, 4, l[i], api.OK)
		mends(t, "without it", s, but(l, i, ""), i, 4, l[i], api.OK)
		for k := range i {
			what := fmt.Sprint("without ", k, " and ", i)
			joins(t, what, s, but(l, i, "", k, ""), 4, "", api.ErrLost)
			mends(t, what, s, but(l, i, "", k, ""), i, 4, "", api.ErrLost)
			mends(t, what, s, but(l, i, "", k, ""), k, 4, "", api.ErrLost)
			mends(t, fmt.Sprint("without ", k), s, but(l, k, ""), i, 4, "", api.ErrLost)
			mends(t, fmt.Sprint("without ", i), s, but(l, i, ""), k, 4, "", api.ErrLost)
		}
	}
	joins(t, "without three", s, but(l, 0, "", 1, "", 2, ""), 4, "", api.ErrLost)
	joins(t, "none", s, make([]string, 4), 4, "", api.ErrLost)
	mends(t, "none", s, make([]string, 4), 0, 4, "", api.ErrLost)
	rows := bytesOf(l)
	rows[1] = []byte{}
	if got, why := layout.Join(s, rows, 4); string(got) != b || why != api.OK {
		t.Errorf("an empty list, not nil: %q, %v", got, why)
	}
}

// P13.4: what is cut is joined, with any one missing, and each one is mended, byte for byte.
func TestJoinOfCut(t *testing.T) {
	for _, n := range numbers() {
		for _, size := range sizes(n) {
			s := some[(size+n)%len(some)]
			b := data(size)
			l, why := layout.Cut(s, []byte(b), n)
			if why != api.OK || len(l) != n {
				t.Fatalf("Cut of %d bytes over %d: %d fragments, %v", size, n, len(l), why)
			}
			if got, why := layout.Join(s, l, n); string(got) != b || why != api.OK {
				t.Fatalf("Join of Cut of %d bytes over %d: %q, %v", size, n, got, why)
			}
			for i := range l {
				others := slices.Clone(l)
				others[i] = nil
				got, why := layout.Join(s, others, n)
				if string(got) != b || why != api.OK {
					t.Fatalf("Join of Cut of %d bytes over %d without %d: %q, %v", size, n, i, got, why)
				}
				if got, why = layout.Mend(s, others, i, n); string(got) != string(l[i]) || why != api.OK {
					t.Fatalf("Mend of %d of %d bytes over %d: %q, %v, want %q", i, size, n, got, why, l[i])
				}
			}
		}
	}
}

// Two missing, and more, over as few servers as may be and as many.
func TestJoinOfTooFew(t *testing.T) {
	s := stripe(4, 1<<20, 1<<30)
	for _, n := range []int{3, 4, 16} {
		for _, size := range []int{0, 1, n - 1, 2*n + 1} {
			l := fragsOf(s, data(size), n)
			for i := range n {
				for k := range i {
					joins(t, fmt.Sprint("without ", k, " and ", i), s, but(l, k, "", i, ""), n, "", api.ErrLost)
				}
				joins(t, "one alone", s, but(make([]string, n), i, l[i]), n, "", api.ErrLost)
			}
			joins(t, "none", s, make([]string, n), n, "", api.ErrLost)
		}
	}
}

// ErrArg: rows too few and too many, an n that may not be, no such index; ahead of whatever else is wrong.
func TestJoinOfArguments(t *testing.T) {
	s := stripe(1, 2, 5)
	l := fragsOf(s, "abcdefghij", 4)
	for what, rows := range map[string][]string{"good": l, "two missing": but(l, 0, "", 1, ""), "bad": but(l, 0, "a", 1, "b"), "none": make([]string, 4)} {
		joins(t, what+", too few", s, rows[:3], 4, "", api.ErrArg)
		joins(t, what+", too few for more", s, rows, 5, "", api.ErrArg)
		joins(t, what+", too many", s, append(slices.Clone(rows), rows[3]), 4, "", api.ErrArg)
		joins(t, what+", too many, the last one empty", s, append(slices.Clone(rows), ""), 4, "", api.ErrArg)
		joins(t, what+", too many for fewer", s, rows, 3, "", api.ErrArg)
		for _, n := range noNumbers {
			joins(t, what, s, rows, n, "", api.ErrArg)
		}
		for _, i := range []int{-1, 4, 5, 1 << 32, math.MinInt, math.MaxInt} {
			mends(t, what, s, rows, i, 4, "", api.ErrArg)
		}
		mends(t, what+", too few", s, rows[:3], 0, 4, "", api.ErrArg)
		mends(t, what+", too few, that one missing", s, rows[:3], 3, 4, "", api.ErrArg)
		mends(t, what+", too many", s, append(slices.Clone(rows), ""), 4, 4, "", api.ErrArg)
		mends(t, what+", too many", s, append(slices.Clone(rows), ""), 0, 4, "", api.ErrArg)
	}
	for _, n := range append(noNumbers, numbers()...) {
		joins(t, "nil", s, nil, n, "", api.ErrArg)
		mends(t, "nil", s, nil, 0, n, "", api.ErrArg)
		mends(t, "nil", s, nil, -1, n, "", api.ErrArg)
		if n >= 0 && n < 300 { // so many rows, though so many may not be
			rows := slices.Repeat([]string{l[0]}, n)
			isJoined(t, s, rows, n)
			isJoined(t, s, make([]string, n), n)
		}
	}
	joins(t, "two rows for two", s, fragsOf(s, "abcdefghij", 3)[:2], 2, "", api.ErrArg)
}

// wrong are what is put in a fragment's place: that is fragment i of nine bytes over four servers. None of them is that fragment by itself.
func wrong(s api.Stripe, i int, f string) map[string]string {
	row := f[headLen:]
	return map[string]string{
		"a byte":           "a",
		"a head cut":       f[:headLen-1],
		"a head alone":     f[:headLen],
		"a byte too few":   f[:len(f)-1],
		"a byte too many":  f + "\x00",
		"noughts":          strings.Repeat("\x00", len(f)),
		"another Client":   headOf(head(stripe(2, 2, 5), i, 4, 9)) + row,
		"no Client":        headOf(head(stripe(5, 2, 5), i, 4, 9)) + row,
		"another Life":     headOf(head(stripe(1, 3, 5), i, 4, 9)) + row,
		"another Number":   headOf(head(stripe(1, 2, 6), i, 4, 9)) + row,
		"another index":    headOf(head(s, (i+1)%4, 4, 9)) + row,
		"an index behind":  headOf(head(s, 4, 4, 9)) + row,
		"another n":        headOf(head(s, i, 5, 12)) + row,
		"fewer servers":    headOf(head(s, i%3, 3, 6)) + row,
		"bytes of no size": headOf(head(s, i, 4, 0)) + row,
		"too great a size": headOf(head(s, i, 4, 1201)) + row,
	}
}

// ErrForm: one that is there is no fragment, or not that one. It counts ahead of what is missing; Mend does not look at its own.
func TestJoinOfWhatIsNoFragment(t *testing.T) {
	s, none := stripe(1, 2, 5), make([]string, 4)
	l := fragsOf(s, "abcdefghi", 4)
	for i, f := range l {
		for kind, bad := range wrong(s, i, f) {
			what := fmt.Sprint(kind, " at ", i)
			joins(t, what, s, but(l, i, bad), 4, "", api.ErrForm)
			joins(t, what+", alone", s, but(none, i, bad), 4, "", api.ErrForm)
			mends(t, what, s, but(l, i, bad), i, 4, f, api.OK)
			mends(t, what+", alone", s, but(none, i, bad), i, 4, "", api.ErrLost)
			for k := range l {
				if k == i {
					continue
				}
				joins(t, fmt.Sprint(what, ", without ", k), s, but(l, i, bad, k, ""), 4, "", api.ErrForm)
				mends(t, what, s, but(l, i, bad), k, 4, "", api.ErrForm)
				mends(t, what+", alone", s, but(none, i, bad), k, 4, "", api.ErrForm)
				mends(t, fmt.Sprint(what, ", without ", k), s, but(l, i, bad, k, ""), i, 4, "", api.ErrLost)
				mends(t, fmt.Sprint(what, ", and at ", k), s, but(l, i, bad, k, wrong(s, k, l[k])[kind]), i, 4, "", api.ErrForm)
			}
		}
	}
}

// ErrForm: sizes that are unlike, each of which may be, though the bytes be as many.
func TestJoinOfUnlikeSizes(t *testing.T) {
	s, none := stripe(1, 2, 5), make([]string, 4)
	l := fragsOf(s, "abcdefghi", 4)
	for _, size := range []int{0, 1, 6, 7, 8, 10, 12, 1200} {
		other := fragsOf(s, data(size), 4)
		for i := range l {
			what := fmt.Sprint("one of ", size, " at ", i)
			joins(t, what, s, but(l, i, other[i]), 4, "", api.ErrForm)
			joins(t, what+", alone", s, but(none, i, other[i]), 4, "", api.ErrLost)
			mends(t, what, s, but(l, i, other[i]), i, 4, l[i], api.OK)
			for k := range l {
				if k == i {
					continue
				}
				joins(t, fmt.Sprint(what, ", without ", k), s, but(l, i, other[i], k, ""), 4, "", api.ErrForm)
				joins(t, fmt.Sprint(what, ", and ", k), s, but(none, i, other[i], k, l[k]), 4, "", api.ErrForm)
				mends(t, what, s, but(l, i, other[i]), k, 4, "", api.ErrForm)
			}
		}
		joins(t, fmt.Sprint("all of ", size), s, other, 4, data(size), api.OK)
	}
}

// The stripe that is asked for is the one that all must say, one that may not be too.
func TestJoinOfAnotherStripe(t *testing.T) {
	for _, s := range some {
		l := fragsOf(s, "abcdefghij", 4)
		for _, other := range append(noStripes(), some...) {
			if other == s {
				joins(t, "the same", other, l, 4, "abcdefghij", api.OK)
				continue
			}
			what := fmt.Sprint(s, " as ", other)
			joins(t, what, other, l, 4, "", api.ErrForm)
			joins(t, what+", two missing", other, but(l, 0, "", 3, ""), 4, "", api.ErrForm)
			joins(t, what+", none", other, make([]string, 4), 4, "", api.ErrLost)
			mends(t, what, other, l, 2, 4, "", api.ErrForm)
			mends(t, what+", none", other, make([]string, 4), 2, 4, "", api.ErrLost)
		}
	}
}

// Fragments in one another's places, though they have the same bytes.
func TestJoinOfPlaces(t *testing.T) {
	s := stripe(1, 2, 5)
	for _, b := range []string{"", "a", "aaaaaa", "abcdefghij"} {
		l := fragsOf(s, b, 4)
		for i := range l {
			for k := range i {
				what := fmt.Sprint(k, " and ", i, " of ", b)
				joins(t, what, s, but(l, i, l[k], k, l[i]), 4, "", api.ErrForm)
				joins(t, what+", one twice", s, but(l, i, l[k]), 4, "", api.ErrForm)
				joins(t, what+", one moved", s, but(l, i, l[k], k, ""), 4, "", api.ErrForm)
				mends(t, what, s, but(l, i, l[k], k, l[i]), i, 4, "", api.ErrForm)
			}
		}
	}
}

// ErrForm: all are there, and the parity is another one: each bit of each fragment's bytes. With one missing nobody can tell.
func TestJoinOfAnotherParity(t *testing.T) {
	const b = "abcdefghij"
	s := stripe(1, 2, 5)
	l := fragsOf(s, b, 4)
	for i, f := range l {
		for at := headLen; at < len(f); at++ {
			for bit := range 8 {
				bad, what := but(l, i, flip(f, at, 1<<bit)), fmt.Sprint("bit ", bit, " of byte ", at, " of ", i)
				joins(t, what, s, bad, 4, "", api.ErrForm)
				mends(t, what, s, bad, i, 4, f, api.OK)
				joins(t, what+", missing", s, but(bad, i, ""), 4, b, api.OK)
				for k := range l {
					if _, why := layout.Join(s, bytesOf(but(bad, k, "")), 4); why != api.OK {
						t.Errorf("%s, without %d: %v", what, k, why)
					}
					isJoined(t, s, but(bad, k, ""), 4)
				}
			}
		}
	}
	joins(t, "another byte of what is not made of the missing one", s, but(l, 3, flip(l[3], headLen+3, 1), 2, ""), 4, b, api.OK)
	joins(t, "another byte of what is made", s, but(l, 3, flip(l[3], headLen, 1), 2, ""), 4, "abcdefghhj", api.OK)
	joins(t, "noughts for a parity", s, but(l, 3, l[3][:headLen]+"\x00\x00\x00\x00"), 4, "", api.ErrForm)
	joins(t, "a parity that is one", s, but(l, 0, l[0][:headLen]+"\x00\x00\x00\x00", 3, l[3][:headLen]+"\x0c\x0cgh"), 4, "\x00\x00\x00\x00efghij", api.OK)
}

// No call changes what it is given, spare room included, nor keeps it; what it answers is nobody else's.
func TestWhatIsGiven(t *testing.T) {
	const b = "abcdefghij"
	s := stripe(1, 2, 5)
	l := fragsOf(s, b, 4)
	for missing := range 5 { // at 4 none is
		want := slices.Clone(l)
		if missing < 4 {
			want[missing] = ""
		}
		rows, rooms := [][]byte{}, [][]byte{}
		for _, f := range want {
			room := []byte(f + "spare")
			rooms, rows = append(rooms, room), append(rows, room[:len(f)])
		}
		rows = append(rows, []byte("behind"))[:4]
		index := min(missing, 3)
		calls := []func() []byte{
			func() []byte { got, _ := layout.Join(s, rows, 4); return got },
			func() []byte { got, _ := layout.Mend(s, rows, index, 4); return got },
			func() []byte { _, got, _ := layout.Read(rows[(index+1)%4]); return got },
		}
		for i, told := range []string{b, l[index], l[(index+1)%4][headLen:]} {
			got, again := calls[i](), calls[i]()
			spoil(again)
			for k, room := range rooms {
				if string(room) != want[k]+"spare" || string(rows[k]) != want[k] || string(rows[:5][4]) != "behind" {
					t.Fatalf("call %d without %d: what it was given is %q", i, missing, room)
				}
				spoil(room)
			}
			if string(got) != told {
				t.Errorf("call %d without %d: behind writes into what was given: %q, want %q", i, missing, got, told)
			}
			for k, room := range rooms {
				copy(room, want[k]+"spare")
			}
		}
	}
}

// anyFrags answers fragments of a stripe of any size, some of which are missing, changed, another one's, or of another stripe; and rows too few or too many.
func anyFrags(g *rand.Rand, s api.Stripe, n int) []string {
	size := g.Intn(3*n + 1)
	l := fragsOf(s, data(size), n)
	for range g.Intn(4) {
		i := g.Intn(len(l))
		switch f := l[i]; g.Intn(9) {
		case 0, 1, 2, 3:
			l[i] = ""
		case 4:
			if f != "" {
				l[i] = flip(f, g.Intn(len(f)), 1<<g.Intn(8))
			}
		case 5:
			l[i] = f[:g.Intn(len(f)+1)]
		case 6:
			l[i] = f + "a"
		case 7:
			l[i] = l[g.Intn(len(l))]
		case 8:
			l[i] = fragsOf(s, data(max(size+g.Intn(3)-1, 0)), n)[i]
		}
	}
	switch g.Intn(20) {
	case 0:
		return l[:n-1]
	case 1:
		return append(l, "")
	}
	return l
}

// Any rows: held against the chapter told anew.
func TestAnyRows(t *testing.T) {
	g := rand.New(rand.NewSource(13))
	count := map[api.Errno]int{}
	for range 20000 {
		s, n := some[g.Intn(len(some))], 3+g.Intn(4)
		l := anyFrags(g, s, n)
		count[isJoined(t, s, l, n)]++
		for _, f := range l {
			isTold(t, f)
		}
	}
	for _, e := range []api.Errno{api.OK, api.ErrArg, api.ErrForm, api.ErrLost} {
		if count[e] < 500 {
			t.Errorf("%d of %v: too few to tell anything", count[e], e)
		}
	}
}
