// Tests of chapter 13, by what package layout exports alone: where things are, and what is cut. What is made of fragments: frags_test.go.
package layout_test

import (
	"fmt"
	"math"
	"math/big"
	"slices"
	"strings"
	"testing"

	"pinstripe/api"
	"pinstripe/layout"
)

const (
	headLen = 12   // bytes of a head
	mostOf3 = 800  // bytes of a stripe over three servers
	mostOf4 = 1200 // over four
	mostAll = 6000 // over sixteen
)

// stripe answers a stripe of three numbers.
func stripe(client, life, number int) api.Stripe {
	return api.Stripe{Client: client, Life: life, Number: number}
}

// some are stripes that may be: each number at its least, at its most and between.
var some = []api.Stripe{{}, stripe(1, 0, 5), stripe(1, 2, 5), stripe(3, 0x010203, 0x04050607), stripe(4, 1<<20, 1<<30), stripe(4, 0, 0), stripe(0, 1<<20, 0), stripe(0, 0, 1<<30)}

// noStripes answers stripes that may not be: one number of each is past an end, the others are at either end.
func noStripes() []api.Stripe {
	l := []api.Stripe{}
	for _, s := range []api.Stripe{{}, stripe(4, 1<<20, 1<<30)} {
		for _, x := range []int{-1, 5, 255, 256, 1 << 32, math.MinInt, math.MaxInt} {
			l = append(l, stripe(x, s.Life, s.Number))
		}
		for _, x := range []int{-1, 1<<20 + 1, 1 << 24, 1 << 32, math.MinInt, math.MaxInt} {
			l = append(l, stripe(s.Client, x, s.Number))
		}
		for _, x := range []int{-1, 1<<30 + 1, 1 << 32, 1 << 62, math.MinInt, math.MaxInt} {
			l = append(l, stripe(s.Client, s.Life, x))
		}
	}
	return l
}

// noNumbers are numbers of servers that may not be.
var noNumbers = []int{2, 17, 1, 0, -1, -3, -16, 18, 19, 256 + 4, 1<<32 + 4, math.MinInt, math.MinInt + 1, math.MaxInt}

// numbers answers each number of servers that may be.
func numbers() []int {
	l := []int{}
	for n := 3; n <= 16; n++ {
		l = append(l, n)
	}
	return l
}

// sizes answers numbers of bytes that a stripe over n servers may have: few, and those at which fragments grow, and as many as may be.
func sizes(n int) []int {
	l := []int{}
	for size := range 3*n + 2 {
		l = append(l, size)
	}
	for _, e := range []int{63, 64, 65, 255, 256, 399, 400} {
		for size := (n-1)*e - n; size <= (n-1)*e+1 && size <= 400*(n-1); size++ {
			l = append(l, size)
		}
	}
	return l
}

// data answers size bytes, of which neighbours are unlike, also those that stand at one place of two fragments.
func data(size int) string {
	b := make([]byte, size)
	for i := range b {
		b[i] = byte(1 + i*7 + i/97 + i*i/13)
	}
	return string(b)
}

// each is Each, told anew.
func each(size, n int) int {
	e := 0
	for n >= 3 && n <= 16 && e*(n-1) < size {
		e++
	}
	return e
}

// place is Place, told anew in numbers that do not wrap round.
func place(s api.Stripe, index, n int) int {
	if n < 3 || n > 16 {
		return 0
	}
	sum := big.NewInt(int64(s.Number))
	sum.Add(sum, big.NewInt(int64(s.Client)))
	sum.Add(sum, big.NewInt(int64(index)))
	return int(sum.Mod(sum, big.NewInt(int64(n))).Int64())
}

// num answers a number in width bytes.
func num(x, width int) string {
	b := ""
	for range width {
		b = string([]byte{byte(x % 256)}) + b
		x /= 256
	}
	return b
}

// headOf answers a head's bytes.
func headOf(h layout.Head) string {
	return num(h.Stripe.Client, 1) + num(h.Stripe.Life, 3) + num(h.Stripe.Number, 4) + num(h.Index, 1) + num(h.Servers, 1) + num(h.Size, 2)
}

// rowsOf answers the bytes of all fragments of a stripe, told anew byte by byte.
func rowsOf(b string, n int) []string {
	e := each(len(b), n)
	l := make([][]byte, n)
	l[n-1] = make([]byte, e)
	for at := range len(b) {
		l[at/e] = append(l[at/e], b[at])
		l[n-1][at%e] ^= b[at]
	}
	return textsOf(l)
}

// fragsOf answers a stripe's fragments.
func fragsOf(s api.Stripe, b string, n int) []string {
	l := rowsOf(b, n)
	for i := range l {
		l[i] = headOf(layout.Head{Stripe: s, Index: i, Servers: n, Size: len(b)}) + l[i]
	}
	return l
}

// bytesOf answers texts as rows of bytes; an empty one as nil.
func bytesOf(l []string) [][]byte {
	var rows [][]byte
	for _, s := range l {
		if s == "" {
			rows = append(rows, nil)
			continue
		}
		rows = append(rows, []byte(s))
	}
	return rows
}

// textsOf answers rows of bytes as texts.
func textsOf(rows [][]byte) []string {
	var l []string
	for _, b := range rows {
		l = append(l, string(b))
	}
	return l
}

// isCut looks at what a stripe is cut into.
func isCut(t *testing.T, s api.Stripe, b string, n int) {
	t.Helper()
	got, why := layout.Cut(s, []byte(b), n)
	if want := fragsOf(s, b, n); !slices.Equal(textsOf(got), want) || why != api.OK {
		t.Fatalf("Cut(%v, %d bytes, %d): %q, %v, want %q", s, len(b), n, got, why, want)
	}
}

// notCut looks at what Cut says of what it refuses.
func notCut(t *testing.T, s api.Stripe, b []byte, n int, want api.Errno) {
	t.Helper()
	if got, why := layout.Cut(s, b, n); len(got) != 0 || why != want {
		t.Errorf("Cut(%v, %d bytes, %d): %d fragments, %v, want none, %v", s, len(b), n, len(got), why, want)
	}
}

// The chapter's examples.
func TestExamples(t *testing.T) {
	first, last, why := layout.Span(3, 4, 10, 4)
	if got := fmt.Sprint(layout.Each(10, 4), layout.Place(stripe(1, 0, 5), 2, 4), first, last, why); got != "4 0 0 1 ok" {
		t.Error(got)
	}
}

func TestEach(t *testing.T) {
	for _, l := range []struct{ size, n, want int }{
		{10, 4, 4}, {9, 4, 3}, {8, 4, 3}, {7, 4, 3}, {6, 4, 2}, {3, 4, 1}, {1, 4, 1}, {0, 4, 0}, {-1, 4, 0}, {-5, 4, 0},
		{1, 3, 1}, {2, 3, 1}, {3, 3, 2}, {799, 3, 400}, {800, 3, 400}, {801, 3, 401}, {1, 16, 1}, {15, 16, 1}, {16, 16, 2}, {5999, 16, 400}, {6000, 16, 400}, {6001, 16, 401},
		{5, 2, 0}, {5, 17, 0}, {5, 0, 0}, {5, 1, 0}, {5, -4, 0},
		{math.MinInt, 3, 0}, {math.MinInt, 16, 0}, {math.MaxInt, 3, 1 << 62}, {math.MaxInt - 1, 3, 1<<62 - 1}, {math.MaxInt, 2, 0}, {math.MaxInt, 17, 0}, {math.MaxInt, math.MinInt, 0}, {math.MaxInt, math.MaxInt, 0},
	} {
		if got := layout.Each(l.size, l.n); got != l.want {
			t.Errorf("Each(%d, %d): %d, want %d", l.size, l.n, got, l.want)
		}
	}
	for n := -20; n <= 20; n++ {
		for size := -20; size <= 200; size++ {
			if got, want := layout.Each(size, n), each(size, n); got != want {
				t.Errorf("Each(%d, %d): %d, want %d", size, n, got, want)
			}
		}
	}
	for _, n := range noNumbers {
		for _, size := range []int{-1, 0, 1, 10, 6000, math.MaxInt} {
			if got := layout.Each(size, n); got != 0 {
				t.Errorf("Each(%d, %d): %d, want 0", size, n, got)
			}
		}
	}
}

// Each of great sizes: e (n - 1) reaches, with e less one it does not.
func TestEachOfGreatSizes(t *testing.T) {
	for _, n := range numbers() {
		for _, size := range []int{1 << 20, 1<<31 - 1, 1 << 31, 1<<32 + 1, 1 << 62, math.MaxInt - 15, math.MaxInt - 1, math.MaxInt} {
			e := layout.Each(size, n)
			reach := func(e int) *big.Int { return new(big.Int).Mul(big.NewInt(int64(e)), big.NewInt(int64(n-1))) }
			if x := big.NewInt(int64(size)); reach(e).Cmp(x) < 0 || reach(e-1).Cmp(x) >= 0 {
				t.Errorf("Each(%d, %d): %d", size, n, e)
			}
		}
	}
}

func TestPlace(t *testing.T) {
	for _, l := range []struct {
		s              api.Stripe
		index, n, want int
	}{
		{stripe(1, 0, 5), 2, 4, 0}, {stripe(1, 2, 5), 2, 4, 0}, {stripe(1, 2, 5), 0, 4, 2}, {stripe(1, 2, 5), 3, 4, 1}, {stripe(1, 1<<20, 5), 3, 4, 1},
		{api.Stripe{}, 0, 3, 0}, {api.Stripe{}, 2, 3, 2}, {api.Stripe{}, 3, 3, 0}, {stripe(0, 0, 1), 2, 3, 0}, {stripe(1, 0, 0), 2, 3, 0}, {stripe(0, 1, 0), 2, 3, 2},
		{stripe(4, 1<<20, 1<<30), 15, 16, 3}, {stripe(0, 0, 15), 1, 16, 0}, {stripe(4, 0, 11), 15, 16, 14},
		{stripe(0, 0, -1), 0, 4, 3}, {stripe(-1, 0, 0), 0, 4, 3}, {stripe(0, 0, 0), -1, 4, 3}, {stripe(0, -1, 0), 0, 4, 0}, {stripe(-4, 0, -4), -4, 4, 0}, {stripe(-4, 0, -4), -5, 4, 3}, {stripe(-9, 0, 2), 6, 16, 15},
		{stripe(1, 2, 5), 0, 2, 0}, {stripe(1, 2, 5), 1, 2, 0}, {stripe(1, 2, 5), 0, 17, 0}, {stripe(1, 2, 5), 0, 0, 0}, {stripe(1, 2, 5), 0, -4, 0},
	} {
		if got := layout.Place(l.s, l.index, l.n); got != l.want {
			t.Errorf("Place(%v, %d, %d): %d, want %d", l.s, l.index, l.n, got, l.want)
		}
	}
}

// Any numbers are taken: a sum that an int does not hold, too.
func TestPlaceOfAnyNumbers(t *testing.T) {
	l := []int{0, 1, -1, 2, 3, 5, -7, 15, 16, 17, 1 << 30, 1 << 62, math.MaxInt, math.MaxInt - 1, math.MinInt, math.MinInt + 1}
	for _, n := range append(noNumbers, numbers()...) {
		for _, client := range l {
			for _, number := range l {
				for _, index := range l {
					s := stripe(client, index, number)
					if got, want := layout.Place(s, index, n), place(s, index, n); got != want {
						t.Fatalf("Place(%v, %d, %d): %d, want %d", s, index, n, got, want)
					}
				}
			}
		}
	}
}

// Of one stripe each server keeps one fragment; of n stripes that follow one another each has one parity.
func TestPlacesOfStripes(t *testing.T) {
	for _, n := range numbers() {
		for _, s := range some {
			frags, parities := map[int]bool{}, map[int]bool{}
			for i := range n {
				next := stripe(s.Client, s.Life, s.Number+i)
				frags[layout.Place(s, i, n)] = true
				parities[layout.Place(next, n-1, n)] = true
				if ahead := layout.Place(s, n-1, n); layout.Place(next, n-1, n) != (ahead+i)%n {
					t.Errorf("parity of %v and of %v over %d: %d, %d", s, next, n, ahead, layout.Place(next, n-1, n))
				}
			}
			for server := range n {
				if !frags[server] || !parities[server] {
					t.Errorf("%v over %d: fragments on %v, parities on %v", s, n, frags, parities)
				}
			}
		}
	}
}

// P13.1: the bytes of fragments, one by one.
func TestCut(t *testing.T) {
	s := stripe(3, 0x010203, 0x04050607)
	const of = "\x03\x01\x02\x03\x04\x05\x06\x07"
	for _, l := range []struct {
		b    string
		n    int
		want []string
	}{
		{"abcdefghij", 4, []string{of + "\x00\x04\x00\x0aabcd", of + "\x01\x04\x00\x0aefgh", of + "\x02\x04\x00\x0aij", of + "\x03\x04\x00\x0amn\x04\x0c"}},
		{"", 3, []string{of + "\x00\x03\x00\x00", of + "\x01\x03\x00\x00", of + "\x02\x03\x00\x00"}},
		{"a", 3, []string{of + "\x00\x03\x00\x01a", of + "\x01\x03\x00\x01", of + "\x02\x03\x00\x01a"}},
		{"ab", 3, []string{of + "\x00\x03\x00\x02a", of + "\x01\x03\x00\x02b", of + "\x02\x03\x00\x02\x03"}},
		{"abc", 3, []string{of + "\x00\x03\x00\x03ab", of + "\x01\x03\x00\x03c", of + "\x02\x03\x00\x03\x02b"}},
		{"abcd", 4, []string{of + "\x00\x04\x00\x04ab", of + "\x01\x04\x00\x04cd", of + "\x02\x04\x00\x04", of + "\x03\x04\x00\x04\x02\x06"}},
		{"abcde", 6, []string{of + "\x00\x06\x00\x05a", of + "\x01\x06\x00\x05b", of + "\x02\x06\x00\x05c", of + "\x03\x06\x00\x05d", of + "\x04\x06\x00\x05e", of + "\x05\x06\x00\x05a"}},
		{"\x00\x00", 3, []string{of + "\x00\x03\x00\x02\x00", of + "\x01\x03\x00\x02\x00", of + "\x02\x03\x00\x02\x00"}},
	} {
		got, why := layout.Cut(s, []byte(l.b), l.n)
		if !slices.Equal(textsOf(got), l.want) || why != api.OK {
			t.Errorf("Cut of %q over %d: %q, %v, want %q", l.b, l.n, got, why, l.want)
		}
		isCut(t, s, l.b, l.n)
	}
	empty, why := layout.Cut(s, nil, 16)
	if !slices.Equal(textsOf(empty), fragsOf(s, "", 16)) || why != api.OK {
		t.Errorf("Cut of nil: %q, %v", empty, why)
	}
}

// Over as few servers as may be, as many, and each number between: stripes of each number of bytes at which a fragment grows.
func TestCutOfSizes(t *testing.T) {
	for _, n := range numbers() {
		for _, size := range sizes(n) {
			isCut(t, stripe(1, 2, 5), data(size), n)
		}
	}
}

// Each number of a stripe at its least, at its most and between, one more is refused.
func TestCutOfStripes(t *testing.T) {
	for _, n := range numbers() {
		for _, s := range some {
			isCut(t, s, "abcdefghij", n)
			isCut(t, s, "", n)
		}
		for _, s := range noStripes() {
			notCut(t, s, []byte("abcdefghij"), n, api.ErrArg)
			notCut(t, s, nil, n, api.ErrArg)
		}
	}
}

func TestCutOfTooMuch(t *testing.T) {
	for n, most := range map[int]int{3: mostOf3, 4: mostOf4, 9: 3200, 16: mostAll} {
		isCut(t, stripe(1, 2, 5), data(most), n)
		for _, more := range []int{1, 2, 400, 60000, 1 << 20} {
			notCut(t, stripe(1, 2, 5), make([]byte, most+more), n, api.ErrLong)
			notCut(t, stripe(5, 2, 5), make([]byte, most+more), n, api.ErrArg)
		}
	}
	for _, n := range noNumbers {
		for _, size := range []int{0, 1, 400, 800, 6000, 6001, 70000} {
			notCut(t, stripe(1, 2, 5), make([]byte, size), n, api.ErrArg)
		}
	}
}

// span looks at what Span says, and answers it.
func span(t *testing.T, at, count, size, n, first, last int, want api.Errno) {
	t.Helper()
	f, l, why := layout.Span(at, count, size, n)
	if f != first || l != last || why != want {
		t.Errorf("Span(%d, %d, %d, %d): %d, %d, %v, want %d, %d, %v", at, count, size, n, f, l, why, first, last, want)
	}
}

func TestSpan(t *testing.T) {
	for _, l := range [][6]int{
		{3, 4, 10, 4, 0, 1}, {0, 10, 10, 4, 0, 2}, {0, 1, 10, 4, 0, 0}, {3, 1, 10, 4, 0, 0}, {3, 2, 10, 4, 0, 1}, {4, 1, 10, 4, 1, 1}, {4, 4, 10, 4, 1, 1}, {4, 5, 10, 4, 1, 2}, {7, 2, 10, 4, 1, 2}, {8, 2, 10, 4, 2, 2}, {9, 1, 10, 4, 2, 2},
		{0, 1, 1, 3, 0, 0}, {0, 1, 1, 16, 0, 0}, {0, 800, 800, 3, 0, 1}, {399, 1, 800, 3, 0, 0}, {400, 1, 800, 3, 1, 1}, {399, 2, 800, 3, 0, 1}, {799, 1, 800, 3, 1, 1}, {0, 6000, 6000, 16, 0, 14}, {5999, 1, 6000, 16, 14, 14}, {5599, 401, 6000, 16, 13, 14}, {0, 4, 4, 4, 0, 1}, {3, 1, 4, 4, 1, 1},
	} {
		span(t, l[0], l[1], l[2], l[3], l[4], l[5], api.OK)
	}
	for _, l := range [][4]int{
		{0, 0, 10, 4}, {5, 0, 10, 4}, {10, 0, 10, 4}, {0, 0, 0, 4}, {0, 1, 0, 4}, {0, -1, 10, 4}, {5, -1, 10, 4}, {-1, 1, 10, 4}, {-1, 2, 10, 4}, {-1, 11, 10, 4}, {-10, 10, 10, 4},
		{0, 11, 10, 4}, {1, 10, 10, 4}, {8, 3, 10, 4}, {9, 2, 10, 4}, {10, 1, 10, 4}, {11, 1, 10, 4}, {0, 1, -1, 4}, {-2, 1, -1, 4}, {0, 1, math.MinInt, 4},
		{0, 1, 801, 3}, {0, 1, 1201, 4}, {0, 1, 6001, 16}, {0, 1, 801, 2}, {0, 1, 800, 2}, {0, 1, 10, 2}, {0, 1, 10, 17}, {0, 1, 10, 0}, {0, 1, 10, 1}, {0, 1, 10, -4}, {0, 1, 6000, 17}, {0, 1, 65536 + 10, 4},
		{math.MaxInt, 1, 10, 4}, {1, math.MaxInt, 10, 4}, {math.MaxInt, math.MaxInt, 10, 4}, {math.MinInt, math.MinInt, 10, 4}, {math.MinInt, 1, 10, 4}, {1, math.MinInt, 10, 4}, {math.MinInt, math.MaxInt, 10, 4}, {math.MaxInt, math.MinInt, 10, 4}, {0, 1, math.MaxInt, 4}, {0, math.MaxInt, math.MaxInt, 4}, {0, math.MaxInt, math.MinInt, 4}, {math.MaxInt, 2, math.MinInt, 4},
	} {
		span(t, l[0], l[1], l[2], l[3], 0, 0, api.ErrArg)
	}
	for _, n := range noNumbers {
		span(t, 0, 1, 1, n, 0, 0, api.ErrArg)
	}
}

// All spans of small stripes: byte by byte, which fragments have some of them.
func TestAllSpans(t *testing.T) {
	for _, n := range []int{3, 4, 5, 16} {
		for size := range 35 {
			rows := rowsOf(data(size), n)
			where := []int{} // by byte, the fragment that has it
			for i, row := range rows[:n-1] {
				where = append(where, slices.Repeat([]int{i}, len(row))...)
			}
			for at := -2; at <= size+2; at++ {
				for count := -2; count <= size+3; count++ {
					if at < 0 || count < 1 || at+count > size {
						span(t, at, count, size, n, 0, 0, api.ErrArg)
						continue
					}
					span(t, at, count, size, n, where[at], where[at+count-1], api.OK)
				}
			}
		}
	}
}

// Sizes at their most, over each number of servers.
func TestSpansOfSizes(t *testing.T) {
	for _, n := range numbers() {
		most := 400 * (n - 1)
		span(t, 0, most, most, n, 0, n-2, api.OK)
		span(t, most-1, 1, most, n, n-2, n-2, api.OK)
		span(t, most, 1, most, n, 0, 0, api.ErrArg)
		span(t, 0, 1, most+1, n, 0, 0, api.ErrArg)
		span(t, 0, most+1, most+1, n, 0, 0, api.ErrArg)
		span(t, 0, 1, 1, n, 0, 0, api.OK)
	}
}

// What is cut is what was given, with nothing of it kept or changed; no two fragments share memory.
func TestWhatCutIsGiven(t *testing.T) {
	const b = "abcdefghij"
	s, room := stripe(1, 2, 5), []byte(b+"spare")
	got, why := layout.Cut(s, room[:len(b)], 4)
	again, _ := layout.Cut(s, room[:len(b)], 4)
	if why != api.OK || string(room) != b+"spare" {
		t.Fatalf("%v, and what Cut was given is %q", why, room)
	}
	spoil(room)
	for i := range again {
		spoil(again[i])
	}
	clear(again[:cap(again)])
	want := fragsOf(s, b, 4)
	if !slices.Equal(textsOf(got), want) {
		t.Errorf("behind writes into what was given and into another answer: %q, want %q", got, want)
	}
	for i := range got {
		spoil(got[i])
		want[i] = strings.Repeat("!", len(want[i]))
		if !slices.Equal(textsOf(got), want) {
			t.Errorf("behind a write into fragment %d: %q, want %q", i, got, want)
		}
	}
}

// spoil writes into all of a row of bytes, its spare room too.
func spoil(b []byte) {
	b = b[:cap(b)]
	for i := range b {
		b[i] = '!'
	}
}
