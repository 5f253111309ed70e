// Tests of chapter 7, by what package bag exports alone.
package bag_test

import (
	"bytes"
	"fmt"
	"math"
	"math/big"
	"math/rand"
	"slices"
	"strings"
	"testing"

	"pinstripe/api"
	"pinstripe/bag"
)

// numbers are some that a node or a place may be: about nought, about the powers of two, and the ends.
var numbers = []int{
	0, 1, -1, 2, -2, 3, -3, 7, -7, 62, 63, 64, 65, -63, -64, -65, 127, 128, 129, -128, 1000, -1000,
	1<<31 - 1, 1 << 31, 1<<31 + 1, -1 << 31, -1<<31 - 1, 1 << 32, 1<<62 + 3,
	math.MaxInt, math.MaxInt - 1, math.MaxInt - 2, math.MinInt, math.MinInt + 1, math.MinInt + 2,
}

// text tells messages, each From>To:bytes, so that nil and an empty list are one.
func text(l []bag.Message) string {
	s := []string{}
	for _, m := range l {
		s = append(s, fmt.Sprintf("%d>%d:%q", m.From, m.To, m.B))
	}
	return strings.Join(s, " ")
}

// message answers one of its own bytes.
func message(from, to int, s string) bag.Message {
	return bag.Message{From: from, To: to, B: []byte(s)}
}

// row answers n messages that are all unlike: the i-th goes to i.
func row(n int) []bag.Message {
	l := []bag.Message{}
	for i := range n {
		l = append(l, message(100+i, i, fmt.Sprintf("the %dth", i)))
	}
	return l
}

// fresh answers an empty bag.
func fresh(t *testing.T, most int) *bag.Bag {
	t.Helper()
	b, e := bag.New(most)
	if e != api.OK || b == nil {
		t.Fatalf("New(%d): %v, %v, want a bag", most, b, e)
	}
	return b
}

// filled answers a bag of which each message was put.
func filled(t *testing.T, most int, l []bag.Message) *bag.Bag {
	t.Helper()
	b := fresh(t, most)
	for _, m := range l {
		puts(t, b, m, true)
	}
	return b
}

// puts puts a message and looks at what Put says.
func puts(t *testing.T, b *bag.Bag, m bag.Message, want bool) {
	t.Helper()
	if got := b.Put(m); got != want {
		t.Fatalf("Put(%s): %v, want %v", text([]bag.Message{m}), got, want)
	}
}

// takes takes a message out and looks at which it is.
func takes(t *testing.T, b *bag.Bag, n int, want bag.Message) {
	t.Helper()
	m, ok := b.Take(n)
	if !ok || text([]bag.Message{m}) != text([]bag.Message{want}) {
		t.Fatalf("Take(%d): %s, %v, want %s", n, text([]bag.Message{m}), ok, text([]bag.Message{want}))
	}
}

// drops drops messages and looks at how many they are.
func drops(t *testing.T, b *bag.Bag, to, want int) {
	t.Helper()
	if n := b.Drop(to); n != want {
		t.Fatalf("Drop(%d): %d, want %d", to, n, want)
	}
}

// has looks at all that is in a bag.
func has(t *testing.T, what string, b *bag.Bag, want []bag.Message) {
	t.Helper()
	if got := text(b.All()); got != text(want) {
		t.Fatalf("%s: All: %s, want %s", what, got, text(want))
	}
	if b.Len() != len(want) {
		t.Fatalf("%s: Len: %d, want %d", what, b.Len(), len(want))
	}
}

// empty looks at a bag in which there is nothing.
func empty(t *testing.T, what string, b *bag.Bag) {
	t.Helper()
	has(t, what, b, nil)
	for _, n := range numbers {
		if m, ok := b.Take(n); ok || m.From != 0 || m.To != 0 || len(m.B) != 0 {
			t.Fatalf("%s: Take(%d): %v, %v, want nothing", what, n, m, ok)
		}
		drops(t, b, n, 0)
	}
	has(t, what, b, nil)
}

// place answers n modulo k, from 0 to k - 1, as big numbers tell it.
func place(n, k int) int {
	return int(new(big.Int).Mod(big.NewInt(int64(n)), big.NewInt(int64(k))).Int64())
}

// without answers l but its i-th.
func without(l []bag.Message, i int) []bag.Message {
	left := []bag.Message{}
	for j, m := range l {
		if j != i {
			left = append(left, m)
		}
	}
	return left
}

// thatGo answers those of l that go to a node, and the others.
func thatGo(l []bag.Message, to int) (gone, left []bag.Message) {
	for _, m := range l {
		if m.To == to {
			gone = append(gone, m)
		} else {
			left = append(left, m)
		}
	}
	return gone, left
}

// spoil writes into all of a list of bytes, its spare room too, and behind it.
func spoil(b []byte) {
	whole := b[:cap(b)]
	for i := range whole {
		whole[i] ^= 0xff
	}
	_ = append(b, 0xee, 0xee, 0xee)
}

// spoilAll writes into all of a list of messages, their bytes and spare room too.
func spoilAll(l []bag.Message) {
	whole := l[:cap(l)]
	for i := range whole {
		spoil(whole[i].B)
		whole[i] = bag.Message{From: -9, To: -9, B: []byte("spoilt")}
	}
	_ = append(l, bag.Message{From: -8, To: -8})
}

func TestExample(t *testing.T) {
	a, b, c := message(1, 2, "a"), message(3, 4, "b"), message(5, 6, "c")
	g := fresh(t, 2)
	puts(t, g, a, true)
	puts(t, g, b, true)
	puts(t, g, c, false)
	takes(t, g, -1, b)
	has(t, "then", g, []bag.Message{a})
}

func TestNew(t *testing.T) {
	for most := 1; most <= api.MaxBag; most++ {
		empty(t, fmt.Sprintf("New(%d)", most), fresh(t, most))
	}
	for _, most := range []int{0, -1, -2, -64, math.MinInt, math.MinInt + 1, -1 << 32, api.MaxBag + 1, api.MaxBag + 2, 128, 256, 257, 1 << 32, 1<<32 + 1, math.MaxInt} {
		if b, e := bag.New(most); e != api.ErrArg || b != nil {
			t.Errorf("New(%d): %v, %v, want none and ErrArg", most, b, e)
		}
	}
}

func TestPut(t *testing.T) {
	for most := 1; most <= api.MaxBag; most++ {
		b, l := fresh(t, most), row(most)
		for i, m := range l {
			has(t, fmt.Sprintf("a bag for %d ahead of Put %d", most, i), b, l[:i])
			puts(t, b, m, true)
		}
		what := fmt.Sprintf("a full bag for %d", most)
		has(t, what, b, l)
		for i := range 3 {
			puts(t, b, message(i, i, "lost"), false)
			puts(t, b, bag.Message{}, false)
			puts(t, b, l[0], false)
			has(t, what, b, l)
		}
	}
}

// TestPutAgain: a full bag has room for as many as were taken or dropped, and they stand last.
func TestPutAgain(t *testing.T) {
	for _, most := range []int{1, 2, 3, 5, 63, 64} {
		l := row(most)
		b := filled(t, most, l)
		for i := range 2*most + 1 {
			puts(t, b, message(7, 7, "lost"), false)
			takes(t, b, i, l[i%most])
			l = append(without(l, i%most), message(i, 1000, fmt.Sprintf("again %d", i)))
			puts(t, b, l[most-1], true)
			has(t, "behind a Take and a Put", b, l)
		}
		gone, left := thatGo(l, 1000)
		drops(t, b, 1000, len(gone))
		has(t, "behind a Drop", b, left)
		for _, m := range gone {
			puts(t, b, m, true)
		}
		puts(t, b, message(7, 7, "lost"), false)
		has(t, "behind a Drop and Puts", b, append(left, gone...))
	}
}

func TestTake(t *testing.T) {
	for _, k := range []int{1, 2, 3, 4, 5, 7, 8, 62, 63, 64} {
		for _, most := range []int{k, api.MaxBag} {
			places := slices.Clone(numbers)
			for n := -3*k - 1; n <= 3*k+1; n++ {
				places = append(places, n)
			}
			for _, n := range places {
				l := row(k)
				b, i := filled(t, most, l), place(n, k)
				takes(t, b, n, l[i])
				has(t, fmt.Sprintf("%d messages behind Take(%d)", k, n), b, without(l, i))
				last := message(1, 2, "last")
				puts(t, b, last, true)
				has(t, fmt.Sprintf("%d messages behind Take(%d) and a Put", k, n), b, append(without(l, i), last))
			}
		}
	}
}

// TestTakeAll: from whichever place they are taken, each comes once, till there is none.
func TestTakeAll(t *testing.T) {
	for _, n := range append([]int{5, 13, -13}, numbers...) {
		l := row(api.MaxBag)
		b := filled(t, api.MaxBag, l)
		for len(l) > 0 {
			i := place(n, len(l))
			takes(t, b, n, l[i])
			l = without(l, i)
			has(t, fmt.Sprintf("behind a Take(%d)", n), b, l)
		}
		empty(t, fmt.Sprintf("behind each Take(%d)", n), b)
	}
}

// TestTakeCountsWhatIsThere: the modulo is of how many there are, not of how many there may be.
func TestTakeCountsWhatIsThere(t *testing.T) {
	for k := 1; k < api.MaxBag; k++ {
		l := row(k)
		b := filled(t, api.MaxBag, l)
		takes(t, b, k, l[0])
		puts(t, b, l[0], true)
		l = append(l[1:], l[0])
		takes(t, b, -1, l[k-1])
		puts(t, b, l[k-1], true)
		takes(t, b, -k, l[0])
		has(t, "behind three Takes", b, l[1:])
	}
}

func TestDrop(t *testing.T) {
	const to = 5
	for _, k := range []int{1, 2, 3, 4, 5, 8, 63, 64} {
		for _, c := range []struct {
			name string
			goes func(i int) bool
		}{
			{"none", func(i int) bool { return false }},
			{"all", func(i int) bool { return true }},
			{"the first", func(i int) bool { return i == 0 }},
			{"the last", func(i int) bool { return i == k-1 }},
			{"the first and the last", func(i int) bool { return i == 0 || i == k-1 }},
			{"all but the first", func(i int) bool { return i != 0 }},
			{"all but the last", func(i int) bool { return i != k-1 }},
			{"every second from the first", func(i int) bool { return i%2 == 0 }},
			{"every second from the second", func(i int) bool { return i%2 == 1 }},
			{"two of three", func(i int) bool { return i%3 > 0 }},
			{"the first half", func(i int) bool { return i < k/2 }},
			{"the second half", func(i int) bool { return i >= k/2 }},
		} {
			what := fmt.Sprintf("%d messages, %s", k, c.name)
			l := row(k)
			for i := range l {
				l[i].From, l[i].To = to, to+1+i%3 // whence it comes does not count
				if c.goes(i) {
					l[i].From, l[i].To = i, to
				}
			}
			gone, left := thatGo(l, to)
			b := filled(t, k, l)
			drops(t, b, to, len(gone))
			has(t, what, b, left)
			drops(t, b, to, 0)
			has(t, what+", again", b, left)
			for i := range gone {
				last := message(1, to, fmt.Sprintf("last %d", i))
				puts(t, b, last, true)
				left = append(left, last)
				has(t, what+", and Puts", b, left)
			}
			puts(t, b, message(1, to, "lost"), false)
			drops(t, b, to, len(gone))
			has(t, what+", and Puts, and a Drop", b, left[:k-len(gone)])
		}
	}
}

// TestDropOfAnyNode: a node is any number, and no two are one.
func TestDropOfAnyNode(t *testing.T) {
	l := []bag.Message{}
	for i, to := range numbers {
		l = append(l, message(numbers[len(numbers)-1-i], to, "x"))
	}
	b := filled(t, api.MaxBag, l)
	for _, to := range numbers {
		drops(t, b, to, 1)
		_, l = thatGo(l, to)
		has(t, fmt.Sprintf("behind Drop(%d)", to), b, l)
		drops(t, b, to, 0)
	}
	empty(t, "behind a Drop of each", b)
}

// TestAnyMessage: whatever a message is, it comes out as it was put; two that are alike are two.
func TestAnyMessage(t *testing.T) {
	every := make([]byte, 256)
	for i := range every {
		every[i] = byte(i)
	}
	rows := [][]byte{nil, {}, {0}, {255}, every, every[:0], make([]byte, 1000), bytes.Repeat(every, api.MaxBody/256), bytes.Repeat([]byte{1}, api.MaxBody+1)}
	l := []bag.Message{{}, {}}
	for i, r := range rows {
		l = append(l, bag.Message{From: numbers[i], To: numbers[len(numbers)-1-i], B: r}, bag.Message{From: i, To: i, B: r}, bag.Message{From: i, To: i, B: r})
	}
	b := filled(t, api.MaxBag, l)
	has(t, "any messages", b, l)
	drops(t, b, 3, 2)
	_, l = thatGo(l, 3)
	has(t, "any messages but two", b, l)
	for len(l) > 0 {
		takes(t, b, -2, l[place(-2, len(l))])
		l = without(l, place(-2, len(l)))
	}
	empty(t, "any messages taken", b)
}

func TestNone(t *testing.T) {
	var none *bag.Bag
	for name, b := range map[string]*bag.Bag{"nil": none, "no call's": {}, "a new one": new(bag.Bag)} {
		for range 2 {
			empty(t, name, b)
			puts(t, b, bag.Message{}, false)
			puts(t, b, message(1, 2, "ab"), false)
			drops(t, b, 2, 0)
			empty(t, name, b)
		}
	}
}

func TestWhatIsHandedIn(t *testing.T) {
	for _, n := range []int{0, 1, 2, 100} {
		whole := bytes.Repeat([]byte("abc"), n+5)
		was := slices.Clone(whole)
		m := bag.Message{From: 1, To: 2, B: whole[:n]}
		want := []bag.Message{message(1, 2, string(was[:n])), message(1, 2, string(was[:n]))}
		b := filled(t, 2, []bag.Message{m, m})
		puts(t, b, m, false)
		if !bytes.Equal(whole, was) {
			t.Fatalf("Put of %d bytes wrote into them, or their spare room", n)
		}
		spoil(whole)
		has(t, "behind a write into what Put was given", b, want)
		whole = slices.Clone(was)
		spoilAll(b.All())
		takes(t, b, 0, want[0])
		takes(t, b, 0, want[1])
		if !bytes.Equal(whole, was) {
			t.Fatalf("what Put was given, %d bytes, was kept", n)
		}
	}
}

func TestWhatAllAnswers(t *testing.T) {
	for _, k := range []int{0, 1, 2, 3, 64} {
		l := row(k)
		if k > 2 {
			l[1].B = nil
		}
		b := filled(t, api.MaxBag, l)
		first, second := b.All(), b.All()
		for i := range first { // of one answer, one list behind the other
			spoil(first[i].B)
			first[i].B = slices.Clone(l[i].B)
			if text(first) != text(l) {
				t.Fatalf("a write into message %d of %d, or behind it: %s", i, k, text(first))
			}
		}
		has(t, "behind a write into what All answered", b, l)
		spoilAll(b.All())
		spoilAll(first)
		has(t, "behind a write into all that All answered", b, l)
		if text(second) != text(l) {
			t.Fatalf("a write into one answer of All shows in another: %s", text(second))
		}
		for i := range l {
			takes(t, b, 0, l[i])
		}
	}
}

func TestWhatTakeAnswers(t *testing.T) {
	for n := range 4 {
		l := row(4)
		b := filled(t, 4, l)
		all := b.All()
		m, _ := b.Take(n)
		spoil(m.B)
		has(t, "behind a write into what Take answered", b, without(l, n))
		if text(all) != text(l) {
			t.Fatalf("a write into what Take(%d) answered shows in what All did: %s", n, text(all))
		}
		puts(t, b, l[n], true)
		has(t, "what was taken is put again", b, append(without(l, n), l[n]))
	}
}

// TestAnswersStay: no later call changes what All or Take answered.
func TestAnswersStay(t *testing.T) {
	later := map[string]func(b *bag.Bag){
		"a Put":           func(b *bag.Bag) { b.Put(message(7, 7, "new")) },
		"a Take of 0":     func(b *bag.Bag) { b.Take(0) },
		"a Take of 1":     func(b *bag.Bag) { b.Take(1) },
		"a Take of -1":    func(b *bag.Bag) { b.Take(-1) },
		"a Drop of one":   func(b *bag.Bag) { b.Drop(1) },
		"a Drop of none":  func(b *bag.Bag) { b.Drop(-1) },
		"a Take, a Put":   func(b *bag.Bag) { b.Take(0); b.Put(message(7, 7, "new")) },
		"a Drop and Puts": func(b *bag.Bag) { b.Drop(2); b.Put(message(7, 7, "new")); b.Put(message(8, 8, "newer")) },
		"All":             func(b *bag.Bag) { b.All() },
	}
	for name, f := range later {
		l := row(6)
		b := filled(t, 7, l)
		m, _ := b.Take(3)
		all := b.All()
		for range 4 {
			f(b)
			if text(all) != text(without(l, 3)) || text([]bag.Message{m}) != text(l[3:4]) {
				t.Errorf("%s: All's answer is %s, Take's %s", name, text(all), text([]bag.Message{m}))
			}
		}
	}
}

// TestManyBags: what is done to one bag is not to be seen in another, nor in a copy of it.
func TestManyBags(t *testing.T) {
	x, y := message(1, 0, "x"), message(2, 1, "y")
	for k := 1; k <= 8; k++ {
		l := row(k)
		for name, f := range map[string]func(b *bag.Bag, m bag.Message){
			"a Put":          func(b *bag.Bag, m bag.Message) { b.Put(m) },
			"a Take of 0":    func(b *bag.Bag, m bag.Message) { b.Take(0) },
			"a Take of -1":   func(b *bag.Bag, m bag.Message) { b.Take(-1) },
			"a Drop":         func(b *bag.Bag, m bag.Message) { b.Drop(m.To) },
			"a Take, a Put":  func(b *bag.Bag, m bag.Message) { b.Take(0); b.Put(m) },
			"a Drop, a Put":  func(b *bag.Bag, m bag.Message) { b.Drop(m.To); b.Put(m) },
			"a Drop of none": func(b *bag.Bag, m bag.Message) { b.Drop(-1) },
		} {
			one, other, alone := filled(t, k+1, l), filled(t, k+1, l), filled(t, k+1, l)
			twin := *one
			f(one, x)
			has(t, "another, behind "+name, other, l)
			has(t, "a copy, behind "+name, &twin, l)
			f(alone, x)
			want := alone.All()
			f(&twin, y)
			has(t, "one whose copy had "+name, one, want)
			has(t, "another, behind "+name, other, l)
		}
	}
}

// told is the chapter told anew.
type told struct {
	most int
	l    []bag.Message
}

// do does the same to a bag as to what is told of it, and looks at what is answered.
func (x *told) do(t *testing.T, b *bag.Bag, what string, n int, m bag.Message) {
	t.Helper()
	switch what {
	case "put":
		puts(t, b, m, len(x.l) < x.most)
		if len(x.l) < x.most {
			x.l = append(slices.Clone(x.l), m)
		}
	case "take":
		if len(x.l) == 0 {
			if m, ok := b.Take(n); ok || m.From != 0 || m.To != 0 || len(m.B) != 0 {
				t.Fatalf("Take(%d) of nothing: %v, %v", n, m, ok)
			}
			break
		}
		i := place(n, len(x.l))
		takes(t, b, n, x.l[i])
		x.l = without(x.l, i)
	case "drop":
		gone, left := thatGo(x.l, n)
		drops(t, b, n, len(gone))
		x.l = left
	}
	has(t, what, b, x.l)
}

// TestAllShortRows: all rows of five calls.
func TestAllShortRows(t *testing.T) {
	calls := []struct {
		what string
		n    int
	}{{"put", 1}, {"put", 2}, {"take", 0}, {"take", 1}, {"take", -1}, {"drop", 1}, {"drop", 2}}
	rows := 1
	for range 5 {
		rows *= len(calls)
	}
	for most := 1; most <= 3; most++ {
		for r := range rows {
			b, x := fresh(t, most), &told{most: most}
			for i := range 5 {
				c := calls[r%len(calls)]
				r /= len(calls)
				x.do(t, b, c.what, c.n, message(i, c.n, string(rune('a'+i))))
			}
		}
	}
}

// TestAnyLives: long rows of any calls, and what follows of P7.1: what is there is what was put and not lost, dropped or taken.
func TestAnyLives(t *testing.T) {
	for seed := range int64(200) {
		r := rand.New(rand.NewSource(seed))
		x := &told{most: 1 + r.Intn(api.MaxBag)}
		b := fresh(t, x.most)
		nodes := 1 + r.Intn(20)
		for i := range 300 {
			what := "put"
			switch k := r.Intn(100); {
			case k < 40 && seed%2 == 0, k < 20:
				what = "take"
			case k < 45:
				what = "drop"
			}
			n := r.Intn(nodes)
			if what == "take" {
				n = int(r.Uint64())
			}
			x.do(t, b, what, n, message(i, r.Intn(nodes), fmt.Sprintf("%d of %d", i, r.Intn(1000))))
		}
	}
}
