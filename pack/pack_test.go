// Tests of chapter 14, by what package pack exports alone: what is laid where, and what is refused. What the deltas and the stripes say together: read_test.go.
package pack_test

import (
	"fmt"
	"math"
	"slices"
	"strings"
	"testing"

	"pinstripe/api"
	"pinstripe/delta"
	"pinstripe/pack"
)

const (
	noughts   = "\x00\x00\x00\x00"
	mostBytes = 4096 // of a file
)

// zero is the pointer of a block of noughts.
var zero api.Ptr

// seven is a stripe as any other.
var seven = stripe(1, 0, 7)

// stripe answers a stripe of three numbers.
func stripe(client, life, number int) api.Stripe {
	return api.Stripe{Client: client, Life: life, Number: number}
}

// behind answers the stripe that is so many behind s.
func behind(s api.Stripe, count int) api.Stripe {
	return stripe(s.Client, s.Life, s.Number+count)
}

// data answers size bytes, none of them a nought, neighbours unlike; of another seed other ones.
func data(size, seed int) string {
	b := make([]byte, size)
	for i := range b {
		b[i] = byte(1 + (i*7+i*i/13+seed*31)%255)
	}
	return string(b)
}

// dirty answers a block that was changed.
func dirty(block int, b string) pack.Dirty {
	return pack.Dirty{Block: block, B: []byte(b)}
}

// rows answers changed blocks, from block 0 on, of so many bytes each.
func rows(longs ...int) []pack.Dirty {
	var l []pack.Dirty
	for block, long := range longs {
		l = append(l, dirty(block, data(long, block)))
	}
	return l
}

// full answers a stripe that is to be written.
func full(s api.Stripe, b string) pack.Full {
	return pack.Full{Stripe: s, Data: []byte(b)}
}

// at answers a pointer.
func at(s api.Stripe, at, long int) api.Ptr {
	return api.Ptr{Stripe: s, At: at, Len: long}
}

func put(ino, block, size int, to api.Ptr) api.Delta {
	return api.Delta{Do: api.Put, Ino: ino, Block: block, Size: size, To: to}
}

func cut(ino, size int) api.Delta {
	return api.Delta{Do: api.Cut, Ino: ino, Size: size}
}

// asked is what Pack is given.
type asked struct {
	ino, size int
	first     api.Stripe
	n         int
	l         []pack.Dirty
}

// pack answers what Pack says of it.
func (a asked) pack() ([]pack.Full, []api.Delta, api.Errno) {
	return pack.Pack(a.ino, a.size, a.first, a.n, a.l)
}

// model is Pack, told anew.
func (a asked) model() ([]pack.Full, []api.Delta, api.Errno) {
	for _, x := range [][3]int{{a.n, 3, 16}, {a.first.Client, 0, 4}, {a.first.Life, 0, 1048576}, {a.first.Number, 0, 1073741824}, {a.ino, 2, 128}, {a.size, 0, 4096}} {
		if x[0] < x[1] || x[0] > x[2] {
			return nil, nil, api.ErrArg
		}
	}
	var stripes []string
	var deltas []api.Delta
	ahead := -1
	for _, d := range a.l {
		if d.Block <= ahead || d.Block > 63 || d.Block*64 >= a.size || len(d.B) > 64 {
			return nil, nil, api.ErrArg
		}
		ahead = d.Block
		b, to := strings.TrimRight(string(d.B), "\x00"), zero
		if b != "" {
			if len(stripes) == 0 || len(stripes[len(stripes)-1]+b) > 400*(a.n-1) {
				stripes = append(stripes, "")
			}
			k := len(stripes) - 1
			to = at(behind(a.first, k), len(stripes[k]), len(b))
			stripes[k] += b
		}
		deltas = append(deltas, put(a.ino, d.Block, a.size, to))
	}
	var l []pack.Full
	for k, b := range stripes {
		if l = append(l, full(behind(a.first, k), b)); a.first.Number+k > 1073741824 {
			return nil, nil, api.ErrFull
		}
	}
	return l, append(deltas, cut(a.ino, a.size)), api.OK
}

// tell tells an answer, none and an empty list as one.
func tell(l []pack.Full, deltas []api.Delta, why api.Errno) string {
	return fmt.Sprintf("%v %v %v", l, deltas, why)
}

// isPacked looks at what Pack says, and holds it against the chapter told anew.
func isPacked(t *testing.T, what string, a asked, want []pack.Full, deltas ...api.Delta) {
	t.Helper()
	if got, w := tell(a.pack()), tell(want, deltas, api.OK); got != w {
		t.Errorf("%s: %s, want %s", what, got, w)
	}
	isTold(t, what, a)
}

// isTold holds what Pack says against what it is to say, and answers its error. What is answered may be, and can be written.
func isTold(t *testing.T, what string, a asked) api.Errno {
	t.Helper()
	l, deltas, why := a.pack()
	if got, w := tell(l, deltas, why), tell(a.model()); got != w {
		t.Fatalf("%s: Pack of %v: %s, want %s", what, a, got, w)
	}
	if b, e := delta.Encode(deltas); e != api.OK || len(b) < 2 {
		t.Fatalf("%s: Pack of %v: deltas are not written: %v", what, a, e)
	}
	for _, f := range l {
		if len(f.Data) == 0 || len(f.Data) > 400*(a.n-1) {
			t.Fatalf("%s: Pack of %v: %v has %d bytes", what, a, f.Stripe, len(f.Data))
		}
	}
	return why
}

// notPacked looks at what Pack says of what it refuses.
func notPacked(t *testing.T, what string, a asked, want api.Errno) {
	t.Helper()
	if l, deltas, why := a.pack(); len(l) != 0 || len(deltas) != 0 || why != want {
		t.Errorf("%s: %s, want nothing, %v", what, tell(l, deltas, why), want)
	}
	isTold(t, what, a)
}

// sizesOf answers how many bytes each stripe has.
func sizesOf(l []pack.Full) []int {
	var sizes []int
	for _, f := range l {
		sizes = append(sizes, len(f.Data))
	}
	return sizes
}

// The chapter's example.
func TestExample(t *testing.T) {
	isPacked(t, "a b 0", asked{2, 3, seven, 3, []pack.Dirty{dirty(0, "ab\x00")}},
		[]pack.Full{full(seven, "ab")}, put(2, 0, 3, at(seven, 0, 2)), cut(2, 3))
}

// P14.1 of Trim: noughts at the end go, others stay.
func TestTrim(t *testing.T) {
	for b, want := range map[string]string{
		"": "", "\x00": "", noughts: "", "a": "a", "ab": "ab", "ab\x00": "ab", "ab" + noughts: "ab", "\x00ab": "\x00ab", noughts + "a": noughts + "a", "a\x00b": "a\x00b", "\x00a\x00\x00b\x00\x00": "\x00a\x00\x00b",
		"\xff": "\xff", "\xff\x00": "\xff", "\xc3\x00": "\xc3", "\x80\x00\x80\x00": "\x80\x00\x80", "0": "0", "a0": "a0", "a ": "a ", "a\n\x00": "a\n", "a\x01\x00": "a\x01",
		strings.Repeat("\x00", 1<<16): "", "a" + strings.Repeat("\x00", 1<<16): "a", strings.Repeat("\x00", 1<<16) + "a": strings.Repeat("\x00", 1<<16) + "a",
	} {
		if got := pack.Trim([]byte(b)); string(got) != want {
			t.Errorf("Trim(%.40q): %.40q, want %.40q", b, got, want)
		}
	}
	if got := pack.Trim(nil); len(got) != 0 {
		t.Errorf("Trim(nil): %q", got)
	}
	for c := range 256 { // of all bytes 0 alone is cut off
		b := string([]byte{'a', byte(c)})
		want := b
		if c == 0 {
			want = "a"
		}
		if got := pack.Trim([]byte(b)); string(got) != want {
			t.Errorf("Trim(%q): %q", b, got)
		}
	}
}

// Trim's answer is new memory, what it is given stays.
func TestWhatTrimIsGiven(t *testing.T) {
	for _, b := range []string{"ab\x00\x00", "ab", "\x00\x00", ""} {
		room := []byte(b + "spare")
		got, other := pack.Trim(room[:len(b)]), pack.Trim(room[:len(b)])
		spoil(other)
		if string(room) != b+"spare" {
			t.Errorf("Trim(%q): what it was given is %q", b, room)
		}
		spoil(room)
		if string(got) != strings.TrimRight(b, "\x00") {
			t.Errorf("Trim(%q), behind writes into what was given and into another answer: %q", b, got)
		}
	}
}

// P14.1: blocks in order, each trimmed, one behind the other; all of them in one stripe.
func TestBlocksInOrder(t *testing.T) {
	s := stripe(4, 3, 9)
	isPacked(t, "none", asked{2, 0, s, 3, nil}, nil, cut(2, 0))
	isPacked(t, "none of a file with bytes", asked{128, 4096, s, 16, []pack.Dirty{}}, nil, cut(128, 4096))
	isPacked(t, "one", asked{5, 200, s, 4, []pack.Dirty{dirty(3, "abc")}}, []pack.Full{full(s, "abc")}, put(5, 3, 200, at(s, 0, 3)), cut(5, 200))
	isPacked(t, "four", asked{7, 4096, s, 4, []pack.Dirty{dirty(0, "\x00ab\x00"), dirty(1, "c\x00\x00d\x00"), dirty(40, "e"), dirty(63, "fg"+noughts)}},
		[]pack.Full{full(s, "\x00abc\x00\x00defg")},
		put(7, 0, 4096, at(s, 0, 3)), put(7, 1, 4096, at(s, 3, 4)), put(7, 40, 4096, at(s, 7, 1)), put(7, 63, 4096, at(s, 8, 2)), cut(7, 4096))
}

// Blocks of noughts alone, and of no bytes, have the zero pointer, and no stripe has anything of them.
func TestBlocksOfNoughts(t *testing.T) {
	none := strings.Repeat("\x00", 64)
	for what, b := range map[string]string{"no bytes": "", "a nought": "\x00", "noughts": noughts, "a block of noughts": none} {
		isPacked(t, what, asked{2, 1, seven, 3, []pack.Dirty{dirty(0, b)}}, nil, put(2, 0, 1, zero), cut(2, 1))
		isPacked(t, what+" ahead", asked{2, 128, seven, 3, []pack.Dirty{dirty(0, b), dirty(1, "a")}},
			[]pack.Full{full(seven, "a")}, put(2, 0, 128, zero), put(2, 1, 128, at(seven, 0, 1)), cut(2, 128))
		isPacked(t, what+" between", asked{2, 192, seven, 3, []pack.Dirty{dirty(0, "a"), dirty(1, b), dirty(2, "b")}},
			[]pack.Full{full(seven, "ab")}, put(2, 0, 192, at(seven, 0, 1)), put(2, 1, 192, zero), put(2, 2, 192, at(seven, 1, 1)), cut(2, 192))
		isPacked(t, what+" at the end", asked{2, 128, seven, 3, []pack.Dirty{dirty(0, "a"), dirty(1, b)}},
			[]pack.Full{full(seven, "a")}, put(2, 0, 128, at(seven, 0, 1)), put(2, 1, 128, zero), cut(2, 128))
		last := stripe(4, 1<<20, 1<<30)
		isPacked(t, what+" at the last Number", asked{2, 128, last, 3, []pack.Dirty{dirty(0, b), dirty(1, b)}}, nil, put(2, 0, 128, zero), put(2, 1, 128, zero), cut(2, 128))
	}
	isPacked(t, "nil", asked{2, 1, seven, 3, []pack.Dirty{{}}}, nil, put(2, 0, 1, zero), cut(2, 1))
	var l []pack.Dirty
	var want []api.Delta
	for block := range 64 {
		l, want = append(l, dirty(block, none)), append(want, put(2, block, 4096, zero))
	}
	isPacked(t, "a file of noughts", asked{2, 4096, seven, 3, l}, nil, append(want, cut(2, 4096))...)
}

// A block at its most and one byte beyond, whatever bytes they are; noughts are no way to have more.
func TestBytesOfABlock(t *testing.T) {
	for _, b := range []string{data(64, 1), data(63, 1), strings.Repeat("\x00", 63) + "x", strings.Repeat("\x00", 64), "x" + strings.Repeat("\x00", 63)} {
		l, want := []pack.Full(nil), zero
		if trimmed := strings.TrimRight(b, "\x00"); trimmed != "" {
			l, want = []pack.Full{full(seven, trimmed)}, at(seven, 0, len(trimmed))
		}
		isPacked(t, "64 bytes at most", asked{2, 64, seven, 3, []pack.Dirty{dirty(0, b)}}, l, put(2, 0, 64, want), cut(2, 64))
		for _, more := range []string{"\x00\x00", "xx", strings.Repeat("\x00", 1<<16)} {
			notPacked(t, "65 bytes and more", asked{2, 64, seven, 3, []pack.Dirty{dirty(0, b+more)}}, api.ErrArg)
			notPacked(t, "65 bytes and more, second", asked{2, 128, seven, 3, []pack.Dirty{dirty(0, "a"), dirty(1, b+more)}}, api.ErrArg)
			notPacked(t, "65 bytes and more, first", asked{2, 128, seven, 3, []pack.Dirty{dirty(0, b+more), dirty(1, "a")}}, api.ErrArg)
		}
	}
	isPacked(t, "more bytes than the file has there", asked{2, 3, seven, 3, []pack.Dirty{dirty(0, "abcdef")}}, []pack.Full{full(seven, "abcdef")}, put(2, 0, 3, at(seven, 0, 6)), cut(2, 3))
}

// Blocks that do not rise.
func TestBlocksThatDoNotRise(t *testing.T) {
	for _, l := range [][]int{{0, 0}, {1, 1}, {1, 0}, {63, 63}, {63, 0}, {0, 1, 1}, {0, 1, 0}, {0, 2, 1}, {5, 6, 7, 6, 8}, {5, 6, 7, 7, 8}, {2, 1, 0}, {3, 0, 1, 2}, {-1}, {-1, 0}, {0, -1}, {-2, -1, 0}, {math.MinInt}, {math.MinInt, 0}, {0, math.MinInt}, {-1 << 58}, {-63}, {-64}} {
		for _, b := range []string{"a", "", "\x00"} {
			var blocks []pack.Dirty
			for _, block := range l {
				blocks = append(blocks, dirty(block, b))
			}
			notPacked(t, fmt.Sprint(l), asked{2, 4096, seven, 3, blocks}, api.ErrArg)
		}
	}
}

// Each block with the size one below its first byte's, and with its first byte; blocks far beyond, where their bytes' places wrap round.
func TestBlocksAtTheSize(t *testing.T) {
	for block := range 64 {
		begin := block * 64
		for _, size := range []int{begin + 1, begin + 2, begin + 63, begin + 64} {
			isPacked(t, "just below the size", asked{2, size, seven, 3, []pack.Dirty{dirty(block, "a")}}, []pack.Full{full(seven, "a")}, put(2, block, size, at(seven, 0, 1)), cut(2, size))
		}
		for _, size := range []int{begin, begin - 1, 1, 0} {
			if size >= 0 && size <= begin {
				notPacked(t, "at the size and beyond", asked{2, size, seven, 3, []pack.Dirty{dirty(block, "a")}}, api.ErrArg)
				notPacked(t, "at the size and beyond, of noughts", asked{2, size, seven, 3, []pack.Dirty{dirty(block, "")}}, api.ErrArg)
			}
		}
	}
	for _, block := range []int{64, 65, 255, 256, 1 << 32, 1 << 58, 1<<58 + 1, 1 << 57, 1 << 62, math.MaxInt, math.MaxInt - 1} {
		for _, size := range []int{0, 1, 64, 4095, 4096} {
			notPacked(t, "beyond all files", asked{2, size, seven, 3, []pack.Dirty{dirty(block, "a")}}, api.ErrArg)
			notPacked(t, "beyond all files, second", asked{2, size, seven, 3, []pack.Dirty{dirty(0, "a"), dirty(block, "a")}}, api.ErrArg)
		}
	}
	many := slices.Repeat([]pack.Dirty{dirty(0, "a")}, 1<<17)
	notPacked(t, "more blocks than there are", asked{2, 4096, seven, 3, many}, api.ErrArg)
	for i := range many {
		many[i].Block = i
	}
	notPacked(t, "more blocks than there are, rising", asked{2, 4096, seven, 3, many}, api.ErrArg)
	notPacked(t, "65 blocks", asked{2, 4096, seven, 3, many[:65]}, api.ErrArg)
	if why := isTold(t, "64 blocks", asked{2, 4096, seven, 3, many[:64]}); why != api.OK {
		t.Errorf("64 blocks: %v", why)
	}
}

// The Cut at the end, with every size there is; the Put of the last block says it too.
func TestSizes(t *testing.T) {
	for size := range mostBytes + 1 {
		isPacked(t, "of no block", asked{2, size, seven, 3, nil}, nil, cut(2, size))
		if size > 0 {
			block := (size - 1) / 64
			isPacked(t, "of the last block", asked{3, size, seven, 3, []pack.Dirty{dirty(block, "a")}}, []pack.Full{full(seven, "a")}, put(3, block, size, at(seven, 0, 1)), cut(3, size))
		}
	}
	for _, size := range []int{-1, -64, 4097, 4160, 1 << 16, 1<<32 + 64, math.MinInt, math.MinInt + 1, math.MaxInt, math.MaxInt - 1, math.MaxInt - 62, math.MaxInt - 63} {
		for _, l := range [][]pack.Dirty{nil, rows(1), rows(0), rows(64, 64), {dirty(64, "a")}} {
			notPacked(t, "sizes that may not be", asked{2, size, seven, 3, l}, api.ErrArg)
		}
	}
}

func TestInodes(t *testing.T) {
	for ino := 2; ino <= 128; ino++ {
		isPacked(t, "ino", asked{ino, 3, seven, 3, []pack.Dirty{dirty(0, "a")}}, []pack.Full{full(seven, "a")}, put(ino, 0, 3, at(seven, 0, 1)), cut(ino, 3))
	}
	for _, ino := range []int{1, 0, -1, -2, 129, 130, 256 + 2, 1<<16 + 2, 1<<32 + 2, math.MinInt, math.MaxInt} {
		for _, l := range [][]pack.Dirty{nil, rows(1), rows(0)} {
			notPacked(t, "inos that may not be", asked{ino, 3, seven, 3, l}, api.ErrArg)
		}
	}
}

// Each number of the first stripe at its least, at its most, and one past either.
func TestFirstStripes(t *testing.T) {
	for _, s := range []api.Stripe{{}, stripe(4, 0, 0), stripe(0, 1<<20, 0), stripe(0, 0, 1<<30), stripe(4, 1<<20, 1<<30), stripe(2, 5, 9)} {
		isPacked(t, "may be", asked{2, 3, s, 3, []pack.Dirty{dirty(0, "a")}}, []pack.Full{full(s, "a")}, put(2, 0, 3, at(s, 0, 1)), cut(2, 3))
		isPacked(t, "may be, of no block", asked{2, 3, s, 3, nil}, nil, cut(2, 3))
		for _, x := range []int{-1, 5, 256, 1 << 32, math.MinInt, math.MaxInt} {
			noStripe(t, stripe(x, s.Life, s.Number))
		}
		for _, x := range []int{-1, 1<<20 + 1, 1 << 24, 1 << 32, math.MinInt, math.MaxInt} {
			noStripe(t, stripe(s.Client, x, s.Number))
		}
		for _, x := range []int{-1, 1<<30 + 1, 1 << 32, 1 << 62, math.MinInt, math.MaxInt} {
			noStripe(t, stripe(s.Client, s.Life, x))
		}
	}
}

// noStripe looks at what Pack says of a first stripe that may not be: of no block, too, and where a Number would be above the most, ErrArg.
func noStripe(t *testing.T, s api.Stripe) {
	t.Helper()
	for _, l := range [][]pack.Dirty{nil, rows(1), rows(0), rows(slices.Repeat([]int{64}, 64)...)} {
		notPacked(t, "a stripe that may not be", asked{2, 4096, s, 3, l}, api.ErrArg)
	}
}

// As few servers as may be, as many, and each number between; one past either, whatever else is asked.
func TestServers(t *testing.T) {
	for n := 3; n <= 16; n++ {
		isPacked(t, "n", asked{2, 3, seven, n, []pack.Dirty{dirty(0, "a")}}, []pack.Full{full(seven, "a")}, put(2, 0, 3, at(seven, 0, 1)), cut(2, 3))
		isPacked(t, "n of no block", asked{2, 3, seven, n, nil}, nil, cut(2, 3))
	}
	for _, n := range []int{2, 17, 1, 0, -1, -3, -16, 256 + 3, 1<<32 + 3, math.MinInt, math.MinInt + 1, math.MaxInt} {
		for _, l := range [][]pack.Dirty{nil, rows(1), rows(0), rows(64, 64)} {
			notPacked(t, "an n that may not be", asked{2, 4096, seven, n, l}, api.ErrArg)
		}
	}
}

// Files of as many bytes as may be: how many go into each stripe of n servers.
func TestStripesOfAFile(t *testing.T) {
	l := rows(slices.Repeat([]int{64}, 64)...)
	for n, want := range map[int][]int{
		3: {768, 768, 768, 768, 768, 256}, 4: {1152, 1152, 1152, 640}, 5: {1600, 1600, 896}, 6: {1984, 1984, 128}, 7: {2368, 1728}, 8: {2752, 1344}, 9: {3200, 896}, 10: {3584, 512}, 11: {3968, 128}, 12: {4096}, 16: {4096},
	} {
		a := asked{2, 4096, seven, n, l}
		got, _, _ := a.pack()
		if !slices.Equal(sizesOf(got), want) {
			t.Errorf("over %d: %v, want %v", n, sizesOf(got), want)
		}
		isTold(t, "a file", a)
	}
	s := stripe(3, 2, 0)
	isPacked(t, "three stripes", asked{2, 4096, s, 3, rows(slices.Repeat([]int{64}, 25)...)},
		[]pack.Full{full(s, joined(0, 12)), full(behind(s, 1), joined(12, 24)), full(behind(s, 2), joined(24, 25))},
		append(puts(s, 0, 12), append(puts(behind(s, 1), 12, 24), put(2, 24, 4096, at(behind(s, 2), 0, 64)), cut(2, 4096))...)...)
}

// joined answers the bytes of the full blocks from one on, up to another.
func joined(from, to int) string {
	b := ""
	for block := from; block < to; block++ {
		b += data(64, block)
	}
	return b
}

// puts answers the deltas of those blocks, in a stripe from its beginning on, of a file of as many bytes as may be.
func puts(s api.Stripe, from, to int) []api.Delta {
	var l []api.Delta
	for block := from; block < to; block++ {
		l = append(l, put(2, block, 4096, at(s, (block-from)*64, 64)))
	}
	return l
}

// Stripes over each number of servers that one file can fill: just full, by one byte not, and with a next block that would go one byte too far.
func TestFullStripes(t *testing.T) {
	for n := 3; n <= 11; n++ {
		most := 400 * (n - 1)
		blocks := slices.Repeat([]int{64}, most/64)
		rest := most % 64
		if rest == 0 { // so that one block is there to be made shorter
			blocks, rest = blocks[1:], 64
		}
		with := func(longs ...int) []pack.Dirty { return rows(append(slices.Clone(blocks), longs...)...) }
		for _, x := range []struct {
			what string
			l    []pack.Dirty
			want []int
		}{
			{"just full", with(rest), []int{most}},
			{"by one byte not", with(rest - 1), []int{most - 1}},
			{"just full by one byte", with(rest-1, 1), []int{most}},
			{"just full, and a byte", with(rest, 1), []int{most, 1}},
			{"one byte too far", with(rest-1, 2), []int{most - 1, 2}},
			{"a block too far", with(rest, 64), []int{most, 64}},
			{"just full, and noughts", with(rest, 0, 0), []int{most}},
			{"just full, noughts, and a byte", with(rest, 0, 1), []int{most, 1}},
			{"what is full stays so", with(rest-1, 2, 1), []int{most - 1, 3}},
			{"noughts at the end of a block", append(with(rest-1), dirty(len(blocks)+1, "a"+noughts)), []int{most}},
		} {
			if len(x.l) > 64 { // more than a file has
				continue
			}
			what := fmt.Sprint(x.what, " over ", n)
			a := asked{2, 4096, seven, n, x.l}
			got, _, why := a.pack()
			if !slices.Equal(sizesOf(got), x.want) || why != api.OK {
				t.Errorf("%s: %v, %v, want %v", what, sizesOf(got), why, x.want)
			}
			isTold(t, what, a)
		}
	}
}

// Numbers up to the most: as many stripes as there are Numbers, one more is ErrFull.
func TestLastNumbers(t *testing.T) {
	const most = 1 << 30
	for count := 1; count <= 6; count++ { // stripes over three servers
		l := rows(slices.Repeat([]int{64}, 12*(count-1)+1)...)
		for _, number := range []int{most - 6, most - 5, most - 4, most - 3, most - 2, most - 1, most} {
			a := asked{2, 4096, stripe(4, 1<<20, number), 3, l}
			if number+count-1 > most {
				notPacked(t, fmt.Sprint(count, " stripes from ", number), a, api.ErrFull)
				continue
			}
			got, deltas, why := a.pack()
			if len(got) != count || len(deltas) != len(l)+1 || why != api.OK || got[count-1].Stripe != behind(a.first, count-1) {
				t.Errorf("%d stripes from %d: %d, %v", count, number, len(got), why)
			}
			isTold(t, "last Numbers", a)
		}
	}
	last := stripe(4, 1<<20, most)
	isPacked(t, "a stripe that is just full", asked{2, 4096, last, 3, rows(slices.Repeat([]int{50}, 16)...)}, []pack.Full{full(last, shorts(16))}, append(shortPuts(last, 16), cut(2, 4096))...)
	notPacked(t, "one byte more", asked{2, 4096, last, 3, append(rows(slices.Repeat([]int{50}, 16)...), dirty(16, "a"))}, api.ErrFull)
	isPacked(t, "noughts more", asked{2, 4096, last, 3, append(rows(slices.Repeat([]int{50}, 16)...), dirty(16, noughts))}, []pack.Full{full(last, shorts(16))}, append(shortPuts(last, 16), put(2, 16, 4096, zero), cut(2, 4096))...)
	isPacked(t, "one byte more over four", asked{2, 4096, last, 4, append(rows(slices.Repeat([]int{50}, 16)...), dirty(16, "a"))}, []pack.Full{full(last, shorts(16)+"a")}, append(shortPuts(last, 16), put(2, 16, 4096, at(last, 800, 1)), cut(2, 4096))...)
}

// shorts answers the bytes of so many blocks of 50 bytes.
func shorts(count int) string {
	b := ""
	for block := range count {
		b += data(50, block)
	}
	return b
}

// shortPuts answers their deltas.
func shortPuts(s api.Stripe, count int) []api.Delta {
	var l []api.Delta
	for block := range count {
		l = append(l, put(2, block, 4096, at(s, block*50, 50)))
	}
	return l
}

// What may not be is ErrArg, though there would be a Number above the most besides.
func TestErrArgAheadOfErrFull(t *testing.T) {
	last, l := stripe(4, 1<<20, 1<<30), rows(slices.Repeat([]int{64}, 26)...)
	notPacked(t, "two stripes and more", asked{2, 4096, last, 3, l}, api.ErrFull)
	for what, a := range map[string]asked{
		"ino":            {1, 4096, last, 3, l},
		"size":           {2, 4097, last, 3, l},
		"n":              {2, 4096, last, 2, l},
		"client":         {2, 4096, stripe(5, 0, 1<<30), 3, l},
		"beyond":         {2, 25 * 64, last, 3, l},
		"again":          {2, 4096, last, 3, append(slices.Clone(l), dirty(25, "a"))},
		"too many bytes": {2, 4096, last, 3, append(slices.Clone(l), dirty(26, data(65, 1)))},
	} {
		notPacked(t, what, a, api.ErrArg)
	}
}

// spoil writes into all of a row of bytes, its spare room too.
func spoil(b []byte) {
	b = b[:cap(b)]
	for i := range b {
		b[i] = '!'
	}
}
