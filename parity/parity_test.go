// Tests of chapter 2, by what package parity exports alone.
package parity_test

import (
	"bytes"
	"fmt"
	"math"
	"math/rand"
	"testing"

	"pinstripe/api"
	"pinstripe/parity"
)

// list is some rows.
type list = [][]byte

// short tells rows that a line can hold.
func short(rows list) string {
	if s := fmt.Sprint(rows); len(s) < 80 {
		return s
	}
	var lens []int
	for _, row := range rows {
		lens = append(lens, len(row))
	}
	return fmt.Sprint("rows of ", lens, " bytes")
}

// xor fails, if Xor of the rows is not just want.
func xor(t *testing.T, rows list, want []byte) {
	t.Helper()
	if got := parity.Xor(rows); !bytes.Equal(got, want) {
		t.Errorf("Xor(%s): %s, want %s", short(rows), short(list{got}), short(list{want}))
	}
}

// fill fails, if Fill does not answer just want.
func fill(t *testing.T, rows list, i, n int, want []byte) {
	t.Helper()
	if got, e := parity.Fill(rows, i, n); e != api.OK || !bytes.Equal(got, want) {
		t.Errorf("Fill(%s, %d, %d): %s, %v, want %s", short(rows), i, n, short(list{got}), e, short(list{want}))
	}
}

// refuses fails, if Fill does not answer ErrArg, and no bytes.
func refuses(t *testing.T, rows list, i, n int) {
	t.Helper()
	if got, e := parity.Fill(rows, i, n); e != api.ErrArg || len(got) != 0 {
		t.Errorf("Fill(%s, %d, %d): %s, %v, want none, ErrArg", short(rows), i, n, short(list{got}), e)
	}
}

// holds fails, if Holds does not answer want.
func holds(t *testing.T, rows list, want bool) {
	t.Helper()
	if got := parity.Holds(rows); got != want {
		t.Errorf("Holds(%s): %v, want %v", short(rows), got, want)
	}
}

// row answers n bytes, of which neighbours are unlike, and of which from says where they begin.
func row(n, from int) []byte {
	b := make([]byte, n)
	for i := range b {
		b[i] = byte((i+from)*7 + i>>8)
	}
	return b
}

// clone answers the same rows in memory of their own.
func clone(rows list) list {
	var l list
	for _, r := range rows {
		l = append(l, bytes.Clone(r))
	}
	return l
}

// without answers all rows but the i-th.
func without(rows list, i int) list {
	return append(append(list{}, rows[:i]...), rows[i+1:]...)
}

// reach answers how long the longest row is.
func reach(rows list) int {
	n := 0
	for _, r := range rows {
		if len(r) > n {
			n = len(r)
		}
	}
	return n
}

// told answers what Xor should be, told anew out of the chapter: place by place, and in each place bit by bit how many rows have it.
func told(rows list) []byte {
	sum := []byte{}
	for at := range reach(rows) {
		x := 0
		for bit := 1; bit < 256; bit *= 2 {
			many := 0
			for _, r := range rows {
				if at < len(r) && int(r[at])&bit != 0 {
					many++
				}
			}
			x += many % 2 * bit
		}
		sum = append(sum, byte(x))
	}
	return sum
}

// noughts tells whether all bytes are 0.
func noughts(b []byte) bool {
	return len(bytes.Trim(b, "\x00")) == 0
}

// agrees fails, if any of the three calls does not answer what the chapter says of the rows, or changes them.
func agrees(t *testing.T, rows list) {
	t.Helper()
	ahead := clone(rows)
	want := told(rows)
	xor(t, rows, want)
	holds(t, rows, noughts(want))
	for i := -1; i <= len(rows); i++ {
		if i < 0 || i == len(rows) {
			refuses(t, rows, i, 0)
			continue
		}
		others := told(without(rows, i))
		for _, n := range []int{0, 1, len(others) / 2, len(others) - 1, len(others)} {
			if n >= 0 && n <= len(others) {
				fill(t, rows, i, n, others[:n])
			}
		}
		refuses(t, rows, i, -1)
		refuses(t, rows, i, len(others)+1)
	}
	for i := range rows {
		if !bytes.Equal(rows[i], ahead[i]) {
			t.Errorf("row %d of %s was changed: %s", i, short(ahead), short(list{rows[i]}))
		}
	}
}

// The chapter's examples.
func TestExamples(t *testing.T) {
	xor(t, list{{1, 2}, {3}}, []byte{2, 2})
	for _, unknown := range [][]byte{nil, {3}, {99}, {1, 2, 3, 4}} {
		fill(t, list{{1, 2}, unknown, {2, 2}}, 1, 1, []byte{3})
	}
}

// P2.1: Xor of no row, of empty rows, of one row, of rows of unlike lengths in any order.
func TestXor(t *testing.T) {
	xor(t, nil, nil)
	xor(t, list{}, nil)
	xor(t, list{nil}, nil)
	xor(t, list{{}, nil, {}}, nil)
	xor(t, list{{0}}, []byte{0})
	xor(t, list{{5}}, []byte{5})
	xor(t, list{{0, 0, 9, 0}}, []byte{0, 0, 9, 0})
	xor(t, list{nil, {5, 6}, nil}, []byte{5, 6})
	xor(t, list{{1, 2, 3}, {1, 2, 3}}, []byte{0, 0, 0})
	xor(t, list{{1, 2, 3}, {1, 2}}, []byte{0, 0, 3})
	xor(t, list{{1, 2}, {1, 2, 3}}, []byte{0, 0, 3})
	xor(t, list{{1, 2}, {1, 2, 0}}, []byte{0, 0, 0})
	xor(t, list{{1}, {2}, {4}, {8}, {16}, {32}, {64}, {128}}, []byte{255})
	xor(t, list{{255, 255}, {255}, {255, 15}}, []byte{255, 240})
	steps := list{{1}, {1, 2}, {1, 2, 4}, {1, 2, 4, 8}}
	xor(t, steps, []byte{0, 2, 0, 8})
	xor(t, list{steps[3], steps[1], steps[0], steps[2]}, []byte{0, 2, 0, 8})
}

// P2.1: each pair of bytes.
func TestXorOfEachByte(t *testing.T) {
	for a := range 256 {
		for b := range 256 {
			want := told(list{{byte(a)}, {byte(b)}})
			if got := parity.Xor(list{{byte(a)}, {byte(b)}}); !bytes.Equal(got, want) {
				t.Fatalf("Xor of %d and %d: %v, want %v", a, b, got, want)
			}
		}
	}
}

// P2.1: Fill of the first, of the last and of a middle place, of each n that is taken.
func TestFill(t *testing.T) {
	rows := list{{1, 2, 3, 4}, {16, 32}, {64, 64, 64}}
	wants := list{{16 ^ 64, 32 ^ 64, 64}, {1 ^ 64, 2 ^ 64, 3 ^ 64, 4}, {1 ^ 16, 2 ^ 32, 3, 4}}
	for i, want := range wants {
		for n := range len(want) + 1 {
			fill(t, rows, i, n, want[:n])
		}
		for _, n := range []int{len(want) + 1, len(want) + 2, math.MaxInt, 1 << 32, -1, -2, -len(want), math.MinInt} {
			refuses(t, rows, i, n)
		}
	}
	fill(t, list{{7, 8}, {9}}, 0, 1, []byte{9})
	fill(t, list{{7, 8}, {9}}, 1, 2, []byte{7, 8})
	fill(t, list{{1, 1}, {1, 1}, {5}}, 2, 2, []byte{0, 0})
	fill(t, list{{1, 1}, {1}, nil}, 2, 2, []byte{0, 1})
}

// P2.1: n is held against the longest of the others, not of all, nor against the row itself.
func TestFillReachesAsFarAsTheOthers(t *testing.T) {
	rows := list{{1, 2, 3, 4, 5}, {6, 7}, {8}}
	refuses(t, rows, 0, 3)
	refuses(t, rows, 0, 5)
	fill(t, rows, 0, 2, []byte{14, 7})
	fill(t, rows, 1, 5, []byte{9, 2, 3, 4, 5})
	fill(t, rows, 2, 5, []byte{7, 5, 3, 4, 5})
	refuses(t, rows, 2, 6)
}

// P2.1: what stands in the i-th row is not looked at.
func TestFillDoesNotLook(t *testing.T) {
	for i := range 3 {
		rows := list{{1, 2, 3}, {4, 5, 6}, {7, 8, 9}}
		want := told(without(rows, i))
		for _, other := range [][]byte{nil, {}, {0}, {255, 255}, {1, 2, 3}, row(100, i)} {
			rows[i] = other
			fill(t, rows, i, 3, want)
			fill(t, rows, i, 0, nil)
			refuses(t, rows, i, 4)
		}
	}
}

// P2.1: there is no i-th row.
func TestFillOfNoPlace(t *testing.T) {
	for _, rows := range []list{nil, {}, {nil}, {{1}}, {{1, 2}, {3}}, {{1}, {2}, {3}, {4}}} {
		for _, i := range []int{-1, -2, -len(rows) - 1, len(rows), len(rows) + 1, math.MaxInt, math.MinInt, 1 << 32, -1 << 32} {
			for _, n := range []int{0, 1, -1} {
				refuses(t, rows, i, n)
			}
		}
	}
}

// P2.1: a row without others, and others that are empty: there is nothing but 0 bytes to fill.
func TestFillOfNothing(t *testing.T) {
	for _, rows := range []list{{nil}, {{}}, {{1}}, {{1, 2, 3}}} {
		fill(t, rows, 0, 0, nil)
		refuses(t, rows, 0, 1)
		refuses(t, rows, 0, -1)
	}
	for i := range 3 {
		rows := list{nil, {}, nil}
		rows[i] = []byte{1, 2}
		fill(t, rows, i, 0, nil)
		refuses(t, rows, i, 1)
		refuses(t, rows, i, 2)
		fill(t, rows, (i+1)%3, 2, []byte{1, 2})
	}
}

// P2.1: Holds of no row, of empty rows, of noughts, of one byte that is none, wherever it stands.
func TestHolds(t *testing.T) {
	for _, rows := range []list{nil, {}, {nil}, {{}, nil}, {{0}}, {{0, 0}, {}}, {{0, 0}, {0}, {0, 0, 0}}, {{1}, {1}}, {{1, 2}, {1, 2}, {0}}, {{1, 2}, {3, 2}, {2}}, {{3}, {3, 0, 0}}, {{255}, {15}, {240}}} {
		holds(t, rows, true)
	}
	for _, rows := range []list{{{1}}, {{0, 1}}, {{128, 0}}, {{1}, {1, 1}}, {{1, 1}, {1}}, {{1}, {1}, {1}}, {{1, 2}, {2, 1}}, {{0}, nil, {0, 0, 4}}, {{1}, {2}}} {
		holds(t, rows, false)
	}
	for at := range 9 {
		for bit := range 8 {
			for i := range 3 {
				rows := list{row(9, 1), row(9, 2)}
				rows = append(rows, told(rows))
				holds(t, rows, true)
				rows[i][at] ^= 1 << bit
				holds(t, rows, false)
			}
		}
	}
}

// P2.1: all lists of up to three rows of up to two bytes out of some.
func TestSmallLists(t *testing.T) {
	rows := list{nil}
	for _, a := range []byte{0, 1, 3} {
		rows = append(rows, []byte{a})
		for _, b := range []byte{0, 1, 2} {
			rows = append(rows, []byte{a, b})
		}
	}
	agrees(t, list{})
	for _, a := range rows {
		agrees(t, list{a})
		for _, b := range rows {
			agrees(t, list{a, b})
			for _, c := range rows {
				agrees(t, list{a, b, c})
			}
		}
	}
}

// random answers up to 17 rows of any bytes.
func random(r *rand.Rand) list {
	rows := make(list, r.Intn(18))
	for i := range rows {
		rows[i] = make([]byte, []int{0, 1, 2, 63, 64, 65, 400, r.Intn(500)}[r.Intn(8)])
		r.Read(rows[i])
	}
	return rows
}

// P2.1: any rows.
func TestAnyRows(t *testing.T) {
	r := rand.New(rand.NewSource(3))
	for range 200 {
		agrees(t, random(r))
	}
}

// P2.2: with Xor behind them rows Hold, and each one is Filled out of the others, by how long it is.
func TestEachRowComesBack(t *testing.T) {
	r := rand.New(rand.NewSource(4))
	cases := []list{nil, {nil}, {nil, nil, nil}, {{1}}, {{0, 0}, {0}}, {{1, 2}, {3}}, {{1}, nil, {2, 3, 4}}}
	for range 300 {
		cases = append(cases, random(r))
	}
	for _, rows := range cases {
		all := append(append(list{}, rows...), parity.Xor(rows))
		holds(t, all, true)
		for i, want := range all {
			others := clone(all)
			others[i] = nil
			fill(t, others, i, len(want), want)
			others[i] = row(450, i)
			fill(t, others, i, len(want), want)
		}
	}
}

// R1: long rows, and many rows.
func TestLongAndMany(t *testing.T) {
	long := row(1<<20, 5)
	xor(t, list{long, nil, long[:1<<19]}, append(make([]byte, 1<<19), long[1<<19:]...))
	fill(t, list{long, long[:10], {1}}, 2, 1<<20, append(make([]byte, 10), long[10:]...))
	many := make(list, 1<<18)
	many[0] = long
	for i := 1; i < len(many); i++ {
		many[i] = long[i : i+i%3]
	}
	last := len(many) - 1
	if b, e := parity.Fill(append(many, parity.Xor(many)), last, len(many[last])); e != api.OK || !bytes.Equal(b, many[last]) {
		t.Errorf("the last of many rows: %v, %v, want %v", b, e, many[last])
	}
}

// spare fails, if a byte of whole that is behind the rows it was cut into was changed.
func spare(t *testing.T, what string, whole, want []byte) {
	t.Helper()
	if !bytes.Equal(whole, want) {
		t.Errorf("%s changed what it was handed: %v, want %v", what, whole, want)
	}
}

// R4: rows that are handed in are not changed, spare room included, nor is their list.
func TestRowsAreNotChanged(t *testing.T) {
	whole := row(40, 9)
	want := bytes.Clone(whole)
	room := make(list, 5)
	rows := room[:3]
	rows[0], rows[1], rows[2] = whole[0:4], whole[10:17], whole[20:20]
	calls := map[string]func(){
		"Xor":   func() { parity.Xor(rows) },
		"Holds": func() { parity.Holds(rows) },
		"Fill": func() {
			for i := -1; i <= len(rows); i++ {
				for n := -1; n < 9; n++ {
					parity.Fill(rows, i, n)
				}
			}
		},
	}
	for what, call := range calls {
		call()
		spare(t, what, whole, want)
		if len(rows[0]) != 4 || len(rows[1]) != 7 || len(rows[2]) != 0 || room[3] != nil || room[4] != nil {
			t.Errorf("%s changed the list it was handed: %v", what, room)
		}
		if &rows[0][0] != &whole[0] || &rows[1][0] != &whole[10] {
			t.Errorf("%s put other rows into the list it was handed", what)
		}
	}
}

// R4: what is answered is new memory, though it be like one row, spare room too.
func TestAnswersAreNew(t *testing.T) {
	whole := row(30, 2)
	want := bytes.Clone(whole)
	answers := map[string]func() []byte{
		"Xor of one row":               func() []byte { return parity.Xor(list{whole[:8]}) },
		"Xor of one and empty ones":    func() []byte { return parity.Xor(list{nil, whole[:8], {}}) },
		"Xor of an empty row":          func() []byte { return parity.Xor(list{whole[:0]}) },
		"Fill out of one row":          func() []byte { b, _ := parity.Fill(list{whole[:8], whole[9:12]}, 1, 8); return b },
		"Fill of some of one row":      func() []byte { b, _ := parity.Fill(list{whole[9:12], whole[:8]}, 0, 3); return b },
		"Fill of no bytes":             func() []byte { b, _ := parity.Fill(list{whole[:8], whole[9:12]}, 0, 0); return b },
		"Fill that is refused":         func() []byte { b, _ := parity.Fill(list{whole[:8], whole[9:12]}, 0, 4); return b },
		"Fill of a place that is none": func() []byte { b, _ := parity.Fill(list{whole[:8]}, 1, 0); return b },
	}
	for what, answer := range answers {
		first, again := answer(), answer()
		kept := bytes.Clone(again)
		first = first[:cap(first)]
		for i := range first {
			first[i] ^= 0x55
		}
		spare(t, what+" (written over)", whole, want)
		if !bytes.Equal(again, kept) || !bytes.Equal(answer(), kept) {
			t.Errorf("%s: two answers share memory", what)
		}
	}
}

// R4: nil and an empty list are one.
func TestNilAndEmptyAreOne(t *testing.T) {
	for _, none := range [][]byte{nil, {}} {
		rows := list{{1, 2}, none, {3}}
		xor(t, rows, []byte{2, 2})
		fill(t, rows, 0, 1, []byte{3})
		fill(t, rows, 1, 2, []byte{2, 2})
		fill(t, rows, 2, 2, []byte{1, 2})
		holds(t, rows, false)
		holds(t, list{none, {0}, none}, true)
	}
}
