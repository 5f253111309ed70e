// Tests of chapter 3, by what package grade exports alone.
package grade_test

import (
	"cmp"
	"fmt"
	"math"
	"math/big"
	"math/rand"
	"slices"
	"testing"

	"pinstripe/grade"
)

// list is some floats.
type list = []float64

// The values that the chapter names, and their neighbours.
var (
	nan   = math.NaN()
	inf   = math.Inf(1)
	minus = math.Copysign(0, -1) // the nought below 0
	least = math.SmallestNonzeroFloat64
	most  = math.MaxFloat64
)

// ladder answers values that are all unlike, each ahead of the next one; no NaN.
func ladder() list {
	return list{-inf, -most, math.Nextafter(-most, 0), -1e9, -2, math.Nextafter(-1, -2), -1, math.Nextafter(-1, 0), -0.1, -least * 2, -least, minus,
		0, least, least * 2, 0.1, math.Nextafter(1, 0), 1, math.Nextafter(1, 2), 2, 1e9, math.Nextafter(most, 0), most, inf}
}

// nans answers NaNs of either sign, loud and quiet, of unlike bits.
func nans() list {
	l := list{nan, -nan, inf - inf, math.Copysign(nan, -1)}
	for _, b := range []uint64{0x7ff0000000000001, 0x7ff8000000000000, 0x7fffffffffffffff, 0xfff0000000000001, 0xfff8000000000000, 0xffffffffffffffff} {
		l = append(l, math.Float64frombits(b))
	}
	return l
}

// alike tells whether two floats are one: their bits, or both NaNs.
func alike(a, b float64) bool {
	return math.Float64bits(a) == math.Float64bits(b) || math.IsNaN(a) && math.IsNaN(b)
}

// short tells a list that a line can hold.
func short[T any](l []T) string {
	if len(l) > 16 {
		return fmt.Sprintf("%v.. (%d of them)", l[:16], len(l))
	}
	return fmt.Sprint(l)
}

// compares fails, if Compare does not answer want, and its opposite the other way round.
func compares(t *testing.T, a, b float64, want int) {
	t.Helper()
	if got := grade.Compare(a, b); got != want {
		t.Errorf("Compare(%v, %v): %d, want %d", a, b, got, want)
	}
	if got := grade.Compare(b, a); got != -want {
		t.Errorf("Compare(%v, %v): %d, want %d", b, a, got, -want)
	}
}

// grades fails, if Grade does not answer just want.
func grades(t *testing.T, live, size, age int, want float64) {
	t.Helper()
	if got := grade.Grade(live, size, age); !alike(got, want) {
		t.Errorf("Grade(%d, %d, %d): %v, want %v", live, size, age, got, want)
	}
}

// best fails, if Best does not answer want.
func best(t *testing.T, l list, want int) {
	t.Helper()
	if got := grade.Best(l); got != want {
		t.Errorf("Best(%s): %d, want %d", short(l), got, want)
	}
}

// order fails, if Order does not answer just want.
func order(t *testing.T, l list, want []int) {
	t.Helper()
	if got := grade.Order(l); !slices.Equal(got, want) {
		t.Errorf("Order(%s): %s, want %s", short(l), short(got), short(want))
	}
}

// mean fails, if Mean does not answer just want.
func mean(t *testing.T, l list, want float64) {
	t.Helper()
	if got := grade.Mean(l); !alike(got, want) {
		t.Errorf("Mean(%s): %v, want %v", short(l), got, want)
	}
}

// rung answers a number by which floats are in Compare's order, told anew out of their bits: these rise with a number above 0, and fall with one below.
func rung(x float64) int64 {
	bits := int64(math.Float64bits(x))
	switch {
	case math.IsNaN(x):
		return math.MaxInt64
	case bits < 0:
		return math.MinInt64 - bits - 1
	}
	return bits
}

// toldAhead tells, anew out of the chapter, whether place i comes ahead of place j in the order.
func toldAhead(l list, i, j int) bool {
	a, b := rung(l[i]), rung(l[j])
	switch {
	case a == b:
		return i < j
	case a == math.MaxInt64 || b == math.MaxInt64:
		return a < b
	}
	return a > b
}

// toldOrder answers what Order should be: each place stands behind just so many others as come ahead of it.
func toldOrder(l list) []int {
	places := make([]int, len(l))
	for i := range l {
		ahead := 0
		for j := range l {
			if j != i && toldAhead(l, j, i) {
				ahead++
			}
		}
		places[ahead] = i
	}
	return places
}

// toldBest answers what Best should be: the one that none but a NaN comes ahead of.
func toldBest(l list) int {
	for i, x := range l {
		beaten := math.IsNaN(x)
		for j := range l {
			beaten = beaten || j != i && toldAhead(l, j, i)
		}
		if !beaten {
			return i
		}
	}
	return -1
}

// toldMean answers what Mean should be, of numbers that are no infinities: each step is reckoned whole, then rounded.
func toldMean(l list) float64 {
	sum, many := 0.0, int64(0)
	for _, x := range l {
		if !math.IsNaN(x) {
			sum = rounded(new(big.Rat).Add(exact(sum), exact(x)))
			many++
		}
	}
	if many == 0 {
		return nan
	}
	return rounded(new(big.Rat).Quo(exact(sum), new(big.Rat).SetInt64(many)))
}

// toldGrade answers what Grade should be, where each step has a number: each is reckoned whole, then rounded.
func toldGrade(live, size, age int) float64 {
	one := exact(1)
	u := rounded(new(big.Rat).Quo(exact(whole(live)), exact(whole(size))))
	free := rounded(new(big.Rat).Sub(one, exact(u)))
	worth := rounded(new(big.Rat).Mul(exact(free), exact(whole(age))))
	return rounded(new(big.Rat).Quo(exact(worth), exact(rounded(new(big.Rat).Add(one, exact(u))))))
}

// exact answers x, which is finite, as a fraction.
func exact(x float64) *big.Rat {
	return new(big.Rat).SetFloat64(x)
}

// rounded answers the float that is nearest.
func rounded(x *big.Rat) float64 {
	f, _ := x.Float64()
	return f
}

// whole answers the float that is nearest to an int.
func whole(n int) float64 {
	return rounded(new(big.Rat).SetInt64(int64(n)))
}

// agrees fails, if Best or Order does not answer what the chapter says, if they disagree, or if they or Mean change the list.
func agrees(t *testing.T, l list) {
	t.Helper()
	ahead := slices.Clone(l)
	best(t, l, toldBest(l))
	order(t, l, toldOrder(l))
	grade.Mean(l)
	if !slices.EqualFunc(l, ahead, func(a, b float64) bool { return math.Float64bits(a) == math.Float64bits(b) }) {
		t.Errorf("%s was changed: %s", short(ahead), short(l))
	}
	follows(t, l)
}

// follows fails, if Best is not Order's first, or -1 where that is a NaN.
func follows(t *testing.T, l list) {
	t.Helper()
	want, places := -1, grade.Order(l)
	if len(places) > 0 && !math.IsNaN(l[places[0]]) {
		want = places[0]
	}
	best(t, l, want)
}

// The chapter's examples.
func TestExamples(t *testing.T) {
	compares(t, minus, 0, -1)
	compares(t, nan, inf, 1)
	compares(t, nan, nan, 0)
	grades(t, 0, 100, 5, 5)
	grades(t, 100, 100, 5, 0)
	grades(t, 50, 100, 6, 2)
	grades(t, 0, 0, 1, nan)
}

// P3.1: each of two numbers, infinities and noughts of either sign among them.
func TestCompareNumbers(t *testing.T) {
	l := ladder()
	for i, a := range l {
		compares(t, a, a, 0)
		for _, b := range l[i+1:] {
			compares(t, a, b, -1)
		}
	}
	compares(t, 1<<53, 1<<53+2, -1)
	compares(t, 0.1+0.2, 0.3, 0) // constants: both are 0.3
	tenth, fifth := 0.1, 0.2
	compares(t, tenth+fifth, 0.3, 1)
}

// P3.1: all NaNs are one, of whatever sign and bits, behind all others.
func TestCompareNaNs(t *testing.T) {
	for _, a := range nans() {
		for _, b := range nans() {
			compares(t, a, b, 0)
		}
		for _, x := range ladder() {
			compares(t, x, a, -1)
		}
	}
}

// P3.1: floats of any bits, and neighbours.
func TestCompareAnyBits(t *testing.T) {
	r := rand.New(rand.NewSource(1))
	for range 20000 {
		a := math.Float64frombits(r.Uint64())
		for _, b := range (list{a, -a, 0, math.Float64frombits(r.Uint64()), math.Nextafter(a, inf), math.Nextafter(a, -inf)}) {
			compares(t, a, b, cmp.Compare(rung(a), rung(b)))
		}
	}
}

// P3.2: nothing used, all used, some used; what is young is worth nothing.
func TestGrade(t *testing.T) {
	grades(t, 0, 1, 1, 1)
	grades(t, 1, 1, 1, 0)
	grades(t, 1, 2, 1, 1.0/3)
	grades(t, 1, 10, 11, 9)
	grades(t, 1, 3, 0, 0)
	grades(t, 0, 1, 0, 0)
	grades(t, 0, 6000, 1<<30, 1<<30)
	grades(t, 6000, 6000, 1<<30, 0)
	grades(t, 5999, 6000, 12000, 1.0000833402782463)
}

// P3.2: each step is rounded by itself, in the chapter's order: the same value by other steps is another float.
func TestGradeRoundsEachStep(t *testing.T) {
	grades(t, 1, 3, 1, 0.5000000000000001)
	grades(t, 25, 75, 1, 0.5000000000000001)
	grades(t, 1, 7, 10, 7.500000000000002)
	grades(t, 3, 7, 10, 3.9999999999999996)
	grades(t, 20, 100, 3, 2.0000000000000004)
	grades(t, 399, 400, 77, 0.0963704630788465)
	grades(t, 1<<53+1, 1<<53+3, 5, 1.1102230246251567e-15) // ints that are no floats
}

// P3.2: a size of 0.
func TestGradeOfNoSize(t *testing.T) {
	for _, age := range []int{0, 1, 5, -1, math.MaxInt, math.MinInt} {
		grades(t, 0, 0, age, nan)
		for _, live := range []int{1, -1, 400, -400, math.MaxInt, math.MinInt} {
			grades(t, live, 0, age, nan) // u is an infinity
		}
	}
}

// P3.2: numbers that no stripe has are reckoned with all the same.
func TestGradeOfAnyNumbers(t *testing.T) {
	grades(t, 10, 5, 3, -1)
	grades(t, -3, 5, 2, 8)
	grades(t, 0, 5, -1, -1)
	grades(t, 0, -5, 3, 3)
	grades(t, -5, -5, 3, 0)
	grades(t, 5, 5, -3, minus)
	grades(t, 5, -5, 3, inf) // 1 + u is 0
	grades(t, -5, 5, 1, inf)
	grades(t, -5, 5, -1, -inf)
	grades(t, -5, 5, 0, nan)
	grades(t, math.MaxInt, math.MaxInt, math.MaxInt, 0)
	grades(t, math.MinInt, math.MaxInt, 1, inf)
	grades(t, math.MinInt, math.MinInt, math.MinInt, minus)
	grades(t, 0, math.MinInt, math.MinInt, math.MinInt)
	grades(t, math.MaxInt, 1, math.MaxInt, math.MinInt)
}

// anyInt answers an int of any size and sign.
func anyInt(r *rand.Rand) int {
	return int(r.Uint64()) >> r.Intn(64)
}

// P3.2: any stripes, and any numbers, each step reckoned whole and then rounded.
func TestGradeStepByStep(t *testing.T) {
	check := func(live, size, age int) {
		t.Helper()
		want := toldGrade(live, size, age)
		if got := grade.Grade(live, size, age); got != want {
			t.Errorf("Grade(%d, %d, %d): %v, want %v", live, size, age, got, want)
		}
	}
	r := rand.New(rand.NewSource(2))
	for range 5000 {
		size := 1 + r.Intn(6000)
		check(r.Intn(size+1), size, r.Intn(1<<r.Intn(31)))
		live, size, age := anyInt(r), anyInt(r), anyInt(r)
		if size != 0 && whole(live) != -whole(size) {
			check(live, size, age)
		}
	}
}

// P3.2, P3.4: with live from 0 to size, which is above 0, a grade is finite; it does not rise as live grows, from age to 0.
func TestGradeFallsAsLiveGrows(t *testing.T) {
	r := rand.New(rand.NewSource(3))
	falls := func(size, age int, lives []int) {
		t.Helper()
		last := whole(age)
		for _, live := range lives {
			g := grade.Grade(live, size, age)
			if math.IsNaN(g) || g < 0 || g > last {
				t.Fatalf("Grade(%d, %d, %d): %v behind %v", live, size, age, g, last)
			}
			last = g
		}
		grades(t, 0, size, age, whole(age))
		grades(t, size, size, age, 0)
	}
	for size := 1; size <= 200; size++ {
		lives := make([]int, size+1)
		for live := range lives {
			lives[live] = live
		}
		for _, age := range []int{1, 2, 3, 7, 1000, 1<<30 + 1, math.MaxInt} {
			falls(size, age, lives)
		}
	}
	for range 300 {
		size, lives := 1+int(r.Uint64()>>(1+r.Intn(60))), make([]int, 40)
		for i := range lives {
			lives[i] = int(r.Uint64() % (uint64(size) + 1))
		}
		slices.Sort(lives)
		falls(size, 1+int(r.Uint64()>>(2+r.Intn(60))), lives)
	}
}

// P3.3: the greatest one, wherever it stands; none of nothing, and none of NaNs alone.
func TestBest(t *testing.T) {
	best(t, nil, -1)
	best(t, list{}, -1)
	best(t, list{nan}, -1)
	best(t, nans(), -1)
	for _, x := range ladder() {
		best(t, list{x}, 0)
		best(t, list{nan, x}, 1)
		best(t, list{x, nan}, 0)
		best(t, list{nan, nan, x, nan}, 2)
	}
	best(t, ladder(), len(ladder())-1)
	best(t, list{3, 1, 2}, 0)
	best(t, list{1, 3, 2}, 1)
	best(t, list{-3, -1, -2}, 1)
	best(t, list{-inf, -most}, 1)
	best(t, list{most, inf}, 1)
	best(t, list{1, nan, 3, nan, 2}, 2)
}

// P3.3: of equals the first; noughts of either sign are none.
func TestBestOfEquals(t *testing.T) {
	best(t, list{7, 7}, 0)
	best(t, list{nan, 3, 3}, 1)
	best(t, list{1, 2, 1, 2, nan, 2}, 1)
	best(t, list{inf, inf}, 0)
	best(t, list{nan, -inf, -inf}, 1)
	best(t, list{minus, 0}, 1)
	best(t, list{0, minus}, 0)
	best(t, list{minus, minus}, 0)
	best(t, list{minus, -1, 0, nan, 0, minus}, 2)
}

// P3.3: the greatest first, NaNs last, though Compare has them behind all others.
func TestOrder(t *testing.T) {
	order(t, nil, nil)
	order(t, list{}, nil)
	order(t, list{5}, []int{0})
	order(t, list{nan}, []int{0})
	order(t, list{1, 2, 3}, []int{2, 1, 0})
	order(t, list{3, 2, 1}, []int{0, 1, 2})
	order(t, list{-1, 3, 2}, []int{1, 2, 0})
	order(t, list{nan, 1}, []int{1, 0})
	order(t, list{nan, -inf, nan, inf}, []int{3, 1, 0, 2})
	order(t, list{minus, 0, minus, 0}, []int{1, 3, 0, 2})
	order(t, list{1, nan, inf, minus, 0, -inf, 1, nan, 2}, []int{2, 8, 0, 6, 4, 3, 5, 1, 7})
	rising := append(ladder(), nans()...)
	order(t, rising, toldOrder(rising))
	slices.Reverse(rising)
	order(t, rising, toldOrder(rising))
}

// upTo answers 0, 1 and so on, ahead of n.
func upTo(n int) []int {
	l := make([]int, n)
	for i := range l {
		l[i] = i
	}
	return l
}

// P3.3: equals stand by their place, however many they are.
func TestOrderOfEquals(t *testing.T) {
	for _, n := range []int{2, 3, 11, 12, 13, 50, 51, 1000} {
		l := make(list, n)
		for _, x := range []float64{0, minus, 4, inf, nan} {
			for i := range l {
				l[i] = x
			}
			order(t, l, upTo(n))
		}
		for i := range l {
			l[i] = nans()[i%len(nans())]
		}
		order(t, l, upTo(n))
		for i := range l {
			l[i] = list{minus, nan, 1, 0, 1}[i%5]
		}
		order(t, l, toldOrder(l))
	}
}

// P3.3: the sum, divided by how many they are; NaNs count nothing.
func TestMean(t *testing.T) {
	mean(t, list{5}, 5)
	mean(t, list{1, 2}, 1.5)
	mean(t, list{1, nan, 2}, 1.5)
	mean(t, list{nan, 1, nan, nan, 2, 6, nan}, 3)
	mean(t, list{-1, 1}, 0)
	mean(t, list{0, 0, 0, 4}, 1)
	mean(t, list{-1, -2, -6}, -3)
	mean(t, append(nans(), 8), 8)
	mean(t, list{least}, least)
	mean(t, list{least, 0}, 0)
}

// P3.3: there is none.
func TestMeanOfNone(t *testing.T) {
	mean(t, nil, nan)
	mean(t, list{}, nan)
	mean(t, list{nan}, nan)
	mean(t, nans(), nan)
}

// P3.3: infinities, and sums that become one.
func TestMeanOfInfinities(t *testing.T) {
	mean(t, list{inf}, inf)
	mean(t, list{-inf}, -inf)
	mean(t, list{1, inf, nan, -7}, inf)
	mean(t, list{inf, inf}, inf)
	mean(t, list{inf, -inf}, nan)
	mean(t, list{-inf, nan, inf, 3}, nan)
	mean(t, list{most, most}, inf)
	mean(t, list{-most, -most}, -inf)
	mean(t, list{most, most, -most, -most}, inf)
	mean(t, list{most, -most, most, -most}, 0)
}

// P3.3: the sum begins with 0, so that noughts of either sign have 0 for their mean.
func TestMeanOfNoughts(t *testing.T) {
	mean(t, list{0}, 0)
	mean(t, list{minus}, 0)
	mean(t, list{0, minus}, 0)
	mean(t, list{minus, 0}, 0)
	mean(t, list{minus, nan, minus}, 0)
	mean(t, list{minus, 2}, 1)
}

// P3.3: the sum is taken from the left, each step rounded: the same numbers in another order have another mean.
func TestMeanFromTheLeft(t *testing.T) {
	mean(t, list{0.1, 0.2, 0.3}, 0.20000000000000004)
	mean(t, list{0.3, 0.2, 0.1}, 0.19999999999999998)
	mean(t, list{1e16, 1, -1e16}, 0)
	mean(t, list{1e16, -1e16, 1}, 1.0/3)
	mean(t, list{1, 1e16, -1e16, nan}, 0)
	mean(t, list{1e16, 1, 1, 1, -1e16}, 0)
	mean(t, list{1, 1, 1, 1e16, -1e16}, 0.8)
	tenths := make(list, 10)
	for i := range tenths {
		tenths[i] = 0.1
	}
	mean(t, tenths, 0.09999999999999999)
	r := rand.New(rand.NewSource(4))
	for range 500 {
		l := make(list, r.Intn(30))
		for i := range l {
			l[i] = list{nan, r.NormFloat64(), math.Ldexp(r.NormFloat64(), r.Intn(100)-50), float64(r.Intn(1000))}[r.Intn(4)]
		}
		mean(t, l, toldMean(l))
	}
}

// P3.3, P3.4: all lists of up to four of the values that the chapter names.
func TestSmallLists(t *testing.T) {
	values := list{nan, -inf, -1, minus, 0, 1, inf}
	var all func(l list)
	all = func(l list) {
		agrees(t, l)
		if len(l) == 4 {
			return
		}
		for _, x := range values {
			all(append(slices.Clone(l), x))
		}
	}
	all(nil)
}

// P3.3, P3.4: any lists, with many equals and with none.
func TestAnyLists(t *testing.T) {
	r := rand.New(rand.NewSource(5))
	for range 300 {
		l := make(list, r.Intn(100))
		for i := range l {
			l[i] = list{nan, inf, -inf, minus, 0, float64(r.Intn(5)), r.NormFloat64(), math.Float64frombits(r.Uint64())}[r.Intn(8)]
		}
		agrees(t, l)
	}
}

// R1: long lists: one of any values, one that is in order, one that is so backwards, one of equals.
func TestLongLists(t *testing.T) {
	const n = 1 << 18
	r := rand.New(rand.NewSource(6))
	mixed, rising, falling, equals := make(list, n), make(list, n), make(list, n), make(list, n)
	for i := range n {
		mixed[i] = list{nan, minus, 0, float64(r.Intn(9)), r.Float64()}[r.Intn(5)]
		rising[i], falling[i], equals[i] = float64(i), float64(-i), 3
	}
	order(t, falling, upTo(n))
	order(t, equals, upTo(n))
	mean(t, equals, 3)
	for _, l := range []list{mixed, rising, falling, equals} {
		places := grade.Order(l)
		for i := 1; i < len(places); i++ {
			if !toldAhead(l, places[i-1], places[i]) {
				t.Fatalf("place %d: %v ahead of %v", i, l[places[i-1]], l[places[i]])
			}
		}
		follows(t, l)
		if slices.Sort(places); !slices.Equal(places, upTo(n)) {
			t.Errorf("a place is missing")
		}
	}
}

// R4: a list that is handed in is not changed, spare room included.
func TestListsAreNotChanged(t *testing.T) {
	whole := list{9, 2, nan, minus, 2, 0, 7, 8, 6}
	bits := func() (l []uint64) {
		for _, x := range whole {
			l = append(l, math.Float64bits(x))
		}
		return l
	}
	want := bits()
	part := whole[1:6]
	calls := map[string]func(){"Best": func() { grade.Best(part) }, "Mean": func() { grade.Mean(part) }, "Order": func() { grade.Order(part) }}
	for what, call := range calls {
		if call(); !slices.Equal(bits(), want) {
			t.Errorf("%s changed what it was handed: %v", what, whole)
		}
	}
}

// R4, R5: each list of places is new memory, spare room too, and knows of no other one.
func TestOrdersAreNew(t *testing.T) {
	l := list{1, nan, 3, 2}
	first, again := grade.Order(l), grade.Order(l)
	first = first[:cap(first)]
	for i := range first {
		first[i] = -9
	}
	if want := []int{2, 3, 0, 1}; !slices.Equal(again, want) || !slices.Equal(grade.Order(l), want) {
		t.Errorf("two answers share memory: %v", again)
	}
	l[0] = 9
	order(t, l, []int{0, 2, 3, 1})
	best(t, l, 0)
	if !slices.Equal(again, []int{2, 3, 0, 1}) {
		t.Errorf("an answer is changed by a later one: %v", again)
	}
}
