package tests

import (
	"fmt"
	"math"
	"math/big"
	"math/bits"
	"math/rand"
	"regexp"
	"sort"
	"strconv"
	"strings"
	"testing"

	"loop.example/stilhold/impl"
)

var (
	nan       = math.NaN()
	inf       = math.Inf(1)
	minusZero = math.Copysign(0, -1)
)

const (
	smallestReal   = 5e-324
	greatestReal   = math.MaxFloat64
	smallestNormal = 0x1p-1022
	greatestBelow  = 0x1.ffffffffffffep-1023 // the greatest that is not normal
	allDigits      = 1<<53 - 1
)

var farOps = []int{math.MinInt, math.MinInt + 1, math.MinInt32, -1 << 32, -256, -6, -5, -1, 0, 7, 8, 255, 256 + 1, 256 + 4, 1<<16 + 1, 1<<32 + 1, 1<<32 + 3, math.MaxInt - 1, math.MaxInt}

// cmpRow is a row of the table of tests, written down here a second time, apart from the program; holds tells for which of below, same and above the test is true.
type cmpRow struct {
	op, flip, swap int
	text           string
	holds          [3]bool
}

var cmpRows = []cmpRow{
	{1, 5, 6, "<", [3]bool{true, false, false}},
	{2, 6, 5, "<=", [3]bool{true, true, false}},
	{3, 4, 3, "=", [3]bool{false, true, false}},
	{4, 3, 4, "<>", [3]bool{true, false, true}},
	{5, 1, 2, ">=", [3]bool{false, true, true}},
	{6, 2, 1, ">", [3]bool{false, false, true}},
}

// sameReal holds numbers against each other as values: one nan, two zeros.
func sameReal(a, b float64) bool {
	if math.IsNaN(a) || math.IsNaN(b) {
		return math.IsNaN(a) && math.IsNaN(b)
	}
	return math.Float64bits(a) == math.Float64bits(b)
}

// edgeReals holds the numbers that are named, and those beside them, with both signs.
func edgeReals() []float64 {
	out := []float64{nan, math.Float64frombits(0xfff8000000000123), math.Float64frombits(0x7ff0000000000001)}
	for _, x := range []float64{
		0, inf, smallestReal, 2 * smallestReal, 3 * smallestReal, greatestBelow, smallestNormal, math.Nextafter(smallestNormal, 1), 2 * smallestNormal,
		greatestReal, math.Nextafter(greatestReal, 0), greatestReal / 2, 0x1p1023, 0x1p971, 0x1p970, 0x1p512, 0x1p-537, 0x1p-512,
		0.1, 0.2, 0.3, 0.5, 1, 1.5, 2, 2.5, 3, 7, 8, 10, 1e22, 1e23, math.Pi, math.Nextafter(1, 0), math.Nextafter(1, 2),
		allDigits, allDigits - 1, 1 << 53, 1<<53 + 2, 1 << 52, 1<<52 - 0.5, 1<<52 + 1, 1 << 54, allDigits * 0x1p-1074, allDigits * 0x1p-60,
		32766, 32767, 32767.75, math.Nextafter(32768, 0), 32768, math.Nextafter(32768, 40000), 32768.75, math.Nextafter(32769, 0), 32769, 65535, 65536, 1 << 31, 1 << 32, 1 << 63, 1 << 64,
	} {
		out = append(out, x, -x)
	}
	return out
}

// someReals holds the edges and many numbers of every size.
func someReals(many int) []float64 {
	rnd := rand.New(rand.NewSource(4))
	out := edgeReals()
	for range many {
		out = append(out,
			math.Float64frombits(rnd.Uint64()),
			math.Ldexp(float64(rnd.Intn(64)), rnd.Intn(2140)-1080),
			math.Float64frombits(rnd.Uint64()&(1<<52-1)),
			rnd.NormFloat64(),
			float64(rnd.Intn(1<<18)-1<<17)/4)
	}
	return out
}

var edgeWholes = []int16{-32768, -32767, -32766, -16385, -16384, -16383, -257, -256, -255, -182, -181, -10, -7, -3, -2, -1, 0, 1, 2, 3, 7, 10, 181, 182, 255, 256, 257, 16383, 16384, 16385, 32766, 32767}

// eachWholePair calls with every edge against every whole number, on both sides.
func eachWholePair(call func(a, b int16)) {
	for _, a := range edgeWholes {
		for n := math.MinInt16; n <= math.MaxInt16; n++ {
			call(a, int16(n))
			call(int16(n), a)
		}
	}
}

func eachRealPair(call func(a, b float64)) {
	edges := edgeReals()
	for _, a := range edges {
		for _, b := range edges {
			call(a, b)
		}
	}
	many := someReals(20000)
	for i, a := range many {
		b := many[(i*7919+13)%len(many)]
		call(a, b)
		call(b, a)
		call(a, a)
		call(a, math.Nextafter(a, b))
	}
}

func TestNumberConstants(t *testing.T) {
	for i, op := range []int{impl.CmpLess, impl.CmpMost, impl.CmpSame, impl.CmpOther, impl.CmpLeast, impl.CmpMore} {
		if op != i+1 {
			t.Errorf("test %d is %d", i+1, op)
		}
	}
	for i, op := range []int{impl.CalcAdd, impl.CalcSub, impl.CalcMul, impl.CalcDiv, impl.CalcRem} {
		if op != i+1 {
			t.Errorf("reckoning %d is %d", i+1, op)
		}
	}
}

func TestCmpTable(t *testing.T) {
	for _, row := range cmpRows {
		if text, flip, swap := impl.CmpText(row.op), impl.CmpFlip(row.op), impl.CmpSwap(row.op); text != row.text || flip != row.flip || swap != row.swap {
			t.Errorf("op %d: %q, %d, %d", row.op, text, flip, swap)
		}
	}
	for _, op := range farOps {
		if text, flip, swap := impl.CmpText(op), impl.CmpFlip(op), impl.CmpSwap(op); text != "" || flip != 0 || swap != 0 {
			t.Errorf("op %d: %q, %d, %d", op, text, flip, swap)
		}
	}
}

// Promises 3 and 4, of whole numbers.
func TestWholeCmp(t *testing.T) {
	eachWholePair(func(a, b int16) {
		side := 1
		if d := int(a) - int(b); d != 0 {
			side = 1 + d/max(d, -d)
		}
		for _, row := range cmpRows {
			got := impl.WholeCmp(row.op, a, b)
			if got != row.holds[side] {
				t.Fatalf("%d %s %d is %v", a, row.text, b, got)
			}
			if impl.WholeCmp(impl.CmpFlip(row.op), a, b) == got {
				t.Fatalf("%d %s %d is %v, and so is what it is flipped to", a, row.text, b, got)
			}
			if impl.WholeCmp(impl.CmpSwap(row.op), b, a) != got {
				t.Fatalf("%d %s %d is %v, and not with the sides changed", a, row.text, b, got)
			}
		}
	})
}

func TestCmpOfNoTest(t *testing.T) {
	for _, op := range farOps {
		for _, a := range edgeWholes {
			for _, b := range edgeWholes {
				if impl.WholeCmp(op, a, b) {
					t.Fatalf("op %d of %d and %d is true", op, a, b)
				}
			}
		}
		for _, a := range edgeReals() {
			for _, b := range edgeReals() {
				if impl.RealCmp(op, a, b) {
					t.Fatalf("op %d of %v and %v is true", op, a, b)
				}
			}
		}
	}
}

// realOrder places each real number among all others: by its bits, not by the tests of the language; both zeros are at one place.
func realOrder(x float64) int64 {
	n := int64(math.Float64bits(x))
	if n < 0 {
		return math.MinInt64 - n
	}
	return n
}

// Promises 3 and 4, of real numbers.
func TestRealCmp(t *testing.T) {
	eachRealPair(func(a, b float64) {
		withNan := math.IsNaN(a) || math.IsNaN(b)
		side := 1
		if realOrder(a) < realOrder(b) {
			side = 0
		} else if realOrder(a) > realOrder(b) {
			side = 2
		}
		for _, row := range cmpRows {
			want := row.holds[side]
			if withNan {
				want = row.op == impl.CmpOther
			}
			got := impl.RealCmp(row.op, a, b)
			if got != want {
				t.Fatalf("%v %s %v is %v", a, row.text, b, got)
			}
			if !withNan && impl.RealCmp(impl.CmpFlip(row.op), a, b) == got {
				t.Fatalf("%v %s %v is %v, and so is what it is flipped to", a, row.text, b, got)
			}
			if impl.RealCmp(impl.CmpSwap(row.op), b, a) != got {
				t.Fatalf("%v %s %v is %v, and not with the sides changed", a, row.text, b, got)
			}
		}
	})
}

// countRound brings a number to 16 bits by whole turns of 65536.
func countRound(n int) int16 {
	n = (n + 32768) % 65536
	if n < 0 {
		n += 65536
	}
	return int16(n - 32768)
}

// cutDivision divides without the signs, and puts them back.
func cutDivision(a, b int) (int, int) {
	count, left := max(a, -a)/max(b, -b), max(a, -a)%max(b, -b)
	if (a < 0) != (b < 0) {
		count = -count
	}
	if a < 0 {
		left = -left
	}
	return count, left
}

func checkWholeCalc(t *testing.T, op int, a, b, want int16, wantOk bool) int16 {
	got, ok := impl.WholeCalc(op, a, b)
	if got != want || ok != wantOk {
		t.Fatalf("op %d of %d and %d is %d, %v; want %d, %v", op, a, b, got, ok, want, wantOk)
	}
	return got
}

// Promise 5.
func TestWholeCalc(t *testing.T) {
	eachWholePair(func(a, b int16) {
		sum := checkWholeCalc(t, impl.CalcAdd, a, b, countRound(int(a)+int(b)), true)
		checkWholeCalc(t, impl.CalcSub, sum, b, a, true)
		diff := checkWholeCalc(t, impl.CalcSub, a, b, countRound(int(a)-int(b)), true)
		checkWholeCalc(t, impl.CalcAdd, diff, b, a, true)
		checkWholeCalc(t, impl.CalcMul, a, b, countRound(int(a)*int(b)), true)
		if b == 0 {
			checkWholeCalc(t, impl.CalcDiv, a, b, 0, false)
			checkWholeCalc(t, impl.CalcRem, a, b, 0, false)
			return
		}
		count, left := cutDivision(int(a), int(b))
		div := checkWholeCalc(t, impl.CalcDiv, a, b, countRound(count), true)
		rem := checkWholeCalc(t, impl.CalcRem, a, b, int16(left), true)
		times, _ := impl.WholeCalc(impl.CalcMul, div, b)
		checkWholeCalc(t, impl.CalcAdd, times, rem, a, true)
	})
}

func TestWholeCalcEdges(t *testing.T) {
	for _, c := range []struct {
		op         int
		a, b, want int16
		ok         bool
	}{
		{impl.CalcAdd, 32767, 1, -32768, true},
		{impl.CalcAdd, -32768, -1, 32767, true},
		{impl.CalcAdd, -32768, -32768, 0, true},
		{impl.CalcSub, -32768, 1, 32767, true},
		{impl.CalcSub, 32767, -1, -32768, true},
		{impl.CalcSub, 0, -32768, -32768, true},
		{impl.CalcMul, -32768, -1, -32768, true},
		{impl.CalcMul, -32768, -32768, 0, true},
		{impl.CalcMul, 300, 300, 24464, true},
		{impl.CalcMul, 256, 256, 0, true},
		{impl.CalcDiv, -32768, -1, -32768, true},
		{impl.CalcDiv, -32768, 1, -32768, true},
		{impl.CalcDiv, -7, 2, -3, true},
		{impl.CalcDiv, 7, -2, -3, true},
		{impl.CalcDiv, -7, -2, 3, true},
		{impl.CalcDiv, 1, 0, 0, false},
		{impl.CalcDiv, 0, 0, 0, false},
		{impl.CalcDiv, -32768, 0, 0, false},
		{impl.CalcRem, -32768, -1, 0, true},
		{impl.CalcRem, -7, 3, -1, true},
		{impl.CalcRem, 7, -3, 1, true},
		{impl.CalcRem, -7, -3, -1, true},
		{impl.CalcRem, 32767, -32768, 32767, true},
		{impl.CalcRem, -32768, 32767, -1, true},
		{impl.CalcRem, 5, 0, 0, false},
		{impl.CalcRem, -32768, 0, 0, false},
		{0, 6, 3, 0, false},
		{6, 6, 3, 0, false},
	} {
		checkWholeCalc(t, c.op, c.a, c.b, c.want, c.ok)
	}
	for _, op := range append(farOps, 6) {
		for _, a := range edgeWholes {
			for _, b := range edgeWholes {
				checkWholeCalc(t, op, a, b, 0, false)
			}
		}
	}
}

// exactCalc reckons with fractions and rounds once; a, b and what comes out are finite and not 0.
func exactCalc(op int, a, b float64) (float64, bool) {
	x, y := new(big.Rat).SetFloat64(a), new(big.Rat).SetFloat64(b)
	if x == nil || y == nil || x.Sign() == 0 || y.Sign() == 0 {
		return 0, false
	}
	z := new(big.Rat)
	switch op {
	case impl.CalcAdd:
		z.Add(x, y)
	case impl.CalcSub:
		z.Sub(x, y)
	case impl.CalcMul:
		z.Mul(x, y)
	case impl.CalcDiv:
		z.Quo(x, y)
	}
	near, _ := z.Float64()
	return near, z.Sign() != 0
}

func TestRealCalcRounds(t *testing.T) {
	check := func(a, b float64) {
		for op := impl.CalcAdd; op <= impl.CalcDiv; op++ {
			if want, ok := exactCalc(op, a, b); ok && !sameReal(impl.RealCalc(op, a, b), want) {
				t.Fatalf("op %d of %v and %v is %v; want %v", op, a, b, impl.RealCalc(op, a, b), want)
			}
		}
	}
	edges := edgeReals()
	for _, a := range edges {
		for _, b := range edges {
			check(a, b)
		}
	}
	many := someReals(2000)
	for i, a := range many {
		check(a, many[(i*7919+13)%len(many)])
	}
}

// What IEEE 754 gives where a number is 0, infinite or nan, or goes out of range; and ties.
func TestRealCalcEdges(t *testing.T) {
	for _, c := range []struct {
		op         int
		a, b, want float64
	}{
		{impl.CalcAdd, 0, 0, 0},
		{impl.CalcAdd, 0, minusZero, 0},
		{impl.CalcAdd, minusZero, 0, 0},
		{impl.CalcAdd, minusZero, minusZero, minusZero},
		{impl.CalcAdd, 1, -1, 0},
		{impl.CalcAdd, -1, 1, 0},
		{impl.CalcAdd, minusZero, smallestReal, smallestReal},
		{impl.CalcAdd, inf, inf, inf},
		{impl.CalcAdd, -inf, -inf, -inf},
		{impl.CalcAdd, inf, -inf, nan},
		{impl.CalcAdd, -inf, inf, nan},
		{impl.CalcAdd, inf, -greatestReal, inf},
		{impl.CalcAdd, greatestReal, greatestReal, inf},
		{impl.CalcAdd, greatestReal, 0x1p970, inf},
		{impl.CalcAdd, greatestReal, 0x1p969, greatestReal},
		{impl.CalcAdd, 1 << 53, 1, 1 << 53},
		{impl.CalcAdd, 1<<53 + 2, 1, 1<<53 + 4},
		{impl.CalcAdd, 0.1, 0.2, 0.30000000000000004},
		{impl.CalcSub, 0, 0, 0},
		{impl.CalcSub, minusZero, 0, minusZero},
		{impl.CalcSub, 0, minusZero, 0},
		{impl.CalcSub, minusZero, minusZero, 0},
		{impl.CalcSub, 1, 1, 0},
		{impl.CalcSub, inf, inf, nan},
		{impl.CalcSub, -inf, -inf, nan},
		{impl.CalcSub, inf, -inf, inf},
		{impl.CalcSub, smallestNormal, smallestReal, greatestBelow},
		{impl.CalcMul, 0, 0, 0},
		{impl.CalcMul, 0, minusZero, minusZero},
		{impl.CalcMul, minusZero, minusZero, 0},
		{impl.CalcMul, -1, 0, minusZero},
		{impl.CalcMul, -1, minusZero, 0},
		{impl.CalcMul, inf, 0, nan},
		{impl.CalcMul, minusZero, -inf, nan},
		{impl.CalcMul, inf, -2, -inf},
		{impl.CalcMul, -inf, -inf, inf},
		{impl.CalcMul, greatestReal, 2, inf},
		{impl.CalcMul, greatestReal, -2, -inf},
		{impl.CalcMul, smallestReal, 0.5, 0},
		{impl.CalcMul, -smallestReal, 0.5, minusZero},
		{impl.CalcMul, 3 * smallestReal, 0.5, 2 * smallestReal},
		{impl.CalcMul, smallestReal, 0.75, smallestReal},
		{impl.CalcDiv, 1, 0, inf},
		{impl.CalcDiv, -1, 0, -inf},
		{impl.CalcDiv, 1, minusZero, -inf},
		{impl.CalcDiv, -1, minusZero, inf},
		{impl.CalcDiv, inf, 0, inf},
		{impl.CalcDiv, inf, minusZero, -inf},
		{impl.CalcDiv, 0, 0, nan},
		{impl.CalcDiv, minusZero, 0, nan},
		{impl.CalcDiv, inf, inf, nan},
		{impl.CalcDiv, inf, -inf, nan},
		{impl.CalcDiv, 0, 5, 0},
		{impl.CalcDiv, 0, -5, minusZero},
		{impl.CalcDiv, minusZero, 5, minusZero},
		{impl.CalcDiv, minusZero, -5, 0},
		{impl.CalcDiv, 5, inf, 0},
		{impl.CalcDiv, -5, inf, minusZero},
		{impl.CalcDiv, 5, -inf, minusZero},
		{impl.CalcDiv, 0, inf, 0},
		{impl.CalcDiv, -inf, 5, -inf},
		{impl.CalcDiv, 1, 10, 0.1},
		{impl.CalcDiv, smallestReal, 2, 0},
		{impl.CalcDiv, greatestReal, 0.5, inf},
	} {
		if got := impl.RealCalc(c.op, c.a, c.b); !sameReal(got, c.want) {
			t.Errorf("op %d of %v and %v is %v; want %v", c.op, c.a, c.b, got, c.want)
		}
	}
}

func TestRealCalcNan(t *testing.T) {
	for _, x := range edgeReals() {
		for op := impl.CalcAdd; op <= impl.CalcRem; op++ {
			for _, y := range []float64{impl.RealCalc(op, nan, x), impl.RealCalc(op, x, nan)} {
				if !sameReal(y, nan) {
					t.Errorf("op %d of %v and nan is %v", op, x, y)
				}
			}
		}
		for _, op := range append(farOps, impl.CalcRem, 6) {
			for _, b := range edgeReals() {
				if y := impl.RealCalc(op, x, b); !sameReal(y, nan) {
					t.Errorf("op %d of %v and %v is %v", op, x, b, y)
				}
			}
		}
	}
}

func TestRealArg(t *testing.T) {
	for _, a := range goodArgs() {
		want := 0.0
		switch a.Kind {
		case impl.DevDec:
			ten := new(big.Int).Exp(big.NewInt(10), big.NewInt(int64(a.P)), nil)
			want, _ = new(big.Rat).SetFrac(big.NewInt(int64(a.N)), ten).Float64()
		case impl.DevWord:
			want = []float64{nan, inf, -inf, minusZero}[a.N]
		}
		if x := impl.RealArg(a); !sameReal(x, want) {
			t.Fatalf("RealArg(%v) is %v; want %v", a, x, want)
		}
	}
	for _, a := range badArgs() {
		if x := impl.RealArg(a); !sameReal(x, 0) {
			t.Fatalf("RealArg(%v) is %v", a, x)
		}
	}
}

func TestRealArgEdges(t *testing.T) {
	for _, c := range []struct {
		kind, n, p int
		want       float64
	}{
		{impl.DevDec, 0, 1, 0},
		{impl.DevDec, 1, 1, 0.1},
		{impl.DevDec, -1, 1, -0.1},
		{impl.DevDec, -25, 1, -2.5},
		{impl.DevDec, 10, 1, 1},
		{impl.DevDec, 1, 2, 0.01},
		{impl.DevDec, 1, 3, 0.001},
		{impl.DevDec, 1, 4, 0.0001},
		{impl.DevDec, 1, 5, 0.00001},
		{impl.DevDec, 1, 6, 0.000001},
		{impl.DevDec, 999999999, 1, 99999999.9},
		{impl.DevDec, 999999999, 2, 9999999.99},
		{impl.DevDec, 999999999, 3, 999999.999},
		{impl.DevDec, 999999999, 4, 99999.9999},
		{impl.DevDec, 999999999, 5, 9999.99999},
		{impl.DevDec, 999999999, 6, 999.999999},
		{impl.DevDec, -999999999, 6, -999.999999},
		{impl.DevDec, 1000000000, 1, 0},
		{impl.DevDec, -1000000000, 1, 0},
		{impl.DevDec, 5, 0, 0},
		{impl.DevDec, 5, 7, 0},
		{impl.DevDec, 50, 2, 0},
		{impl.DevWord, 0, 0, nan},
		{impl.DevWord, 1, 0, inf},
		{impl.DevWord, 2, 0, -inf},
		{impl.DevWord, 3, 0, minusZero},
		{impl.DevWord, 4, 0, 0},
		{impl.DevWord, -1, 0, 0},
		{impl.DevWord, 3, 1, 0},
		{impl.DevInt, 5, 0, 0},
		{impl.DevR, 3, 0, 0},
		{impl.DevT, 3, 0, 0},
		{0, 5, 1, 0},
		{14, 5, 1, 0},
	} {
		if x := impl.RealArg(impl.DevArg{Kind: c.kind, N: c.n, P: c.p}); !sameReal(x, c.want) {
			t.Errorf("RealArg({%d %d %d}) is %v; want %v", c.kind, c.n, c.p, x, c.want)
		}
	}
}

// Promise 7: in the order of the decimal numbers, as counts of the last of six digits behind the point.
func TestRealArgKeepsOrder(t *testing.T) {
	type placed struct {
		a     impl.DevArg
		count int
	}
	var all []placed
	for _, a := range goodArgs() {
		if a.Kind == impl.DevDec {
			count := a.N
			for range 6 - a.P {
				count *= 10
			}
			all = append(all, placed{a, count})
		}
	}
	sort.Slice(all, func(i, j int) bool { return all[i].count < all[j].count })
	for i := 1; i < len(all); i++ {
		x, y := impl.RealArg(all[i-1].a), impl.RealArg(all[i].a)
		if !(x <= y) || all[i-1].count == all[i].count && x != y {
			t.Fatalf("%v is %v and %v is %v", all[i-1].a, x, all[i].a, y)
		}
	}
}

// Promise 8, from whole numbers.
func TestRealWholeGivesBack(t *testing.T) {
	for n := math.MinInt16; n <= math.MaxInt16; n++ {
		if v, ok := impl.RealWhole(float64(n)); !ok || int(v) != n {
			t.Fatalf("RealWhole(%d) is %d, %v", n, v, ok)
		}
	}
}

// Promise 8, from real numbers.
func TestRealWholeCuts(t *testing.T) {
	reals := someReals(50000)
	for n := -33000; n <= 33000; n++ {
		reals = append(reals, float64(n), float64(n)+0.25, float64(n)+0.5, float64(n)+0.75, math.Nextafter(float64(n), -inf), math.Nextafter(float64(n), inf))
	}
	for _, x := range reals {
		v, ok := impl.RealWhole(x)
		if wantOk := math.Trunc(x) >= -32768 && math.Trunc(x) <= 32767; ok != wantOk {
			t.Fatalf("RealWhole(%v) is %d, %v", x, v, ok)
		}
		if !ok && v != 0 {
			t.Fatalf("RealWhole(%v) is %d, false", x, v)
		}
		if far := math.Abs(x - float64(v)); ok && (far >= 1 || math.Abs(float64(v)) > math.Abs(x) || v != 0 && (v < 0) != (x < 0)) {
			t.Fatalf("RealWhole(%v) is %d", x, v)
		}
	}
}

func TestRealWholeEdges(t *testing.T) {
	for _, c := range []struct {
		x    float64
		want int16
		ok   bool
	}{
		{0, 0, true},
		{minusZero, 0, true},
		{0.1, 0, true},
		{-0.1, 0, true},
		{smallestReal, 0, true},
		{-smallestReal, 0, true},
		{math.Nextafter(1, 0), 0, true},
		{-math.Nextafter(1, 0), 0, true},
		{1.5, 1, true},
		{-1.5, -1, true},
		{32767, 32767, true},
		{32767.75, 32767, true},
		{math.Nextafter(32768, 0), 32767, true},
		{32768, 0, false},
		{32768.75, 0, false},
		{-32768, -32768, true},
		{-32768.75, -32768, true},
		{math.Nextafter(-32769, 0), -32768, true},
		{-32769, 0, false},
		{-32769.75, 0, false},
		{65536, 0, false},
		{65537, 0, false},
		{-65536, 0, false},
		{1 << 32, 0, false},
		{1 << 63, 0, false},
		{-1 << 63, 0, false},
		{greatestReal, 0, false},
		{-greatestReal, 0, false},
		{inf, 0, false},
		{-inf, 0, false},
		{nan, 0, false},
	} {
		if v, ok := impl.RealWhole(c.x); v != c.want || ok != c.ok {
			t.Errorf("RealWhole(%v) is %d, %v; want %d, %v", c.x, v, ok, c.want, c.ok)
		}
	}
}

// wantRealText takes a number apart by its bits.
func wantRealText(x float64) string {
	sign := ""
	if math.Signbit(x) {
		sign = "-"
	}
	switch {
	case math.IsNaN(x):
		return "nan"
	case math.IsInf(x, 0):
		return sign + "inf"
	case x == 0:
		return sign + "0"
	}
	all := math.Float64bits(x)
	n, e := all&(1<<52-1), int(all>>52&0x7ff)
	if e > 0 {
		n |= 1 << 52
	} else {
		e = 1
	}
	zeros := bits.TrailingZeros64(n)
	return fmt.Sprintf("%s%d*2^%d", sign, n>>zeros, e-1075+zeros)
}

var realForm = regexp.MustCompile(`\A(-?)([1-9][0-9]{0,15})\*2\^(0|-?[1-9][0-9]{0,3})\z`)

// wantRealRead reads a text by its form, by other means than the program.
func wantRealRead(text string) (float64, bool) {
	switch text {
	case "nan":
		return nan, true
	case "inf":
		return inf, true
	case "-inf":
		return -inf, true
	case "0":
		return 0, true
	case "-0":
		return minusZero, true
	}
	m := realForm.FindStringSubmatch(text)
	if m == nil {
		return 0, false
	}
	n, _ := strconv.ParseUint(m[2], 10, 64)
	e, _ := strconv.Atoi(m[3])
	if n%2 == 0 || n >= 1<<53 || e < -1074 || bits.Len64(n)+e > 1024 {
		return 0, false
	}
	x := math.Ldexp(float64(n), e)
	if m[1] == "-" {
		x = -x
	}
	return x, true
}

// checkRealRead holds what RealRead answers against the form, and against promise 6.
func checkRealRead(t *testing.T, text string) {
	t.Helper()
	x, ok := impl.RealRead(text)
	if want, wantOk := wantRealRead(text); !sameReal(x, want) || ok != wantOk {
		t.Fatalf("RealRead(%.60q) is %v, %v; want %v, %v", text, x, ok, want, wantOk)
	}
	if ok && impl.RealText(x) != text {
		t.Fatalf("RealRead(%.60q) is %v, written %q", text, x, impl.RealText(x))
	}
}

// Promise 6, from numbers.
func TestRealTextIsRead(t *testing.T) {
	reals := someReals(30000)
	for e := -1074; e <= 1023; e++ {
		x := math.Ldexp(1, e)
		reals = append(reals, x, -x, math.Nextafter(x, 0), math.Nextafter(x, inf))
	}
	for n := range 5000 {
		reals = append(reals, float64(n), -float64(n)/8, float64(n)*smallestReal, float64(n)/10)
	}
	seen := map[string]float64{}
	for _, x := range reals {
		text := impl.RealText(x)
		if want := wantRealText(x); text != want {
			t.Fatalf("RealText(%v) is %q; want %q", x, text, want)
		}
		if y, ok := impl.RealRead(text); !ok || !sameReal(x, y) {
			t.Fatalf("RealRead(%q) is %v, %v; want %v", text, y, ok, x)
		}
		if y, ok := seen[text]; ok && !sameReal(x, y) {
			t.Fatalf("%v and %v are both %q", x, y, text)
		}
		seen[text] = x
	}
}

func TestRealTextEdges(t *testing.T) {
	for _, c := range []struct {
		x    float64
		text string
	}{
		{nan, "nan"},
		{math.Copysign(nan, -1), "nan"},
		{inf, "inf"},
		{-inf, "-inf"},
		{0, "0"},
		{minusZero, "-0"},
		{1, "1*2^0"},
		{-1, "-1*2^0"},
		{2, "1*2^1"},
		{3, "3*2^0"},
		{2.5, "5*2^-1"},
		{-8, "-1*2^3"},
		{0.1, "3602879701896397*2^-55"},
		{-0.1, "-3602879701896397*2^-55"},
		{smallestReal, "1*2^-1074"},
		{-smallestReal, "-1*2^-1074"},
		{3 * smallestReal, "3*2^-1074"},
		{greatestBelow, "4503599627370495*2^-1074"},
		{smallestNormal, "1*2^-1022"},
		{math.Nextafter(smallestNormal, 1), "4503599627370497*2^-1074"},
		{greatestReal, "9007199254740991*2^971"},
		{-greatestReal, "-9007199254740991*2^971"},
		{0x1p1023, "1*2^1023"},
		{1 << 52, "1*2^52"},
		{1<<52 + 1, "4503599627370497*2^0"},
		{1<<52 - 0.5, "9007199254740991*2^-1"},
		{allDigits, "9007199254740991*2^0"},
		{1 << 53, "1*2^53"},
		{1<<53 + 2, "4503599627370497*2^1"},
		{allDigits * 0x1p-1074, "9007199254740991*2^-1074"},
	} {
		if text := impl.RealText(c.x); text != c.text {
			t.Errorf("RealText(%v) is %q; want %q", c.x, text, c.text)
		}
		if x, ok := impl.RealRead(c.text); !ok || !sameReal(x, c.x) {
			t.Errorf("RealRead(%q) is %v, %v; want %v", c.text, x, ok, c.x)
		}
	}
}

func TestRealReadRefuses(t *testing.T) {
	for _, text := range []string{
		"", " ", "-", "+", "*", "^", "*2^", "1", "-1", "1*", "1*2", "1*2^", "*2^0", "-*2^0", "1*2^-", "1*2^+", "2^0", "1^0", "1*3^0", "1*2*0", "1*2^0*2^0", "1*2^*2^0", "3 *2^0", "3* 2^0", "3*2^ 0", " 3*2^0", "3*2^0 ", "3*2^0\n", "3*2^0\x00", "3*2^0.0", "3.0*2^0", "3*2**0", "3x2^0", "3×2^0", "3*2^0x1", "0x3*2^0", "3*2^1_0", "1_1*2^0", "1e1*2^0", "３*2^0",
		"2*2^0", "4*2^-1", "-2*2^3", "10*2^0", "6*2^-1074", "9007199254740992*2^0", "2*2^-1074", "2*2^1022", "2*2^-1075",
		"0*2^0", "-0*2^0", "0*2^5", "0*2^-1074", "00", "-00", "+0", "0.0", "-0.0", "0x0", "--0", "0 ",
		"01*2^0", "-01*2^0", "001*2^0", "+1*2^0", "--1*2^0", "-+1*2^0", "1*2^00", "1*2^01", "1*2^+1", "1*2^-0", "1*2^-01", "1*2^--1", "1*2^-+1",
		"1*2^1024", "-1*2^1024", "3*2^1023", "5*2^1022", "9007199254740991*2^972", "4503599627370495*2^973", "1*2^-1075", "3*2^-1075", "-9007199254740991*2^-1075", "9007199254740991*2^-1126",
		"9007199254740993*2^0", "9007199254740995*2^-3", "18014398509481985*2^-1", "9223372036854775807*2^0", "9223372036854775809*2^0", "18446744073709551615*2^0", "18446744073709551617*2^0", "36893488147419103233*2^0", "-9223372036854775809*2^0", "-18446744073709551615*2^0",
		"1*2^9223372036854775807", "1*2^-9223372036854775808", "1*2^9223372036854775808", "1*2^18446744073709551616", "1*2^4294967296", "1*2^-4294967296", "1*2^65536", "1*2^2147483648",
		"NaN", "NAN", "Nan", "-nan", "+nan", "nan ", "nan*2^0", "Inf", "INF", "+inf", "--inf", "inf ", "infinity", "inf*2^0", "-Inf", "-inf*2^0",
		"\x00", "\xff", "\xff*2^0", "1\xff*2^0", "1*2^\xff", "1*2^0\xff", "\xc0\xb1*2^0", "\ufeff1*2^0", "é",
	} {
		if x, ok := impl.RealRead(text); ok || !sameReal(x, 0) {
			t.Errorf("RealRead(%q) is %v, %v", text, x, ok)
		}
		checkRealRead(t, text)
	}
}

// Every E with the least and the greatest N that may stand with it, and one beyond at both ends.
func TestRealReadEachPower(t *testing.T) {
	for e := -1200; e <= 1200; e++ {
		for _, n := range []int{1, 2, 3, 5, 1<<52 - 1, 1 << 52, 1<<52 + 1, 1<<53 - 1, 1 << 53, 1<<53 + 1} {
			for _, sign := range []string{"", "-", "+"} {
				checkRealRead(t, fmt.Sprintf("%s%d*2^%d", sign, n, e))
				checkRealRead(t, fmt.Sprintf("%s0%d*2^%d", sign, n, e))
				checkRealRead(t, fmt.Sprintf("%s%d*2^0%d", sign, n, e))
			}
		}
	}
}

func TestRealReadLongTexts(t *testing.T) {
	for _, piece := range []string{"0", "1", "9", "-", "*", "*2^", "1*2^0", "nan", "inf", " ", "\xff", "\x00", "é"} {
		for _, times := range []int{30, 1000, 300000} {
			for _, head := range []string{"", "1", "-", "1*2^", "1*2^-", "-1*2^1", "nan", "-0", "inf"} {
				for _, tail := range []string{"", "1", "*2^0", "1*2^0"} {
					text := head + strings.Repeat(piece, times) + tail
					if x, ok := impl.RealRead(text); ok || !sameReal(x, 0) {
						t.Errorf("RealRead(%q, %d of %q, %q) is %v, %v", head, times, piece, tail, x, ok)
					}
				}
			}
		}
	}
}

// Promise 6, from texts: all the short ones of these letters, alone and as N and as E.
func TestRealReadAllShortTexts(t *testing.T) {
	letters := []string{"0", "1", "2", "3", "-", "+", "*", "^", "n", "\xff"}
	texts := []string{""}
	for range 5 {
		var longer []string
		for _, text := range texts {
			checkRealRead(t, text)
			checkRealRead(t, text+"*2^0")
			checkRealRead(t, text+"*2^-1074")
			checkRealRead(t, "1*2^"+text)
			checkRealRead(t, "-9007199254740991*2^"+text)
			for _, letter := range letters {
				longer = append(longer, text+letter)
			}
		}
		texts = longer
	}
}

// Promise 6, from texts: each good one with one byte put in, changed or left out.
func TestRealReadNearTexts(t *testing.T) {
	for _, x := range someReals(400) {
		text := wantRealText(x)
		for i := range len(text) {
			checkRealRead(t, text[:i]+text[i+1:])
			for _, letter := range []string{"0", "1", "2", "9", "-", "+", "*", "^", " ", "\x80"} {
				checkRealRead(t, text[:i]+letter+text[i:])
				checkRealRead(t, text[:i]+letter+text[i+1:])
			}
		}
		checkRealRead(t, text+"0")
		checkRealRead(t, text+"1")
		checkRealRead(t, text+"*2^0")
	}
}

func TestRealReadAnyBytes(t *testing.T) {
	rnd := rand.New(rand.NewSource(5))
	for range 50000 {
		text := make([]byte, rnd.Intn(14))
		for i := range text {
			text[i] = byte(rnd.Intn(256))
		}
		checkRealRead(t, string(text))
		checkRealRead(t, string(text)+"*2^1")
		checkRealRead(t, "1*2^"+string(text))
	}
}

func FuzzRealRead(f *testing.F) {
	for _, text := range []string{"", "nan", "-inf", "-0", "5*2^-1", "9007199254740991*2^971", "1*2^-1074", "\xff"} {
		f.Add(text)
	}
	f.Fuzz(checkRealRead)
}
