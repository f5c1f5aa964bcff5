package tests

import (
	"fmt"
	"math"
	"math/rand"
	"regexp"
	"strconv"
	"strings"
	"testing"

	"loop.example/stilhold/impl"
)

// devRow is a row of the table of kinds, written down here a second time, apart from the program.
type devRow struct {
	kind             int
	letter           string
	size             int
	bit, whole, real bool
}

var devRows = []devRow{
	{1, "X", 32, true, false, false},
	{2, "Y", 32, true, false, false},
	{3, "M", 64, true, false, false},
	{4, "S", 16, true, false, false},
	{5, "E", 32, false, false, false},
	{6, "G", 5, true, false, false},
	{7, "T", 16, true, true, false},
	{8, "C", 16, true, true, false},
	{9, "D", 32, false, true, false},
	{10, "R", 16, false, false, true},
	{11, "", 0, false, true, false},
	{12, "", 0, false, false, true},
	{13, "", 0, false, false, true},
}

var farInts = []int{math.MinInt, math.MinInt + 1, math.MinInt32, -1 << 16, -2, -1, 14, 15, 255, 256 + 1, 1 << 16, math.MaxInt32, math.MaxInt - 1, math.MaxInt}

// goodArgs holds operands that are ok: every one of every kind, but of decimal numbers the edges and many between.
func goodArgs() []impl.DevArg {
	var out []impl.DevArg
	for _, row := range devRows {
		for n := 0; n < row.size; n++ {
			out = append(out, impl.DevArg{Kind: row.kind, N: n})
		}
	}
	for n := -32768; n <= 32767; n++ {
		out = append(out, impl.DevArg{Kind: impl.DevInt, N: n})
	}
	for p := 1; p <= 6; p++ {
		for _, n := range decNumbers() {
			if p == 1 || n%10 != 0 {
				out = append(out, impl.DevArg{Kind: impl.DevDec, N: n, P: p})
			}
		}
	}
	for n := 0; n < 4; n++ {
		out = append(out, impl.DevArg{Kind: impl.DevWord, N: n})
	}
	return out
}

func decNumbers() []int {
	out := []int{0}
	for n := 1; n <= 2000; n++ {
		out = append(out, n, -n)
	}
	for ten := 10000; ten <= 1000000000; ten *= 10 {
		for _, n := range []int{ten - 10, ten - 9, ten - 1, ten, ten + 1, ten + 10} {
			if n <= 999999999 {
				out = append(out, n, -n)
			}
		}
	}
	rnd := rand.New(rand.NewSource(1))
	for range 2000 {
		out = append(out, rnd.Intn(2*999999999+1)-999999999)
	}
	return out
}

// badArgs holds operands that are not ok.
func badArgs() []impl.DevArg {
	var out []impl.DevArg
	for _, row := range devRows[:10] {
		for _, n := range []int{math.MinInt, math.MinInt32, -row.size, -1, row.size, row.size + 1, 256, 1 << 32, math.MaxInt} {
			out = append(out, impl.DevArg{Kind: row.kind, N: n})
		}
	}
	for _, n := range []int{math.MinInt, -65536, -32769, 32768, 65535, 65536, math.MaxInt} {
		out = append(out, impl.DevArg{Kind: impl.DevInt, N: n})
	}
	for _, n := range []int{math.MinInt, -1000000001, -1000000000, 1000000000, 1000000001, math.MaxInt} {
		for p := 1; p <= 6; p++ {
			out = append(out, impl.DevArg{Kind: impl.DevDec, N: n, P: p})
		}
	}
	for _, p := range []int{math.MinInt, -1, 0, 7, 8, math.MaxInt} {
		for _, n := range []int{-999999999, -1, 0, 1, 5, 999999999} {
			out = append(out, impl.DevArg{Kind: impl.DevDec, N: n, P: p})
		}
	}
	for p := 2; p <= 6; p++ {
		for _, n := range []int{0, 10, -10, 100, 1000000, -999999990, 999999990} {
			out = append(out, impl.DevArg{Kind: impl.DevDec, N: n, P: p})
		}
	}
	for _, n := range []int{math.MinInt, -1, 4, 5, math.MaxInt} {
		out = append(out, impl.DevArg{Kind: impl.DevWord, N: n})
	}
	for _, row := range devRows {
		for _, p := range []int{math.MinInt, -1, 1, 6, math.MaxInt} {
			if row.kind != impl.DevDec {
				out = append(out, impl.DevArg{Kind: row.kind, N: 1, P: p})
			}
		}
	}
	for _, kind := range append(farInts, 0) {
		for _, n := range []int{-1, 0, 1, 5} {
			for p := 0; p <= 1; p++ {
				out = append(out, impl.DevArg{Kind: kind, N: n, P: p})
			}
		}
	}
	return out
}

// wantDevText writes an operand that is ok by the document's words, by other means than the program.
func wantDevText(a impl.DevArg) string {
	switch a.Kind {
	case impl.DevInt:
		return fmt.Sprintf("%d", a.N)
	case impl.DevDec:
		ten := 1
		for range a.P {
			ten *= 10
		}
		if a.N < 0 {
			return fmt.Sprintf("-%d.%0*d", -a.N/ten, a.P, -a.N%ten)
		}
		return fmt.Sprintf("%d.%0*d", a.N/ten, a.P, a.N%ten)
	case impl.DevWord:
		return []string{"nan", "inf", "-inf", "-0.0"}[a.N]
	}
	return fmt.Sprintf("%s%d", devRows[a.Kind-1].letter, a.N)
}

var (
	devForm = regexp.MustCompile(`\A([XYMSEGTCDR])(0|[1-9][0-9]{0,2})\z`)
	intForm = regexp.MustCompile(`\A(0|-?[1-9][0-9]{0,5})\z`)
	decForm = regexp.MustCompile(`\A(-?)(0|[1-9][0-9]{0,8})\.([0-9]|[0-9]{1,5}[1-9])\z`)
)

// wantDevRead reads a text by its form, by other means than the program.
func wantDevRead(text string) (impl.DevArg, bool) {
	for n, word := range []string{"nan", "inf", "-inf", "-0.0"} {
		if text == word {
			return impl.DevArg{Kind: impl.DevWord, N: n}, true
		}
	}
	if m := devForm.FindStringSubmatch(text); m != nil {
		n, _ := strconv.Atoi(m[2])
		for _, row := range devRows {
			if row.letter == m[1] && n < row.size {
				return impl.DevArg{Kind: row.kind, N: n}, true
			}
		}
		return impl.DevArg{}, false
	}
	if intForm.MatchString(text) {
		if n, err := strconv.ParseInt(text, 10, 16); err == nil {
			return impl.DevArg{Kind: impl.DevInt, N: int(n)}, true
		}
		return impl.DevArg{}, false
	}
	if m := decForm.FindStringSubmatch(text); m != nil {
		n, _ := strconv.ParseInt(m[1]+m[2]+m[3], 10, 64)
		if n >= -999999999 && n <= 999999999 {
			return impl.DevArg{Kind: impl.DevDec, N: int(n), P: len(m[3])}, true
		}
	}
	return impl.DevArg{}, false
}

// checkDevRead holds what DevRead answers against the form, and against promise 1.
func checkDevRead(t *testing.T, text string) {
	t.Helper()
	a, ok := impl.DevRead(text)
	if want, wantOk := wantDevRead(text); a != want || ok != wantOk {
		t.Fatalf("DevRead(%.60q) is %v, %v; want %v, %v", text, a, ok, want, wantOk)
	}
	if ok && (!impl.DevOk(a) || impl.DevText(a) != text) {
		t.Fatalf("DevRead(%.60q) is %v, ok %v, written %q", text, a, impl.DevOk(a), impl.DevText(a))
	}
}

func TestDevConstants(t *testing.T) {
	got := []int{impl.DevX, impl.DevY, impl.DevM, impl.DevS, impl.DevE, impl.DevG, impl.DevT, impl.DevC, impl.DevD, impl.DevR, impl.DevInt, impl.DevDec, impl.DevWord}
	for i, kind := range got {
		if kind != i+1 {
			t.Errorf("kind %d is %d", i+1, kind)
		}
	}
	if impl.DevMaxInt != 32767 || impl.DevMaxDec != 999999999 || impl.DevMaxP != 6 {
		t.Error("bounds")
	}
}

func TestDevSizeAndLetter(t *testing.T) {
	for _, row := range devRows {
		if n, s := impl.DevSize(row.kind), impl.DevLetter(row.kind); n != row.size || s != row.letter {
			t.Errorf("kind %d: size %d, letter %q", row.kind, n, s)
		}
	}
	for _, kind := range append(farInts, 0) {
		if n, s := impl.DevSize(kind), impl.DevLetter(kind); n != 0 || s != "" {
			t.Errorf("kind %d: size %d, letter %q", kind, n, s)
		}
	}
}

// Promise 1, from operands.
func TestDevTextIsRead(t *testing.T) {
	seen := map[string]impl.DevArg{}
	for _, a := range goodArgs() {
		if !impl.DevOk(a) {
			t.Fatalf("%v is not ok", a)
		}
		text := impl.DevText(a)
		if want := wantDevText(a); text != want {
			t.Fatalf("DevText(%v) is %q; want %q", a, text, want)
		}
		if b, ok := impl.DevRead(text); !ok || b != a {
			t.Fatalf("DevRead(%q) is %v, %v; want %v", text, b, ok, a)
		}
		if b, ok := seen[text]; ok && b != a {
			t.Fatalf("%v and %v are both %q", a, b, text)
		}
		seen[text] = a
	}
}

func TestDevEdges(t *testing.T) {
	for _, c := range []struct {
		a    impl.DevArg
		text string
	}{
		{impl.DevArg{Kind: impl.DevX, N: 0}, "X0"},
		{impl.DevArg{Kind: impl.DevX, N: 31}, "X31"},
		{impl.DevArg{Kind: impl.DevM, N: 63}, "M63"},
		{impl.DevArg{Kind: impl.DevG, N: 4}, "G4"},
		{impl.DevArg{Kind: impl.DevR, N: 15}, "R15"},
		{impl.DevArg{Kind: impl.DevInt, N: 0}, "0"},
		{impl.DevArg{Kind: impl.DevInt, N: -1}, "-1"},
		{impl.DevArg{Kind: impl.DevInt, N: 32767}, "32767"},
		{impl.DevArg{Kind: impl.DevInt, N: -32768}, "-32768"},
		{impl.DevArg{Kind: impl.DevDec, N: 0, P: 1}, "0.0"},
		{impl.DevArg{Kind: impl.DevDec, N: 10, P: 1}, "1.0"},
		{impl.DevArg{Kind: impl.DevDec, N: -100, P: 1}, "-10.0"},
		{impl.DevArg{Kind: impl.DevDec, N: 1, P: 6}, "0.000001"},
		{impl.DevArg{Kind: impl.DevDec, N: -1, P: 1}, "-0.1"},
		{impl.DevArg{Kind: impl.DevDec, N: 101, P: 2}, "1.01"},
		{impl.DevArg{Kind: impl.DevDec, N: 100001, P: 6}, "0.100001"},
		{impl.DevArg{Kind: impl.DevDec, N: 1000001, P: 6}, "1.000001"},
		{impl.DevArg{Kind: impl.DevDec, N: 999999990, P: 1}, "99999999.0"},
		{impl.DevArg{Kind: impl.DevDec, N: 999999999, P: 1}, "99999999.9"},
		{impl.DevArg{Kind: impl.DevDec, N: -999999999, P: 6}, "-999.999999"},
		{impl.DevArg{Kind: impl.DevWord, N: 0}, "nan"},
		{impl.DevArg{Kind: impl.DevWord, N: 1}, "inf"},
		{impl.DevArg{Kind: impl.DevWord, N: 2}, "-inf"},
		{impl.DevArg{Kind: impl.DevWord, N: 3}, "-0.0"},
	} {
		if text := impl.DevText(c.a); text != c.text {
			t.Errorf("DevText(%v) is %q; want %q", c.a, text, c.text)
		}
		if a, ok := impl.DevRead(c.text); !ok || a != c.a {
			t.Errorf("DevRead(%q) is %v, %v; want %v", c.text, a, ok, c.a)
		}
	}
}

func TestDevNotOk(t *testing.T) {
	for _, a := range badArgs() {
		if impl.DevOk(a) || impl.DevText(a) != "" {
			t.Errorf("%v: ok %v, text %q", a, impl.DevOk(a), impl.DevText(a))
		}
		if impl.DevIsBit(a) || impl.DevIsWhole(a) || impl.DevIsReal(a) {
			t.Errorf("%v is not ok and is asked", a)
		}
	}
}

// Promise 2.
func TestDevAskedByKindAlone(t *testing.T) {
	for _, a := range goodArgs() {
		row := devRows[a.Kind-1]
		bit, whole, real := impl.DevIsBit(a), impl.DevIsWhole(a), impl.DevIsReal(a)
		if bit != row.bit || whole != row.whole || real != row.real {
			t.Fatalf("%v: bit %v, whole %v, real %v", a, bit, whole, real)
		}
		asked := 0
		for _, yes := range []bool{bit, whole, real} {
			if yes {
				asked++
			}
		}
		switch a.Kind {
		case impl.DevT, impl.DevC:
			if !bit || !whole || real {
				t.Fatalf("%v: bit %v, whole %v, real %v", a, bit, whole, real)
			}
		case impl.DevE:
			if asked != 0 {
				t.Fatalf("%v is asked", a)
			}
		default:
			if asked != 1 {
				t.Fatalf("%v is asked for %d", a, asked)
			}
		}
	}
}

func TestDevReadRefuses(t *testing.T) {
	for _, text := range []string{
		"", " ", "X", "X01", "X00", "X-1", "X+1", "X1.0", "X1 ", " X1", "x1", "XX1", "XY", "X1X", "Q1", "1X", "-X1", "X١",
		"+5", "-0", "00", "05", "-05", "--5", "5-", "-", "+", "32768", "-32769", "65536", "4294967296", "18446744073709551616", "0x10", "1_000", "1e3", "５",
		"0.50", "5.", ".5", ".", "-.", "-.5", "-5.", "0.00", "-0.00", "-0.10", "00.5", "01.5", "0.1234567", "0.0000001", "1.0000000", "0..5", "0.5.5", "0.-5", "+0.5", "1,5", "1.5e1",
		"100000000.0", "-100000000.0", "1000.000001", "1000000000.1", "18446744073709551617.5", "18446744073709551621.1",
		"NaN", "NAN", "nan0", "nan ", "-nan", "+inf", "Inf", "inf.", "--inf", "infinity", "-0.0 ", "+0.0", "-00.0", "--0.0",
		"\x00", "X1\x00", "X\x00", "5\n", "\xff", "X\xff", "5\xff", "\xff5", "\xc0\xb5", "\ufeff5", "\ufffd", "é",
	} {
		if a, ok := impl.DevRead(text); ok || a != (impl.DevArg{}) {
			t.Errorf("DevRead(%q) is %v, %v", text, a, ok)
		}
		checkDevRead(t, text)
	}
	for _, row := range devRows[:10] {
		for _, n := range []int{row.size, row.size + 1, 100, 256, 1 << 16, 1 << 32} {
			text := row.letter + strconv.Itoa(n)
			if a, ok := impl.DevRead(text); ok || a != (impl.DevArg{}) {
				t.Errorf("DevRead(%q) is %v, %v", text, a, ok)
			}
		}
	}
}

func TestDevReadLongTexts(t *testing.T) {
	for _, piece := range []string{"0", "1", "9", "X", "-", ".", "X1", "0.0", "nan", " ", "\xff", "\x00", "é"} {
		for _, times := range []int{20, 1000, 300000} {
			for _, head := range []string{"", "5", "-", "X", "0.", "1.", "-0.0", "inf"} {
				text := head + strings.Repeat(piece, times)
				if a, ok := impl.DevRead(text); ok || a != (impl.DevArg{}) {
					t.Errorf("DevRead(%q and %d of %q) is %v, %v", head, times, piece, a, ok)
				}
			}
		}
	}
}

// Promise 1, from texts: all the short ones of these letters.
func TestDevReadAllShortTexts(t *testing.T) {
	letters := []string{"X", "G", "T", "0", "1", "3", "-", ".", "+", "n", "\xff"}
	texts := []string{""}
	for range 5 {
		var longer []string
		for _, text := range texts {
			checkDevRead(t, text)
			for _, letter := range letters {
				longer = append(longer, text+letter)
			}
		}
		texts = longer
	}
	for _, text := range texts {
		checkDevRead(t, text)
	}
}

// Promise 1, from texts: each good one with one byte put in, changed or left out.
func TestDevReadNearTexts(t *testing.T) {
	rnd := rand.New(rand.NewSource(2))
	args := goodArgs()
	for range 3000 {
		text := wantDevText(args[rnd.Intn(len(args))])
		for i := range len(text) {
			checkDevRead(t, text[:i]+text[i+1:])
			for _, letter := range []string{"0", "1", "9", "-", ".", "X", "\x80"} {
				checkDevRead(t, text[:i]+letter+text[i:])
				checkDevRead(t, text[:i]+letter+text[i+1:])
			}
		}
		checkDevRead(t, text+"0")
		checkDevRead(t, text+".")
		checkDevRead(t, text+".0")
	}
}

func TestDevReadAnyBytes(t *testing.T) {
	rnd := rand.New(rand.NewSource(3))
	for range 50000 {
		text := make([]byte, rnd.Intn(14))
		for i := range text {
			text[i] = byte(rnd.Intn(256))
		}
		checkDevRead(t, string(text))
	}
}

func FuzzDevRead(f *testing.F) {
	for _, text := range []string{"", "X31", "-32768", "0.0", "-0.0", "99999999.9", "\xff"} {
		f.Add(text)
	}
	f.Fuzz(checkDevRead)
}
