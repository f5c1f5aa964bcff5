package tests

import (
	"fmt"
	"math"
	"math/big"
	"math/rand"
	"regexp"
	"strconv"
	"strings"
	"testing"

	"loop.example/stilhold/impl"
)

// memKey is a memory whose real numbers are told apart as values: their bits, but those of a nan.
type memKey struct {
	m     impl.Mem
	reals [16]uint64
}

func keyOf(m impl.Mem) memKey {
	k := memKey{m: m}
	for i, x := range m.R {
		k.reals[i] = math.Float64bits(nan)
		if !math.IsNaN(x) {
			k.reals[i] = math.Float64bits(x)
		}
	}
	k.m.R = [16]float64{}
	return k
}

// fullMem has everything in it, and of each thing the longest text.
func fullMem() impl.Mem {
	m := impl.Mem{X: math.MaxUint32, Y: math.MaxUint32, M: math.MaxUint64, S: math.MaxUint16, E: math.MaxUint32, Time: math.MaxUint32, Ran: true, Fault: true}
	for i := range 16 {
		m.T[i] = impl.MemTimer{Done: true, Count: 65535}
		m.C[i] = impl.MemCounter{Done: true, Last: true, Count: 65535}
		m.R[i] = -allDigits * 0x1p-1074
	}
	for i := range 32 {
		m.D[i] = -32768
	}
	return m
}

var (
	edgeCounts = []uint16{0, 1, 9, 10, 255, 256, 9999, 10000, 32766, 32767, 32768, 65534, 65535}
	edgeTimes  = []uint32{0, 1, 10, 499, 500, 501, 999, 1000, 1001, 1499, 1500, 1999, 2000, 65535, 65536, 1<<31 - 1, 1 << 31, math.MaxUint32 - 1, math.MaxUint32}
)

// randomMem has each thing in it with a chance of one in sparse.
func randomMem(rnd *rand.Rand, sparse int) impl.Mem {
	var m impl.Mem
	reals := edgeReals()
	in := func() bool { return rnd.Intn(sparse) == 0 }
	for i := range 64 {
		if in() {
			m.M |= 1 << i
		}
		for _, word := range []*uint32{&m.X, &m.Y, &m.E} {
			if in() && i < 32 {
				*word |= 1 << i
			}
		}
		if in() && i < 16 {
			m.S |= 1 << i
		}
		if in() && i < 32 {
			m.D[i] = edgeWholes[rnd.Intn(len(edgeWholes))]
		}
	}
	for i := range 16 {
		m.T[i].Done, m.C[i].Done, m.C[i].Last = in(), in(), in()
		if in() {
			m.T[i].Count = edgeCounts[rnd.Intn(len(edgeCounts))]
		}
		if in() {
			m.C[i].Count = edgeCounts[rnd.Intn(len(edgeCounts))]
		}
		if in() {
			m.R[i] = reals[rnd.Intn(len(reals))]
		}
	}
	if in() {
		m.Time = edgeTimes[rnd.Intn(len(edgeTimes))]
	}
	m.Ran, m.Fault = in(), in()
	return m
}

// smallChanges puts each part of a memory, one by one, to each of its edges.
func smallChanges(base impl.Mem) []impl.Mem {
	var out []impl.Mem
	with := func(change func(m *impl.Mem)) {
		m := base
		change(&m)
		out = append(out, m)
	}
	for i := range 64 {
		with(func(m *impl.Mem) { m.M ^= 1 << i })
	}
	for i := range 32 {
		with(func(m *impl.Mem) { m.X ^= 1 << i })
		with(func(m *impl.Mem) { m.Y ^= 1 << i })
		with(func(m *impl.Mem) { m.E ^= 1 << i })
		for _, v := range edgeWholes {
			with(func(m *impl.Mem) { m.D[i] = v })
		}
	}
	for i := range 16 {
		with(func(m *impl.Mem) { m.S ^= 1 << i })
		with(func(m *impl.Mem) { m.T[i].Done = !m.T[i].Done })
		with(func(m *impl.Mem) { m.C[i].Done = !m.C[i].Done })
		with(func(m *impl.Mem) { m.C[i].Last = !m.C[i].Last })
		for _, v := range edgeCounts {
			with(func(m *impl.Mem) { m.T[i].Count = v })
			with(func(m *impl.Mem) { m.C[i].Count = v })
		}
		for _, x := range edgeReals() {
			with(func(m *impl.Mem) { m.R[i] = x })
		}
	}
	for _, v := range edgeTimes {
		with(func(m *impl.Mem) { m.Time = v })
	}
	with(func(m *impl.Mem) { m.Ran = !m.Ran })
	with(func(m *impl.Mem) { m.Fault = !m.Fault })
	return out
}

// someMems holds the memory with nothing, the one with everything, each of these with one part changed, and many between.
func someMems() []impl.Mem {
	out := []impl.Mem{{}, fullMem()}
	out = append(out, smallChanges(impl.Mem{})...)
	out = append(out, smallChanges(fullMem())...)
	rnd := rand.New(rand.NewSource(5))
	for range 300 {
		for _, sparse := range []int{1, 2, 5, 40} {
			out = append(out, randomMem(rnd, sparse))
		}
	}
	return out
}

// fewMems is short enough for tests that ask each of them for everything.
func fewMems() []impl.Mem {
	out := []impl.Mem{{}, fullMem()}
	rnd := rand.New(rand.NewSource(6))
	for range 6 {
		out = append(out, randomMem(rnd, 2), randomMem(rnd, 5))
	}
	return out
}

// wantPlace counts round by numbers of any size, as N may be as small or as great as it can be.
func wantPlace(a impl.DevArg) int {
	size := 1
	if a.Kind >= 1 && a.Kind <= 10 {
		size = devRows[a.Kind-1].size
	}
	if a.Kind == 6 {
		size = 8
	}
	return int(new(big.Int).Mod(big.NewInt(int64(a.N)), big.NewInt(int64(size))).Int64())
}

func wantMemBit(m impl.Mem, a impl.DevArg) bool {
	place := wantPlace(a)
	// The lowest bit is the last of the digits.
	on := func(digits string) bool { return digits[len(digits)-1-place] == '1' }
	switch a.Kind {
	case 1:
		return on(fmt.Sprintf("%032b", m.X))
	case 2:
		return on(fmt.Sprintf("%032b", m.Y))
	case 3:
		return on(fmt.Sprintf("%064b", m.M))
	case 4:
		return on(fmt.Sprintf("%016b", m.S))
	case 5:
		return on(fmt.Sprintf("%032b", m.E))
	case 6:
		thousandth := fmt.Sprintf("%013d", m.Time)[10:]
		return [8]bool{0: true, 2: !m.Ran, 3: m.Fault, 4: thousandth >= "500"}[place]
	case 7:
		return m.T[place].Done
	case 8:
		return m.C[place].Done
	}
	return false
}

func wantMemWhole(m impl.Mem, a impl.DevArg) int16 {
	place := wantPlace(a)
	count := 0
	switch a.Kind {
	case 7:
		count = int(m.T[place].Count)
	case 8:
		count = int(m.C[place].Count)
	case 9:
		return m.D[place]
	case 11:
		round := new(big.Int).Mod(big.NewInt(int64(a.N)), big.NewInt(65536)).Int64()
		if round > 32767 {
			round -= 65536
		}
		return int16(round)
	}
	if count > 32767 {
		return 32767
	}
	return int16(count)
}

func wantMemReal(m impl.Mem, a impl.DevArg) float64 {
	if a.Kind == 10 {
		return m.R[wantPlace(a)]
	}
	switch {
	case a.Kind == 13 && a.P == 0 && a.N >= 0 && a.N <= 3:
		return []float64{nan, inf, -inf, minusZero}[a.N]
	case a.Kind == 12 && a.P >= 1 && a.P <= 6 && a.N >= -999999999 && a.N <= 999999999 && (a.P == 1 || a.N%10 != 0):
		ten := new(big.Int).Exp(big.NewInt(10), big.NewInt(int64(a.P)), nil)
		x, _ := new(big.Rat).SetFrac(big.NewInt(int64(a.N)), ten).Float64()
		return x
	}
	return 0
}

// memArgs holds operands of each kind and one beyond at both ends, with places from end to end, beyond and far off, and P 0 and not.
func memArgs() []impl.DevArg {
	var out []impl.DevArg
	kinds := []int{math.MinInt, -1, 14, 15, 256 + 3, 1<<32 + 9, math.MaxInt}
	for kind := range 14 {
		kinds = append(kinds, kind)
	}
	numbers := []int{math.MinInt, math.MinInt + 1, math.MinInt32, -1000000000, -65537, -65536, -32769, -32768, 127, 128, 255, 256, 32767, 32768, 65535, 65536, 98304, 999999999, 1000000000, math.MaxInt32, 1 << 32, math.MaxInt - 1, math.MaxInt}
	for n := -66; n <= 66; n++ {
		numbers = append(numbers, n)
	}
	for _, kind := range kinds {
		for _, n := range numbers {
			for _, p := range []int{0, 1, 2, 6, 7, -1, math.MinInt, math.MaxInt} {
				out = append(out, impl.DevArg{Kind: kind, N: n, P: p})
			}
		}
	}
	return out
}

func TestMemConstants(t *testing.T) {
	if impl.MemMaxText != 6000 {
		t.Error("bounds")
	}
}

func TestMemAsks(t *testing.T) {
	args := memArgs()
	for _, m := range fewMems() {
		for _, a := range args {
			if got := impl.MemBit(m, a); got != wantMemBit(m, a) {
				t.Fatalf("MemBit(%s, %v) is %v", wantMemText(m), a, got)
			}
			if got := impl.MemWhole(m, a); got != wantMemWhole(m, a) {
				t.Fatalf("MemWhole(%s, %v) is %d; want %d", wantMemText(m), a, got, wantMemWhole(m, a))
			}
			if got := impl.MemReal(m, a); !sameReal(got, wantMemReal(m, a)) {
				t.Fatalf("MemReal(%s, %v) is %v; want %v", wantMemText(m), a, got, wantMemReal(m, a))
			}
		}
	}
}

func TestMemBitsOnePerDevice(t *testing.T) {
	for kind := 1; kind <= 5; kind++ {
		for n := range devRows[kind-1].size {
			m, _ := impl.MemRead(devRows[kind-1].letter + strconv.Itoa(n))
			for other := 1; other <= 8; other++ {
				for place := range devRows[other-1].size {
					want := kind == other && n == place || other == 6 && (place == 0 || place == 2)
					if got := impl.MemBit(m, impl.DevArg{Kind: other, N: place}); got != want {
						t.Errorf("with kind %d, %d on, kind %d, %d is %v", kind, n, other, place, got)
					}
				}
			}
		}
	}
}

func TestMemGivenBits(t *testing.T) {
	late := map[uint32]bool{0: false, 1: false, 499: false, 500: true, 501: true, 999: true, 1000: false, 1001: false, 1499: false, 1500: true, 1999: true, 2000: false, 4294967000: false, 4294967294: false, 4294967295: false, 4294966999: true, 4294966500: true, 4294966499: false}
	for time, beat := range late {
		for i := range 4 {
			m := impl.Mem{Time: time, Ran: i&1 == 1, Fault: i&2 == 2}
			want := [8]bool{true, false, !m.Ran, m.Fault, beat, false, false, false}
			for n := -24; n < 24; n++ {
				if got := impl.MemBit(m, impl.DevArg{Kind: impl.DevG, N: n}); got != want[(n+24)%8] {
					t.Errorf("time %d, ran %v, fault %v: G%d is %v", time, m.Ran, m.Fault, n, got)
				}
			}
		}
	}
}

func TestMemCounts(t *testing.T) {
	for count, want := range map[uint16]int16{0: 0, 1: 1, 32766: 32766, 32767: 32767, 32768: 32767, 40000: 32767, 65535: 32767} {
		for n := range 16 {
			var m impl.Mem
			m.T[n].Count = count
			if got := impl.MemWhole(m, impl.DevArg{Kind: impl.DevT, N: n}); got != want {
				t.Errorf("T%d with %d is %d", n, count, got)
			}
			if got := impl.MemWhole(m, impl.DevArg{Kind: impl.DevC, N: n}); got != 0 {
				t.Errorf("C%d is %d", n, got)
			}
			m = impl.Mem{}
			m.C[n].Count = count
			if got := impl.MemWhole(m, impl.DevArg{Kind: impl.DevC, N: n}); got != want {
				t.Errorf("C%d with %d is %d", n, count, got)
			}
			if got := impl.MemWhole(m, impl.DevArg{Kind: impl.DevT, N: n}); got != 0 {
				t.Errorf("T%d is %d", n, got)
			}
		}
	}
}

func TestMemWholeOfNumbers(t *testing.T) {
	for n, want := range map[int]int16{0: 0, -1: -1, 32767: 32767, 32768: -32768, 65535: -1, 65536: 0, 98303: 32767, -32768: -32768, -32769: 32767, -65536: 0, math.MaxInt: -1, math.MinInt: 0, math.MinInt + 5: 5} {
		for _, p := range []int{0, 1, -1} {
			if got := impl.MemWhole(fullMem(), impl.DevArg{Kind: impl.DevInt, N: n, P: p}); got != want {
				t.Errorf("%d with P %d is %d; want %d", n, p, got, want)
			}
		}
	}
}

// wantPut is the memory with one device put, by setting the part by its name.
func wantPut(m impl.Mem, a impl.DevArg, on bool, v int16, x float64) (bit, whole, real impl.Mem) {
	bit, whole, real = m, m, m
	place := wantPlace(a)
	flip := wantMemBit(m, a) != on
	switch a.Kind {
	case 2:
		if flip {
			bit.Y ^= 1 << place
		}
	case 3:
		if flip {
			bit.M ^= 1 << place
		}
	case 4:
		if flip {
			bit.S ^= 1 << place
		}
	case 5:
		if flip {
			bit.E ^= 1 << place
		}
	case 9:
		whole.D[place] = v
	case 10:
		real.R[place] = x
	}
	return bit, whole, real
}

// Promise 9: the memory behind a put is the one with that device put, whole, for each operand; and m is as it was.
func TestMemPuts(t *testing.T) {
	args := memArgs()
	reals := edgeReals()
	for which, m := range fewMems() {
		before := keyOf(m)
		for i, a := range args {
			v, x := edgeWholes[(i+which)%len(edgeWholes)], reals[(i*7+which)%len(reals)]
			for _, on := range []bool{false, true} {
				bit, whole, real := wantPut(m, a, on, v, x)
				if got := impl.MemPut(m, a, on); keyOf(got) != keyOf(bit) {
					t.Fatalf("MemPut(%s, %v, %v) is %s", wantMemText(m), a, on, wantMemText(got))
				}
				if got := impl.MemPutWhole(m, a, v); keyOf(got) != keyOf(whole) {
					t.Fatalf("MemPutWhole(%s, %v, %d) is %s", wantMemText(m), a, v, wantMemText(got))
				}
				if got := impl.MemPutReal(m, a, x); keyOf(got) != keyOf(real) {
					t.Fatalf("MemPutReal(%s, %v, %v) is %s", wantMemText(m), a, x, wantMemText(got))
				}
			}
		}
		if keyOf(m) != before {
			t.Fatal("the argument is changed")
		}
	}
}

// Promise 9, by what the operands ask for: what was put is got, and every other device answers as before.
func TestMemPutIsGot(t *testing.T) {
	var devices []impl.DevArg
	for _, row := range devRows[:10] {
		for n := range row.size {
			devices = append(devices, impl.DevArg{Kind: row.kind, N: n})
		}
	}
	reals := edgeReals()
	for which, m := range fewMems() {
		for i, a := range devices {
			on, v, x := (i+which)%2 == 0, edgeWholes[(i*5+which)%len(edgeWholes)], reals[(i*11+which)%len(reals)]
			var put impl.Mem
			switch a.Kind {
			case impl.DevY, impl.DevM, impl.DevS, impl.DevE:
				put = impl.MemPut(m, a, on)
				if impl.MemBit(put, a) != on {
					t.Fatalf("%v is put to %v and not got", a, on)
				}
			case impl.DevD:
				put = impl.MemPutWhole(m, a, v)
				if impl.MemWhole(put, a) != v {
					t.Fatalf("%v is put to %d and not got", a, v)
				}
			case impl.DevR:
				put = impl.MemPutReal(m, a, x)
				if !sameReal(impl.MemReal(put, a), x) {
					t.Fatalf("%v is put to %v and not got", a, x)
				}
			default:
				continue
			}
			for _, b := range devices {
				if b == a {
					continue
				}
				if impl.MemBit(put, b) != impl.MemBit(m, b) || impl.MemWhole(put, b) != impl.MemWhole(m, b) || !sameReal(impl.MemReal(put, b), impl.MemReal(m, b)) {
					t.Fatalf("%v is put, and %v is touched", a, b)
				}
			}
			if put.T != m.T || put.C != m.C || put.Time != m.Time || put.Ran != m.Ran || put.Fault != m.Fault {
				t.Fatalf("%v is put, and more is touched", a)
			}
		}
	}
}

// Promise 12.
func TestMemPlacesCountedRound(t *testing.T) {
	rounds := []int{-1 << 40, -1000, -3, -2, -1, 0, 1, 2, 3, 1000, 1 << 40}
	for _, m := range fewMems() {
		for _, row := range devRows[:10] {
			size := row.size
			if row.kind == impl.DevG {
				size = 8
			}
			for n := range size {
				a := impl.DevArg{Kind: row.kind, N: n}
				for _, round := range rounds {
					b := impl.DevArg{Kind: row.kind, N: n + round*size}
					if impl.MemBit(m, a) != impl.MemBit(m, b) || impl.MemWhole(m, a) != impl.MemWhole(m, b) || !sameReal(impl.MemReal(m, a), impl.MemReal(m, b)) {
						t.Fatalf("%v and %v ask for unlike things", a, b)
					}
					if keyOf(impl.MemPut(m, a, true)) != keyOf(impl.MemPut(m, b, true)) || keyOf(impl.MemPut(m, a, false)) != keyOf(impl.MemPut(m, b, false)) ||
						keyOf(impl.MemPutWhole(m, a, 77)) != keyOf(impl.MemPutWhole(m, b, 77)) || keyOf(impl.MemPutReal(m, a, 7.7)) != keyOf(impl.MemPutReal(m, b, 7.7)) {
						t.Fatalf("%v and %v put unlike things", a, b)
					}
				}
			}
		}
	}
}

// Promise 11, of memories that differ in one part alone: each part, at both ends.
func TestMemSameOneField(t *testing.T) {
	for _, base := range []impl.Mem{{}, fullMem()} {
		if !impl.MemSame(base, base) {
			t.Error("a memory is not the same as itself")
		}
		for _, m := range smallChanges(base) {
			want := keyOf(m) == keyOf(base)
			if impl.MemSame(m, base) != want || impl.MemSame(base, m) != want {
				t.Errorf("%q and %q: same %v", wantMemText(m), wantMemText(base), !want)
			}
			if text := impl.MemText(m) == impl.MemText(base); text != want {
				t.Errorf("%q and %q: texts the same %v", wantMemText(m), wantMemText(base), text)
			}
		}
	}
}

// Promise 11, of any two.
func TestMemSameIsSameText(t *testing.T) {
	mems := someMems()
	rnd := rand.New(rand.NewSource(7))
	texts := make([]string, len(mems))
	for i, m := range mems {
		texts[i] = impl.MemText(m)
		if !impl.MemSame(m, m) {
			t.Fatalf("%q is not the same as itself", texts[i])
		}
	}
	for range 100000 {
		i, j := rnd.Intn(len(mems)), rnd.Intn(len(mems))
		same := impl.MemSame(mems[i], mems[j])
		if same != impl.MemSame(mems[j], mems[i]) || same != (texts[i] == texts[j]) || same != (keyOf(mems[i]) == keyOf(mems[j])) {
			t.Fatalf("%q and %q: same %v", texts[i], texts[j], same)
		}
	}
}

func TestMemSameReals(t *testing.T) {
	for _, x := range edgeReals() {
		for _, y := range edgeReals() {
			for _, n := range []int{0, 7, 15} {
				a, b := fullMem(), fullMem()
				a.R[n], b.R[n] = x, y
				if got := impl.MemSame(a, b); got != sameReal(x, y) {
					t.Fatalf("R%d %v and %v: same %v", n, x, y, got)
				}
			}
		}
	}
}

// wantMemText writes a memory by the document's words, by other means than the program.
func wantMemText(m impl.Mem) string {
	var b strings.Builder
	bits := func(letter string, word uint64) {
		for n := 0; word != 0; n, word = n+1, word/2 {
			if word%2 == 1 {
				fmt.Fprintf(&b, " %s%d", letter, n)
			}
		}
	}
	mark := func(on bool, text string) string {
		if on {
			return text
		}
		return ""
	}
	bits("X", uint64(m.X))
	bits("Y", uint64(m.Y))
	bits("M", m.M)
	bits("S", uint64(m.S))
	bits("E", uint64(m.E))
	for n, x := range m.T {
		if x.Done || x.Count > 0 {
			fmt.Fprintf(&b, " T%d=%d%s", n, x.Count, mark(x.Done, "!"))
		}
	}
	for n, x := range m.C {
		if x.Done || x.Last || x.Count > 0 {
			fmt.Fprintf(&b, " C%d=%d%s%s", n, x.Count, mark(x.Done, "!"), mark(x.Last, "+"))
		}
	}
	for n, x := range m.D {
		if x != 0 {
			fmt.Fprintf(&b, " D%d=%d", n, x)
		}
	}
	for n, x := range m.R {
		if math.Float64bits(x) != 0 {
			fmt.Fprintf(&b, " R%d=%s", n, wantRealText(x))
		}
	}
	b.WriteString(mark(m.Time > 0, fmt.Sprintf(" time=%d", m.Time)) + mark(m.Ran, " ran") + mark(m.Fault, " fault"))
	return strings.TrimPrefix(b.String(), " ")
}

var (
	memBitForm    = regexp.MustCompile(`\A([XYMSE])(0|[1-9][0-9]?)\z`)
	memTimerForm  = regexp.MustCompile(`\AT([0-9]|1[0-5])=(0|[1-9][0-9]{0,4})(!?)\z`)
	memCountForm  = regexp.MustCompile(`\AC([0-9]|1[0-5])=(0|[1-9][0-9]{0,4})(!?)(\+?)\z`)
	memWholeForm  = regexp.MustCompile(`\AD([0-9]|[12][0-9]|3[01])=(-?[1-9][0-9]{0,4})\z`)
	memRealForm   = regexp.MustCompile(`\AR([0-9]|1[0-5])=(.+)\z`)
	memTimeForm   = regexp.MustCompile(`\Atime=([1-9][0-9]{0,9})\z`)
	memKindsInRow = "XYMSETCDR"
)

// wantMemRead reads a text word by word, by the form of each and by their order, by other means than the program.
func wantMemRead(text string) (impl.Mem, bool) {
	var m impl.Mem
	if text == "" {
		return m, true
	}
	last := -1
	for _, word := range strings.Split(text, " ") {
		place, ok := wantMemWord(&m, word)
		if !ok || place <= last {
			return impl.Mem{}, false
		}
		last = place
	}
	return m, true
}

// wantMemWord puts what one word says, and tells its place among all words.
func wantMemWord(m *impl.Mem, word string) (int, bool) {
	number := func(text string) int { n, _ := strconv.Atoi(text); return n }
	at := func(kind byte, n int) int { return strings.IndexByte(memKindsInRow, kind)*100 + n }
	if f := memBitForm.FindStringSubmatch(word); f != nil {
		n := number(f[2])
		if n >= map[string]int{"X": 32, "Y": 32, "M": 64, "S": 16, "E": 32}[f[1]] {
			return 0, false
		}
		switch f[1] {
		case "X":
			m.X |= 1 << n
		case "Y":
			m.Y |= 1 << n
		case "M":
			m.M |= 1 << n
		case "S":
			m.S |= 1 << n
		case "E":
			m.E |= 1 << n
		}
		return at(word[0], n), true
	}
	if f := memTimerForm.FindStringSubmatch(word); f != nil {
		n, count := number(f[1]), number(f[2])
		m.T[n] = impl.MemTimer{Done: f[3] != "", Count: uint16(count)}
		return at('T', n), count <= 65535 && m.T[n] != impl.MemTimer{}
	}
	if f := memCountForm.FindStringSubmatch(word); f != nil {
		n, count := number(f[1]), number(f[2])
		m.C[n] = impl.MemCounter{Done: f[3] != "", Last: f[4] != "", Count: uint16(count)}
		return at('C', n), count <= 65535 && m.C[n] != impl.MemCounter{}
	}
	if f := memWholeForm.FindStringSubmatch(word); f != nil {
		n, v := number(f[1]), number(f[2])
		m.D[n] = int16(v)
		return at('D', n), v >= -32768 && v <= 32767
	}
	if f := memRealForm.FindStringSubmatch(word); f != nil {
		n := number(f[1])
		x, ok := wantRealRead(f[2])
		m.R[n] = x
		return at('R', n), ok && f[2] != "0"
	}
	if f := memTimeForm.FindStringSubmatch(word); f != nil {
		m.Time = uint32(number(f[1]))
		return 1000, number(f[1]) <= math.MaxUint32
	}
	m.Ran = m.Ran || word == "ran"
	m.Fault = m.Fault || word == "fault"
	return map[string]int{"ran": 1001, "fault": 1002}[word], word == "ran" || word == "fault"
}

// checkMemRead holds what MemRead answers against the form, and against promise 10.
func checkMemRead(t *testing.T, text string) {
	t.Helper()
	m, ok := impl.MemRead(text)
	if want, wantOk := wantMemRead(text); ok != wantOk || keyOf(m) != keyOf(want) {
		t.Fatalf("MemRead(%.200q) is %.200q, %v; want %.200q, %v", text, wantMemText(m), ok, wantMemText(want), wantOk)
	}
	if ok && impl.MemText(m) != text {
		t.Fatalf("MemRead(%.200q) is written %.200q", text, impl.MemText(m))
	}
}

// Promise 10, from memories.
func TestMemTextIsRead(t *testing.T) {
	seen := map[string]memKey{}
	for _, m := range someMems() {
		text := impl.MemText(m)
		if want := wantMemText(m); text != want {
			t.Fatalf("MemText is %q; want %q", text, want)
		}
		if len(text) > impl.MemMaxText {
			t.Fatalf("a text of %d bytes", len(text))
		}
		got, ok := impl.MemRead(text)
		if !ok || keyOf(got) != keyOf(m) || !impl.MemSame(got, m) {
			t.Fatalf("MemRead(%q) is %q, %v", text, wantMemText(got), ok)
		}
		if k, ok := seen[text]; ok && k != keyOf(m) {
			t.Fatalf("two memories are %q", text)
		}
		seen[text] = keyOf(m)
		checkMemRead(t, text)
	}
}

func TestMemTextEdges(t *testing.T) {
	for _, c := range []struct {
		m    impl.Mem
		text string
	}{
		{impl.Mem{}, ""},
		{impl.Mem{X: 1<<31 | 1, Y: 1<<31 | 1, M: 1<<63 | 1, S: 1<<15 | 1, E: 1<<31 | 1}, "X0 X31 Y0 Y31 M0 M63 S0 S15 E0 E31"},
		{impl.Mem{X: 1<<2 | 1<<10}, "X2 X10"},
		{impl.Mem{T: [16]impl.MemTimer{0: {Done: true}, 1: {Count: 32768}, 2: {Done: true, Count: 65535}, 15: {Count: 1}}}, "T0=0! T1=32768 T2=65535! T15=1"},
		{impl.Mem{C: [16]impl.MemCounter{0: {Done: true}, 1: {Last: true}, 2: {Done: true, Last: true}, 3: {Count: 65535}, 4: {Done: true, Last: true, Count: 10}, 15: {Last: true, Count: 7}}}, "C0=0! C1=0+ C2=0!+ C3=65535 C4=10!+ C15=7+"},
		{impl.Mem{D: [32]int16{0: -32768, 1: -1, 30: 1, 31: 32767}}, "D0=-32768 D1=-1 D30=1 D31=32767"},
		{impl.Mem{R: [16]float64{0: nan, 1: inf, 2: -inf, 3: minusZero, 4: 0, 5: 2.5, 14: -3, 15: smallestReal}}, "R0=nan R1=inf R2=-inf R3=-0 R5=5*2^-1 R14=-3*2^0 R15=1*2^-1074"},
		{impl.Mem{Time: 1}, "time=1"},
		{impl.Mem{Time: 4294967295, Ran: true, Fault: true}, "time=4294967295 ran fault"},
		{impl.Mem{Ran: true}, "ran"},
		{impl.Mem{Fault: true}, "fault"},
		{impl.Mem{X: 8, Y: 8, M: 8, S: 8, E: 8, T: [16]impl.MemTimer{3: {Count: 3}}, C: [16]impl.MemCounter{3: {Count: 3}}, D: [32]int16{3: 3}, R: [16]float64{3: 3}, Time: 3, Ran: true, Fault: true}, "X3 Y3 M3 S3 E3 T3=3 C3=3 D3=3 R3=3*2^0 time=3 ran fault"},
	} {
		if text := impl.MemText(c.m); text != c.text {
			t.Errorf("MemText is %q; want %q", text, c.text)
		}
		if m, ok := impl.MemRead(c.text); !ok || keyOf(m) != keyOf(c.m) {
			t.Errorf("MemRead(%q) is %q, %v", c.text, wantMemText(m), ok)
		}
	}
}

// refusedWords stand for nothing wherever they stand.
var refusedWords = []string{
	"X", "X32", "X01", "X00", "X-1", "X+1", "x1", "X1=1", "X1=", "X1!", "X1+", "X=1", "Y32", "M64", "M064", "S16", "E32", "G0", "G1", "G4", "G0=1", "X256", "M4294967296", "M18446744073709551616",
	"T0", "T0=", "T0=0", "T16=1", "T1=0!!", "T1=!", "T1=00!", "T1=01", "T1=+1", "T1=-1", "T1=-0!", "T1=65536", "T1=65536!", "T1=65537", "T1=4294967297", "T1=18446744073709551617", "T1=1+", "T1=0+", "T1=1!+", "T1=1+!", "T1=1 !", "T01=1", "T1==1", "T1=1=1", "T1!=1", "T1=1.0", "T1=1e1", "T1=1_0", "T1=0x1",
	"C0", "C0=", "C0=0", "C16=1", "C1=0+!", "C1=1+!", "C1=0!!", "C1=0++", "C1=0!+!", "C1=0!++", "C1=!", "C1=+", "C1=!+", "C1=00+", "C1=01", "C1=+1", "C1=-1", "C1=65536", "C1=65536!+", "C1=131071", "C01=1", "C1+=1", "C-1=1",
	"D0", "D0=", "D0=0", "D0=-0", "D0=+1", "D0=01", "D0=-01", "D0=00", "D0=--1", "D32=1", "D1=32768", "D1=-32769", "D1=65535", "D1=65537", "D1=4294967297", "D1=1!", "D1=1+", "D1=1.0", "D1=1_0", "D01=1",
	"R0", "R0=", "R0=0", "R0=+0", "R0=0.0", "R0=-0.0", "R0=0*2^0", "R0=2*2^0", "R0=1", "R0=1*2^1024", "R0=1*2^-1075", "R0=9007199254740993*2^0", "R0=+1*2^0", "R0=1*2^+1", "R0=1*2^-0", "R0=01*2^0", "R0=1*2^00", "R0=NaN", "R0=+inf", "R0=-nan", "R0=Inf", "R0=2.5", "R0=nan!", "R0=nan=nan", "R16=nan", "R01=nan",
	"time", "time=", "time=0", "time=00", "time=01", "time=+1", "time=-1", "time=4294967296", "time=4294967297", "time=18446744073709551617", "time=1!", "time=1.0", "Time=1", "time1=1", "time==1",
	"ran=", "ran=1", "ran!", "Ran", "RAN", "rann", "ra", "fault=", "fault=1", "Fault", "faul", "faults",
	"0", "5", "-1", "0.5", "nan", "inf", "-0.0", "=", "!", "+", "=1", "D=1", "5=5", "nan=1", "done", "X0,X1", "X0X1", "X0\tX1", "X0\nX1", "\x00", "X0\x00", "ran\x00", "\xff", "T1=1\xff", "é", "Ⅹ0", "X０", "T1=１",
}

func TestMemReadRefuses(t *testing.T) {
	for _, word := range refusedWords {
		for _, text := range []string{word, word + " ran", "X0 " + word, "X0 " + word + " fault"} {
			if m, ok := impl.MemRead(text); ok || keyOf(m) != (keyOf(impl.Mem{})) {
				t.Errorf("MemRead(%q) is %q, %v", text, wantMemText(m), ok)
			}
			checkMemRead(t, text)
		}
	}
	for _, text := range []string{" ", "  ", " X0", "X0 ", "X0  X1", " ran", "fault ", "\tX0", "X0\n", "X0\u00a0X1", "X0\u2003X1", "ran  fault"} {
		if m, ok := impl.MemRead(text); ok || keyOf(m) != (keyOf(impl.Mem{})) {
			t.Errorf("MemRead(%q) is %q, %v", text, wantMemText(m), ok)
		}
	}
}

// goodWords are in the order of a text, each of another place.
var goodWords = []string{"X0", "X2", "X10", "X31", "Y0", "Y31", "M0", "M9", "M10", "M63", "S0", "S15", "E0", "E31", "T0=0!", "T1=1", "T2=65535!", "T15=32768", "C0=0!", "C1=0+", "C2=0!+", "C14=65535", "C15=1!+", "D0=-32768", "D1=32767", "D31=1", "R0=nan", "R1=-0", "R2=-inf", "R15=5*2^-1", "time=1", "ran", "fault"}

func TestMemReadOrder(t *testing.T) {
	for i, a := range goodWords {
		for j, b := range goodWords {
			text := a + " " + b
			if _, ok := impl.MemRead(text); ok != (i < j) {
				t.Errorf("MemRead(%q) is %v", text, ok)
			}
			checkMemRead(t, text)
		}
	}
	whole := strings.Join(goodWords, " ")
	checkMemRead(t, whole)
	if _, ok := impl.MemRead(whole); !ok {
		t.Errorf("MemRead(%q) is false", whole)
	}
	for i := range goodWords[1:] {
		turned := append([]string{}, goodWords...)
		turned[i], turned[i+1] = turned[i+1], turned[i]
		twice := append(append(append([]string{}, goodWords[:i]...), goodWords[i]), goodWords[i:]...)
		for _, words := range [][]string{turned, twice} {
			if m, ok := impl.MemRead(strings.Join(words, " ")); ok || keyOf(m) != (keyOf(impl.Mem{})) {
				t.Errorf("MemRead(%q) is %v", strings.Join(words, " "), ok)
			}
		}
	}
}

func TestMemReadTwiceOtherwise(t *testing.T) {
	for _, text := range []string{"T1=1 T1=2", "T1=1 T1=1!", "C1=1 C1=1+", "C1=0! C1=0+", "D1=1 D1=2", "D1=1 D1=0", "D1=0 D1=1", "R1=nan R1=inf", "R1=0 R1=nan", "time=1 time=2", "time=0 time=1", "ran ran", "fault fault", "X0 X0", "T1=0 T1=1"} {
		if m, ok := impl.MemRead(text); ok || keyOf(m) != (keyOf(impl.Mem{})) {
			t.Errorf("MemRead(%q) is %q, %v", text, wantMemText(m), ok)
		}
	}
}

func TestMemReadLongTexts(t *testing.T) {
	full := impl.MemText(fullMem())
	for _, head := range []string{"", "X0", "ran", "T1=1", "D1=1", "R1=1*2^0", "time=1", full} {
		for _, piece := range []string{" ", "0", "1", "9", "X", " X0", "X0 ", "=", "!", "+", "-", " ran", "ran ", "\x00", "\xff", "é"} {
			for _, size := range []int{5999, 6000, 6001, 12000, 300000} {
				text := head + strings.Repeat(piece, size)
				text = text[:size]
				if m, ok := impl.MemRead(text); ok || keyOf(m) != (keyOf(impl.Mem{})) {
					t.Errorf("MemRead of %.40q and %q up to %d bytes is %.60q, %v", head, piece, size, wantMemText(m), ok)
				}
			}
		}
	}
}

// Promise 10, from texts: each good one with one byte put in, changed or left out.
func TestMemReadNearTexts(t *testing.T) {
	rnd := rand.New(rand.NewSource(8))
	texts := []string{strings.Join(goodWords, " ")}
	for range 60 {
		texts = append(texts, wantMemText(randomMem(rnd, 40)))
	}
	for _, text := range texts {
		for i := range len(text) {
			checkMemRead(t, text[:i]+text[i+1:])
			checkMemRead(t, text[:i])
			checkMemRead(t, text[i:])
			for _, letter := range []string{"0", "1", "9", "-", "=", "!", "+", " ", "X", "M", "T", "C", "D", "\x80"} {
				checkMemRead(t, text[:i]+letter+text[i:])
				checkMemRead(t, text[:i]+letter+text[i+1:])
			}
		}
		checkMemRead(t, text+" ")
		checkMemRead(t, text+"0")
	}
}

// Promise 10, from texts: all the short ones of these pieces.
func TestMemReadAllShortTexts(t *testing.T) {
	pieces := []string{"X", "T", "C", "D", "R", "G", "1", "0", "=", "!", "+", "-", " ", "nan", "time", "ran", "fault"}
	texts := []string{""}
	for range 4 {
		var longer []string
		for _, text := range texts {
			checkMemRead(t, text)
			for _, piece := range pieces {
				longer = append(longer, text+piece)
			}
		}
		texts = longer
	}
	for _, text := range texts {
		checkMemRead(t, text)
	}
}

// Promise 10, from texts: words of which some stand for something, in any order.
func TestMemReadAnyWords(t *testing.T) {
	rnd := rand.New(rand.NewSource(9))
	for range 20000 {
		var words []string
		for _, word := range goodWords {
			switch rnd.Intn(60) {
			case 0:
				words = append(words, word, word)
			case 1:
				words = append(words, refusedWords[rnd.Intn(len(refusedWords))])
			case 2:
				words = append(words, goodWords[rnd.Intn(len(goodWords))])
			default:
				if rnd.Intn(4) == 0 {
					words = append(words, word)
				}
			}
		}
		checkMemRead(t, strings.Join(words, " "))
	}
}

func TestMemReadAnyBytes(t *testing.T) {
	rnd := rand.New(rand.NewSource(10))
	for range 50000 {
		text := make([]byte, rnd.Intn(14))
		for i := range text {
			text[i] = byte(rnd.Intn(256))
		}
		checkMemRead(t, string(text))
	}
}

func FuzzMemRead(f *testing.F) {
	f.Add("")
	f.Add("\xff")
	f.Add(impl.MemText(fullMem()))
	f.Add(strings.Join(goodWords, " "))
	for _, word := range goodWords {
		f.Add(word)
	}
	f.Fuzz(checkMemRead)
}
