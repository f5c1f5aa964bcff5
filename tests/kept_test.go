package tests

import (
	"bytes"
	"encoding/binary"
	"math"
	"math/rand"
	"slices"
	"strings"
	"sync"
	"testing"

	"loop.example/stilhold/impl"
)

const keptBytes = 134

// Where the parts of what is kept begin, reckoned by hand.
const (
	placeS = 4
	placeT = 6
	placeC = 54
	placeD = 102
)

// keptEntry is a timer or a counter as it is kept.
type keptEntry struct {
	Flags uint8
	Count uint16
}

// keptForm is what is kept, in the order of its bytes; the library writes its parts one behind the other, without gaps.
type keptForm struct {
	M uint32
	S uint16
	T [16]keptEntry
	C [16]keptEntry
	D [16]int16
}

var flagOf = map[[2]bool]uint8{{false, false}: 0, {true, false}: 1, {false, true}: 2, {true, true}: 3}

// wantKeptOf takes away all that the document doesn't name, where the program takes what it names.
func wantKeptOf(m impl.Mem) impl.Mem {
	m.X, m.Y, m.E, m.Time, m.Ran, m.Fault = 0, 0, 0, 0, false, false
	m.R = [16]float64{}
	m.M -= m.M % (1 << 32)
	for n := range 16 {
		m.D[n] = 0
	}
	return m
}

func wantKeptMake(m impl.Mem) []byte {
	form := keptForm{M: uint32(m.M / (1 << 32)), S: m.S, D: [16]int16(m.D[16:])}
	for n := range 16 {
		form.T[n] = keptEntry{flagOf[[2]bool{m.T[n].Done, false}], m.T[n].Count}
		form.C[n] = keptEntry{flagOf[[2]bool{m.C[n].Done, m.C[n].Last}], m.C[n].Count}
	}
	var out bytes.Buffer
	if err := binary.Write(&out, binary.LittleEndian, form); err != nil {
		panic(err)
	}
	return out.Bytes()
}

func wantKeptBack(data []byte) (impl.Mem, bool) {
	var form keptForm
	in := bytes.NewReader(data)
	if err := binary.Read(in, binary.LittleEndian, &form); err != nil || in.Len() != 0 {
		return impl.Mem{}, false
	}
	m := impl.Mem{M: uint64(form.M) * (1 << 32), S: form.S}
	copy(m.D[16:], form.D[:])
	for n := range 16 {
		if form.T[n].Flags > 1 || form.C[n].Flags > 3 {
			return impl.Mem{}, false
		}
		m.T[n] = impl.MemTimer{Done: form.T[n].Flags == 1, Count: form.T[n].Count}
		m.C[n] = impl.MemCounter{Done: form.C[n].Flags%2 == 1, Last: form.C[n].Flags >= 2, Count: form.C[n].Count}
	}
	return m, true
}

// checkKept holds all three calls against the second reading of the chapter, and against each other.
func checkKept(t *testing.T, m impl.Mem) {
	t.Helper()
	want := wantKeptOf(m)
	if got := impl.KeptOf(m); keyOf(got) != keyOf(want) {
		t.Fatalf("%q is kept as %q; want %q", wantMemText(m), wantMemText(got), wantMemText(want))
	}
	data := impl.KeptMake(m)
	if !bytes.Equal(data, wantKeptMake(m)) {
		t.Fatalf("%q is written %v; want %v", wantMemText(m), data, wantKeptMake(m))
	}
	if back, ok := impl.KeptBack(data); !ok || keyOf(back) != keyOf(want) || !impl.MemSame(back, impl.KeptOf(m)) {
		t.Fatalf("%q comes back as %q, %v; want %q", wantMemText(m), wantMemText(back), ok, wantMemText(want))
	}
}

// checkKeptBack asks of any bytes whether they are read as they should be, and written as they were.
func checkKeptBack(t *testing.T, data []byte) {
	t.Helper()
	before := slices.Clone(data)
	m, ok := impl.KeptBack(data)
	want, wantOk := wantKeptBack(before)
	if ok != wantOk || keyOf(m) != keyOf(want) {
		t.Fatalf("%v is read as %q, %v; want %q, %v", before, wantMemText(m), ok, wantMemText(want), wantOk)
	}
	if !bytes.Equal(data, before) {
		t.Fatalf("%v is written to", before)
	}
	if !ok {
		return
	}
	if again := impl.KeptMake(m); !bytes.Equal(again, before) {
		t.Fatalf("%v is written again as %v", before, again)
	}
	if keyOf(impl.KeptOf(m)) != keyOf(m) {
		t.Fatalf("%v: what is read, %q, is not all kept", before, wantMemText(m))
	}
}

// unlikeMem has numbers whose bytes all differ, but for the first bytes of timers and counters, which go through all that they may be.
func unlikeMem() impl.Mem {
	next := 0
	take := func() uint16 {
		next += 2
		return uint16(next) + uint16(next+1)*256
	}
	m := impl.Mem{S: take()}
	m.M = (uint64(take()) + uint64(take())<<16) << 32
	for n := range 16 {
		m.T[n] = impl.MemTimer{Done: n%2 == 0, Count: take()}
		m.C[n] = impl.MemCounter{Done: n%2 == 1, Last: n%4 >= 2, Count: take()}
	}
	// From here on the numbers are below 0 as 16 bits with a sign.
	next = 126
	for n := 16; n < 32; n++ {
		m.D[n] = int16(take())
	}
	return m
}

// isFlag says whether a place is a first byte, and how large that may be.
func isFlag(place int) (byte, bool) {
	switch {
	case place >= placeT && place < placeC && (place-placeT)%3 == 0:
		return 1, true
	case place >= placeC && place < placeD && (place-placeC)%3 == 0:
		return 3, true
	}
	return 255, false
}

// randomKept are bytes of any value, whose first bytes may be too large with a chance of one in wild.
func randomKept(rnd *rand.Rand, wild int) []byte {
	data := make([]byte, keptBytes)
	rnd.Read(data)
	for place := range data {
		if most, ok := isFlag(place); ok && (wild == 0 || rnd.Intn(wild) != 0) {
			data[place] %= most + 1
		}
	}
	return data
}

func TestKeptConstants(t *testing.T) {
	if impl.KeptBytes != keptBytes {
		t.Error(impl.KeptBytes)
	}
}

// Promises 16 and 17, against the second reading: nothing, everything, each part of these by itself, and much between.
func TestKeptOfAny(t *testing.T) {
	for _, m := range append(someMems(), unlikeMem()) {
		checkKept(t, m)
	}
}

// The bytes as they are written out by hand, so that no reckoning of places is shared with the program.
func TestKeptMakeByHand(t *testing.T) {
	zeros := func(many int) string { return strings.Repeat("\x00", many) }
	var all impl.Mem
	all.M, all.S = 0x0D0C0B0A_FFFFFFFF, 0x0F0E
	all.T[0], all.T[1], all.T[15] = impl.MemTimer{Done: true, Count: 0x1110}, impl.MemTimer{Count: 0x1312}, impl.MemTimer{Done: true, Count: 0x1514}
	all.C[0], all.C[1] = impl.MemCounter{Done: true, Count: 0x1716}, impl.MemCounter{Last: true, Count: 0x1918}
	all.C[15] = impl.MemCounter{Done: true, Last: true, Count: 0x1B1A}
	all.D[15], all.D[16], all.D[17], all.D[31] = 0x7F7F, 0x1D1C, -2, -32768
	for _, c := range []struct {
		m    impl.Mem
		want string
	}{
		{impl.Mem{}, zeros(134)},
		{all, "\x0A\x0B\x0C\x0D" + "\x0E\x0F" + "\x01\x10\x11" + "\x00\x12\x13" + zeros(13*3) + "\x01\x14\x15" +
			"\x01\x16\x17" + "\x02\x18\x19" + zeros(13*3) + "\x03\x1A\x1B" + "\x1C\x1D" + "\xFE\xFF" + zeros(13*2) + "\x00\x80"},
		{fullMem(), strings.Repeat("\xFF", 6) + strings.Repeat("\x01\xFF\xFF", 16) + strings.Repeat("\x03\xFF\xFF", 16) + strings.Repeat("\x00\x80", 16)},
	} {
		if got := string(impl.KeptMake(c.m)); got != c.want {
			t.Errorf("%q is written %q; want %q", wantMemText(c.m), got, c.want)
		}
		back, ok := impl.KeptBack([]byte(c.want))
		if !ok || keyOf(back) != keyOf(wantKeptOf(c.m)) {
			t.Errorf("%q is read as %q, %v; want %q", c.want, wantMemText(back), ok, wantMemText(wantKeptOf(c.m)))
		}
	}
}

// Each place by itself: the byte that it is, with all others 0, and what it is as a memory.
func TestKeptEachPlace(t *testing.T) {
	for place := range keptBytes {
		most, _ := isFlag(place)
		for value := 1; value <= int(most); value++ {
			data := make([]byte, keptBytes)
			data[place] = byte(value)
			back, ok := impl.KeptBack(data)
			if want := memOfByte(place, value); !ok || keyOf(back) != keyOf(want) {
				t.Fatalf("byte %d is %d: %q, %v; want %q", place, value, wantMemText(back), ok, wantMemText(want))
			}
			if got := impl.KeptMake(memOfByte(place, value)); !bytes.Equal(got, data) {
				t.Fatalf("byte %d is to be %d: %v", place, value, got)
			}
		}
	}
}

// memOfByte is the memory in which one byte of what is kept is not 0.
func memOfByte(place, value int) impl.Mem {
	var m impl.Mem
	number := func(byteOf int) int { return value * []int{1, 256, 65536, 16777216}[byteOf] }
	switch {
	case place < placeS:
		m.M = uint64(number(place)) * 4294967296
	case place < placeT:
		m.S = uint16(number(place - placeS))
	case place < placeC:
		n, part := (place-placeT)/3, (place-placeT)%3
		m.T[n].Done = part == 0 && value == 1
		if part > 0 {
			m.T[n].Count = uint16(number(part - 1))
		}
	case place < placeD:
		n, part := (place-placeC)/3, (place-placeC)%3
		m.C[n].Done, m.C[n].Last = part == 0 && value%2 == 1, part == 0 && value >= 2
		if part > 0 {
			m.C[n].Count = uint16(number(part - 1))
		}
	default:
		m.D[16+(place-placeD)/2] = countRound(number((place - placeD) % 2))
	}
	return m
}

// Each place with unlike bytes before and behind it: the byte that is changed changes nothing else.
func TestKeptPlacesApart(t *testing.T) {
	base := impl.KeptMake(unlikeMem())
	if !bytes.Equal(base, wantKeptMake(unlikeMem())) {
		t.Fatalf("%v; want %v", base, wantKeptMake(unlikeMem()))
	}
	seen := map[byte]int{}
	for place, b := range base {
		if _, flag := isFlag(place); !flag {
			seen[b]++
		}
	}
	if len(seen) != keptBytes-32 {
		t.Fatalf("only %d bytes differ", len(seen))
	}
	for place := range keptBytes {
		most, _ := isFlag(place)
		for value := range int(most) + 1 {
			data := slices.Clone(base)
			data[place] = byte(value)
			checkKeptBack(t, data)
			if back, _ := impl.KeptBack(data); (keyOf(back) == keyOf(unlikeMem())) != (data[place] == base[place]) {
				t.Fatalf("byte %d is %d: %q", place, value, wantMemText(back))
			}
		}
	}
}

// Bytes that are changed with each other, side by side and far apart.
func TestKeptBytesSwapped(t *testing.T) {
	base := wantKeptMake(unlikeMem())
	for i := range base {
		for j := range i {
			data := slices.Clone(base)
			data[i], data[j] = data[j], data[i]
			checkKeptBack(t, data)
		}
	}
}

// Promise 17, by each mark: those from 32 on are kept, and each is its own bit.
func TestKeptMarks(t *testing.T) {
	for n := range 64 {
		m := impl.Mem{M: 1 << n}
		want := make([]byte, keptBytes)
		if n >= 32 {
			want[(n-32)/8] = 1 << (n % 8)
		}
		if got := impl.KeptMake(m); !bytes.Equal(got, want) {
			t.Errorf("M%d: %v", n, got)
		}
		if on := impl.KeptOf(m).M == 1<<n; on != (n >= 32) {
			t.Errorf("M%d: kept %v", n, on)
		}
		checkKept(t, m)
		checkKept(t, impl.Mem{M: math.MaxUint64 - 1<<n})
	}
	for text, want := range map[string]string{"M31": "", "M32": "M32", "M63": "M63", "M0 M31 M32 M63": "M32 M63"} {
		checkKeptText(t, text, want)
	}
}

// checkKeptText takes a memory by its text, and asks for the text of what is kept of it and of what comes back.
func checkKeptText(t *testing.T, text, want string) {
	t.Helper()
	m, ok := wantMemRead(text)
	if !ok {
		t.Fatalf("%q is no memory's", text)
	}
	back, ok := impl.KeptBack(impl.KeptMake(m))
	if got := wantMemText(impl.KeptOf(m)); got != want || wantMemText(back) != want || !ok {
		t.Errorf("%q is kept as %q and comes back as %q, %v; want %q", text, got, wantMemText(back), ok, want)
	}
}

func TestKeptSteps(t *testing.T) {
	for n := range 16 {
		m := impl.Mem{S: 1 << n}
		want := make([]byte, keptBytes)
		want[4+n/8] = 1 << (n % 8)
		if got := impl.KeptMake(m); !bytes.Equal(got, want) || impl.KeptOf(m).S != 1<<n {
			t.Errorf("S%d: %v", n, got)
		}
		checkKept(t, m)
	}
	checkKeptText(t, "S0", "S0")
	checkKeptText(t, "S15", "S15")
	checkKeptText(t, "S0 S15", "S0 S15")
}

// keptCounts are the counts at which one byte or the other begins, ends, or looks as if it had a sign.
var keptCounts = []uint16{0, 1, 255, 256, 257, 32767, 32768, 65280, 65534, 65535}

func TestKeptTimersAndCounters(t *testing.T) {
	bases := []impl.Mem{{}, fullMem(), unlikeMem()}
	for n := range 16 {
		for _, count := range keptCounts {
			low, high := byte(count%256), byte(count/256)
			for flags := range byte(4) {
				for _, base := range bases {
					m := base
					m.T[n] = impl.MemTimer{Done: flags%2 == 1, Count: count}
					m.C[n] = impl.MemCounter{Done: flags%2 == 1, Last: flags >= 2, Count: count}
					checkKept(t, m)
					data := impl.KeptMake(m)
					if timer := data[placeT+3*n:][:3]; !bytes.Equal(timer, []byte{flags % 2, low, high}) {
						t.Fatalf("T%d %v: %v", n, m.T[n], timer)
					}
					if counter := data[placeC+3*n:][:3]; !bytes.Equal(counter, []byte{flags, low, high}) {
						t.Fatalf("C%d %v: %v", n, m.C[n], counter)
					}
				}
			}
		}
	}
	checkKeptText(t, "T0=0! T15=65535 C0=256!+ C15=0+", "T0=0! T15=65535 C0=256!+ C15=0+")
}

// Registers below 0 are 65536 more; those below D16 are not kept.
func TestKeptRegisters(t *testing.T) {
	for n := range 32 {
		for _, v := range []int{0, 1, -1, 2, -2, 127, 128, -128, -129, 255, 256, 257, -255, -256, -257, 32766, 32767, -32767, -32768} {
			for _, base := range []impl.Mem{{}, fullMem(), unlikeMem()} {
				m := base
				m.D[n] = int16(v)
				checkKept(t, m)
				if n < 16 {
					continue
				}
				number := v
				if v < 0 {
					number += 65536
				}
				place := placeD + 2*(n-16)
				if got := impl.KeptMake(m)[place:][:2]; !bytes.Equal(got, []byte{byte(number % 256), byte(number / 256)}) {
					t.Fatalf("D%d=%d: %v", n, v, got)
				}
			}
		}
	}
	checkKeptText(t, "D15=-1", "")
	checkKeptText(t, "D0=5 D15=7 D16=-1 D31=-32768", "D16=-1 D31=-32768")
	checkKeptText(t, "D16=32767 D31=256", "D16=32767 D31=256")
}

// What is not named is not kept, by itself or beside all that is.
func TestKeptNothingElse(t *testing.T) {
	for _, base := range []impl.Mem{{}, wantKeptOf(fullMem()), unlikeMem()} {
		want := impl.KeptMake(base)
		look := func(what string, change func(m *impl.Mem)) {
			t.Helper()
			m := base
			change(&m)
			if got := impl.KeptMake(m); !bytes.Equal(got, want) {
				t.Errorf("%s is in the bytes %v; want %v", what, got, want)
			}
			if got := impl.KeptOf(m); keyOf(got) != keyOf(base) {
				t.Errorf("%s is kept: %q", what, wantMemText(got))
			}
			checkKept(t, m)
		}
		for n := range 32 {
			look("X", func(m *impl.Mem) { m.X = 1 << n })
			look("Y", func(m *impl.Mem) { m.Y = 1 << n })
			look("E", func(m *impl.Mem) { m.E = 1 << n })
			look("M below 32", func(m *impl.Mem) { m.M |= 1 << n })
		}
		for n := range 16 {
			look("D below 16", func(m *impl.Mem) { m.D[n] = -1 })
			for _, x := range []float64{minusZero, nan, inf, -inf, 2.5, 5e-324} {
				look("R", func(m *impl.Mem) { m.R[n] = x })
			}
		}
		for _, v := range edgeTimes {
			look("Time", func(m *impl.Mem) { m.Time = v })
		}
		look("Ran", func(m *impl.Mem) { m.Ran = true })
		look("Fault", func(m *impl.Mem) { m.Fault = true })
	}
	checkKeptText(t, "X0 X31 Y0 Y31 M0 M31 E0 E31 D0=1 D15=-1 R0=-0 R1=nan R15=inf time=500 ran fault", "")
}

// Promise 17, as operands ask: each device that is kept is as it was, and all others are off.
func TestKeptAsOperandsAsk(t *testing.T) {
	for _, m := range append(fewMems(), unlikeMem()) {
		kept := impl.KeptOf(m)
		if again := impl.KeptOf(kept); keyOf(again) != keyOf(kept) || !impl.MemSame(again, kept) {
			t.Fatalf("%q is kept as %q", wantMemText(kept), wantMemText(again))
		}
		for _, row := range devRows {
			if row.letter == "" || row.kind == impl.DevG {
				continue
			}
			for n := range row.size {
				a := impl.DevArg{Kind: row.kind, N: n}
				from := impl.Mem{}
				switch {
				case row.letter == "M" && n >= 32, row.letter == "S", row.letter == "T", row.letter == "C", row.letter == "D" && n >= 16:
					from = m
				}
				if impl.MemBit(kept, a) != impl.MemBit(from, a) || impl.MemWhole(kept, a) != impl.MemWhole(from, a) || !sameReal(impl.MemReal(kept, a), impl.MemReal(from, a)) {
					t.Errorf("%q: %s%d is not as it was, or on", wantMemText(m), row.letter, n)
				}
			}
		}
		if kept.T != m.T || kept.C != m.C || kept.Time != 0 || kept.Ran || kept.Fault {
			t.Errorf("%q is kept as %q", wantMemText(m), wantMemText(kept))
		}
	}
}

// All sizes but one are refused, whatever the bytes are.
func TestKeptBackSizes(t *testing.T) {
	good := wantKeptMake(unlikeMem())
	for _, base := range [][]byte{good, make([]byte, keptBytes)} {
		long := slices.Concat(base, base, base)
		for size := range len(long) + 1 {
			checkKeptBack(t, long[:size])
			checkKeptBack(t, slices.Clone(long[:size]))
			m, ok := impl.KeptBack(long[:size])
			if ok != (size == keptBytes) || !ok && keyOf(m) != keyOf(impl.Mem{}) {
				t.Errorf("%d bytes: %q, %v", size, wantMemText(m), ok)
			}
		}
		for _, size := range []int{256, 256 + keptBytes, 65536, 65536 + keptBytes, 1 << 20} {
			if m, ok := impl.KeptBack(append(slices.Clone(base), make([]byte, size)...)); ok || keyOf(m) != keyOf(impl.Mem{}) {
				t.Errorf("%d bytes: %q, %v", keptBytes+size, wantMemText(m), ok)
			}
		}
	}
}

// A list of nothing is as good as a nil one.
func TestKeptBackOfNothing(t *testing.T) {
	for _, data := range [][]byte{nil, {}, make([]byte, 0, keptBytes), wantKeptMake(unlikeMem())[:0]} {
		if m, ok := impl.KeptBack(data); ok || keyOf(m) != keyOf(impl.Mem{}) {
			t.Errorf("no bytes: %q, %v", wantMemText(m), ok)
		}
	}
}

// Each first byte, with each value: by itself, and where all else is as it should be.
func TestKeptBackFirstBytes(t *testing.T) {
	for _, base := range [][]byte{make([]byte, keptBytes), wantKeptMake(unlikeMem()), wantKeptMake(fullMem())} {
		for n := range 16 {
			for value := range 256 {
				for _, entry := range []struct{ place, most int }{{placeT + 3*n, 1}, {placeC + 3*n, 3}} {
					data := slices.Clone(base)
					data[entry.place] = byte(value)
					m, ok := impl.KeptBack(data)
					if ok != (value <= entry.most) || !ok && keyOf(m) != keyOf(impl.Mem{}) {
						t.Fatalf("byte %d is %d: %q, %v", entry.place, value, wantMemText(m), ok)
					}
					checkKeptBack(t, data)
				}
			}
		}
	}
}

// Promise 16, of bytes of any value.
func TestKeptBackOfAnyBytes(t *testing.T) {
	rnd := rand.New(rand.NewSource(15))
	read := 0
	for range 20000 {
		for _, wild := range []int{0, 1, 30} {
			data := randomKept(rnd, wild)
			checkKeptBack(t, data)
			if _, ok := impl.KeptBack(data); ok {
				read++
			}
		}
		short := make([]byte, rnd.Intn(2*keptBytes))
		rnd.Read(short)
		checkKeptBack(t, short)
	}
	if read < 20000 {
		t.Errorf("only %d are read", read)
	}
}

// Unlike things that are kept have unlike bytes, and like things like bytes.
func TestKeptBytesTellApart(t *testing.T) {
	by := map[string]memKey{}
	kinds := map[memKey]bool{}
	for _, m := range someMems() {
		key, data := keyOf(impl.KeptOf(m)), string(impl.KeptMake(m))
		if other, ok := by[data]; ok && other != key {
			t.Fatalf("%q and another are written alike", wantMemText(m))
		}
		by[data], kinds[key] = key, true
	}
	if len(by) != len(kinds) {
		t.Errorf("%d memories are written in %d ways", len(kinds), len(by))
	}
}

// Nothing is written into the bytes, before them or behind their end.
func TestKeptLeavesArguments(t *testing.T) {
	rnd := rand.New(rand.NewSource(16))
	for range 500 {
		for _, size := range []int{0, 1, keptBytes - 1, keptBytes, keptBytes + 1} {
			data := roomFor(append(randomKept(rnd, 30), 0)[:size], 0xEE)
			m, ok := impl.KeptBack(data.list)
			data.check(t, "the list that KeptBack reads")
			again := impl.KeptMake(m)
			if ok && !bytes.Equal(again, data.list) {
				t.Fatalf("%v is written again as %v", data.list, again)
			}
			fill(again, 0x11)
			data.check(t, "the list that was read before")
			key := keyOf(m)
			fill(data.list, 0x22)
			if keyOf(m) != key {
				t.Fatal("what is read shares memory with the list")
			}
		}
	}
}

// Two answers share nothing, spare room included, though they are of one memory; nor is anything kept between them.
func TestKeptAnswersApart(t *testing.T) {
	for _, m := range fewMems() {
		key, want := keyOf(m), wantKeptMake(m)
		first := impl.KeptMake(m)
		second := impl.KeptMake(m)
		fill(first, 0x11)
		if !bytes.Equal(second, want) {
			t.Fatalf("%v; want %v", second, want)
		}
		fill(second, 0x22)
		for i, b := range first[:cap(first)] {
			if b != 0x11 {
				t.Fatalf("byte %d of one answer is one of another", i)
			}
		}
		if third := impl.KeptMake(m); !bytes.Equal(third, want) {
			t.Fatalf("%v; want %v", third, want)
		}
		impl.KeptOf(m)
		impl.KeptBack(first)
		if keyOf(m) != key {
			t.Fatalf("%q is written to", wantMemText(m))
		}
		checkKept(t, m)
	}
}

// Calls at the same time, on the same arguments, answer as one by itself does.
func TestKeptAtTheSameTime(t *testing.T) {
	m := unlikeMem()
	want, data := keyOf(m), wantKeptMake(m)
	var group sync.WaitGroup
	for range 8 {
		group.Go(func() {
			for range 50 {
				back, ok := impl.KeptBack(data)
				if !ok || keyOf(back) != want || keyOf(impl.KeptOf(m)) != want || !bytes.Equal(impl.KeptMake(m), data) {
					t.Error("other than by itself")
				}
			}
		})
	}
	group.Wait()
}

// Kept in a store, a memory is the old or the new one, wherever power falls while the new one is written.
func TestKeptInAStore(t *testing.T) {
	rom := impl.HoldRom{}
	old := impl.Mem{}
	for i, m := range append(fewMems(), unlikeMem()) {
		plan, ok := impl.HoldPlan(rom, impl.KeptMake(m))
		if !ok {
			t.Fatal("a store has no room for what is kept")
		}
		// The mark of the new slot is the last write of the first plan, and the last but one of each other.
		mark := len(plan) - 1
		if i == 0 {
			mark = len(plan)
		}
		for n := range len(plan) + 1 {
			data, held := impl.HoldNow(impl.HoldPlay(rom, plan, n))
			back, ok := impl.KeptBack(data)
			want := wantKeptOf(old)
			if n >= mark {
				want = wantKeptOf(m)
			}
			wantOk := i > 0 || n >= mark
			if held != wantOk || ok != wantOk || keyOf(back) != keyOf(want) {
				t.Fatalf("plan %d, fall behind %d writes: %q, %v, %v; want %q", i, n, wantMemText(back), held, ok, wantMemText(want))
			}
		}
		rom, old = impl.HoldPlay(rom, plan, len(plan)), m
	}
}

func FuzzKeptBack(f *testing.F) {
	f.Add([]byte{})
	f.Add(make([]byte, keptBytes))
	f.Add(make([]byte, keptBytes+1))
	f.Add(wantKeptMake(unlikeMem()))
	f.Add(wantKeptMake(fullMem()))
	f.Add(bytes.Repeat([]byte{2}, keptBytes))
	f.Fuzz(checkKeptBack)
}
