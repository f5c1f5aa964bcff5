package tests

import (
	"bytes"
	"fmt"
	"math"
	"math/rand"
	"slices"
	"strings"
	"sync"
	"testing"

	"loop.example/stilhold/impl"
)

const maxData = 20100

// wantSlot is a slot as the tests keep it: its bytes are a text, so that slots are compared and shared without harm.
type wantSlot struct {
	mark, turn byte
	data       string
}

type wantRom [2]wantSlot

func (s wantSlot) made() impl.HoldSlot {
	return impl.HoldSlot{Mark: s.mark, Turn: s.turn, Data: []byte(s.data)}
}

func (r wantRom) made() impl.HoldRom { return impl.HoldRom{A: r[0].made(), B: r[1].made()} }

func slotSeen(s impl.HoldSlot) wantSlot { return wantSlot{s.Mark, s.Turn, string(s.Data)} }

func romSeen(rom impl.HoldRom) wantRom { return wantRom{slotSeen(rom.A), slotSeen(rom.B)} }

func (s wantSlot) String() string {
	return fmt.Sprintf("{mark %d, turn %d, %d bytes %.20q}", s.mark, s.turn, len(s.data), s.data)
}

// good lists what a good slot may be, so that no bound is reckoned here as the program reckons it.
func (s wantSlot) good() bool {
	return s.mark == 0xA5 && strings.IndexByte("\x00\x01\x02", s.turn) >= 0 && len(s.data) < maxData+1
}

// follower has, for each turn, the one that follows it.
var follower = map[byte]byte{0: 1, 1: 2, 2: 0}

// now is the slot that counts.
func (r wantRom) now() int {
	switch fmt.Sprint(r[0].good(), r[1].good()) {
	case "true false":
		return 0
	case "false true":
		return 1
	case "true true":
		if follower[r[0].turn] == r[1].turn {
			return 1
		}
		return 0
	}
	return -1
}

// kept is what is kept, and whether anything is.
func (r wantRom) kept() (string, bool) {
	if now := r.now(); now != -1 {
		return r[now].data, true
	}
	return "", false
}

func (r wantRom) do(w impl.HoldWrite) wantRom {
	if w.Slot != 0 && w.Slot != 1 {
		return r
	}
	s := &r[w.Slot]
	switch {
	case w.Kind == 1:
		s.mark = w.Byte
	case w.Kind == 2:
		s.turn = w.Byte
	case w.Kind == 3:
		s.data = ""
	case w.Kind == 4 && len(s.data) < maxData:
		s.data += string([]byte{w.Byte})
	}
	return r
}

// play takes n as a number of any size, as the document does.
func (r wantRom) play(writes []impl.HoldWrite, n int) wantRom {
	for i, w := range writes {
		if i < n {
			r = r.do(w)
		}
	}
	return r
}

// plan is written out case by case, for each slot that may count.
func (r wantRom) plan(data string) []impl.HoldWrite {
	to, turn, old := 0, byte(0), []impl.HoldWrite(nil)
	switch r.now() {
	case 0:
		to, turn, old = 1, follower[r[0].turn], []impl.HoldWrite{{Kind: 1, Slot: 0, Byte: 0}}
	case 1:
		to, turn, old = 0, follower[r[1].turn], []impl.HoldWrite{{Kind: 1, Slot: 1, Byte: 0}}
	}
	writes := []impl.HoldWrite{{Kind: 1, Slot: to, Byte: 0}, {Kind: 3, Slot: to, Byte: 0}}
	for i := range len(data) {
		writes = append(writes, impl.HoldWrite{Kind: 4, Slot: to, Byte: data[i]})
	}
	writes = append(writes, impl.HoldWrite{Kind: 2, Slot: to, Byte: turn}, impl.HoldWrite{Kind: 1, Slot: to, Byte: 165})
	return append(writes, old...)
}

var (
	edgeMarks = []byte{0, 1, 164, 165, 166, 255}
	edgeTurns = []byte{0, 1, 2, 3, 255}
	edgeBytes = []byte{0, 1, 2, 3, 164, 165, 166, 255}
	edgeKinds = []int{math.MinInt, -256 + 1, -1, 0, 1, 2, 3, 4, 5, 256 + 1, 256 + 4, 1<<32 + 1, 1<<32 + 4, math.MaxInt}
	edgeSlots = []int{math.MinInt, -256, -2, -1, 0, 1, 2, 3, 256, 256 + 1, 1 << 32, 1<<32 + 1, math.MaxInt}
)

// ofSize has other bytes at each place, for any of the sizes used here.
func ofSize(size, seed int) string {
	out := make([]byte, size)
	for i := range out {
		out[i] = byte(i*7 + i/256 + seed)
	}
	return string(out)
}

// smallRoms holds each pair of marks and turns, with bytes and without.
func smallRoms() []wantRom {
	var slots []wantSlot
	for _, mark := range edgeMarks {
		for _, turn := range edgeTurns {
			slots = append(slots, wantSlot{mark, turn, ""}, wantSlot{mark, turn, "old"})
		}
	}
	var out []wantRom
	for _, a := range slots {
		for i, b := range slots {
			if b.data != "" {
				b.data = []string{"older", "\xa5\x00\xa5"}[i/2%2]
			}
			out = append(out, wantRom{a, b})
		}
	}
	return out
}

// bigRoms holds stores with slots at the bound, good but for it and not.
func bigRoms() []wantRom {
	var slots []wantSlot
	for seed, size := range []int{0, 1, maxData - 1, maxData, maxData + 1, 2*maxData + 7} {
		slots = append(slots, wantSlot{165, byte(seed % 3), ofSize(size, seed)})
	}
	slots = append(slots, wantSlot{0, 0, ofSize(maxData, 9)}, wantSlot{165, 3, ofSize(maxData, 10)}, wantSlot{164, 1, ofSize(maxData+1, 11)})
	var out []wantRom
	for _, a := range slots {
		for _, b := range slots {
			out = append(out, wantRom{a, b})
		}
	}
	return out
}

// fewRoms holds stores of each sort, short enough to be cut everywhere, again and again.
func fewRoms() []wantRom {
	out := []wantRom{
		{},
		{{0, 0, "junk"}, {0, 0, "more junk"}},
		{{165, 3, "no turn"}, {165, 255, "none either"}},
		{{164, 1, "no mark"}, {166, 2, "none either"}},
		{{165, 0, ""}, {}},
		{{}, {165, 0, ""}},
		{{165, 2, "A"}, {165, 3, "marked, no turn"}},
		{{165, 255, "marked, no turn"}, {165, 2, "B"}},
		{{165, 2, "A"}, {0, 0, "old bytes"}},
		{{0, 2, "old bytes"}, {165, 1, "B"}},
		{{165, 1, "A"}, {165, 1, ofSize(maxData+1, 1)}},
		{{165, 1, ofSize(maxData+1, 1)}, {165, 1, "B"}},
		{{165, 1, ofSize(maxData+1, 1)}, {165, 1, ofSize(maxData+1, 2)}},
	}
	for turnA := range byte(4) {
		for turnB := range byte(4) {
			out = append(out, wantRom{{165, turnA, "in A"}, {165, turnB, "in B"}})
		}
	}
	return out
}

func randomText(rnd *rand.Rand, most int) string {
	out := make([]byte, rnd.Intn(most+1))
	for i := range out {
		out[i] = edgeBytes[rnd.Intn(len(edgeBytes))]
		if rnd.Intn(2) == 0 {
			out[i] = byte(rnd.Intn(256))
		}
	}
	return string(out)
}

func randomRom(rnd *rand.Rand) wantRom {
	var out wantRom
	for i := range out {
		out[i] = wantSlot{165, byte(rnd.Intn(3)), randomText(rnd, 6)}
		if rnd.Intn(3) == 0 {
			out[i].mark = edgeMarks[rnd.Intn(len(edgeMarks))]
		}
		if rnd.Intn(3) == 0 {
			out[i].turn = edgeTurns[rnd.Intn(len(edgeTurns))]
		}
	}
	return out
}

func randomWrites(rnd *rand.Rand, most int) []impl.HoldWrite {
	out := make([]impl.HoldWrite, rnd.Intn(most+1))
	for i := range out {
		out[i] = impl.HoldWrite{Kind: 1 + rnd.Intn(4), Slot: rnd.Intn(2), Byte: edgeBytes[rnd.Intn(len(edgeBytes))]}
		switch rnd.Intn(12) {
		case 0:
			out[i].Kind = edgeKinds[rnd.Intn(len(edgeKinds))]
		case 1:
			out[i].Slot = edgeSlots[rnd.Intn(len(edgeSlots))]
		case 2, 3, 4:
			out[i].Kind = impl.HoldPut
		}
	}
	return out
}

func checkNow(t *testing.T, rom wantRom) {
	t.Helper()
	if got := impl.HoldSlotNow(rom.made()); got != rom.now() {
		t.Fatalf("%v: slot %d counts; want %d", rom, got, rom.now())
	}
	data, ok := impl.HoldNow(rom.made())
	if want, wantOk := rom.kept(); string(data) != want || ok != wantOk {
		t.Fatalf("%v keeps %.40q, %v; want %.40q, %v", rom, data, ok, want, wantOk)
	}
}

// checkPlan holds a plan against the chapter's words, and answers it.
func checkPlan(t *testing.T, rom wantRom, data string) []impl.HoldWrite {
	t.Helper()
	writes, ok := impl.HoldPlan(rom.made(), []byte(data))
	if !ok || !slices.Equal(writes, rom.plan(data)) {
		t.Fatalf("%v, %.40q: the plan is %.300s, %v; want %.300s", rom, data, fmt.Sprint(writes), ok, fmt.Sprint(rom.plan(data)))
	}
	return writes
}

// cutPlan answers the store behind a fall, and holds what it keeps against promise 13.
func cutPlan(t *testing.T, rom wantRom, data string, writes []impl.HoldWrite, n int) wantRom {
	t.Helper()
	want, wantOk := rom.kept()
	// The mark of the new slot is the write behind those of mark, wipe, bytes and turn.
	if n >= len(data)+4 {
		want, wantOk = data, true
	}
	cut := impl.HoldPlay(rom.made(), writes, n)
	got, ok := impl.HoldNow(cut)
	if string(got) != want || ok != wantOk {
		t.Fatalf("%v, to keep %.40q, cut behind %d of %d, keeps %.40q, %v; want %.40q, %v", rom, data, n, len(writes), got, ok, want, wantOk)
	}
	return romSeen(cut)
}

// checkWhole is the second half of promise 14; as the slot that is not written is not good if none counts, it holds of any store.
func checkWhole(t *testing.T, rom wantRom) {
	t.Helper()
	if rom[0].good() == rom[1].good() {
		t.Fatalf("behind a whole plan %v: both good %v", rom, rom[0].good())
	}
}

func TestHoldConstants(t *testing.T) {
	if impl.HoldMark != 1 || impl.HoldTurn != 2 || impl.HoldWipe != 3 || impl.HoldPut != 4 || impl.HoldGood != 165 || impl.HoldMaxData != 20100 {
		t.Error("constants")
	}
}

// Each kind of a write, to each slot, of each byte, and those beyond.
func TestHoldDo(t *testing.T) {
	for _, rom := range append(fewRoms(), wantRom{{1, 2, "ab"}, {3, 4, "cde"}}) {
		for _, kind := range edgeKinds {
			for _, slot := range edgeSlots {
				for _, b := range edgeBytes {
					w := impl.HoldWrite{Kind: kind, Slot: slot, Byte: b}
					if got := romSeen(impl.HoldDo(rom.made(), w)); got != rom.do(w) {
						t.Fatalf("%v with %v is %v; want %v", rom, w, got, rom.do(w))
					}
				}
			}
		}
	}
}

func TestHoldDoByHand(t *testing.T) {
	rom := wantRom{{1, 2, "ab"}, {3, 4, "cde"}}
	for _, c := range []struct {
		w    impl.HoldWrite
		want wantRom
	}{
		{impl.HoldWrite{Kind: 1, Slot: 0, Byte: 165}, wantRom{{165, 2, "ab"}, {3, 4, "cde"}}},
		{impl.HoldWrite{Kind: 1, Slot: 1, Byte: 0}, wantRom{{1, 2, "ab"}, {0, 4, "cde"}}},
		{impl.HoldWrite{Kind: 2, Slot: 0, Byte: 255}, wantRom{{1, 255, "ab"}, {3, 4, "cde"}}},
		{impl.HoldWrite{Kind: 2, Slot: 1, Byte: 0}, wantRom{{1, 2, "ab"}, {3, 0, "cde"}}},
		{impl.HoldWrite{Kind: 3, Slot: 0, Byte: 7}, wantRom{{1, 2, ""}, {3, 4, "cde"}}},
		{impl.HoldWrite{Kind: 3, Slot: 1}, wantRom{{1, 2, "ab"}, {3, 4, ""}}},
		{impl.HoldWrite{Kind: 4, Slot: 0, Byte: 255}, wantRom{{1, 2, "ab\xff"}, {3, 4, "cde"}}},
		{impl.HoldWrite{Kind: 4, Slot: 1, Byte: 0}, wantRom{{1, 2, "ab"}, {3, 4, "cde\x00"}}},
		{impl.HoldWrite{Kind: 0, Slot: 0, Byte: 9}, rom},
		{impl.HoldWrite{Kind: 5, Slot: 1, Byte: 9}, rom},
		{impl.HoldWrite{Kind: 1, Slot: -1, Byte: 9}, rom},
		{impl.HoldWrite{Kind: 2, Slot: 2, Byte: 9}, rom},
		{impl.HoldWrite{Kind: 3, Slot: 2}, rom},
		{impl.HoldWrite{Kind: 4, Slot: -1, Byte: 9}, rom},
		{impl.HoldWrite{}, rom},
	} {
		if got := romSeen(impl.HoldDo(rom.made(), c.w)); got != c.want {
			t.Errorf("%v is %v; want %v", c.w, got, c.want)
		}
	}
}

// A byte is put where there is room, and nowhere else; what is too long stays as it is, up to its end.
func TestHoldPutAtTheBound(t *testing.T) {
	for _, size := range []int{0, maxData - 2, maxData - 1, maxData, maxData + 1, 3 * maxData} {
		data, want := ofSize(size, 3), ofSize(size, 3)
		if size < maxData {
			want += "\xee"
		}
		rom := wantRom{{0, 1, data}, {165, 2, data}}
		for slot := range 2 {
			got := romSeen(impl.HoldDo(rom.made(), impl.HoldWrite{Kind: impl.HoldPut, Slot: slot, Byte: 0xEE}))
			if got[slot].data != want || got[1-slot] != rom[1-slot] {
				t.Errorf("a byte put to %d bytes of slot %d: %v", size, slot, got)
			}
		}
	}
}

func TestHoldPutsPastTheBound(t *testing.T) {
	var writes []impl.HoldWrite
	for i := range maxData + 50 {
		writes = append(writes, impl.HoldWrite{Kind: impl.HoldPut, Slot: i % 3 % 2, Byte: byte(i)})
		writes = append(writes, impl.HoldWrite{Kind: impl.HoldPut, Slot: 1, Byte: byte(i / 256)})
	}
	var want [2][]byte
	for _, w := range writes {
		if len(want[w.Slot]) < maxData {
			want[w.Slot] = append(want[w.Slot], w.Byte)
		}
	}
	got := impl.HoldPlay(impl.HoldRom{}, writes, len(writes))
	if !bytes.Equal(got.A.Data, want[0]) || !bytes.Equal(got.B.Data, want[1]) || len(got.B.Data) != maxData {
		t.Errorf("%d and %d bytes; want %d and %d", len(got.A.Data), len(got.B.Data), len(want[0]), len(want[1]))
	}
}

// Promise 15: of the first n of any writes to any store.
func TestHoldPlayIsDoOfEach(t *testing.T) {
	rnd := rand.New(rand.NewSource(11))
	for i := range 3000 {
		rom, writes := randomRom(rnd), randomWrites(rnd, 14)
		if i%100 == 0 {
			// So that the bound is met on the way.
			rom[rnd.Intn(2)].data = ofSize(maxData-2+rnd.Intn(4), i)
		}
		ns := []int{math.MinInt, math.MinInt + 1, math.MinInt32, -1 << 32, -len(writes), -1}
		for n := range len(writes) + 3 {
			ns = append(ns, n)
		}
		for _, n := range append(ns, 1<<32, math.MaxInt32, math.MaxInt-1, math.MaxInt) {
			each := rom.made()
			for i := 0; i < len(writes) && i < n; i++ {
				each = impl.HoldDo(each, writes[i])
			}
			got := romSeen(impl.HoldPlay(rom.made(), writes, n))
			if got != romSeen(each) || got != rom.play(writes, n) {
				t.Fatalf("%v with %d of %v is %v; each by itself %v; want %v", rom, n, writes, got, romSeen(each), rom.play(writes, n))
			}
		}
	}
}

// Writes whose order is seen: each is undone, or added to, by the next.
func TestHoldPlayInOrder(t *testing.T) {
	writes := []impl.HoldWrite{
		{Kind: impl.HoldPut, Byte: 'a'}, {Kind: impl.HoldWipe}, {Kind: impl.HoldPut, Byte: 'b'}, {Kind: impl.HoldPut, Byte: 'c'},
		{Kind: impl.HoldMark, Byte: 1}, {Kind: impl.HoldMark, Byte: 2}, {Kind: impl.HoldTurn, Byte: 3}, {Kind: impl.HoldTurn, Byte: 4},
		{Kind: impl.HoldPut, Slot: 1, Byte: 'd'}, {Kind: impl.HoldPut, Byte: 'e'},
	}
	wants := []wantRom{
		{{9, 9, "x"}, {8, 8, "y"}}, {{9, 9, "xa"}, {8, 8, "y"}}, {{9, 9, ""}, {8, 8, "y"}}, {{9, 9, "b"}, {8, 8, "y"}}, {{9, 9, "bc"}, {8, 8, "y"}},
		{{1, 9, "bc"}, {8, 8, "y"}}, {{2, 9, "bc"}, {8, 8, "y"}}, {{2, 3, "bc"}, {8, 8, "y"}}, {{2, 4, "bc"}, {8, 8, "y"}}, {{2, 4, "bc"}, {8, 8, "yd"}}, {{2, 4, "bce"}, {8, 8, "yd"}},
	}
	for n, want := range wants {
		if got := romSeen(impl.HoldPlay(wants[0].made(), writes, n)); got != want {
			t.Errorf("%d writes: %v; want %v", n, got, want)
		}
	}
	for _, n := range []int{math.MinInt, -1} {
		if got := romSeen(impl.HoldPlay(wants[0].made(), writes, n)); got != wants[0] {
			t.Errorf("%d writes: %v", n, got)
		}
	}
	for _, n := range []int{11, math.MaxInt} {
		if got := romSeen(impl.HoldPlay(wants[0].made(), writes, n)); got != wants[10] {
			t.Errorf("%d writes: %v", n, got)
		}
	}
}

func TestHoldPlayNoWrites(t *testing.T) {
	for _, rom := range append(fewRoms(), bigRoms()...) {
		for _, writes := range [][]impl.HoldWrite{nil, {}, make([]impl.HoldWrite, 0, 5)} {
			for _, n := range []int{math.MinInt, -1, 0, 1, 5, math.MaxInt} {
				if got := romSeen(impl.HoldPlay(rom.made(), writes, n)); got != rom {
					t.Fatalf("%v with %d of no writes is %v", rom, n, got)
				}
			}
		}
	}
}

func TestHoldPlayMany(t *testing.T) {
	writes := make([]impl.HoldWrite, 1000000)
	for i := range writes {
		writes[i] = impl.HoldWrite{Kind: impl.HoldMark + i%2, Slot: i / 2 % 2, Byte: byte(i)}
	}
	want := wantRom{}.play(writes, len(writes))
	if got := romSeen(impl.HoldPlay(impl.HoldRom{}, writes, math.MaxInt)); got != want {
		t.Errorf("%v; want %v", got, want)
	}
}

// Which slot counts, for each pair of turns with both slots good, one and none, written out.
func TestHoldSlotNowTurns(t *testing.T) {
	both := map[[2]byte]int{{0, 0}: 0, {0, 1}: 1, {0, 2}: 0, {1, 0}: 0, {1, 1}: 0, {1, 2}: 1, {2, 0}: 1, {2, 1}: 0, {2, 2}: 0}
	for _, a := range edgeTurns {
		for _, b := range edgeTurns {
			marked, ok := both[[2]byte{a, b}]
			if !ok {
				marked = -1
				if b <= 2 {
					marked = 1
				}
				if a <= 2 {
					marked = 0
				}
			}
			justA, justB := -1, -1
			if a <= 2 {
				justA = 0
			}
			if b <= 2 {
				justB = 1
			}
			for _, c := range []struct {
				markA, markB byte
				want         int
			}{
				{165, 165, marked}, {165, 0, justA}, {165, 164, justA}, {165, 166, justA}, {0, 165, justB}, {164, 165, justB}, {166, 165, justB},
				{0, 0, -1}, {164, 166, -1}, {166, 164, -1}, {255, 1, -1},
			} {
				rom := wantRom{{c.markA, a, "in A"}, {c.markB, b, "in B"}}
				if got := impl.HoldSlotNow(rom.made()); got != c.want {
					t.Errorf("%v: slot %d counts; want %d", rom, got, c.want)
				}
				data, ok := impl.HoldNow(rom.made())
				if want := []string{"", "in A", "in B"}[c.want+1]; string(data) != want || ok != (c.want >= 0) {
					t.Errorf("%v keeps %q, %v; want %q", rom, data, ok, want)
				}
			}
		}
	}
}

func TestHoldNow(t *testing.T) {
	for _, rom := range append(smallRoms(), bigRoms()...) {
		checkNow(t, rom)
	}
	for mark := range 256 {
		for turn := range 256 {
			checkNow(t, wantRom{{byte(mark), byte(turn), "A"}, {165, 1, "B"}})
			checkNow(t, wantRom{{165, 1, "A"}, {byte(mark), byte(turn), "B"}})
		}
	}
}

// A slot of HoldMaxData bytes is good, one of a byte more is not.
func TestHoldNowAtTheBound(t *testing.T) {
	for size, good := range map[int]bool{0: true, maxData - 1: true, maxData: true, maxData + 1: false, 2 * maxData: false} {
		data := ofSize(size, 5)
		for slot := range 2 {
			var rom wantRom
			rom[slot] = wantSlot{165, 2, data}
			want := -1
			if good {
				want = slot
			}
			if got := impl.HoldSlotNow(rom.made()); got != want {
				t.Errorf("%d bytes in slot %d: slot %d counts", size, slot, got)
			}
			got, ok := impl.HoldNow(rom.made())
			if ok != good || good && string(got) != data || !good && len(got) != 0 {
				t.Errorf("%d bytes in slot %d: %d bytes, %v", size, slot, len(got), ok)
			}
		}
	}
}

func TestHoldPlan(t *testing.T) {
	for _, rom := range smallRoms() {
		for _, data := range []string{"", "\x00", "\xa5", "\xff\x00\xa5"} {
			checkPlan(t, rom, data)
		}
	}
}

func TestHoldPlanByHand(t *testing.T) {
	for _, c := range []struct {
		rom  wantRom
		data string
		want []impl.HoldWrite
	}{
		{wantRom{}, "", []impl.HoldWrite{{Kind: 1}, {Kind: 3}, {Kind: 2}, {Kind: 1, Byte: 165}}},
		{wantRom{{165, 7, "a"}, {0, 2, "b"}}, "z", []impl.HoldWrite{{Kind: 1}, {Kind: 3}, {Kind: 4, Byte: 'z'}, {Kind: 2}, {Kind: 1, Byte: 165}}},
		{wantRom{{165, 2, "a"}, {0, 2, "b"}}, "z", []impl.HoldWrite{{Kind: 1, Slot: 1}, {Kind: 3, Slot: 1}, {Kind: 4, Slot: 1, Byte: 'z'}, {Kind: 2, Slot: 1}, {Kind: 1, Slot: 1, Byte: 165}, {Kind: 1}}},
		{wantRom{{165, 1, "a"}, {165, 2, "b"}}, "", []impl.HoldWrite{{Kind: 1}, {Kind: 3}, {Kind: 2}, {Kind: 1, Byte: 165}, {Kind: 1, Slot: 1}}},
		{wantRom{{165, 1, "a"}, {165, 1, "b"}}, "", []impl.HoldWrite{{Kind: 1, Slot: 1}, {Kind: 3, Slot: 1}, {Kind: 2, Slot: 1, Byte: 2}, {Kind: 1, Slot: 1, Byte: 165}, {Kind: 1}}},
		{wantRom{{0, 1, "a"}, {165, 1, "b"}}, "", []impl.HoldWrite{{Kind: 1}, {Kind: 3}, {Kind: 2, Byte: 2}, {Kind: 1, Byte: 165}, {Kind: 1, Slot: 1}}},
	} {
		got, ok := impl.HoldPlan(c.rom.made(), []byte(c.data))
		if !ok || !slices.Equal(got, c.want) {
			t.Errorf("%v, %q: the plan is %v, %v; want %v", c.rom, c.data, got, ok, c.want)
		}
	}
}

func TestHoldPlanRefuses(t *testing.T) {
	for _, rom := range append(fewRoms(), bigRoms()...) {
		for _, size := range []int{maxData + 1, maxData + 2, 3 * maxData} {
			if writes, ok := impl.HoldPlan(rom.made(), make([]byte, size)); ok || len(writes) != 0 {
				t.Fatalf("%v, %d bytes: %d writes, %v", rom, size, len(writes), ok)
			}
		}
	}
}

// Promise 13, cut behind each number of writes.
func TestHoldOldOrNew(t *testing.T) {
	for i, rom := range smallRoms() {
		for _, data := range []string{"", []string{"n", "\xa5", "\x00", "\xff"}[i%4], "new"} {
			writes := checkPlan(t, rom, data)
			for n := -1; n <= len(writes)+1; n++ {
				cutPlan(t, rom, data, writes, n)
			}
			cutPlan(t, rom, data, writes, math.MinInt)
			checkWhole(t, cutPlan(t, rom, data, writes, math.MaxInt))
		}
	}
}

// Promise 13, where the old bytes, those in the way and the new ones are as many as there is room for.
func TestHoldOldOrNewAtTheBound(t *testing.T) {
	roms := bigRoms()
	for i, size := range []int{0, 1, maxData - 1, maxData} {
		data := ofSize(size, 50+i)
		for _, rom := range roms {
			writes := checkPlan(t, rom, data)
			for _, n := range []int{-1, 0, 1, 2, 3, 2 + size/2, size + 1, size + 2, size + 3, size + 4, size + 5, size + 6} {
				cutPlan(t, rom, data, writes, n)
			}
			checkWhole(t, cutPlan(t, rom, data, writes, math.MaxInt))
		}
	}
}

// Promise 13 of random stores and bytes.
func TestHoldOldOrNewOfAny(t *testing.T) {
	rnd := rand.New(rand.NewSource(12))
	for range 3000 {
		rom, data := randomRom(rnd), randomText(rnd, 12)
		writes := checkPlan(t, rom, data)
		for n := range len(writes) + 1 {
			cutPlan(t, rom, data, writes, n)
		}
	}
}

// fallOn cuts a plan behind each number of writes, and goes on with the next from each such fall.
func fallOn(t *testing.T, rom wantRom, datas []string) {
	t.Helper()
	if len(datas) == 0 {
		return
	}
	writes := checkPlan(t, rom, datas[0])
	for n := range len(writes) + 1 {
		cut := cutPlan(t, rom, datas[0], writes, n)
		if n == len(writes) {
			checkWhole(t, cut)
		}
		fallOn(t, cut, datas[1:])
	}
}

// Promise 14, each fall of three in a row.
func TestHoldEachFallInARow(t *testing.T) {
	for _, rom := range fewRoms() {
		fallOn(t, rom, []string{"one", "", "3"})
		fallOn(t, rom, []string{"", "", "", ""})
	}
}

// Promise 14, some hundred falls in a row, with whole plans between.
func TestHoldManyFallsInARow(t *testing.T) {
	rnd := rand.New(rand.NewSource(13))
	for range 60 {
		rom := randomRom(rnd)
		for range 300 {
			data := randomText(rnd, 9)
			writes := checkPlan(t, rom, data)
			n := rnd.Intn(len(writes) + 1)
			if rnd.Intn(3) == 0 {
				// Near the mark falls tell most.
				n = len(data) + 3 + rnd.Intn(3)
			}
			rom = cutPlan(t, rom, data, writes, n)
			if n >= len(writes) {
				checkWhole(t, rom)
			}
		}
	}
}

// Promise 14 where just the last write is missing each time, so that both slots stay good, turn behind turn.
func TestHoldBothGoodTurnBehindTurn(t *testing.T) {
	rom := wantRom{}
	for i := range 20 {
		data := ofSize(i, i)
		writes := checkPlan(t, rom, data)
		rom = cutPlan(t, rom, data, writes, len(data)+4)
		if want := (wantSlot{165, byte(i % 3), data}); rom[i%2] != want {
			t.Fatalf("behind %d falls %v", i+1, rom)
		}
		if i > 0 && (!rom[0].good() || !rom[1].good()) {
			t.Fatalf("behind %d falls %v", i+1, rom)
		}
	}
}

// Promise 14: whole plans alone go from slot to slot, turn to turn.
func TestHoldWholePlans(t *testing.T) {
	for _, start := range fewRoms() {
		rom := start
		for i := range 8 {
			data := ofSize(i, i)
			to, turn := 0, byte(0)
			if now := rom.now(); now != -1 {
				to, turn = 1-now, (rom[now].turn+1)%3
			}
			writes := checkPlan(t, rom, data)
			rom = cutPlan(t, rom, data, writes, len(writes))
			checkWhole(t, rom)
			if rom[to] != (wantSlot{165, turn, data}) {
				t.Fatalf("%v, behind %d plans: %v", start, i+1, rom)
			}
		}
	}
}

// roomy is a list in the midst of longer ones, which must stay as they are.
type roomy[E comparable] struct {
	whole, before []E
	list          []E
}

func roomFor[E comparable](list []E, filler E) roomy[E] {
	whole := []E{filler, filler}
	whole = append(whole, list...)
	for range 40 {
		whole = append(whole, filler)
	}
	return roomy[E]{whole: whole, before: slices.Clone(whole), list: whole[2 : 2+len(list)]}
}

func (r roomy[E]) check(t *testing.T, what string) {
	t.Helper()
	if !slices.Equal(r.whole, r.before) {
		t.Fatalf("%s is written to", what)
	}
}

// fill writes into a list and its spare room.
func fill[E any](list []E, e E) {
	list = list[:cap(list)]
	for i := range list {
		list[i] = e
	}
}

// checkApart writes into each list of a store, and looks at the other.
func checkApart(t *testing.T, rom impl.HoldRom) {
	t.Helper()
	fill(rom.A.Data, 0x11)
	fill(rom.B.Data, 0x22)
	for i, b := range rom.A.Data[:cap(rom.A.Data)] {
		if b != 0x11 {
			t.Fatalf("byte %d of A is one of B", i)
		}
	}
	fill(rom.A.Data, 0x33)
	for i, b := range rom.B.Data[:cap(rom.B.Data)] {
		if b != 0x22 {
			t.Fatalf("byte %d of B is one of A", i)
		}
	}
}

var marksAndWipes = []impl.HoldWrite{
	{Kind: impl.HoldMark}, {Kind: impl.HoldMark, Slot: 1, Byte: 165}, {Kind: impl.HoldTurn, Byte: 1}, {Kind: impl.HoldWipe}, {Kind: impl.HoldWipe, Slot: 1},
	{Kind: impl.HoldPut, Byte: 0x55}, {Kind: impl.HoldPut, Slot: 1, Byte: 0x66}, {Kind: impl.HoldPut, Slot: 2, Byte: 0x77}, {Kind: 9, Byte: 0x88},
}

// Nothing is written into an argument or behind its end, nor when an answer is written to.
func TestHoldLeavesArguments(t *testing.T) {
	rnd := rand.New(rand.NewSource(14))
	for i := range 2000 {
		start := randomRom(rnd)
		a, b := roomFor([]byte(start[0].data), 0xEE), roomFor([]byte(start[1].data), 0xDD)
		rom := impl.HoldRom{A: impl.HoldSlot{Mark: start[0].mark, Turn: start[0].turn, Data: a.list}, B: impl.HoldSlot{Mark: start[1].mark, Turn: start[1].turn, Data: b.list}}
		data := roomFor([]byte(randomText(rnd, 6)), 0xCC)
		writes := roomFor(append(randomWrites(rnd, 6), marksAndWipes[i%len(marksAndWipes)]), impl.HoldWrite{Kind: 4, Byte: 0xBB})
		check := func(what string) {
			t.Helper()
			a.check(t, what+": the store's A")
			b.check(t, what+": the store's B")
			data.check(t, what+": the bytes")
			writes.check(t, what+": the writes")
			if rom.A.Mark != start[0].mark || rom.A.Turn != start[0].turn || rom.B.Mark != start[1].mark || rom.B.Turn != start[1].turn {
				t.Fatalf("%s: the store is written to", what)
			}
		}
		for _, w := range marksAndWipes {
			done := impl.HoldDo(rom, w)
			check("HoldDo")
			checkApart(t, done)
			check("what HoldDo answers")
		}
		for _, n := range []int{-1, 0, 1, len(writes.list), len(writes.list) + 1} {
			played := impl.HoldPlay(rom, writes.list, n)
			if n > len(writes.list) && romSeen(played) != start.play(writes.list, len(writes.list)) {
				t.Fatal("HoldPlay goes behind the end of the writes")
			}
			check("HoldPlay")
			checkApart(t, played)
			check("what HoldPlay answers")
		}
		impl.HoldSlotNow(rom)
		check("HoldSlotNow")
		kept, _ := impl.HoldNow(rom)
		check("HoldNow")
		fill(kept, 0x44)
		check("what HoldNow answers")
		plan, _ := impl.HoldPlan(rom, data.list)
		check("HoldPlan")
		fill(plan, impl.HoldWrite{Kind: 4, Byte: 0x99})
		check("what HoldPlan answers")
	}
}

// Two slots of an argument may be one list, or overlap; those of an answer don't.
func TestHoldArgumentsThatShare(t *testing.T) {
	whole := []byte("0123456789")
	before := string(whole)
	for _, rom := range []impl.HoldRom{
		{A: impl.HoldSlot{Data: whole}, B: impl.HoldSlot{Data: whole}},
		{A: impl.HoldSlot{Mark: 165, Data: whole[:4]}, B: impl.HoldSlot{Mark: 165, Turn: 1, Data: whole[2:6]}},
		{A: impl.HoldSlot{Data: whole[5:]}, B: impl.HoldSlot{Mark: 165, Data: whole[:5]}},
		{A: impl.HoldSlot{Mark: 165, Data: whole[:0]}, B: impl.HoldSlot{Mark: 165, Data: whole[:0]}},
	} {
		start := romSeen(rom)
		for _, w := range marksAndWipes {
			for _, got := range []impl.HoldRom{impl.HoldDo(rom, w), impl.HoldPlay(rom, []impl.HoldWrite{w, w}, 1)} {
				if romSeen(got) != start.do(w) {
					t.Fatalf("%v with %v is %v", start, w, romSeen(got))
				}
				checkApart(t, got)
			}
		}
		checkApart(t, impl.HoldPlay(rom, nil, 0))
		plan, ok := impl.HoldPlan(rom, whole)
		if !ok || !slices.Equal(plan, start.plan(before)) {
			t.Fatalf("%v: the plan of its own bytes is %v", start, plan)
		}
		if played := impl.HoldPlay(rom, plan, len(plan)); romSeen(played) != start.play(plan, len(plan)) {
			t.Fatalf("%v: its own bytes are kept as %v", start, romSeen(played))
		}
		kept, _ := impl.HoldNow(rom)
		fill(kept, 0x44)
		if string(whole) != before {
			t.Fatal("an argument is written to")
		}
	}
}

// A list of nothing is as good as a nil one.
func TestHoldNothingIsNil(t *testing.T) {
	nothing := [][]byte{nil, {}, make([]byte, 0, 8)}
	for _, marks := range [][2]byte{{0, 0}, {165, 0}, {0, 165}, {165, 165}} {
		want := wantRom{{marks[0], 1, ""}, {marks[1], 2, ""}}
		for _, a := range nothing {
			for _, b := range nothing {
				rom := impl.HoldRom{A: impl.HoldSlot{Mark: marks[0], Turn: 1, Data: a}, B: impl.HoldSlot{Mark: marks[1], Turn: 2, Data: b}}
				if impl.HoldSlotNow(rom) != want.now() {
					t.Errorf("%v: slot %d counts", want, impl.HoldSlotNow(rom))
				}
				data, ok := impl.HoldNow(rom)
				if _, wantOk := want.kept(); len(data) != 0 || ok != wantOk {
					t.Errorf("%v keeps %q, %v", want, data, ok)
				}
				for _, w := range marksAndWipes {
					if got := romSeen(impl.HoldDo(rom, w)); got != want.do(w) {
						t.Errorf("%v with %v is %v", want, w, got)
					}
				}
				for _, data := range nothing {
					if plan, ok := impl.HoldPlan(rom, data); !ok || !slices.Equal(plan, want.plan("")) {
						t.Errorf("%v: the plan of nothing is %v, %v", want, plan, ok)
					}
				}
			}
		}
	}
}

// No call keeps anything: what is written into an answer, or asked between, is not seen in the next.
func TestHoldKeepsNothing(t *testing.T) {
	rom := wantRom{{165, 1, "in A"}, {165, 2, "in B"}}
	other := wantRom{{165, 0, "other"}, {0, 0, "junk"}}
	for range 3 {
		checkNow(t, rom)
		plan := checkPlan(t, rom, "new")
		fill(plan, impl.HoldWrite{Kind: 3, Slot: 1, Byte: 9})
		fill(checkPlan(t, other, "else"), impl.HoldWrite{})
		played := impl.HoldPlay(rom.made(), rom.plan("new"), 4)
		if romSeen(played) != rom.play(rom.plan("new"), 4) {
			t.Fatal(romSeen(played))
		}
		checkApart(t, played)
		kept, _ := impl.HoldNow(rom.made())
		fill(kept, 0x77)
		checkNow(t, other)
	}
}

// Calls at the same time, on the same arguments, answer as one by itself does.
func TestHoldAtTheSameTime(t *testing.T) {
	start := wantRom{{165, 1, "in A"}, {165, 2, "in B"}}
	rom, data := start.made(), []byte(ofSize(500, 3))
	writes := start.plan(string(data))
	want := start.play(writes, len(writes))
	var group sync.WaitGroup
	for range 8 {
		group.Go(func() {
			for range 20 {
				plan, ok := impl.HoldPlan(rom, data)
				if got := romSeen(impl.HoldPlay(rom, writes, len(writes))); got != want || !ok || !slices.Equal(plan, writes) {
					t.Errorf("%v; want %v", got, want)
				}
			}
		})
	}
	group.Wait()
	if romSeen(rom) != start {
		t.Error("the store is written to")
	}
}

func FuzzHoldFalls(f *testing.F) {
	f.Add(byte(0), byte(0), []byte{}, byte(0), byte(0), []byte{}, []byte{}, 0, []byte{}, 0)
	f.Add(byte(165), byte(2), []byte("A"), byte(165), byte(0), []byte("B"), []byte("new"), 7, []byte("newer"), 3)
	f.Fuzz(func(t *testing.T, markA, turnA byte, dataA []byte, markB, turnB byte, dataB []byte, first []byte, n int, second []byte, m int) {
		if len(first) > maxData || len(second) > maxData {
			return
		}
		rom := wantRom{{markA, turnA, string(dataA)}, {markB, turnB, string(dataB)}}
		checkNow(t, rom)
		cut := cutPlan(t, rom, string(first), checkPlan(t, rom, string(first)), n)
		whole := cutPlan(t, cut, string(second), checkPlan(t, cut, string(second)), math.MaxInt)
		checkWhole(t, whole)
		cutPlan(t, cut, string(second), checkPlan(t, cut, string(second)), m)
	})
}
