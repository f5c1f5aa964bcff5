/- Texts of this proof laid together: KepD, KbA. -/
import Derived.Test.YtdhoimjkgicneabLot18
import Derived.Laws.Tables
import Derived.Deep.RegionHeld
import Derived.StillTailTactics
import Derived.Test.YtdhoimjkgicneabLot14
/- What is kept of a memory, as both sides say it. -/
namespace Go.Proofs.Ytdhoimjkgicneab
open Go Go.RowKit

theorem zMemK : Try.zeroCells57 = mem0.row := by kernel_rfl
attribute [local go_sem] zMemK

theorem fold_set : ∀ (l : List Value) (off s : Nat) (c : Array Value) (k : Nat), ((l.zipIdx s).foldl (fun cs (c, j) => cs.setIfInBounds (off + j) c) c)[k]? = if off + s ≤ k ∧ k < off + s + l.length ∧ k < c.size then l[k - (off + s)]? else c[k]?
  | [], off, s, c, k => by simp; intro h1 h2; omega
  | x :: l, off, s, c, k => by
    rw [List.zipIdx_cons, List.foldl_cons, fold_set l off (s + 1)]
    simp only [Array.size_setIfInBounds, List.length_cons]
    by_cases h1 : k = off + s
    · subst h1
      rw [if_neg (by omega)]
      by_cases h2 : off + s < c.size
      · rw [if_pos ⟨Nat.le_refl _, by omega, h2⟩]
        simp [h2]
      · rw [if_neg (by omega)]
        simp [h2]
    · by_cases h2 : off + (s + 1) ≤ k ∧ k < off + (s + 1) + l.length ∧ k < c.size
      · rw [if_pos h2, if_pos ⟨by omega, by omega, h2.2.2⟩, show k - (off + s) = k - (off + (s + 1)) + 1 by omega]
        simp
      · rw [if_neg h2, if_neg (by omega), Array.getElem?_setIfInBounds_ne (by omega)]

theorem fill_row {place : Nat → Option (Nat × Nat)} {f : Nat → Value} {N i off n : Nat} {u : Value} {g : Nat → Value} {rest : List (Nat × Value)} (hp : place i = some (off, n)) (hu : u.cells = rowOf g n) (hN : off + n ≤ N) :
    Instr.fill place (rowOf f N) ((i, u) :: rest) = Instr.fill place (rowOf (fun j => if off ≤ j ∧ j < off + n then g (j - off) else f j) N) rest := by
  rw [Instr.fill, hp]
  simp only [hu, rowOf_size]
  rw [if_neg (by simp; omega)]
  congr 1
  apply Array.ext_getElem?
  intro k
  rw [← Array.foldl_toList, Array.toList_zipIdx, fold_set]
  simp only [rowOf_size, Array.length_toList, Nat.add_zero]
  by_cases hk : k < N
  · by_cases h1 : off ≤ k ∧ k < off + n
    · rw [if_pos ⟨h1.1, h1.2, hk⟩, rowOf_get _ hk, if_pos h1, Array.getElem?_toList, rowOf_get _ (by omega)]
    · rw [if_neg (by omega), rowOf_get _ hk, rowOf_get _ hk, if_neg h1]
  · rw [if_neg (by omega)]
    simp [rowOf, hk]

/-- Where the fields of a memory lie. -/
def memPlaces : Array (Nat × Nat) := #[(0, 1), (1, 1), (2, 1), (3, 1), (4, 1), (5, 32), (37, 48), (85, 32), (117, 16), (133, 1), (134, 1), (135, 1)]

theorem built_mem (l : List (Nat × Value)) : Try.prog.built 57 l = Instr.fill (memPlaces[·]?) mem0.row l := by kernel_rfl

theorem list_build {ops : Array Oper} {Q : Exit → Act → World → Prop} {rest : List Oper} {o : Oper} {a : Act} {w : World} {t : TypeId} {parts : Array (Nat × Operand)} {cells : Array Value} {l : List (Nat × Value)}
    (hg : o.guard = none) (ho : o.op = .build t parts) (hl : (parts.map fun (i, x) => (i, a.eval x)).toList = l) (hb : Try.prog.built t l = some cells) (hK : wpList Try.prog ops Q rest (a.put o.dst (.agg cells)) w) : wpList Try.prog ops Q (o :: rest) a w := by
  rw [← hl] at hb
  refine wpList_build hg t parts ho (by rw [hb]; rfl) ?_
  rw [hb]
  exact hK

end Go.Proofs.Ytdhoimjkgicneab

/- A drawn memory with more that is kept. -/
namespace Go.Proofs.Ytdhoimjkgicneab
open Go Go.RowKit

attribute [local go_sem] zMemK

/-- A reader, nothing for the answer, and some memory in block q. -/
structure Dk (R c q : Nat) (w wr : World) : Prop where
  rd : Rd R c wr
  mv : Moved R w wr
  m : MemSome q wr
  o : MemAt w.heap.size mem0 wr

theorem Dk.call {R c c' q : Nat} {w wr w2 : World} (h : Dk R c q w wr) (hR : R < w.heap.size) (hq : w.heap.size < q) (rd : Rd R c' w2) (mv : Moved R wr w2) : Dk R c' q w w2 :=
  ⟨rd, h.mv.trans mv, h.m.moved mv (by omega), h.o.moved mv (by omega)⟩
theorem Dk.set {R c q k : Nat} {w wr : World} {u : Value} (h : Dk R c q w wr) (hR : R < w.heap.size) (hq : w.heap.size < q) (hk : k < 136) (hu : fitC k u) : Dk R c q w (wr.setCell ⟨q, k, none⟩ u) :=
  ⟨h.rd.setCell (by show R < q; omega) _, h.mv.setCell (by show w.heap.size ≤ q; omega) _, h.m.set hk hu,
    h.o.of_block (Below.heap_setCell _ _ _ _ (by simp; omega)) (by simpa [World.setCell] using h.o.z)⟩

/-- What a draw of such a memory leaves. -/
def DrawnK (R c : Nat) (w : World) (e : Ending) (w' : World) : Prop := ∃ v : MemV, v.Ok ∧ e = .returned (.agg v.row) ∧ Rd R (c + 260) w' ∧ Moved R w w'

set_option maxRecDepth 100000 in
set_option maxHeartbeats 1600000 in
theorem draw_kmem (R c : Nat) (w : World) (h : Rd R c w) (hc : c ≤ 200) :
    Calls Try.prog 46 #[.pointer (some ⟨R, 0, none⟩)] w (DrawnK R c w) := by
  have hR := h.size
  have M0 := MemAt.alloc mem0 w 57
  have H0 : Hid (Rd R c (w.alloc (.cells mem0.row 57)) ∧ MemAt w.heap.size mem0 (w.alloc (.cells mem0.row 57)) ∧ Moved R w (w.alloc (.cells mem0.row 57)) ∧ (w.alloc (.cells mem0.row 57)).heap.size = w.heap.size + 1) := ⟨h.alloc _, M0, Moved.alloc _ _ _, by simp⟩
  clear h M0
  go_enter Try.func46, Try.ntmps46
  go_upto_region 1 with fail
  generalize w.alloc (.cells mem0.row 57) = w1 at H0 ⊢
  go_wp2_with fail
  refine (draw_mem R c w1 H0.out.1 (by omega)).mono ?_
  rintro e w2 ⟨v, hv, rfl, rd2, mv2⟩
  have hz : w.heap.size < w2.heap.size := by have := mv2.size; have := H0.out.2.2.2; omega
  have m2 := MemAt.alloc mem0 w2 57
  have L1 := store_mem v m2
  have D0 : Dk R (c + 200) w2.heap.size w ((w2.alloc (.cells mem0.row 57)).setCells w2.heap.size 0 v.row.toList) := by
    refine ⟨Rd.setCells _ (rd2.alloc _) (by omega), Moved.setCells _ ((H0.out.2.2.1.trans mv2).alloc' _) (by omega), ⟨v, hv, m2.stored v⟩, ?_⟩
    have o2 := H0.out.2.1.moved mv2 (by omega)
    exact (o2.below ((Below.refl w2.heap.size w2).alloc (Nat.le_refl _) _) o2.z).other (by omega)
  clear m2 rd2 mv2 H0
  have HD : Hid (Dk R (c + 200) w2.heap.size w ((w2.alloc (.cells mem0.row 57)).setCells w2.heap.size 0 v.row.toList)) := D0
  clear D0
  go_upto_region 2 with (refine list_store (t := 57) (x := .pointer (some ⟨w2.heap.size, 0, none⟩)) (u := .agg v.row) rfl rfl rfl rfl L1 ?_)
  try simp only [Act.put]
  clear L1
  generalize (w2.alloc (.cells mem0.row 57)).setCells w2.heap.size 0 v.row.toList = w3 at HD ⊢
  generalize w2.heap.size = q at hz HD ⊢
  go_wp2_with fail
  go_loopw [4] (fun iv wr => ∃ k : Nat, k ≤ 4 ∧ iv = .int .i64 k ∧ Dk R (c + 200 + k * 14) q w wr) (fun iv _ => 4 - (intOf iv).toNat)
  case atStart => exact ⟨0, by omega, rfl, HD.out⟩
  case round =>
    clear HD
    obtain ⟨k, hk, rfl, D⟩ := hrel
    have HD : Hid (Dk R (c + 200 + k * 14) q w wr) := D
    clear D
    by_cases hlt : k < 4
    · have hlt' : (k : Int) < 4 := by omega
      go_wp2_with fail
      refine (pick_any R _ 16 wr HD.out.rd (by omega) (by omega)).mono ?_
      rintro e wa ⟨x, rfl, x0, x1, -, rda, mva⟩
      have x2 : x < 16 := x1 (by omega)
      have DA := HD.out.call hR hz rda mva
      clear HD rda mva x1
      obtain ⟨n, hn1, hn2, hn3⟩ : ∃ n : Nat, (16 : Int) + x = (n : Int) ∧ n < 32 ∧ (n : Int) < 32 := ⟨(16 + x).toNat, by omega, by omega, by omega⟩
      have HD : Hid (Dk R (c + 200 + k * 14 + 1) q w wa) := DA
      clear DA
      have n4 : IntKind.i64.wrap (n : Int) = (n : Int) := by simp [IntKind.wrap, IntKind.signed, IntKind.bits]; omega
      go_wp2_with fail
      refine (whole_any R _ wa HD.out.rd (by omega)).mono ?_
      rintro e wb ⟨z, rfl, z1, z2, rdb, mvb⟩
      have DB := HD.out.call hR hz rdb mvb
      clear HD rdb mvb
      obtain ⟨u1, c1⟩ := DB.m.c (k := 85 + n) (by omega)
      have f1 := DB.m.f (k := 85 + n) (by omega)
      have HD : Hid (Dk R (c + 200 + k * 14 + 1 + 2) q w (wb.setCell ⟨q, 85 + n, none⟩ (.int .i16 z))) := DB.set hR hz (by omega) (fit_d (by omega) z1 z2)
      clear DB
      go_wp2_with fail
      clear c1 f1
      generalize wb.setCell ⟨q, 85 + n, none⟩ (.int .i16 z) = wc at HD ⊢
      refine (pick_any R _ 16 wc HD.out.rd (by omega) (by omega)).mono ?_
      rintro e wd ⟨x', rfl, y0, y1, -, rda, mva⟩
      have y2 : x' < 16 := y1 (by omega)
      obtain ⟨j, rfl⟩ : ∃ j : Nat, x' = (j : Int) := ⟨x'.toNat, by omega⟩
      have DA := HD.out.call hR hz rda mva
      clear HD rda mva y1
      have HD : Hid (Dk R (c + 200 + k * 14 + 1 + 2 + 1) q w wd) := DA
      clear DA
      go_wp2_with fail
      refine (word_any R _ wd HD.out.rd (by omega)).mono ?_
      rintro e we ⟨z', rfl, rdb, mvb⟩
      have DB := HD.out.call hR hz rdb mvb
      clear HD rdb mvb
      obtain ⟨u1, c1⟩ := DB.m.c (k := 5 + j * 2 + 1) (by omega)
      have f1 := DB.m.f (k := 5 + j * 2 + 1) (by omega)
      have HD : Hid (Dk R (c + 200 + k * 14 + 1 + 2 + 1 + 8) q w (we.setCell ⟨q, 5 + j * 2 + 1, none⟩ (.int .u16 (IntKind.u16.wrap z')))) := DB.set hR hz (by omega) (fit_tC (by omega) z')
      clear DB
      obtain ⟨z'', hz''⟩ : ∃ z'', IntKind.u16.wrap z' = z'' := ⟨_, rfl⟩
      have hz3 : z' % 65536 = z'' := hz''
      rw [hz''] at HD
      go_wp2_with fail
      clear c1 f1 hz'' hz3
      generalize we.setCell ⟨q, 5 + j * 2 + 1, none⟩ (.int .u16 z'') = wf at HD ⊢
      refine (pick_any R _ 16 wf HD.out.rd (by omega) (by omega)).mono ?_
      rintro e wg ⟨x', rfl, y0', y1, -, rda, mva⟩
      have y2' : x' < 16 := y1 (by omega)
      obtain ⟨j', rfl⟩ : ∃ j' : Nat, x' = (j' : Int) := ⟨x'.toNat, by omega⟩
      have DA := HD.out.call hR hz rda mva
      clear HD rda mva y1
      have HD : Hid (Dk R (c + 200 + k * 14 + 1 + 2 + 1 + 8 + 1) q w wg) := DA
      clear DA
      go_wp2_with fail
      refine (pick_any R _ 2 wg HD.out.rd (by omega) (by omega)).mono ?_
      rintro e wh ⟨x', rfl, y0'', y1, -, rda, mva⟩
      have DB := HD.out.call hR hz rda mva
      clear HD rda mva y1
      obtain ⟨t, ht⟩ : ∃ t, (x' == 1) = t := ⟨_, rfl⟩
      obtain ⟨u1, c1⟩ := DB.m.c (k := 37 + j' * 3 + 1) (by omega)
      have f1 := DB.m.f (k := 37 + j' * 3 + 1) (by omega)
      have HD : Hid (Dk R (c + 200 + k * 14 + 1 + 2 + 1 + 8 + 1 + 1) q w (wh.setCell ⟨q, 37 + j' * 3 + 1, none⟩ (.bool t))) := DB.set hR hz (by omega) (fit_cL (by omega) t)
      clear DB
      go_wp2_with fail
      go_roundw
      case rel => exact ⟨k + 1, by omega, by go_num, by rw [show c + 200 + (k + 1) * 14 = c + 200 + k * 14 + 1 + 2 + 1 + 8 + 1 + 1 by omega]; exact HD.out⟩
      case measure => simp [intOf]; omega
    · obtain rfl : k = 4 := by omega
      obtain ⟨v', hv', A⟩ := HD.out.m
      have L9 := load_mem A
      have L10 := store_mem v' HD.out.o
      have HF : Hid (MemAt w.heap.size v' _ ∧ Rd R (c + 260) _ ∧ Moved R w _) := ⟨HD.out.o.stored v', Rd.setCells v'.row.toList (o := 0) (HD.out.rd.mono (by omega)) hR, Moved.setCells v'.row.toList (o := 0) HD.out.mv (Nat.le_refl _)⟩
      clear HD A
      go_wp2_with (first | (refine list_load (t := 57) (x := .pointer (some ⟨q, 0, none⟩)) (u := .agg v'.row) rfl rfl rfl L9 ?_) | refine list_store (t := 57) (x := .pointer (some ⟨w.heap.size, 0, none⟩)) (u := .agg v'.row) rfl rfl rfl rfl L10 ?_)
      exact ret_mem (c := 2) rfl rfl rfl HF.out.1 ⟨v', hv', rfl, HF.out.2.1, HF.out.2.2⟩

end Go.Proofs.Ytdhoimjkgicneab
