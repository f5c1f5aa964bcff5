/- Texts of this proof laid together: SamA, DevKT, DevT. -/
import Derived.Test.YtdhoimjkgicneaaDoorLot30
import Derived.Test.YtdhoimjkgicneaaDoorLot32
import Derived.Test.YtdhoimjkgicneaaDoorLot38
import Derived.Deep.CutRange
import Derived.Test.YtdhoimjkgicneaaDoorLot14
import Derived.Deep.RegionHeld
import Derived.Test.YtdhoimjkgicneaaDoorLot19
import Derived.Test.YtdhoimjkgicneaaDoorLot24
import Derived.Lib.LaidTab
import Derived.OpenShut
import Derived.Test.YtdhoimjkgicneaaDoorLot34
/- The law that two memories are equal exactly when their texts are equal, walked. -/
namespace Go.Proofs.YtdhoimjkgicneaaDoor.Sam
open Go Go.RowKit Go.Proofs.YtdhoimjkgicneaaDoor.PutB

/-- Two memories side by side. -/
structure Pair (a b : MemV) (q : Nat) (w wr : World) : Prop where
  A : MemAt q a wr
  B : MemAt (q + 1) b wr
  b : Below w.heap.size w wr

theorem pair_of {a b : MemV} {w w1 : World} (hb : Below w.heap.size w w1) (t1 t2 : TypeId) :
    MemAt w1.heap.size mem0 ((w1.alloc (.cells Tryd.zeroCells61 t1)).alloc (.cells Tryd.zeroCells61 t2)) ∧
    MemAt (w1.heap.size + 1) mem0 (((w1.alloc (.cells Tryd.zeroCells61 t1)).alloc (.cells Tryd.zeroCells61 t2)).setCells w1.heap.size 0 a.row.toList) ∧
    Pair a b w1.heap.size w ((((w1.alloc (.cells Tryd.zeroCells61 t1)).alloc (.cells Tryd.zeroCells61 t2)).setCells w1.heap.size 0 a.row.toList).setCells (w1.heap.size + 1) 0 b.row.toList) := by
  rw [zero_row]
  obtain ⟨Z, Y0, -⟩ := two_mems mem0 mem0 w1 t1 t2
  have Y := Y0.other (c := w1.heap.size) (o := 0) (vs := a.row.toList) (by omega)
  have hs := hb.size
  refine ⟨Z, Y, (Z.stored a).other (by omega), Y.stored _, setCells_below _ _ _ (setCells_below _ _ _ ((hb.alloc hs _).alloc (by simp; omega) _) hs) (by omega)⟩

/-- Two texts are one just if the memories are. -/
theorem texts_same {a b : MemV} {ta tb : Nat → List UInt8} (ha : a.Ok) (hb : b.Ok) (ia : ∀ i, Txt (a.r i) (ta i)) (ib : ∀ i, Txt (b.r i) (tb i)) : SameM a b ↔ (⟨(textV a ta).toArray⟩ : ByteArray) = ⟨(textV b tb).toArray⟩ := by
  constructor
  · intro h
    have h1 : TextOf b (textV a ta) := text_same h ⟨ta, fun i _ => ia i, rfl⟩
    rw [text_fun h1 ⟨tb, fun i _ => ib i, rfl⟩]
  · intro h
    have e : textV a ta = textV b tb := by
      have := congrArg (fun x : ByteArray => x.data.toList) h
      simpa using this
    exact text_inj ha hb ⟨ta, fun i _ => ia i, rfl⟩ ⟨tb, fun i _ => ib i, e⟩

set_option maxRecDepth 100000 in
set_option maxHeartbeats 4000000 in
theorem law_short (a0 : Option Addr) (l0 c0 : Nat) (w : World) (T : Tabs w) (h0 : l0 ≤ 1048576) (C0 : CodeAt (.slice a0 l0 c0) w) :
    Calls Tryd.prog 10 #[.slice a0 l0 c0] w fun e w' => e = .returned (.bool true) ∧ Below w.heap.size w w' := by
  go_enter Tryd.func10, Tryd.ntmps10
  go_wp2_with fail
  refine (draw_same _ w C0).mono ?_
  rintro e w1 ⟨a, b, ha, hb, rfl, hw1⟩
  obtain ⟨Z, Y, D⟩ := pair_of (a := a) (b := b) hw1 61 61
  have L1 := store_mem a Z
  have L2 := store_mem b Y
  clear Z Y hw1 C0
  generalize ((((w1.alloc (.cells Tryd.zeroCells61 61)).alloc (.cells Tryd.zeroCells61 61)).setCells w1.heap.size 0 a.row.toList).setCells (w1.heap.size + 1) 0 b.row.toList) = w2 at D L2
  go_upto_region 4 with (refine list_store (t := 61) (x := .pointer (some ⟨w1.heap.size, 0, none⟩)) (u := .agg a.row) rfl rfl rfl rfl L1 ?_; refine list_store (t := 61) (x := .pointer (some ⟨w1.heap.size + 1, 0, none⟩)) (u := .agg b.row) rfl rfl rfl rfl L2 ?_; simp only [Act.put]; clear L1 L2)
  generalize w1.heap.size = q at D ⊢
  obtain ⟨M2, N2, BW2⟩ := D
  obtain ⟨ta, ia⟩ := txts_ex a.r
  obtain ⟨tb, ib⟩ := txts_ex b.r
  have hx := texts_same ha hb ia ib
  have CA : ∀ w, Tabs w → Calls Tryd.prog 50 #[.agg a.row] w fun e w' => e = .returned (.string ⟨(textV a ta).toArray⟩) ∧ Below w.heap.size w w' := fun w T => impl_mtext a ta w ha (fun i _ => ia i) (fun i _ => txt_len (ia i)) T
  have CB : ∀ w, Tabs w → Calls Tryd.prog 50 #[.agg b.row] w fun e w' => e = .returned (.string ⟨(textV b tb).toArray⟩) ∧ Below w.heap.size w w' := fun w T => impl_mtext b tb w hb (fun i _ => ib i) (fun i _ => txt_len (ib i)) T
  generalize (⟨(textV a ta).toArray⟩ : ByteArray) = A at CA hx
  generalize (⟨(textV b tb).toArray⟩ : ByteArray) = B at CB hx
  obtain ⟨s, hs⟩ : ∃ s : Bool, s = true ↔ SameM a b := by
    by_cases h : SameM a b
    · exact ⟨true, by simp [h]⟩
    · exact ⟨false, by simp [h]⟩
  have CS : ∀ w, Calls Tryd.prog 41 #[.agg a.row, .agg b.row] w fun e w' => e = .returned (.bool s) ∧ Below w.heap.size w w' := fun w => (impl_same a b ha hb w).mono fun _ _ ⟨r, he, hq, hw⟩ => ⟨by rw [he, Bool.eq_iff_iff.2 (hq.trans hs.symm)], hw⟩
  have CR : ∀ w, Calls Tryd.prog 41 #[.agg b.row, .agg a.row] w fun e w' => e = .returned (.bool s) ∧ Below w.heap.size w w' := fun w => (impl_same b a hb ha w).mono fun _ _ ⟨r, he, hq, hw⟩ => ⟨by rw [he, Bool.eq_iff_iff.2 ((hq.trans ⟨sameM_symm, sameM_symm⟩).trans hs.symm)], hw⟩
  have CX : ∀ w, Calls Tryd.prog 51 #[.agg a.row, .agg b.row] w fun e w' => e = .returned (.bool s) ∧ Below w.heap.size w w' := fun w => (spec_same a b w).mono fun _ _ ⟨r, he, hq, hw⟩ => ⟨by rw [he, Bool.eq_iff_iff.2 (hq.trans hs.symm)], hw⟩
  have CZ : ∀ w, Calls Tryd.prog 41 #[.agg a.row, .agg a.row] w fun e w' => e = .returned (.bool true) ∧ Below w.heap.size w w' := fun w => same_true ha ha (same_self a) w
  have he : (A.toList == B.toList) = s := by
    rw [Bool.eq_iff_iff, hs, hx, beq_iff_eq]
    constructor
    · intro h
      rw [ByteArray.toList_eq, ByteArray.toList_eq] at h
      exact ByteArray.ext (Array.toList_inj.1 h)
    · intro h
      rw [h]
  have HE : Hid ((A.toList == B.toList) = s) := he
  clear hs hx he ia ib
  go_upto_region 5 with (refine list_load (t := 61) rfl rfl rfl (load_mem M2) ?_; refine list_load (t := 61) rfl rfl rfl (load_mem N2) ?_)
  refine (CS w2).mono ?_
  rintro e w3 ⟨rfl, hw3⟩
  have M3 := M2.below hw3 M2.z
  have N3 := N2.below hw3 N2.z
  have BW3 := BW2.trans (hw3.mono BW2.size)
  clear M2 N2 BW2 hw3 CS
  have TT : ∀ w', Below w3.heap.size w3 w' → Tabs w' := fun w' hw' => T.below (BW3.trans (hw'.mono BW3.size)) (Nat.le_refl _)
  have hS : Below w3.heap.size w3 w3.drew := (Below.refl _ _).drew
  go_upto_region 5 with fail
  refine wp_region_held (S := Below w3.heap.size w3) (by kernel_rfl) ?_
  refine held_any (fuel := 26) (i := 0) (v := .bool s) rfl (by kernel_rfl) (by kernel_rfl) (by kernel_rfl) rfl (fun _ _ _ h => h) (fun _ _ => rfl) hS ?_
  go_simp
  refine held_load (fuel := 25) (i := 1) (t := 61) (v := .agg b.row) rfl rfl rfl (by kernel_rfl) (by kernel_rfl) (by kernel_rfl) rfl (fun _ _ _ h => h) (fun w' hw' => load_mem (N3.below hw' N3.z)) hS ?_
  go_simp
  refine held_load (fuel := 24) (i := 2) (t := 61) (v := .agg a.row) rfl rfl rfl (by kernel_rfl) (by kernel_rfl) (by kernel_rfl) rfl (fun _ _ _ h => h) (fun w' hw' => load_mem (M3.below hw' M3.z)) hS ?_
  go_simp
  refine wpAnyH_ready (rs := [3]) (by kernel_rfl) (by simp) ?_
  refine AllReadyH.cons rfl (fun K hK => ?_) AllReadyH.nil
  go_simp
  refine (CR _).mono ?_
  rintro e ax0 ⟨rfl, bx⟩
  have aT0 := hS.trans (bx.mono hS.size)
  refine hK.out _ _ aT0 (fun _ => ?_)
  clear hK K bx
  go_simp
  refine held_any (fuel := 22) (i := 4) (v := .bool true) rfl (by kernel_rfl) (by kernel_rfl) (by kernel_rfl) rfl (fun _ _ _ h => h) (fun _ _ => by cases s <;> go_simp) aT0 ?_
  go_simp
  refine held_any (fuel := 21) (i := 5) (v := .bool true) rfl (by kernel_rfl) (by kernel_rfl) (by kernel_rfl) rfl (fun _ _ _ h => h) (fun _ _ => rfl) aT0 ?_
  go_simp
  refine held_any (fuel := 20) (i := 6) (v := .bool s) rfl (by kernel_rfl) (by kernel_rfl) (by kernel_rfl) rfl (fun _ _ _ h => h) (fun _ _ => rfl) aT0 ?_
  go_simp
  refine held_load (fuel := 19) (i := 7) (t := 61) (v := .agg a.row) rfl rfl rfl (by kernel_rfl) (by kernel_rfl) (by kernel_rfl) rfl (fun _ _ _ h => h) (fun w' hw' => load_mem (M3.below hw' M3.z)) aT0 ?_
  go_simp
  refine held_load (fuel := 18) (i := 9) (t := 61) (v := .agg b.row) rfl rfl rfl (by kernel_rfl) (by kernel_rfl) (by kernel_rfl) rfl (fun _ _ _ h => h) (fun w' hw' => load_mem (N3.below hw' N3.z)) aT0 ?_
  go_simp
  refine wpAnyH_ready (rs := [8]) (by kernel_rfl) (by simp) ?_
  refine AllReadyH.cons rfl (fun K hK => ?_) AllReadyH.nil
  go_simp
  refine (CA _ (TT _ aT0)).mono ?_
  rintro e ax1 ⟨rfl, bx⟩
  have aT1 := aT0.trans (bx.mono aT0.size)
  refine hK.out _ _ aT1 (fun _ => ?_)
  clear hK K bx
  go_simp
  refine wpAnyH_ready (rs := [10]) (by kernel_rfl) (by simp) ?_
  refine AllReadyH.cons rfl (fun K hK => ?_) AllReadyH.nil
  go_simp
  refine (CB _ (TT _ aT1)).mono ?_
  rintro e ax2 ⟨rfl, bx⟩
  have aT2 := aT1.trans (bx.mono aT1.size)
  refine hK.out _ _ aT2 (fun _ => ?_)
  clear hK K bx
  go_simp
  refine held_any (fuel := 15) (i := 11) (v := .bool s) rfl (by kernel_rfl) (by kernel_rfl) (by kernel_rfl) rfl (fun _ _ _ h => h) (fun _ _ => by go_simp; exact HE.out) aT2 ?_
  go_simp
  refine held_any (fuel := 14) (i := 12) (v := .bool true) rfl (by kernel_rfl) (by kernel_rfl) (by kernel_rfl) rfl (fun _ _ _ h => h) (fun _ _ => by cases s <;> go_simp) aT2 ?_
  go_simp
  refine held_any (fuel := 13) (i := 13) (v := .bool true) rfl (by kernel_rfl) (by kernel_rfl) (by kernel_rfl) rfl (fun _ _ _ h => h) (fun _ _ => rfl) aT2 ?_
  go_simp
  refine held_any (fuel := 12) (i := 14) (v := .bool true) rfl (by kernel_rfl) (by kernel_rfl) (by kernel_rfl) rfl (fun _ _ _ h => h) (fun _ _ => rfl) aT2 ?_
  go_simp
  refine held_any (fuel := 11) (i := 15) (v := .bool s) rfl (by kernel_rfl) (by kernel_rfl) (by kernel_rfl) rfl (fun _ _ _ h => h) (fun _ _ => rfl) aT2 ?_
  go_simp
  refine held_load (fuel := 10) (i := 16) (t := 61) (v := .agg a.row) rfl rfl rfl (by kernel_rfl) (by kernel_rfl) (by kernel_rfl) rfl (fun _ _ _ h => h) (fun w' hw' => load_mem (M3.below hw' M3.z)) aT2 ?_
  go_simp
  refine held_load (fuel := 9) (i := 17) (t := 61) (v := .agg b.row) rfl rfl rfl (by kernel_rfl) (by kernel_rfl) (by kernel_rfl) rfl (fun _ _ _ h => h) (fun w' hw' => load_mem (N3.below hw' N3.z)) aT2 ?_
  go_simp
  refine wpAnyH_ready (rs := [18]) (by kernel_rfl) (by simp) ?_
  refine AllReadyH.cons rfl (fun K hK => ?_) AllReadyH.nil
  go_simp
  refine (CX _).mono ?_
  rintro e ax3 ⟨rfl, bx⟩
  have aT3 := aT2.trans (bx.mono aT2.size)
  refine hK.out _ _ aT3 (fun _ => ?_)
  clear hK K bx
  go_simp
  refine held_any (fuel := 7) (i := 19) (v := .bool true) rfl (by kernel_rfl) (by kernel_rfl) (by kernel_rfl) rfl (fun _ _ _ h => h) (fun _ _ => by cases s <;> go_simp) aT3 ?_
  go_simp
  refine held_any (fuel := 6) (i := 20) (v := .bool true) rfl (by kernel_rfl) (by kernel_rfl) (by kernel_rfl) rfl (fun _ _ _ h => h) (fun _ _ => rfl) aT3 ?_
  go_simp
  refine held_any (fuel := 5) (i := 21) (v := .bool true) rfl (by kernel_rfl) (by kernel_rfl) (by kernel_rfl) rfl (fun _ _ _ h => h) (fun _ _ => rfl) aT3 ?_
  go_simp
  refine held_load (fuel := 4) (i := 22) (t := 61) (v := .agg a.row) rfl rfl rfl (by kernel_rfl) (by kernel_rfl) (by kernel_rfl) rfl (fun _ _ _ h => h) (fun w' hw' => load_mem (M3.below hw' M3.z)) aT3 ?_
  go_simp
  refine held_load (fuel := 3) (i := 23) (t := 61) (v := .agg a.row) rfl rfl rfl (by kernel_rfl) (by kernel_rfl) (by kernel_rfl) rfl (fun _ _ _ h => h) (fun w' hw' => load_mem (M3.below hw' M3.z)) aT3 ?_
  go_simp
  refine wpAnyH_ready (rs := [24]) (by kernel_rfl) (by simp) ?_
  refine AllReadyH.cons rfl (fun K hK => ?_) AllReadyH.nil
  go_simp
  refine (CZ _).mono ?_
  rintro e ax4 ⟨rfl, bx⟩
  have aT4 := aT3.trans (bx.mono aT3.size)
  refine hK.out _ _ aT4 (fun _ => ?_)
  clear hK K bx
  go_simp
  refine held_any (fuel := 1) (i := 25) (v := .bool true) rfl (by kernel_rfl) (by kernel_rfl) (by kernel_rfl) rfl (fun _ _ _ h => h) (fun _ _ => rfl) aT4 ?_
  go_simp
  refine held_any (fuel := 0) (i := 26) (v := .bool true) rfl (by kernel_rfl) (by kernel_rfl) (by kernel_rfl) rfl (fun _ _ _ h => h) (fun _ _ => rfl) aT4 ?_
  go_simp
  refine wpAnyH_done (by kernel_rfl) ?_ _
  go_wp2_with fail
  go_ret
  exact ⟨rfl, BW3.trans (aT4.mono BW3.size)⟩

set_option maxHeartbeats 400000 in
theorem law_long (a0 : Option Addr) (l0 c0 : Nat) (w : World) (h : 1048576 < l0) :
    Calls Tryd.prog 10 #[.slice a0 l0 c0] w fun e w' => e = .returned (.bool true) ∧ Below w.heap.size w w' := by
  go_enter Tryd.func10, Tryd.ntmps10
  go_wp2
  go_ret
  exact ⟨rfl, Below.refl _ _⟩

theorem law (a0 : Option Addr) (l0 c0 : Nat) (w : World) (C0 : CodeAt (.slice a0 l0 c0) w) (T : Tabs w) :
    Calls Tryd.prog 10 #[.slice a0 l0 c0] w fun e w' => e = .returned (.bool true) ∧ Below w.heap.size w w' := by
  by_cases hs : 1048576 < l0
  · exact law_long a0 l0 c0 w hs
  · exact law_short a0 l0 c0 w T (by omega) C0

end Go.Proofs.YtdhoimjkgicneaaDoor.Sam

/- The row's list of package variables gives what the walks ask of the table of kinds. -/
namespace Go.Proofs.YtdhoimjkgicneaaDoor
open Go Go.ChangeShapes Go.WideShapes Go.ChangeAt Go.RowKit

theorem cStr : Tryd.prog.cellsOf 9 = 1 := by kernel_rfl
theorem cInt : Tryd.prog.cellsOf 3 = 1 := by kernel_rfl
theorem cBool : Tryd.prog.cellsOf 4 = 1 := by kernel_rfl
theorem cKind : Tryd.prog.cellsOf 127 = 5 := by kernel_rfl
theorem cKinds : Tryd.prog.cellsOf 164 = 70 := by kernel_rfl
theorem gKinds : Tryd.prog.globalNamed "loop.example/stilhold/impl.devKinds" = some 3 := by kernel_rfl
theorem tKinds : (Tryd.prog.globals[3]?).map (·.type) = some 164 := by kernel_rfl

theorem str_of {s : ByteArray} {l : List UInt8} (h : s.data.toList = l) : s = ⟨l.toArray⟩ := by
  subst h; rfl

section
variable {H : Type} {enc : TypeId × Value → H} {w : World} {base : Nat} {spare : Nat → Bool} {held : Bool}

set_option maxRecDepth 100000 in
/-- The five cells of one row of the table of kinds. -/
theorem kind_cells {fuel : Nat} {cs : List Value} {l : List UInt8} {z : Int} {a b c : Bool} {p : List MemPlace}
    (h : DataW.trod enc Tryd.prog w base spare held fuel 127 cs = some (.agg [.lit (.string l), .lit (.int .i64 z), .lit (.bool a), .lit (.bool b), .lit (.bool c)], p)) :
    cs = [.string ⟨l.toArray⟩, .int .i64 z, .bool a, .bool b, .bool c] := by
  obtain ⟨xs, m, -, hx, hl, hlen, hf⟩ := DataW.trod_struct Tryd.underlying127 h
  rw [cKind] at hl
  have h0 := hf 0 _ rfl
  have h1 := hf 1 _ rfl
  have h2 := hf 2 _ rfl
  have h3 := hf 3 _ rfl
  have h4 := hf 4 _ rfl
  clear hf h
  match xs, hlen with
  | [y0, y1, y2, y3, y4], _ =>
    match cs, hl with
    | [c0, c1, c2, c3, c4], _ =>
      obtain ⟨s0, e0, rfl, -⟩ := DataW.trod_string Tryd.underlying9 h0
      obtain ⟨n1, e1, rfl, -⟩ := DataW.trod_int Tryd.underlying3 h1
      obtain ⟨b2, e2, rfl⟩ := DataW.trod_bool Tryd.underlying4 h2
      obtain ⟨b3, e3, rfl⟩ := DataW.trod_bool Tryd.underlying4 h3
      obtain ⟨b4, e4, rfl⟩ := DataW.trod_bool Tryd.underlying4 h4
      simp at hx
      simp [cStr] at e0
      simp [cInt] at e1
      simp [cBool] at e2 e3 e4
      obtain ⟨⟨x0, x1, x2, x3, x4⟩, -⟩ := hx
      subst e0 e1 e2 e3 e4 x1 x2 x3 x4
      rw [str_of x0.symm]

end

theorem size_of {W : World} {n : String} {g : Nat} {cs : Array Value} (hg : Tryd.prog.globalNamed n = some g) (hv : W.var? Tryd.prog n = some cs) : g < W.heap.size := by
  unfold World.var? at hv
  simp only [hg, Option.bind_some] at hv
  cases hh : W.heap[g]? with
  | none => rw [hh] at hv; cases hv
  | some o => exact (Array.getElem?_eq_some_iff.1 hh).1

set_option maxRecDepth 100000 in
theorem ktab_of {H : Type} {enc : TypeId × Value → H} {W : World} {base : Nat} {spare : Nat → Bool} {held : Bool} {fuel : Nat} {cd : Array Value} {pd : List MemPlace} (hvd : W.var? Tryd.prog "loop.example/stilhold/impl.devKinds" = some cd)
    (hdd : DataW.trod enc Tryd.prog W base spare held fuel 164 cd.toList = some (Rows.laid_loop_example_stilhold_impl_devKinds, pd)) : KTab W := by
  have hrow : ∀ k : Nat, 1 ≤ k → k ≤ 13 → (cd.toList.drop (k * 5)).take 5 = [.string ⟨(letterL k).toArray⟩, .int .i64 (sizeZ k), .bool (bitB k), .bool (wholeB k), .bool (realB k)] := by
    obtain ⟨xs, m, -, hx, hl, hlen, hf⟩ := DataW.trod_array Tryd.underlying164 hdd
    simp only [cKind] at hf
    have hx1 := congrArg Prod.fst hx
    simp only [Rows.laid_loop_example_stilhold_impl_devKinds, DataW.agg.injEq] at hx1
    intro k h1 h2
    have hk := hf k (by omega)
    have hxk : k < xs.length := by omega
    rw [List.getElem?_eq_getElem hxk] at hk
    have hD : (xs.map (·.1))[k]? = some (xs[k].1) := by simp [hxk]
    rw [← hx1] at hD
    rw [show xs[k] = (xs[k].1, xs[k].2) from rfl] at hk
    have hcase : k = 1 ∨ k = 2 ∨ k = 3 ∨ k = 4 ∨ k = 5 ∨ k = 6 ∨ k = 7 ∨ k = 8 ∨ k = 9 ∨ k = 10 ∨ k = 11 ∨ k = 12 ∨ k = 13 := by omega
    rcases hcase with rfl | rfl | rfl | rfl | rfl | rfl | rfl | rfl | rfl | rfl | rfl | rfl | rfl
    all_goals
      rw [← Option.some.inj hD] at hk
      exact kind_cells hk
  have hkc : ∀ k j : Nat, 1 ≤ k → k ≤ 13 → j < 5 → W.cell? ⟨3, k * 5 + j, none⟩ = ([.string ⟨(letterL k).toArray⟩, .int .i64 (sizeZ k), .bool (bitB k), .bool (wholeB k), .bool (realB k)] : List Value)[j]? := by
    intro k j h1 h2 h3
    have e := World.var?_cell gKinds hvd (k * 5 + j)
    rw [e, ← hrow k h1 h2]
    simp [List.getElem?_drop, h3]
  exact ⟨size_of gKinds hvd, fun k a b => hkc k 0 a b (by omega), fun k a b => hkc k 1 a b (by omega), fun k a b => hkc k 2 a b (by omega), fun k a b => hkc k 3 a b (by omega), fun k a b => hkc k 4 a b (by omega)⟩

end Go.Proofs.YtdhoimjkgicneaaDoor

/- The row's list of package variables gives what the walks ask of the tables. -/
namespace Go.Proofs.YtdhoimjkgicneaaDoor
open Go Go.ChangeShapes Go.WideShapes Go.ChangeAt Go.RowKit

theorem gWords : Tryd.prog.globalNamed "loop.example/stilhold/impl.devWords" = some 0 := by kernel_rfl
theorem tWords : (Tryd.prog.globals[0]?).map (·.type) = some 85 := by kernel_rfl
theorem tPow : (Tryd.prog.globals[4]?).map (·.type) = some 177 := by kernel_rfl
theorem cPow : Tryd.prog.cellsOf 177 = 20 := by kernel_rfl
theorem cU64 : Tryd.prog.cellsOf 50 = 1 := by kernel_rfl

set_option maxRecDepth 100000 in
theorem tabs {W : World} (h : laidMetH Tryd.prog [("math/bits.deBruijn32tab", Rows.laid_math_bits_deBruijn32tab), ("math/bits.deBruijn64tab", Rows.laid_math_bits_deBruijn64tab), ("internal/strconv.uint64pow10", Rows.laid_internal_strconv_uint64pow10), ("loop.example/stilhold/impl.devKinds", Rows.laid_loop_example_stilhold_impl_devKinds), ("loop.example/stilhold/impl.devWords", Rows.laid_loop_example_stilhold_impl_devWords)] W) : Tabs W := by
  have h' : laidMet Tryd.prog [("math/bits.deBruijn32tab", Rows.laid_math_bits_deBruijn32tab), ("math/bits.deBruijn64tab", Rows.laid_math_bits_deBruijn64tab), ("internal/strconv.uint64pow10", Rows.laid_internal_strconv_uint64pow10), ("loop.example/stilhold/impl.devKinds", Rows.laid_loop_example_stilhold_impl_devKinds), ("loop.example/stilhold/impl.devWords", Rows.laid_loop_example_stilhold_impl_devWords)] W := h
  obtain ⟨ps, hV, -, -⟩ := h'
  obtain ⟨ga, ta, ca, fa, pa, qa, hga, hta, hva, hda, hV, -⟩ := hV
  obtain ⟨gb, tb, cb, fb, pb, qb, hgb, htb, hvb, hdb, hV, -⟩ := hV
  obtain ⟨gc, tc, cc, fc, pc, qc, hgc, htc, hvc, hdc, hV, -⟩ := hV
  obtain ⟨gd, td, cd, fd, pd, qd, hgd, htd, hvd, hdd, hV, -⟩ := hV
  obtain ⟨ge, te, ce, fe, pe, qe, hge, hte, hve, hde, hV, -⟩ := hV
  clear hV hda hdb hva hvb hta htb hga hgb
  obtain rfl := Option.some.inj (gPow.symm.trans hgc)
  obtain rfl := Option.some.inj (tPow.symm.trans htc)
  obtain rfl := Option.some.inj (gKinds.symm.trans hgd)
  obtain rfl := Option.some.inj (tKinds.symm.trans htd)
  obtain rfl := Option.some.inj (gWords.symm.trans hge)
  obtain rfl := Option.some.inj (tWords.symm.trans hte)
  have hpow : Lib.TabIs Tryd.prog W "internal/strconv.uint64pow10" .u64 Lib.pow10Tab := by
    have e := Lib.cells_of_tab (k := .u64) (zs := Lib.pow10Tab) Tryd.underlying177 Tryd.underlying50 cU64 cPow hdc
    unfold Lib.TabIs
    rw [hvc, ← e]
  have KT : KTab W := ktab_of hvd hdd
  have hwd : ∀ i : Nat, i < 4 → W.cell? ⟨0, i, none⟩ = some (.string ⟨(wordL i).toArray⟩) := by
    obtain ⟨xs, m, -, hx, hl, hlen, hf⟩ := DataW.trod_array Tryd.underlying85 hde
    simp only [cStr] at hf
    have hx1 := congrArg Prod.fst hx
    simp only [Rows.laid_loop_example_stilhold_impl_devWords, DataW.agg.injEq] at hx1
    intro i hi
    have hk := hf i hi
    have hxk : i < xs.length := by omega
    rw [List.getElem?_eq_getElem hxk] at hk
    have hD : (xs.map (·.1))[i]? = some (xs[i].1) := by simp [hxk]
    rw [← hx1] at hD
    obtain ⟨s, e0, e1, -⟩ := DataW.trod_string Tryd.underlying9 hk
    have ec : ce.toList[i]? = some (.string s) := by
      have := congrArg (·[0]?) e0
      simpa [List.getElem?_take, List.getElem?_drop] using this
    have e2 := World.var?_cell gWords hve i
    rw [e2, ← Array.getElem?_toList, ec]
    have e3 : xs[i].1 = .lit (.string s.data.toList) := by rw [e1]
    rw [e3] at hD
    have hcase : i = 0 ∨ i = 1 ∨ i = 2 ∨ i = 3 := by omega
    rcases hcase with rfl | rfl | rfl | rfl
    all_goals
      have h5 := Option.some.inj hD
      simp only [DataW.lit.injEq, Lit.string.injEq] at h5
      rw [str_of h5.symm]
      rfl
  exact ⟨KT.zk, size_of gWords hve, size_of gPow hvc, KT.k0, KT.k1, KT.k2, KT.k3, KT.k4, hwd, hpow⟩

end Go.Proofs.YtdhoimjkgicneaaDoor
