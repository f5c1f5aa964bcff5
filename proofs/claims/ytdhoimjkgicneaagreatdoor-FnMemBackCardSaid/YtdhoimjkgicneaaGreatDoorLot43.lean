/- Texts of this proof laid together: MbA, Close, DevKT. -/
import Derived.Test.YtdhoimjkgicneaaGreatDoorLot41
import Derived.Test.YtdhoimjkgicneaaGreatDoorLot42
import Derived.ProofKit
import Derived.OpenVars
import Derived.OpenShut
import Derived.Test.YtdhoimjkgicneaaGreatDoorLot16
import Derived.Lib.LaidTab
/- The law that a memory that is written as text is read back to the last bit, walked. -/
namespace Go.Proofs.YtdhoimjkgicneaaGreatDoor.Mb
open Go Go.RowKit Go.Proofs.YtdhoimjkgicneaaGreatDoor
attribute [local go_sem] zMemK

theorem fresh_put (x : MemV) (w : World) : MemAt w.heap.size mem0 (w.alloc (.cells mem0.row 37)) ∧ MemAt w.heap.size x ((w.alloc (.cells mem0.row 37)).setCells w.heap.size 0 x.row.toList) ∧ Below w.heap.size w ((w.alloc (.cells mem0.row 37)).setCells w.heap.size 0 x.row.toList) := by
  have h := MemAt.alloc mem0 w 37
  exact ⟨h, h.stored x, setCells_below _ _ _ ((Below.refl _ _).alloc (Nat.le_refl _) _) (Nat.le_refl _)⟩

/-- A memory's own text is read, as that memory. -/
theorem read_own {m b : MemV} {l : List UInt8} {ok : Bool} (hm : m.Ok) (ht : TextOf m l) (hl : l.length ≤ 6000) (h : ReadsM l b ok) : ok = true ∧ SameM b m := by
  obtain ⟨hb, h⟩ := h
  rcases h with ⟨rfl, -, h2⟩ | ⟨rfl, -, h2⟩
  · exact ⟨rfl, text_inj hb hm h2 ht⟩
  · exact absurd ht (h2 hl m hm)

set_option maxRecDepth 100000 in
set_option maxHeartbeats 4000000 in
theorem law_short (a0 a1 : Option Addr) (l0 c0 l1 c1 : Nat) (w : World) (T : Tabs w) (R : RTab w) (h0 : l0 ≤ 1048576) (h1 : l1 ≤ 1048576) (C0 : CodeAt (.slice a0 l0 c0) w) (C1 : CodeAt (.slice a1 l1 c1) w) :
    Calls Tryz.prog 3 #[.slice a0 l0 c0, .slice a1 l1 c1] w fun e w' => e = .returned (.bool true) ∧ Below w.heap.size w w' := by
  have TT : Hid (∀ w', Below w.heap.size w w' → Tabs w' ∧ RTab w') := fun w' hw' => ⟨T.below hw' (Nat.le_refl _), R.below hw' (Nat.le_refl _)⟩
  have X1 : Hid (CodeAt (.slice a1 l1 c1) w) := C1
  clear T R C1
  go_enter Tryz.func3, Tryz.ntmps3
  go_wp2_with fail
  refine (draw_mtext _ w C0).mono ?_
  rintro e w1 ⟨m, hm, rfl, b1⟩
  obtain ⟨m0, m1, b2⟩ := fresh_put m w1
  have H2 : Hid (MemAt w1.heap.size m _ ∧ Below w.heap.size w _) := ⟨m1, b1.trans (b2.mono b1.size)⟩
  have L1 := store_mem m m0
  generalize (w1.alloc (.cells mem0.row 37)).setCells w1.heap.size 0 m.row.toList = w2 at H2 L1
  clear m0 m1 b2 b1 C0
  go_upto_region 4 with (refine list_store (t := 37) (x := .pointer (some ⟨w1.heap.size, 0, none⟩)) (u := .agg m.row) rfl rfl rfl rfl L1 ?_; simp only [Act.put])
  clear L1
  generalize w1.heap.size = q1 at H2 ⊢
  obtain ⟨tx, ht⟩ := txts_ex m.r
  have CT := impl_mtext m tx w2 hm (fun i _ => ht i) (fun i _ => txt_len (ht i)) (TT.out w2 H2.out.2).1
  have hlen := textV_len hm (fun i _ => txt_len (ht i))
  have HT : Hid (TextOf m (textV m tx)) := ⟨tx, fun i _ => ht i, rfl⟩
  generalize textV m tx = l at CT HT hlen
  have hlen : l.length ≤ 4000 := Nat.le_trans hlen (by decide)
  have HM : Hid m.Ok := hm
  have L2 := load_mem H2.out.1
  clear ht hm
  go_wp2_with (refine list_load (t := 37) rfl rfl rfl L2 ?_)
  clear L2
  refine CT.mono ?_
  rintro e w3 ⟨rfl, b3⟩
  have H3 : Hid (MemAt q1 m w3 ∧ Below w.heap.size w w3) := ⟨H2.out.1.below b3 H2.out.1.z, H2.out.2.trans (b3.mono H2.out.2.size)⟩
  clear b3 CT H2
  have hsl : (⟨l.toArray⟩ : ByteArray).size ≤ 100000000 := by rw [str_size]; omega
  have CR := impl_mread ⟨l.toArray⟩ w3 hsl (TT.out w3 H3.out.2).1 (TT.out w3 H3.out.2).2
  rw [show (⟨l.toArray⟩ : ByteArray).data.toList = l from by simp] at CR
  go_wp2_with fail
  refine CR.mono ?_
  rintro e w4 ⟨b, ok, rfl, rb, b4⟩
  have HS : Hid (SameM b m) := (read_own HM.out HT.out (by omega) rb).2
  obtain rfl : ok = true := (read_own HM.out HT.out (by omega) rb).1
  obtain ⟨m0, m1, b5⟩ := fresh_put b w4
  have b45 := b4.trans (b5.mono b4.size)
  have H5 : Hid (MemAt w4.heap.size b _ ∧ MemAt q1 m _ ∧ Below w.heap.size w _) := ⟨m1, H3.out.1.below b45 H3.out.1.z, H3.out.2.trans (b45.mono H3.out.2.size)⟩
  have L1 := store_mem b m0
  have L2 := load_mem H5.out.1
  have L3 := load_mem H5.out.2.1
  generalize (w4.alloc (.cells mem0.row 37)).setCells w4.heap.size 0 b.row.toList = w5 at H5 L1 L2 L3
  clear m0 m1 b5 b45 b4 rb CR H3 hsl
  go_upto_region 6 with (refine list_store (t := 37) (x := .pointer (some ⟨w4.heap.size, 0, none⟩)) (u := .agg b.row) rfl rfl rfl rfl L1 ?_; simp only [Act.put])
  clear L1
  generalize w4.heap.size = q4 at H5 L2 ⊢
  have CS : Calls Tryz.prog 7 #[.agg b.row, .agg m.row] w5 fun e w' => e = .returned (.bool true) ∧ Below w5.heap.size w5 w' := (spec_same b m w5).mono fun _ _ ⟨r, he, hq, hw⟩ => ⟨by rw [he, hq.2 HS.out], hw⟩
  go_wp2_with (first | refine list_load (t := 37) (x := .pointer (some ⟨q4, 0, none⟩)) (u := .agg b.row) rfl rfl rfl L2 ?_ | refine list_load (t := 37) (x := .pointer (some ⟨q1, 0, none⟩)) (u := .agg m.row) rfl rfl rfl L3 ?_)
  clear L2 L3
  refine CS.mono ?_
  rintro e w6 ⟨rfl, b6⟩
  have H6 : Hid (Below w.heap.size w w6) := H5.out.2.2.trans (b6.mono H5.out.2.2.size)
  clear CS b6 H5 HS
  have hsz : (⟨l.toArray⟩ : ByteArray).size = l.length := str_size l
  have h6 : ¬ 6000 < l.length := by omega
  go_wp2_with fail
  refine (draw_mread _ w6 (X1.out.below H6.out)).mono ?_
  rintro e w7 ⟨t, rfl, htl, b7⟩
  have H7 : Hid (Below w.heap.size w w7) := H6.out.trans (b7.mono H6.out.size)
  clear b7 H6 hsz h6 hlen HT HM
  have hsl : (⟨t.toArray⟩ : ByteArray).size ≤ 100000000 := by rw [str_size]; omega
  have CR := impl_mread ⟨t.toArray⟩ w7 hsl (TT.out w7 H7.out).1 (TT.out w7 H7.out).2
  rw [show (⟨t.toArray⟩ : ByteArray).data.toList = t from by simp] at CR
  go_wp2_with fail
  refine CR.mono ?_
  rintro e w8 ⟨x, fine, rfl, rx, b8⟩
  have RX : Hid (ReadsM t x fine) := rx
  obtain ⟨m0, m1, b9⟩ := fresh_put x w8
  have b89 := b8.trans (b9.mono b8.size)
  have H9 : Hid (MemAt w8.heap.size x _ ∧ Below w.heap.size w _) := ⟨m1, H7.out.trans (b89.mono H7.out.size)⟩
  have L1 := store_mem x m0
  generalize (w8.alloc (.cells mem0.row 37)).setCells w8.heap.size 0 x.row.toList = w9 at H9 L1
  clear m0 m1 b9 b89 b8 rx CR H7
  go_upto_region 10 with (refine list_store (t := 37) (x := .pointer (some ⟨w8.heap.size, 0, none⟩)) (u := .agg x.row) rfl rfl rfl rfl L1 ?_; simp only [Act.put])
  clear L1
  generalize w8.heap.size = q8 at H9 ⊢
  have CR := spec_mread ⟨t.toArray⟩ w9 hsl
  rw [show (⟨t.toArray⟩ : ByteArray).data.toList = t from by simp] at CR
  go_wp2_with fail
  refine CR.mono ?_
  rintro e w10 ⟨y, told, rfl, ry, b10⟩
  obtain rfl : told = fine := (reads_two ry RX.out).1
  obtain ⟨m0, m1, b11⟩ := fresh_put y w10
  have b1011 := b10.trans (b11.mono b10.size)
  have H11 : Hid (MemAt q8 x _ ∧ Below w.heap.size w _) := ⟨H9.out.1.below b1011 H9.out.1.z, H9.out.2.trans (b1011.mono H9.out.2.size)⟩
  have L1 := store_mem y m0
  have L2 := load_mem H11.out.1
  generalize (w10.alloc (.cells mem0.row 37)).setCells w10.heap.size 0 y.row.toList = w11 at H11 L1 L2
  clear m0 m1 b11 b1011 b10 ry CR H9 hsl
  go_upto_region 11 with (refine list_store (t := 37) (x := .pointer (some ⟨w10.heap.size, 0, none⟩)) (u := .agg y.row) rfl rfl rfl rfl L1 ?_; simp only [Act.put])
  clear L1
  generalize w10.heap.size = q10 at ⊢
  cases told with
  | false =>
    clear L2
    go_wp2_with fail
    go_ret
    exact ⟨rfl, H11.out.2⟩
  | true =>
    obtain ⟨xok, hx⟩ := RX.out
    have hxt : TextOf x t := by
      rcases hx with ⟨-, -, h⟩ | ⟨h, -⟩
      · exact h
      · cases h
    obtain ⟨tx', ht'⟩ := txts_ex x.r
    have CT := impl_mtext x tx' w11 xok (fun i _ => ht' i) (fun i _ => txt_len (ht' i)) (TT.out w11 H11.out.2).1
    rw [text_fun (v := x) ⟨tx', fun i _ => ht' i, rfl⟩ hxt] at CT
    clear hx hxt xok ht'
    go_wp2_with (refine list_load (t := 37) (x := .pointer (some ⟨q8, 0, none⟩)) (u := .agg x.row) rfl rfl rfl L2 ?_)
    refine CT.mono ?_
    rintro e w12 ⟨rfl, b12⟩
    have H12 : Hid (Below w.heap.size w w12) := H11.out.2.trans (b12.mono H11.out.2.size)
    clear CT b12 H11 L2
    go_wp2_with fail
    go_ret
    exact ⟨rfl, H12.out⟩

set_option maxHeartbeats 400000 in
theorem law_long (a0 a1 : Option Addr) (l0 c0 l1 c1 : Nat) (w : World) (h : 1048576 < l0 ∨ 1048576 < l1) :
    Calls Tryz.prog 3 #[.slice a0 l0 c0, .slice a1 l1 c1] w fun e w' => e = .returned (.bool true) ∧ Below w.heap.size w w' := by
  by_cases h0 : 1048576 < l0
  · go_enter Tryz.func3, Tryz.ntmps3
    go_wp2
    go_ret
    exact ⟨rfl, Below.refl _ _⟩
  · have h1 : 1048576 < l1 := by omega
    clear h
    go_enter Tryz.func3, Tryz.ntmps3
    go_wp2
    go_ret
    exact ⟨rfl, Below.refl _ _⟩

theorem law (a0 a1 : Option Addr) (l0 c0 l1 c1 : Nat) (w : World) (C0 : CodeAt (.slice a0 l0 c0) w) (C1 : CodeAt (.slice a1 l1 c1) w) (T : Tabs w) (R : RTab w) :
    Calls Tryz.prog 3 #[.slice a0 l0 c0, .slice a1 l1 c1] w fun e w' => e = .returned (.bool true) ∧ Below w.heap.size w w' := by
  by_cases hs : 1048576 < l0 ∨ 1048576 < l1
  · exact law_long a0 a1 l0 c0 l1 c1 w hs
  · exact law_short a0 a1 l0 c0 l1 c1 w T R (by omega) (by omega) C0 C1

end Go.Proofs.YtdhoimjkgicneaaGreatDoor.Mb

/- How a law that answers true, and writes into nothing that was there, is closed: its arguments and the named variables read as they did. Of no one program. -/
namespace Go.Proofs.YtdhoimjkgicneaaGreatDoor
open Go Go.ChangeShapes Go.WideShapes Go.ChangeAt Go.RowKit

theorem below_trodAll {H : Type} {enc : TypeId × Value → H} {P : Program} (hl : laidOutB P = true) {W W' : World} (hb : Below W.heap.size W W') :
    ∀ {ts : List TypeId} {vs : List Value} {ds : List (DataW H)} {ps : List MemPlace}, (ts.all fun t => P.readableRec t && decide (t < P.types.size)) = true → (∀ x ∈ ps, x.block < W.heap.size) →
      DataW.TrodAll enc P W 0 (fun _ => true) true ts vs ds ps → DataW.TrodAll enc P W' 0 (fun b => decide (b < W.heap.size)) true ts vs ds ps := by
  intro ts
  induction ts with
  | nil =>
    intro vs ds ps _ _ h
    obtain ⟨rfl, rfl, rfl⟩ := trodAll_nil h
    exact trodAll_mk0
  | cons t ts ih =>
    intro vs ds ps hrow hlt h
    obtain ⟨v0, vs0, d0, ds0, p0, q0, rfl, rfl, rfl, h0, r0⟩ := trodAll_cons h
    simp only [List.all_cons, Bool.and_eq_true, decide_eq_true_eq] at hrow
    exact trodAll_cons_mk (Below.trod hl hrow.1.1 hrow.1.2 h0 hb (fun x hx => hlt x (by simp [hx]))) (ih (by simpa using hrow.2) (fun x hx => hlt x (by simp [hx])) r0)

theorem close_true {H : Type} {enc : TypeId × Value → H} {P : Program} {f : Func} {s : ChangeSpec} {W W' : World} {args : Array Value} {ds gs : List (DataW H)} {before : List MemPlace} {tb : TypeId}
    (hl : laidOutB P = true) (hrow : (f.params.toList.all fun t => P.readableRec t && decide (t < P.types.size)) = true) (hv : varsRowed P s.vars = true)
    (hres : f.resultTypes = #[tb]) (hbool : P.underlying tb = some .bool)
    (hW : DataW.Whole enc P f.params.toList s.vars false W args.toList ds gs before)
    (hfn : s.fn H (ds ++ gs) = { results := [.lit (.bool true)], args := ds, vars := gs })
    (hb : Below W.heap.size W W') : s.post enc P f false true false false W args (.bool true) W' := by
  have hlt := hW.lt
  have hW' := hW
  obtain ⟨p, q, hA, hV, rfl, hfz, hnd⟩ := hW
  refine ⟨ds, gs, p ++ q, [], p, q, hW', ?_, ?_, ?_, hb.frame _, fun h => by cases h⟩
  · rw [hfn, hres]
    exact trodAll_cons_mk (shut_bool hbool _) trodAll_mk0
  · rw [hfn]
    exact below_trodAll hl hb hrow (fun x hx => hlt x (by simp [hx])) hA
  · rw [hfn]
    exact Below.trodVars hl hb hv hV

end Go.Proofs.YtdhoimjkgicneaaGreatDoor

/- The row's list of package variables gives what the walks ask of the table of kinds. -/
namespace Go.Proofs.YtdhoimjkgicneaaGreatDoor
open Go Go.ChangeShapes Go.WideShapes Go.ChangeAt Go.RowKit

theorem cStr : Tryz.prog.cellsOf 9 = 1 := by kernel_rfl
theorem cInt : Tryz.prog.cellsOf 3 = 1 := by kernel_rfl
theorem cBool : Tryz.prog.cellsOf 4 = 1 := by kernel_rfl
theorem cKind : Tryz.prog.cellsOf 106 = 5 := by kernel_rfl
theorem cKinds : Tryz.prog.cellsOf 136 = 70 := by kernel_rfl
theorem gKinds : Tryz.prog.globalNamed "loop.example/stilhold/impl.devKinds" = some 1 := by kernel_rfl
theorem tKinds : (Tryz.prog.globals[1]?).map (·.type) = some 136 := by kernel_rfl

theorem str_of {s : ByteArray} {l : List UInt8} (h : s.data.toList = l) : s = ⟨l.toArray⟩ := by
  subst h; rfl

section
variable {H : Type} {enc : TypeId × Value → H} {w : World} {base : Nat} {spare : Nat → Bool} {held : Bool}

set_option maxRecDepth 100000 in
/-- The five cells of one row of the table of kinds. -/
theorem kind_cells {fuel : Nat} {cs : List Value} {l : List UInt8} {z : Int} {a b c : Bool} {p : List MemPlace}
    (h : DataW.trod enc Tryz.prog w base spare held fuel 106 cs = some (.agg [.lit (.string l), .lit (.int .i64 z), .lit (.bool a), .lit (.bool b), .lit (.bool c)], p)) :
    cs = [.string ⟨l.toArray⟩, .int .i64 z, .bool a, .bool b, .bool c] := by
  obtain ⟨xs, m, -, hx, hl, hlen, hf⟩ := DataW.trod_struct Tryz.underlying106 h
  rw [cKind] at hl
  have h0 := hf 0 _ rfl
  have h1 := hf 1 _ rfl
  have h2 := hf 2 _ rfl
  have h3 := hf 3 _ rfl
  have h4 := hf 4 _ rfl
  clear hf h
  match xs, hlen with
  | [y0, y1, y2, y3, y4], _ =>
    match cs, hl with
    | [c0, c1, c2, c3, c4], _ =>
      obtain ⟨s0, e0, rfl, -⟩ := DataW.trod_string Tryz.underlying9 h0
      obtain ⟨n1, e1, rfl, -⟩ := DataW.trod_int Tryz.underlying3 h1
      obtain ⟨b2, e2, rfl⟩ := DataW.trod_bool Tryz.underlying4 h2
      obtain ⟨b3, e3, rfl⟩ := DataW.trod_bool Tryz.underlying4 h3
      obtain ⟨b4, e4, rfl⟩ := DataW.trod_bool Tryz.underlying4 h4
      simp at hx
      simp [cStr] at e0
      simp [cInt] at e1
      simp [cBool] at e2 e3 e4
      obtain ⟨⟨x0, x1, x2, x3, x4⟩, -⟩ := hx
      subst e0 e1 e2 e3 e4 x1 x2 x3 x4
      rw [str_of x0.symm]

end

theorem size_of {W : World} {n : String} {g : Nat} {cs : Array Value} (hg : Tryz.prog.globalNamed n = some g) (hv : W.var? Tryz.prog n = some cs) : g < W.heap.size := by
  unfold World.var? at hv
  simp only [hg, Option.bind_some] at hv
  cases hh : W.heap[g]? with
  | none => rw [hh] at hv; cases hv
  | some o => exact (Array.getElem?_eq_some_iff.1 hh).1

set_option maxRecDepth 100000 in
theorem ktab_of {H : Type} {enc : TypeId × Value → H} {W : World} {base : Nat} {spare : Nat → Bool} {held : Bool} {fuel : Nat} {cd : Array Value} {pd : List MemPlace} (hvd : W.var? Tryz.prog "loop.example/stilhold/impl.devKinds" = some cd)
    (hdd : DataW.trod enc Tryz.prog W base spare held fuel 136 cd.toList = some (Rows.laid_loop_example_stilhold_impl_devKinds, pd)) : KTab W := by
  have hrow : ∀ k : Nat, 1 ≤ k → k ≤ 13 → (cd.toList.drop (k * 5)).take 5 = [.string ⟨(letterL k).toArray⟩, .int .i64 (sizeZ k), .bool (bitB k), .bool (wholeB k), .bool (realB k)] := by
    obtain ⟨xs, m, -, hx, hl, hlen, hf⟩ := DataW.trod_array Tryz.underlying136 hdd
    simp only [cKind] at hf
    have hx1 := congrArg Prod.fst hx
    simp only [Rows.laid_loop_example_stilhold_impl_devKinds, DataW.agg.injEq] at hx1
    intro k h1 h2
    have hk := hf k (by omega)
    have hxk : k < xs.length := by omega
    rw [List.getElem?_eq_getElem hxk] at hk
    have hD : (xs.map (·.1))[k]? = some (xs[k].1) := by simp [hxk]
    rw [← hx1] at hD
    rw [show xs[k] = (xs[k].1, xs[k].2) from rfl] at hk
    have hcase : k = 1 ∨ k = 2 ∨ k = 3 ∨ k = 4 ∨ k = 5 ∨ k = 6 ∨ k = 7 ∨ k = 8 ∨ k = 9 ∨ k = 10 ∨ k = 11 ∨ k = 12 ∨ k = 13 := by omega
    rcases hcase with rfl | rfl | rfl | rfl | rfl | rfl | rfl | rfl | rfl | rfl | rfl | rfl | rfl
    all_goals
      rw [← Option.some.inj hD] at hk
      exact kind_cells hk
  have hkc : ∀ k j : Nat, 1 ≤ k → k ≤ 13 → j < 5 → W.cell? ⟨1, k * 5 + j, none⟩ = ([.string ⟨(letterL k).toArray⟩, .int .i64 (sizeZ k), .bool (bitB k), .bool (wholeB k), .bool (realB k)] : List Value)[j]? := by
    intro k j h1 h2 h3
    have e := World.var?_cell gKinds hvd (k * 5 + j)
    rw [e, ← hrow k h1 h2]
    simp [List.getElem?_drop, h3]
  exact ⟨size_of gKinds hvd, fun k a b => hkc k 0 a b (by omega), fun k a b => hkc k 1 a b (by omega), fun k a b => hkc k 2 a b (by omega), fun k a b => hkc k 3 a b (by omega), fun k a b => hkc k 4 a b (by omega)⟩

end Go.Proofs.YtdhoimjkgicneaaGreatDoor
