/- Texts of this proof laid together: MemKP, MemLR, MrV. -/
import Derived.Test.YtdhoimjkgicneaaGreatDoorLot17
import Derived.Test.YtdhoimjkgicneaaGreatDoorLot30
import Derived.Test.YtdhoimjkgicneaaGreatDoorLot32
import Derived.Test.YtdhoimjkgicneaaGreatDoorLot31
/- A memory in which a register is put. -/
namespace Go.Proofs.YtdhoimjkgicneaaGreatDoor
open Go Go.RowKit

/-- A memory in which a register of whole numbers is put. -/
def putW (v : MemV) (k n z : Int) : MemV := if k = 9 then { v with d := fun i => if i = (atZ k n).toNat then z else v.d i } else v
/-- A memory in which a register of real numbers is put. -/
def putR (v : MemV) (k n : Int) (x : Nat) : MemV := if k = 10 then { v with r := fun i => if i = (atZ k n).toNat then x else v.r i } else v

theorem putW_ok {v : MemV} {k n z : Int} (hv : v.Ok) (h1 : -32768 ≤ z) (h2 : z ≤ 32767) : (putW v k n z).Ok := by
  unfold putW
  split
  · refine ⟨hv.x, hv.y, hv.m, hv.s, hv.e, hv.tC, hv.cC, fun i => ?_, fun i => ?_, hv.r, hv.time⟩
    · simp only
      split
      · exact h1
      · exact hv.d1 i
    · simp only
      split
      · exact h2
      · exact hv.d2 i
  · exact hv
theorem putR_ok {v : MemV} {k n : Int} {x : Nat} (hv : v.Ok) (h : x < 2 ^ 64) : (putR v k n x).Ok := by
  unfold putR
  split
  · refine ⟨hv.x, hv.y, hv.m, hv.s, hv.e, hv.tC, hv.cC, hv.d1, hv.d2, fun i => ?_, hv.time⟩
    simp only
    split
    · exact h
    · exact hv.r i
  · exact hv

theorem putD_cell (v : MemV) (j : Nat) (hj : j < 32) (z : Int) : ({ v with d := fun i => if i = j then z else v.d i } : MemV).cell (85 + j) = .int .i16 z := by
  rw [MemV.cell_d _ j hj]
  simp
theorem putD_other (v : MemV) (j : Nat) (z : Int) : ∀ i, i < 136 → i ≠ 85 + j → ({ v with d := fun i => if i = j then z else v.d i } : MemV).cell i = v.cell i := by
  intro i _ hi
  by_cases h1 : i < 85
  · unfold MemV.cell
    simp only [h1, if_true]
  by_cases h2 : i < 117
  · obtain ⟨m, rfl⟩ : ∃ m, i = 85 + m := ⟨i - 85, by omega⟩
    rw [MemV.cell_d _ m (by omega), MemV.cell_d _ m (by omega)]
    simp only [show m ≠ j by omega, if_false]
  · unfold MemV.cell
    simp only [h1, h2, if_false]
theorem putR_cell (v : MemV) (j : Nat) (hj : j < 16) (x : Nat) : ({ v with r := fun i => if i = j then x else v.r i } : MemV).cell (117 + j) = .float .f64 x := by
  rw [MemV.cell_r _ j hj]
  simp
theorem putR_other (v : MemV) (j : Nat) (x : Nat) : ∀ i, i < 136 → i ≠ 117 + j → ({ v with r := fun i => if i = j then x else v.r i } : MemV).cell i = v.cell i := by
  intro i _ hi
  by_cases h1 : i < 117
  · unfold MemV.cell
    simp only [h1, if_true]
  by_cases h2 : i < 133
  · obtain ⟨m, rfl⟩ : ∃ m, i = 117 + m := ⟨i - 117, by omega⟩
    rw [MemV.cell_r _ m (by omega), MemV.cell_r _ m (by omega)]
    simp only [show m ≠ j by omega, if_false]
  · unfold MemV.cell
    simp only [h1, h2, if_false]

end Go.Proofs.YtdhoimjkgicneaaGreatDoor

/- The specification's MemPutReal. -/
namespace Go.Proofs.YtdhoimjkgicneaaGreatDoor
open Go Go.RowKit

set_option maxRecDepth 100000 in
set_option maxHeartbeats 4000000 in
theorem spec_putrealIn (v : MemV) (n p : Int) (z : Nat) (w : World) :
    Calls Tryz.prog 96 #[.agg v.row, .agg #[.int .i64 10, .int .i64 n, .int .i64 p], .float .f64 z] w fun e w' => e = .returned (.agg (putR v 10 n z).row) ∧ Below w.heap.size w w' := by
  obtain ⟨j, hj, hz, hc⟩ := at_nat 10 n p
  have e : putR v 10 n z = { v with r := fun i => if i = j then z else v.r i } := by unfold putR; rw [hj]; rfl
  have h16 := atZ_lt (k := 10) (n := n) (s := 16) rfl (by omega)
  rw [hj] at h16
  rw [e]
  clear e hj
  have hlt : j < 16 := by omega
  obtain ⟨v', ev⟩ : ∃ v' : MemV, v' = { v with r := fun i => if i = j then z else v.r i } := ⟨_, rfl⟩
  have hu : v'.cell (117 + j) = .float .f64 z := by rw [ev]; exact putR_cell v j hlt z
  have ho : ∀ i, i < 136 → i ≠ 117 + j → v'.cell i = v.cell i := by rw [ev]; exact putR_other v j z
  rw [← ev]
  clear ev
  go_enter Tryz.func96, Tryz.ntmps96
  go_wp2_with fail
  refine (hc _).mono ?_
  rintro e w1 ⟨rfl, hB⟩
  obtain ⟨hA, hR, hC, hB⟩ := three_boxes v w w1 _ _ _ _ hB
  have c0 := hA.c (117 + j) (by omega)
  rw [MemV.cell_r v j hlt] at c0
  have f0 := hA.f (117 + j) (by omega)
  have s0 := store_float (z := z) c0 f0
  have hA2 := hA.put (by omega) hu ho
  have hB2 := hB.setCell (p := ⟨w.heap.size, 117 + j, none⟩) (Nat.le_refl _) (.float .f64 z)
  have hR2 : MemAt (w.heap.size + 1 + 1) mem0 (w1.setCell ⟨w.heap.size, 117 + j, none⟩ (.float .f64 z)) := hR.of_block (Below.heap_setCell _ _ _ _ (by simp; omega)) (by simpa [World.setCell] using hR.z)
  have hR3 := hR2.stored v'
  have hB3 := setCells_below v'.row.toList (w.heap.size + 1 + 1) 0 hB2 (by omega)
  go_wp2_with (first | refine list_load (t := 37) rfl rfl rfl (load_mem hA2) ?_ | refine list_store (t := 37) rfl rfl rfl rfl (store_mem v' hR2) ?_)
  exact ret_mem (c := 6) rfl rfl rfl hR3 ⟨rfl, hB3⟩

set_option maxRecDepth 100000 in
set_option maxHeartbeats 4000000 in
theorem spec_putreal (v : MemV) (k n p : Int) (z : Nat) (w : World) :
    Calls Tryz.prog 96 #[.agg v.row, .agg #[.int .i64 k, .int .i64 n, .int .i64 p], .float .f64 z] w fun e w' => e = .returned (.agg (putR v k n z).row) ∧ Below w.heap.size w w' := by
  by_cases h1 : k = 10
  · subst h1
    exact spec_putrealIn v n p z w
  obtain ⟨hA, hR, hC, hB⟩ := three_boxes v w _ #[.int .i64 k, .int .i64 n, .int .i64 p] 37 66 37 (Below.refl _ _)
  have d0 := hC 0 _ rfl
  have e : putR v k n z = v := by unfold putR; rw [if_neg h1]
  rw [e]
  have hR3 := hR.stored v
  have hB3 := setCells_below v.row.toList (w.heap.size + 1 + 1) 0 hB (by omega)
  have h1 : (k == 10) = false := by simp; omega
  go_enter Tryz.func96, Tryz.ntmps96
  go_wp2_with (first | refine list_load (t := 37) rfl rfl rfl (load_mem hA) ?_ | refine list_store (t := 37) rfl rfl rfl rfl (store_mem v hR) ?_)
  exact ret_mem (c := 6) rfl rfl rfl hR3 ⟨rfl, hB3⟩

end Go.Proofs.YtdhoimjkgicneaaGreatDoor

/- The specification's l3Value: the value of a device, as it is written. -/
namespace Go.Proofs.YtdhoimjkgicneaaGreatDoor
open Go Go.RowKit
attribute [local go_sem] zMemK

/-- What the value of a device makes of a memory. -/
def ValR (m : MemV) (k n : Int) (va : List UInt8) (m' : MemV) : Prop :=
  m'.Ok ∧ (k = 7 → ∀ (c : Nat) (d : Bool), c < 65536 → va = countL c d false → m' = timV m n.toNat c d) ∧
  (k = 8 → ∀ (c : Nat) (d e : Bool), c < 65536 → va = countL c d e → m' = cntV m n.toNat c d e) ∧
  (k = 9 → ∀ (z : Int), -32768 ≤ z → z ≤ 32767 → va = Lib.itoa z → m' = intV m n.toNat z) ∧
  (k = 10 → ∀ x, Txt x va → ∃ y, Txt y va ∧ m' = reaV m n.toNat y)

/-- A value without its marks, and the marks. -/
def Un (l0 l2 : List UInt8) (q p : Bool) : Prop :=
  (∀ c d e, l0 = countL c d e → l2 = Lib.decDigits c ∧ q = d ∧ p = e) ∧ (∀ z, l0 = Lib.itoa z → l2 = Lib.itoa z)

theorem itoa_last (z : Int) : ∀ x, (Lib.itoa z).getLast? = some x → 48 ≤ x.toNat ∧ x.toNat ≤ 57 := by
  intro x hx
  obtain ⟨y, ys, e, -⟩ := dd_first (c := z.natAbs)
  have h : (Lib.itoa z).getLast? = (Lib.decDigits z.natAbs).getLast? := by
    rw [itoa_sgnT]
    cases decide (z < 0) with
    | false => simp [sgnL]
    | true => rw [e]; simp [sgnL]
  rw [h] at hx
  exact dd_last _ x hx

theorem un_of (l0 : List UInt8) : Un l0 (Lib.trimSuffix (Lib.trimSuffix l0 [43]) [33]) (Lib.hasSuffix (Lib.trimSuffix l0 [43]) [33]) (Lib.hasSuffix l0 [43]) := by
  constructor
  · rintro c d e rfl
    obtain ⟨a1, a2, a3, a4⟩ := unmark c d e
    rw [a2]
    exact ⟨a4, a3, a1⟩
  · rintro z rfl
    have h1 := suf_no (l := Lib.itoa z) (c := 43) (fun h => absurd (itoa_last z _ h) (by decide))
    have h2 := suf_no (l := Lib.itoa z) (c := 33) (fun h => absurd (itoa_last z _ h) (by decide))
    rw [h1.2, h2.2]

theorem val_same {m : MemV} {k n : Int} {va l2 : List UInt8} {q p : Bool} (hm : m.Ok) (h10 : k ≠ 10) (hu : Un va l2 q p) (hno : ∀ v : Int, -32768 ≤ v → v ≤ 65535 → l2 ≠ Lib.itoa v) : ValR m k n va m := by
  refine ⟨hm, fun _ c d hc e => ?_, fun _ c d e' hc e => ?_, fun _ z h1 h2 e => ?_, fun h => absurd h h10⟩
  · exact absurd ((hu.1 c d false e).1.trans (Lib.itoa_nonneg c).symm) (hno c (by omega) (by omega))
  · exact absurd ((hu.1 c d e' e).1.trans (Lib.itoa_nonneg c).symm) (hno c (by omega) (by omega))
  · exact absurd (hu.2 z e) (hno z h1 (by omega))

/-- A memory, an operand, and a memory of nothing for the answer. -/
structure Svl (m : MemV) (k n p : Int) (w wr : World) : Prop where
  M : MemAt w.heap.size m wr
  A : ArgAt (w.heap.size + 1) (.int .i64 k) (.int .i64 n) (.int .i64 p) wr
  Z : MemAt (w.heap.size + 2) mem0 wr
  b : Below w.heap.size w wr

theorem svl_open (m : MemV) (k n p : Int) (w : World) (t1 t2 t3 : TypeId) : Svl m k n p w (((w.alloc (.cells m.row t1)).alloc (.cells #[.int .i64 k, .int .i64 n, .int .i64 p] t2)).alloc (.cells mem0.row t3)) := by
  have h1 : ∀ (w : World) (o : Obj), Below w.heap.size w (w.alloc o) := fun w o => (Below.refl _ _).alloc (Nat.le_refl _) _
  have a := MemAt.alloc m w t1
  have b := ArgAt.alloc (.int .i64 k) (.int .i64 n) (.int .i64 p) (w.alloc (.cells m.row t1)) t2
  rw [show (w.alloc (.cells m.row t1)).heap.size = w.heap.size + 1 by simp] at b
  have c := MemAt.alloc mem0 ((w.alloc (.cells m.row t1)).alloc (.cells #[.int .i64 k, .int .i64 n, .int .i64 p] t2)) t3
  rw [show ((w.alloc (.cells m.row t1)).alloc (.cells #[.int .i64 k, .int .i64 n, .int .i64 p] t2)).heap.size = w.heap.size + 2 by simp] at c
  refine ⟨(a.below (h1 _ _) a.z).below (h1 _ _) (by simp <;> omega), b.below (h1 _ _) b.lt, c, ((((Below.refl w.heap.size w).alloc (Nat.le_refl _) _).alloc (by simp) _).alloc (by simp <;> omega) _)⟩

theorem Svl.call {m : MemV} {k n p : Int} {w w1 w2 : World} (h : Svl m k n p w w1) (g : Below w1.heap.size w1 w2) : Svl m k n p w w2 :=
  ⟨h.M.below g h.M.z, h.A.below g h.A.lt, h.Z.below g h.Z.z, h.b.trans (g.mono h.b.size)⟩

theorem Svl.upd {m : MemV} {k n p : Int} {w w1 : World} {j : Nat} {u : Value} (h : Svl m k n p w w1) (hk : j < 136) (hu : fitC j u) : Svl (m.upd j u) k n p w (w1.setCell ⟨w.heap.size, j, none⟩ u) := by
  refine ⟨h.M.upd hk hu, ?_, ?_, ?_⟩
  · have := h.A.other (c := w.heap.size) (o := j) (vs := [u]) (by omega)
    exact this
  · have := h.Z.other (c := w.heap.size) (o := j) (vs := [u]) (by omega)
    exact this
  · have := setCells_below [u] w.heap.size j h.b (Nat.le_refl _)
    exact this

theorem Svl.fin {m : MemV} {k n p : Int} {w w1 : World} (h : Svl m k n p w w1) (m' : MemV) : MemAt (w.heap.size + 2) m' (w1.setCells (w.heap.size + 2) 0 m'.row.toList) ∧ Below w.heap.size w (w1.setCells (w.heap.size + 2) 0 m'.row.toList) :=
  ⟨h.Z.stored m', setCells_below _ _ _ h.b (by omega)⟩

theorem putR_rea {m : MemV} {n : Int} {x j : Nat} (hn : n = j) (hj : j < 16) : putR m 10 n x = reaV m j x := by
  have h1 : (atZ 10 n).toNat = j := by
    subst hn
    show ((j : Int) % 16).toNat = j
    omega
  unfold putR reaV
  rw [if_pos rfl, h1]

theorem wrapI16R (z : Int) : -32768 ≤ IntKind.i16.wrap z ∧ IntKind.i16.wrap z ≤ 32767 := by
  simp [IntKind.wrap, IntKind.signed, IntKind.bits]
  omega

set_option maxRecDepth 100000 in
set_option maxHeartbeats 4000000 in
theorem spec_value (m : MemV) (k n p : Int) (s : ByteArray) (w : World) (hm : m.Ok) (ho : okB k n p = true) (hs : s.size ≤ 6000) :
    Calls Tryz.prog 57 #[.agg m.row, .agg #[.int .i64 k, .int .i64 n, .int .i64 p], .string s] w fun e w' => ∃ m' : MemV, e = .returned (.agg m'.row) ∧ ValR m k n s.data.toList m' ∧ Below w.heap.size w w' := by
  have H : Hid (Svl m k n p w _) := svl_open m k n p w 37 66 37
  have hl : s.data.toList.length = s.size := by rw [Array.length_toList]; rfl
  obtain ⟨va, hva⟩ : ∃ va, va = s.data.toList := ⟨_, rfl⟩
  have HVA : Hid (va = s.data.toList) := hva
  rw [← hva] at hl ⊢
  have HO : Hid (okB k n p = true) := ho
  clear hva ho
  go_enter Tryz.func57, Tryz.ntmps57
  go_upto_region 1 with fail
  generalize (((w.alloc (.cells m.row 37)).alloc (.cells #[.int .i64 k, .int .i64 n, .int .i64 p] 66)).alloc (.cells mem0.row 37)) = w1 at H ⊢
  have g0 := H.out.A.c0
  by_cases h10 : k = 10
  · subst h10
    obtain ⟨j, rfl, hj⟩ := ok_num (s := 16) HO.out (by omega) rfl
    go_wp2_with fail
    refine (spec_rread s w1 hs).mono ?_
    rintro e w2 ⟨hr, hb⟩
    have H : Hid (Svl m 10 j p w w2) := H.out.call hb
    obtain ⟨x, ob, rfl, hx⟩ : ∃ x ob, e = .returned (.tuple #[.float .f64 x, .bool ob]) ∧ x < 2 ^ 64 ∧ ∀ y, Txt y va → Txt x va := by
      rw [← HVA.out] at hr
      rcases hr with ⟨z, rfl, h1, h2⟩ | ⟨rfl, h1⟩
      · exact ⟨z, true, rfl, h2, fun _ _ => h1⟩
      · exact ⟨0, false, rfl, Nat.two_pow_pos 64, fun y hy => absurd hy (h1 y)⟩
    have HX : Hid (x < 2 ^ 64 ∧ ∀ y, Txt y va → Txt x va) := hx
    clear hr hb hx g0
    have L := load_mem H.out.M
    have LA := H.out.A.load
    go_wp2_with (first | refine list_load (t := 37) rfl rfl rfl L ?_ | refine list_load (t := 66) rfl rfl rfl LA ?_)
    refine (spec_putreal m 10 j p x w2).mono ?_
    rintro e w3 ⟨rfl, hb⟩
    rw [putR_rea rfl (by omega)]
    have H : Hid (Svl m 10 j p w w3) := H.out.call hb
    obtain ⟨m3, e3⟩ : ∃ m3, m3 = reaV m j x := ⟨_, rfl⟩
    rw [← e3]
    have E3 : Hid (m3 = reaV m j x) := e3
    clear hb L LA e3
    have S := store_mem m3 H.out.Z
    go_wp2_with (refine list_store (t := 37) rfl rfl rfl rfl S ?_)
    refine ret_mem (c := 6) rfl rfl rfl (H.out.fin m3).1 ⟨m3, rfl, ?_, (H.out.fin m3).2⟩
    refine ⟨by rw [E3.out]; exact rea_ok hm HX.out.1, fun h => absurd h (by omega), fun h => absurd h (by omega), fun h => absurd h (by omega), fun _ y hy => ⟨x, HX.out.2 y hy, by rw [E3.out]; rfl⟩⟩
  have h10' : (k == 10) = false := by simpa using h10
  go_upto_region 4 with fail
  clear g0
  go_wp2_with fail
  have CT := spec_tail s 43 w1 hs
  rw [show (((43 : UInt8).toNat : Nat) : Int) = 43 from rfl, ← HVA.out] at CT
  refine CT.mono ?_
  rintro e w2 ⟨rfl, rfl⟩
  clear CT
  have hz1 := suf_len va 43
  have CT := spec_tail ⟨(Lib.trimSuffix va [43]).toArray⟩ 33 w2 (by rw [str_size]; omega)
  rw [show (((33 : UInt8).toNat : Nat) : Int) = 33 from rfl, show (⟨(Lib.trimSuffix va [43]).toArray⟩ : ByteArray).data.toList = Lib.trimSuffix va [43] from by simp] at CT
  have hz2 := suf_len (Lib.trimSuffix va [43]) 33
  have hu := un_of va
  generalize Lib.hasSuffix va [43] = pp at hu ⊢
  generalize Lib.trimSuffix va [43] = l1 at hu CT hz1 hz2 ⊢
  go_wp2_with fail
  refine CT.mono ?_
  rintro e w3 ⟨rfl, rfl⟩
  clear CT
  generalize Lib.hasSuffix l1 [33] = qq at hu ⊢
  generalize Lib.trimSuffix l1 [33] = l2 at hu hz2 ⊢
  have HU : Hid (Un va l2 qq pp) := hu
  have CN := num_all ⟨l2.toArray⟩ w3 (by rw [str_size]; omega)
  clear hu hz1 hz2 hl hs
  go_wp2_with fail
  refine CN.mono ?_
  rintro e w4 ⟨hr, rfl⟩
  clear CN
  have L := load_mem H.out.M
  have S := store_mem m H.out.Z
  rcases hr with ⟨v, rfl, hv, -⟩ | ⟨rfl, hn⟩
  · have HV : Hid (l2 = Lib.itoa v) := hv
    clear hv
    by_cases hlo : v < -32768
    · have HNO : Hid (ValR m k n va m) := val_same hm h10 HU.out (fun v' h1 h2 e => by have := itoa_inj (HV.out.symm.trans e); omega)
      go_wp2_with (first | refine list_load (t := 37) rfl rfl rfl L ?_ | refine list_store (t := 37) rfl rfl rfl rfl S ?_)
      exact ret_mem (c := 6) rfl rfl rfl (H.out.fin m).1 ⟨m, rfl, HNO.out, (H.out.fin m).2⟩
    by_cases hhi : 65535 < v
    · have HNO : Hid (ValR m k n va m) := val_same hm h10 HU.out (fun v' h1 h2 e => by have := itoa_inj (HV.out.symm.trans e); omega)
      go_wp2_with (first | refine list_load (t := 37) rfl rfl rfl L ?_ | refine list_store (t := 37) rfl rfl rfl rfl S ?_)
      exact ret_mem (c := 6) rfl rfl rfl (H.out.fin m).1 ⟨m, rfl, HNO.out, (H.out.fin m).2⟩
    have g0 := H.out.A.c0
    have g1 := H.out.A.c1
    clear L S
    by_cases h7 : k = 7
    · subst h7
      obtain ⟨j, rfl, hj⟩ := ok_num (s := 16) HO.out (by omega) rfl

      obtain ⟨c, hc⟩ : ∃ c : Nat, IntKind.u16.wrap v = c := ⟨(IntKind.u16.wrap v).toNat, by have := wrap_u16 v; omega⟩
      have hcl : c < 65536 := by have := wrap_u16 v; omega
      have HC : Hid (0 ≤ v → (c : Int) = v) := by
        intro h0
        rw [← hc]
        simp [IntKind.wrap, IntKind.signed, IntKind.bits]
        omega
      have f1 : fitC (5 + j * 2) (.bool qq) := fit_tD (by omega) qq
      have f2 : fitC (5 + j * 2 + 1) (.int .u16 (c : Int)) := hc ▸ fit_tC (by omega) v
      have c0 := H.out.M.c (5 + j * 2) (by omega)
      have c1 := H.out.M.c (5 + j * 2 + 1) (by omega)
      have z0 := H.out.M.f (5 + j * 2) (by omega)
      have z1 := H.out.M.f (5 + j * 2 + 1) (by omega)
      have H : Hid (Svl ((m.upd (5 + j * 2) (.bool qq)).upd (5 + j * 2 + 1) (.int .u16 (c : Int))) 7 j p w _) := (H.out.upd (by omega) f1).upd (by omega) f2
      rw [upd_tim m j c qq (by omega)] at H
      obtain ⟨m4, e4⟩ : ∃ m4, m4 = timV m j c qq := ⟨_, rfl⟩
      rw [← e4] at H
      have E4 : Hid (m4 = timV m j c qq) := e4
      clear f1 f2 e4
      go_upto_region 16 with fail
      generalize ((w4.setCell ⟨w.heap.size, 5 + j * 2, none⟩ (.bool qq)).setCell ⟨w.heap.size, 5 + j * 2 + 1, none⟩ (.int .u16 (c : Int))) = w6 at H ⊢
      clear c0 c1 z0 z1 g0 g1 hc

      have L := load_mem H.out.M
      have S := store_mem m4 H.out.Z
      go_wp2_with (first | refine list_load (t := 37) rfl rfl rfl L ?_ | refine list_store (t := 37) rfl rfl rfl rfl S ?_)
      refine ret_mem (c := 6) rfl rfl rfl (H.out.fin m4).1 ⟨m4, rfl, ?_, (H.out.fin m4).2⟩

      refine ⟨by rw [E4.out]; exact tim_ok hm hcl, fun _ c' d' hc' e => ?_, fun h => absurd h (by omega), fun h => absurd h (by omega), fun h => absurd h (by omega)⟩
      obtain ⟨a, rfl, -⟩ := HU.out.1 c' d' false e
      have hv2 : v = c' := itoa_inj (HV.out.symm.trans (a.trans (Lib.itoa_nonneg c').symm))
      have hc3 : c = c' := by have := HC.out (by omega); omega
      rw [E4.out, hc3]
      rfl
    have h7' : (k == 7) = false := by simpa using h7
    by_cases h8 : k = 8
    · subst h8
      obtain ⟨j, rfl, hj⟩ := ok_num (s := 16) HO.out (by omega) rfl

      obtain ⟨c, hc⟩ : ∃ c : Nat, IntKind.u16.wrap v = c := ⟨(IntKind.u16.wrap v).toNat, by have := wrap_u16 v; omega⟩
      have hcl : c < 65536 := by have := wrap_u16 v; omega
      have HC : Hid (0 ≤ v → (c : Int) = v) := by
        intro h0
        rw [← hc]
        simp [IntKind.wrap, IntKind.signed, IntKind.bits]
        omega
      have f1 : fitC (37 + j * 3) (.bool qq) := fit_cD (by omega) qq
      have f2 : fitC (37 + j * 3 + 1) (.bool pp) := fit_cL (by omega) pp
      have f3 : fitC (37 + j * 3 + 2) (.int .u16 (c : Int)) := hc ▸ fit_cC (by omega) v
      have c0 := H.out.M.c (37 + j * 3) (by omega)
      have c1 := H.out.M.c (37 + j * 3 + 1) (by omega)
      have c2 := H.out.M.c (37 + j * 3 + 2) (by omega)
      have z0 := H.out.M.f (37 + j * 3) (by omega)
      have z1 := H.out.M.f (37 + j * 3 + 1) (by omega)
      have z2 := H.out.M.f (37 + j * 3 + 2) (by omega)
      have H : Hid (Svl (((m.upd (37 + j * 3) (.bool qq)).upd (37 + j * 3 + 1) (.bool pp)).upd (37 + j * 3 + 2) (.int .u16 (c : Int))) 8 j p w _) := ((H.out.upd (by omega) f1).upd (by omega) f2).upd (by omega) f3
      rw [upd_cnt m j c qq pp (by omega)] at H
      obtain ⟨m4, e4⟩ : ∃ m4, m4 = cntV m j c qq pp := ⟨_, rfl⟩
      rw [← e4] at H
      have E4 : Hid (m4 = cntV m j c qq pp) := e4
      clear f1 f2 f3 e4
      go_upto_region 16 with fail
      generalize (((w4.setCell ⟨w.heap.size, 37 + j * 3, none⟩ (.bool qq)).setCell ⟨w.heap.size, 37 + j * 3 + 1, none⟩ (.bool pp)).setCell ⟨w.heap.size, 37 + j * 3 + 2, none⟩ (.int .u16 (c : Int))) = w6 at H ⊢
      clear c0 c1 c2 z0 z1 z2 g0 g1 hc

      have L := load_mem H.out.M
      have S := store_mem m4 H.out.Z
      go_wp2_with (first | refine list_load (t := 37) rfl rfl rfl L ?_ | refine list_store (t := 37) rfl rfl rfl rfl S ?_)
      refine ret_mem (c := 6) rfl rfl rfl (H.out.fin m4).1 ⟨m4, rfl, ?_, (H.out.fin m4).2⟩

      refine ⟨by rw [E4.out]; exact cnt_ok hm hcl, fun h => absurd h (by omega), fun _ c' d' e' hc' e => ?_, fun h => absurd h (by omega), fun h => absurd h (by omega)⟩
      obtain ⟨a, rfl, rfl⟩ := HU.out.1 c' d' e' e
      have hv2 : v = c' := itoa_inj (HV.out.symm.trans (a.trans (Lib.itoa_nonneg c').symm))
      have hc3 : c = c' := by have := HC.out (by omega); omega
      rw [E4.out, hc3]
      rfl
    have h8' : (k == 8) = false := by simpa using h8
    by_cases h9 : k = 9
    · subst h9
      obtain ⟨j, rfl, hj⟩ := ok_num (s := 32) HO.out (by omega) rfl

      obtain ⟨z, hz⟩ : ∃ z : Int, IntKind.i16.wrap v = z := ⟨_, rfl⟩
      have hzl : -32768 ≤ z ∧ z ≤ 32767 := hz ▸ wrapI16R v
      have HC : Hid (v ≤ 32767 → z = v) := by
        intro h0
        rw [← hz]
        simp [IntKind.wrap, IntKind.signed, IntKind.bits]
        omega
      have f1 : fitC (85 + j) (.int .i16 z) := fit_d (by omega) hzl.1 hzl.2
      have c0 := H.out.M.c (85 + j) (by omega)
      have z0 := H.out.M.f (85 + j) (by omega)
      have H : Hid (Svl (m.upd (85 + j) (.int .i16 z)) 9 j p w _) := H.out.upd (by omega) f1
      rw [upd_int m j z (by omega)] at H
      obtain ⟨m4, e4⟩ : ∃ m4, m4 = intV m j z := ⟨_, rfl⟩
      rw [← e4] at H
      have E4 : Hid (m4 = intV m j z) := e4
      clear f1 e4
      go_upto_region 16 with fail
      generalize (w4.setCell ⟨w.heap.size, 85 + j, none⟩ (.int .i16 z)) = w6 at H ⊢
      clear c0 z0 g0 g1 hz

      have L := load_mem H.out.M
      have S := store_mem m4 H.out.Z
      go_wp2_with (first | refine list_load (t := 37) rfl rfl rfl L ?_ | refine list_store (t := 37) rfl rfl rfl rfl S ?_)
      refine ret_mem (c := 6) rfl rfl rfl (H.out.fin m4).1 ⟨m4, rfl, ?_, (H.out.fin m4).2⟩

      refine ⟨by rw [E4.out]; exact int_okV hm hzl.1 hzl.2, fun h => absurd h (by omega), fun h => absurd h (by omega), fun _ z' h1 h2 e => ?_, fun h => absurd h (by omega)⟩
      have hv2 : v = z' := itoa_inj (HV.out.symm.trans (HU.out.2 z' e))
      have hc3 : z = z' := by have := HC.out (by omega); omega
      rw [E4.out, hc3]
      rfl
    have h9' : (k == 9) = false := by simpa using h9
    go_upto_region 16 with fail
    clear g0 g1 h7' h8' h9'
    have L := load_mem H.out.M
    have S := store_mem m H.out.Z
    go_wp2_with (first | refine list_load (t := 37) rfl rfl rfl L ?_ | refine list_store (t := 37) rfl rfl rfl rfl S ?_)
    exact ret_mem (c := 6) rfl rfl rfl (H.out.fin m).1 ⟨m, rfl, ⟨hm, fun h => absurd h h7, fun h => absurd h h8, fun h => absurd h h9, fun h => absurd h h10⟩, (H.out.fin m).2⟩
  · have HNO : Hid (ValR m k n va m) := val_same hm h10 HU.out (fun v h1 h2 => hn v (by omega))
    clear hn
    go_wp2_with (first | refine list_load (t := 37) rfl rfl rfl L ?_ | refine list_store (t := 37) rfl rfl rfl rfl S ?_)
    exact ret_mem (c := 6) rfl rfl rfl (H.out.fin m).1 ⟨m, rfl, HNO.out, (H.out.fin m).2⟩

end Go.Proofs.YtdhoimjkgicneaaGreatDoor
