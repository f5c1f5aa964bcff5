/- The laws' helpers over writes: compared, marked, held against the marks. -/
import Derived.Test.YtdhoimjkgicneacHelG
import Derived.Test.YtdhoimjkgicneacHolM
import Derived.Test.YtdhoimjkgicneacHolT
namespace Go.Proofs.Ytdhoimjkgicneac
open Go Go.RowKit

set_option maxRecDepth 100000 in
theorem eq_write (k s b : Int) (w : World) :
    Calls Try.prog 54 #[.agg #[.int .i64 k, .int .i64 s, .int .u8 b], .agg #[.int .i64 k, .int .i64 s, .int .u8 b]] w fun e w' => e = .returned (.bool true) ∧ Below w.heap.size w w' := by
  go_enter Try.func54, Try.ntmps54
  go_wp2_with fail
  go_ret
  exact ⟨rfl, ((Below.refl w.heap.size w).alloc (Nat.le_refl _) _).alloc (by simp) _⟩

/-- One write of a slice. -/
theorem WritesIn.one {B : Nat} {a : Option Addr} {n cap : Nat} {ws : List Wr} {w : World} (h : WritesIn B (.slice a n cap) ws w) {i : Nat} (hi : i < ws.length) :
    ∃ b off, a = some ⟨b, off, none⟩ ∧ b < B ∧ w.cell? ⟨b, off + i * 3, none⟩ = some (.int .i64 (ws[i]'hi).kind) ∧ w.cell? ⟨b, off + i * 3 + 1, none⟩ = some (.int .i64 (ws[i]'hi).slot) ∧ w.cell? ⟨b, off + i * 3 + 2, none⟩ = some (.int .u8 ((ws[i]'hi).byte : Int)) := by
  rcases h with ⟨b, off, cap', e, hz, hc, he⟩ | ⟨rfl, e⟩
  · simp only [Value.slice.injEq] at e
    obtain ⟨rfl, -, -⟩ := e
    exact ⟨b, off, rfl, hz, he i _ (List.getElem?_eq_getElem hi)⟩
  · simp at hi

set_option maxRecDepth 100000 in
set_option maxHeartbeats 1600000 in
/-- Two slices of the same writes. -/
theorem eq_writes (a b : Value) (ws : List Wr) (w : World) (ha : WritesAt a ws w) (hb : WritesAt b ws w) (hx : ws.length ≤ 100000000) :
    Calls Try.prog 23 #[a, b] w fun e w' => e = .returned (.bool true) ∧ Below w.heap.size w w' := by
  obtain ⟨aa, ca, rfl⟩ := WritesIn.len ha
  obtain ⟨ab, cb, rfl⟩ := WritesIn.len hb
  have HA : Hid (WritesIn w.heap.size (.slice aa ws.length ca) ws w ∧ WritesIn w.heap.size (.slice ab ws.length cb) ws w) := ⟨ha, hb⟩
  obtain ⟨n, hn⟩ : ∃ n, n = ws.length := ⟨_, rfl⟩
  have HL : Hid (n = ws.length) := hn
  rw [← hn] at HA hx ⊢
  clear ha hb hn
  go_enter Try.func23, Try.ntmps23
  go_wp2_with fail
  go_loopw [5] (fun iv wr => ∃ i : Nat, i ≤ n ∧ iv = .int .i64 i ∧ Below w.heap.size w wr) (fun iv _ => n - (intOf iv).toNat)
  case atStart => exact ⟨0, by omega, rfl, Below.refl _ _⟩
  case round =>
    obtain ⟨i, hi, rfl, hB⟩ := hrel
    have HB : Hid (Below w.heap.size w wr) := hB
    clear hB
    by_cases hin : i < n
    · have hin' : (0 : Int) ≤ (i : Int) ∧ (i : Int) < (n : Int) := by omega
      obtain ⟨x, hx0⟩ : ∃ x, x = ws[i]'(by have := HL.out; omega) := ⟨_, rfl⟩
      obtain ⟨ba, oa, rfl, za, c0, c1, c2⟩ := (HA.out.1.below HB.out).one (i := i) (by have := HL.out; omega)
      obtain ⟨bb, ob, rfl, zb, e0, e1, e2⟩ := (HA.out.2.below HB.out).one (i := i) (by have := HL.out; omega)
      rw [← hx0] at c0 c1 c2 e0 e1 e2
      obtain ⟨kd, sl, bt⟩ := x
      simp only at c0 c1 c2 e0 e1 e2
      clear hx0
      have hS : wr.drew.cell? ⟨ba, oa + i * 3, none⟩ = some (.int .i64 kd) ∧ wr.drew.cell? ⟨ba, oa + i * 3 + 1, none⟩ = some (.int .i64 sl) ∧ wr.drew.cell? ⟨ba, oa + i * 3 + 2, none⟩ = some (.int .u8 (bt : Int)) ∧ wr.drew.cell? ⟨bb, ob + i * 3, none⟩ = some (.int .i64 kd) ∧ wr.drew.cell? ⟨bb, ob + i * 3 + 1, none⟩ = some (.int .i64 sl) ∧ wr.drew.cell? ⟨bb, ob + i * 3 + 2, none⟩ = some (.int .u8 (bt : Int)) ∧ Below w.heap.size w wr.drew := ⟨c0, c1, c2, e0, e1, e2, HB.out.drew⟩
      go_wp2_with fail
      refine wp_region_held (S := fun w' => w'.cell? ⟨ba, oa + i * 3, none⟩ = some (.int .i64 kd) ∧ w'.cell? ⟨ba, oa + i * 3 + 1, none⟩ = some (.int .i64 sl) ∧ w'.cell? ⟨ba, oa + i * 3 + 2, none⟩ = some (.int .u8 (bt : Int)) ∧ w'.cell? ⟨bb, ob + i * 3, none⟩ = some (.int .i64 kd) ∧ w'.cell? ⟨bb, ob + i * 3 + 1, none⟩ = some (.int .i64 sl) ∧ w'.cell? ⟨bb, ob + i * 3 + 2, none⟩ = some (.int .u8 (bt : Int)) ∧ Below w.heap.size w w') (by kernel_rfl) ?_
      clear c0 c1 c2 e0 e1 e2
      refine held_any (fuel := 9) (i := 0) (v := .slice (some ⟨ba, oa, none⟩) n ca) rfl (by kernel_rfl) (by kernel_rfl) (by kernel_rfl) rfl (fun _ _ _ h => h) (fun _ _ => rfl) hS ?_
      go_simp
      refine held_any (fuel := 8) (i := 1) (v := .int .i64 (i : Int)) rfl (by kernel_rfl) (by kernel_rfl) (by kernel_rfl) rfl (fun _ _ _ h => h) (fun _ _ => rfl) hS ?_
      go_simp
      refine held_any (fuel := 7) (i := 2) (v := .pointer (some ⟨ba, oa + i * 3, none⟩)) rfl (by kernel_rfl) (by kernel_rfl) (by kernel_rfl) rfl (fun _ _ _ h => h) (fun _ _ => by go_simp) hS ?_
      go_simp
      refine held_load (fuel := 6) (i := 3) (t := 35) (v := .agg #[.int .i64 kd, .int .i64 sl, .int .u8 (bt : Int)]) rfl rfl rfl (by kernel_rfl) (by kernel_rfl) (by kernel_rfl) rfl (fun _ _ _ h => h) (fun w' hw' => load_write hw'.1 hw'.2.1 hw'.2.2.1) hS ?_
      go_simp
      refine held_any (fuel := 5) (i := 4) (v := .slice (some ⟨bb, ob, none⟩) n cb) rfl (by kernel_rfl) (by kernel_rfl) (by kernel_rfl) rfl (fun _ _ _ h => h) (fun _ _ => rfl) hS ?_
      go_simp
      refine held_any (fuel := 4) (i := 5) (v := .int .i64 (i : Int)) rfl (by kernel_rfl) (by kernel_rfl) (by kernel_rfl) rfl (fun _ _ _ h => h) (fun _ _ => rfl) hS ?_
      go_simp
      refine held_any (fuel := 3) (i := 6) (v := .pointer (some ⟨bb, ob + i * 3, none⟩)) rfl (by kernel_rfl) (by kernel_rfl) (by kernel_rfl) rfl (fun _ _ _ h => h) (fun _ _ => by go_simp) hS ?_
      go_simp
      refine held_load (fuel := 2) (i := 7) (t := 35) (v := .agg #[.int .i64 kd, .int .i64 sl, .int .u8 (bt : Int)]) rfl rfl rfl (by kernel_rfl) (by kernel_rfl) (by kernel_rfl) rfl (fun _ _ _ h => h) (fun w' hw' => load_write hw'.2.2.2.1 hw'.2.2.2.2.1 hw'.2.2.2.2.2.1) hS ?_
      go_simp
      refine wpAnyH_ready (rs := [8]) (by kernel_rfl) (by simp) ?_
      refine AllReadyH.cons rfl (fun K hK => ?_) AllReadyH.nil
      go_simp
      refine (eq_write kd sl bt _).mono ?_
      rintro e w2 ⟨rfl, b2⟩
      have hl : ∀ (q o : Nat), q < w.heap.size → w2.cell? ⟨q, o, none⟩ = wr.drew.cell? ⟨q, o, none⟩ := fun q o hq => b2.cell (p := ⟨q, o, none⟩) (Nat.lt_of_lt_of_le hq HB.out.size)
      have hS2 : w2.cell? ⟨ba, oa + i * 3, none⟩ = some (.int .i64 kd) ∧ w2.cell? ⟨ba, oa + i * 3 + 1, none⟩ = some (.int .i64 sl) ∧ w2.cell? ⟨ba, oa + i * 3 + 2, none⟩ = some (.int .u8 (bt : Int)) ∧ w2.cell? ⟨bb, ob + i * 3, none⟩ = some (.int .i64 kd) ∧ w2.cell? ⟨bb, ob + i * 3 + 1, none⟩ = some (.int .i64 sl) ∧ w2.cell? ⟨bb, ob + i * 3 + 2, none⟩ = some (.int .u8 (bt : Int)) ∧ Below w.heap.size w w2 := ⟨(hl _ _ za).trans hS.1, (hl _ _ za).trans hS.2.1, (hl _ _ za).trans hS.2.2.1, (hl _ _ zb).trans hS.2.2.2.1, (hl _ _ zb).trans hS.2.2.2.2.1, (hl _ _ zb).trans hS.2.2.2.2.2.1, hS.2.2.2.2.2.2.trans (b2.mono hS.2.2.2.2.2.2.size)⟩
      refine hK.out _ _ hS2 (fun _ => ?_)
      have H2 : Hid (Below w.heap.size w w2) := hS2.2.2.2.2.2.2
      clear hK K b2 hl hS
      go_simp
      refine held_any (fuel := 0) (i := 9) (v := .bool false) rfl (by kernel_rfl) (by kernel_rfl) (by kernel_rfl) rfl (fun _ _ _ h => h) (fun _ _ => by go_simp) hS2 ?_
      go_simp
      refine wpAnyH_done (by kernel_rfl) ?_ _
      clear hS2
      go_wp2_with fail
      go_roundw
      case rel => exact ⟨i + 1, by omega, by go_num, H2.out⟩
      case measure => simp [intOf]; omega
    · obtain rfl : i = n := by omega
      go_wp2_with fail
      go_ret
      exact ⟨rfl, HB.out⟩

/-- Marks, as writes. -/
def markW (z : Nat) : Wr := ⟨(z : Int), ((z + 1 : Nat) : Int), (z + 2) % 256⟩
def marksW (k n : Nat) : List Wr := (List.range n).map fun i => markW (k + 3 * i)
theorem marksW_len (k n : Nat) : (marksW k n).length = n := by simp [marksW]
theorem marksW_set (k i : Nat) (ws : List Wr) (h : i < ws.length) : (marksW k i ++ ws.drop i).set i (markW (k + 3 * i)) = marksW k (i + 1) ++ ws.drop (i + 1) := by
  rw [List.set_append_right _ _ (by rw [marksW_len]; omega), marksW_len, Nat.sub_self, List.drop_eq_getElem_cons h, List.set_cons_zero]
  simp [marksW, List.range_succ]

theorem writesV_set : ∀ (ws : List Wr) (i : Nat) (x : Wr), (((writesV ws).set (i * 3) (.int .i64 x.kind)).set (i * 3 + 1) (.int .i64 x.slot)).set (i * 3 + 2) (.int .u8 (x.byte : Int)) = writesV (ws.set i x)
  | [], i, x => by simp [writesV]
  | y :: ys, 0, x => by simp [writesV]
  | y :: ys, i + 1, x => by
    have h := writesV_set ys i x
    simp only [writesV, List.set_cons_succ, show (i + 1) * 3 = i * 3 + 1 + 1 + 1 by omega]
    rw [← h]

theorem OwnW.put {base g cap n : Nat} {ws : List Wr} {w : World} (h : OwnW base (.slice (some ⟨g, 0, none⟩) n cap) ws w) (hn : n = ws.length) (i : Nat) (x : Wr) : OwnW base (.slice (some ⟨g, 0, none⟩) n cap) (ws.set i x) (((w.setCell ⟨g, i * 3, none⟩ (.int .i64 x.kind)).setCell ⟨g, i * 3 + 1, none⟩ (.int .i64 x.slot)).setCell ⟨g, i * 3 + 2, none⟩ (.int .u8 (x.byte : Int))) := by
  subst hn
  unfold OwnW at h ⊢
  rw [← writesV_set, List.length_set]
  exact (World.ownsRow.stored (World.ownsRow.stored (World.ownsRow.stored h _ _).1 _ _).1 _ _).1

theorem OwnW.cellAt {base g cap n : Nat} {ws : List Wr} {w : World} (h : OwnW base (.slice (some ⟨g, 0, none⟩) n cap) ws w) (hn : n = ws.length) {i : Nat} (hi : i < ws.length) : (∃ x : Wr, w.cell? ⟨g, i * 3, none⟩ = some (.int .i64 x.kind) ∧ w.cell? ⟨g, i * 3 + 1, none⟩ = some (.int .i64 x.slot) ∧ w.cell? ⟨g, i * 3 + 2, none⟩ = some (.int .u8 (x.byte : Int))) ∧ ∀ j, w.frozen? ⟨g, j, none⟩ = false := by
  subst hn
  refine ⟨⟨ws[i], ?_⟩, fun j => World.ownsRow.frozenAt h j⟩
  obtain ⟨e0, e1, e2⟩ := writesV_get ws i ws[i] (List.getElem?_eq_getElem hi)
  exact ⟨(World.ownsRow.cellAt h _ (by omega)).trans e0, (World.ownsRow.cellAt h _ (by omega)).trans e1, (World.ownsRow.cellAt h _ (by omega)).trans e2⟩

theorem ownW_cases {base : Nat} {v : Value} {xs : List Wr} {w : World} (h : OwnW base v xs w) : (v = .slice none 0 0 ∧ xs = []) ∨ ∃ g cap, v = .slice (some ⟨g, 0, none⟩) xs.length cap ∧ base ≤ g ∧ g < w.heap.size := by
  rcases h.2 with ⟨rfl, h0⟩ | ⟨g, cap, cur, rfl, hb, hg, -⟩
  · exact Or.inl ⟨rfl, List.eq_nil_of_length_eq_zero h0⟩
  · exact Or.inr ⟨g, cap, rfl, hb, (Array.getElem?_eq_some_iff.1 hg).1⟩
theorem ownW_nil (base : Nat) (w : World) : OwnW base (.slice none 0 0) [] w := World.ownsRow_nil w base 35 3

theorem markW_of (k i : Nat) (h : k + 3 * i ≤ 1000000000000) : ∃ z y : Nat, z = k + 3 * i ∧ y = (z + 2) % 256 ∧ IntKind.u8.wrap ((z : Int) + 1 + 1) = (y : Int) ∧ ((z : Int) + 1 + 1) % 256 = (y : Int) ∧ (z : Int) + 1 + 1 < 9223372036854775807 :=
  ⟨k + 3 * i, (k + 3 * i + 2) % 256, rfl, rfl, by show (((k + 3 * i : Nat) : Int) + 1 + 1) % 256 = _; omega, by omega, by omega⟩

end Go.Proofs.Ytdhoimjkgicneac
