/- The laws' helpers over bytes: compared, marked, held against the marks. -/
import Derived.Test.YtdhoimjkgicneacHelA0
import Derived.Test.YtdhoimjkgicneacRegK
import Derived.Deep.RegionHeld
import Derived.StillTailTactics
import Derived.Deep.Cut
namespace Go.Proofs.Ytdhoimjkgicneac
open Go Go.RowKit

set_option maxRecDepth 100000 in
set_option maxHeartbeats 800000 in
theorem eq_bytes (a b : Value) (xs ys : List Nat) (w : World) (ha : BytesAt a xs w) (hb : BytesAt b ys w) (hx : xs.length ≤ 100000000) :
    Calls Try.prog 29 #[a, b] w fun e w' => ∃ q : Bool, e = .returned (.bool q) ∧ (q = true ↔ xs = ys) ∧ Below w.heap.size w w' := by
  obtain ⟨aa, ca, rfl⟩ := ha.len
  obtain ⟨ab, cb, rfl⟩ := hb.len
  by_cases hl : xs.length = ys.length
  · have HA : Hid (BytesAt (.slice aa xs.length ca) xs w ∧ BytesAt (.slice ab ys.length cb) ys w) := ⟨ha, hb⟩
    obtain ⟨n, hn⟩ : ∃ n, n = xs.length := ⟨_, rfl⟩
    rw [← hl, ← hn] at HA ⊢
    have HL : Hid (n = xs.length ∧ n = ys.length) := ⟨hn, hn.trans hl⟩
    rw [← hn] at hx
    clear ha hb hl hn
    go_enter Try.func29, Try.ntmps29
    go_wp2_with fail
    go_loopw [5] (fun iv wr => ∃ i : Nat, i ≤ n ∧ iv = .int .i64 i ∧ xs.take i = ys.take i ∧ Below w.heap.size w wr) (fun iv _ => n - (intOf iv).toNat)
    case atStart => exact ⟨0, by omega, rfl, by simp, Below.refl _ _⟩
    case round =>
      obtain ⟨i, hi, rfl, he, hB⟩ := hrel
      have HB : Hid (xs.take i = ys.take i ∧ Below w.heap.size w wr) := ⟨he, hB⟩
      clear he hB
      by_cases hin : i < n
      · have hin' : (i : Int) < (n : Int) := by omega
        obtain ⟨ba, oa, rfl, za, c0⟩ := (HA.out.1.below HB.out.2 (Nat.le_refl _)).cellAt (i := i) (by rw [← HL.out.1]; exact hin)
        obtain ⟨bb, ob, rfl, zb, c1⟩ := (HA.out.2.below HB.out.2 (Nat.le_refl _)).cellAt (i := i) (by rw [← HL.out.2]; exact hin)
        obtain ⟨x, hx0⟩ : ∃ x, x = xs[i]'(by rw [← HL.out.1]; exact hin) := ⟨_, rfl⟩
        obtain ⟨y, hy0⟩ : ∃ y, y = ys[i]'(by rw [← HL.out.2]; exact hin) := ⟨_, rfl⟩
        have HX : Hid (xs[i]? = some x ∧ ys[i]? = some y) := ⟨by rw [hx0]; exact List.getElem?_eq_getElem _, by rw [hy0]; exact List.getElem?_eq_getElem _⟩
        rw [← hx0] at c0
        rw [← hy0] at c1
        clear hx0 hy0
        by_cases hxy : x = y
        · subst hxy
          have HT : Hid (xs.take (i + 1) = ys.take (i + 1)) := by
            show _ = _
            rw [List.take_add_one, List.take_add_one, HB.out.1, HX.out.1, HX.out.2]
          go_wp2_with fail
          refine wp_region_still_tail 8 (by kernel_rfl) (by kernel_rfl) ?_
          simp only [List.take_succ_cons, List.take_zero, List.drop_succ_cons, List.drop_zero]
          repeat still_step
          refine wpStill_nil ?_
          change wpList _ _ _ _ _ (World.drew _)
          go_wp2_with fail
          go_roundw
          case rel => exact ⟨i + 1, by omega, by go_num, HT.out, HB.out.2.drew⟩
          case measure => simp [intOf]; omega
        · have hne : ((x : Int) == (y : Int)) = false := by simpa using fun e : (x : Int) = (y : Int) => hxy (by omega)
          have hne' : ¬ (x : Int) = (y : Int) := by omega
          go_wp2_with fail
          refine wp_region_still_tail 8 (by kernel_rfl) (by kernel_rfl) ?_
          simp only [List.take_succ_cons, List.take_zero, List.drop_succ_cons, List.drop_zero]
          repeat still_step
          refine wpStill_nil ?_
          change wpList _ _ _ _ _ (World.drew _)
          go_wp2_with fail
          go_ret
          refine ⟨false, rfl, by simp; intro e; apply hxy; have h1 := HX.out.1; have h2 := HX.out.2; rw [e, h2] at h1; exact (Option.some.inj h1).symm, HB.out.2.drew⟩
      · obtain rfl : i = n := by omega
        have e1 : xs = ys := by
          have := HB.out.1
          rwa [List.take_of_length_le (by rw [← HL.out.1]; exact Nat.le_refl _), List.take_of_length_le (by rw [← HL.out.2]; exact Nat.le_refl _)] at this
        have HE : Hid (xs = ys) := e1
        clear e1
        go_wp2_with fail
        go_ret
        exact ⟨true, rfl, by simp; exact HE.out, HB.out.2⟩
  · have hl' : ¬ (xs.length : Int) = (ys.length : Int) := by omega
    have hl2 : ((xs.length : Int) == (ys.length : Int)) = false := by simpa using hl'
    clear ha hb
    go_enter Try.func29, Try.ntmps29
    go_wp2_with fail
    go_ret
    exact ⟨false, rfl, by simp; intro e; exact hl (by rw [e]), Below.refl _ _⟩

/-- Marks. -/
def marks (k n : Nat) : List Nat := (List.range n).map fun i => (k + i) % 256
theorem marks_len (k n : Nat) : (marks k n).length = n := by simp [marks]
theorem marks_set (k i : Nat) (xs : List Nat) (h : i < xs.length) : (marks k i ++ xs.drop i).set i ((k + i) % 256) = marks k (i + 1) ++ xs.drop (i + 1) := by
  rw [List.set_append_right _ _ (by rw [marks_len]; omega), marks_len, Nat.sub_self, List.drop_eq_getElem_cons h, List.set_cons_zero]
  simp [marks, List.range_succ]

theorem mark_of (k i : Nat) (h : k + i ≤ 1000000000000) : ∃ z y : Nat, z = k + i ∧ y = (k + i) % 256 ∧ IntKind.u8.wrap (z : Int) = (y : Int) ∧ (z : Int) % 256 = (y : Int) ∧ (z : Int) < 9223372036854775807 :=
  ⟨k + i, (k + i) % 256, rfl, rfl, by show ((k + i : Nat) : Int) % 256 = _; omega, by omega, by omega⟩

set_option maxRecDepth 100000 in
set_option maxHeartbeats 800000 in
theorem mark_bytes (base : Nat) (v : Value) (xs : List Nat) (k : Nat) (w : World) (h : Own base v xs w) (hx : xs.length ≤ 100000000) (hk : k ≤ 100000000000) :
    Calls Try.prog 30 #[v, .int .i64 k] w fun e w' => e = .returned (.int .i64 ((k + xs.length : Nat) : Int)) ∧ Own base v (marks k xs.length) w' ∧ Below base w w' := by
  rcases own_cases h with ⟨rfl, rfl⟩ | ⟨g, cap, rfl, hg, hg2⟩
  · clear h
    go_enter Try.func30, Try.ntmps30
    go_wp2_with fail
    go_loopw [1, 5] (fun kv iv wr => iv = .int .i64 0 ∧ kv = .int .i64 k ∧ wr = w) (fun _ _ _ => 0)
    case atStart => exact ⟨rfl, rfl, rfl⟩
    case round =>
      obtain ⟨rfl, rfl, rfl⟩ := hrel
      go_wp2_with fail
      go_ret
      exact ⟨rfl, own_nil _ _, Below.refl _ _⟩
  · obtain ⟨n, hn⟩ : ∃ n, n = xs.length := ⟨_, rfl⟩
    have HO : Hid (Own base (.slice (some ⟨g, 0, none⟩) n cap) xs w) := by rw [hn]; exact h
    have HL : Hid (n = xs.length) := hn
    clear h
    rw [← hn] at hx ⊢
    clear hn
    go_enter Try.func30, Try.ntmps30
    go_wp2_with fail
    go_loopw [1, 5] (fun kv iv wr => ∃ i : Nat, i ≤ n ∧ iv = .int .i64 i ∧ kv = .int .i64 ((k + i : Nat) : Int) ∧ Own base (.slice (some ⟨g, 0, none⟩) n cap) (marks k i ++ xs.drop i) wr ∧ Below base w wr) (fun _ iv _ => n - (intOf iv).toNat)
    case atStart => exact ⟨0, by omega, rfl, rfl, by simpa [marks] using HO.out, Below.refl _ _⟩
    case round =>
      clear HO
      obtain ⟨i, hi, rfl, rfl, hO, hB⟩ := hrel
      have hl : n = (marks k i ++ xs.drop i).length := by have := HL.out; simp [marks_len]; omega
      obtain ⟨z, y, hz, hy, y1, y2, y3⟩ := mark_of k i (by omega)
      have HZ : Hid (k + i = z) := hz.symm
      rw [← hz]
      by_cases hin : i < n
      · have hin' : (i : Int) < (n : Int) := by omega
        obtain ⟨x0, c0, f0⟩ : ∃ x0 : Nat, wr.cell? ⟨g, i, none⟩ = some (.int .u8 (x0 : Int)) ∧ wr.frozen? ⟨g, i, none⟩ = false := ⟨_, hO.cellAt hl (i := i) (by omega)⟩
        have HN : Hid (Own base (.slice (some ⟨g, 0, none⟩) n cap) (marks k (i + 1) ++ xs.drop (i + 1)) (wr.setCell ⟨g, i, none⟩ (.int .u8 (y : Int))) ∧ Below base w (wr.setCell ⟨g, i, none⟩ (.int .u8 (y : Int)))) := by
          refine ⟨?_, hB.setCell hg _⟩
          rw [← marks_set k i xs (by have := HL.out; omega), ← hy]
          exact hO.put hl i y
        clear hO hB hl hz hy
        go_wp2_with fail
        go_roundw
        case rel =>
          refine ⟨i + 1, by omega, by go_num, ?_, HN.out.1, HN.out.2⟩
          have := HZ.out
          rw [show ((k + (i + 1) : Nat) : Int) = (z : Int) + 1 by omega]
        case measure => simp [intOf]; omega
      · obtain rfl : i = n := by omega
        have HN : Hid (Own base (.slice (some ⟨g, 0, none⟩) i cap) (marks k i) wr ∧ Below base w wr) := by
          refine ⟨?_, hB⟩
          rwa [List.drop_of_length_le (by have := HL.out; omega), List.append_nil] at hO
        clear hO hB hl hz hy
        go_wp2_with fail
        go_ret
        exact ⟨by rw [HZ.out]; rfl, HN.out.1, HN.out.2⟩

set_option maxRecDepth 100000 in
set_option maxHeartbeats 800000 in
theorem held_bytes (v : Value) (n k : Nat) (w : World) (h : BytesAt v (marks k n) w) (hx : n ≤ 100000000) (hk : k ≤ 100000000000) :
    Calls Try.prog 31 #[v, .int .i64 k] w fun e w' => e = .returned (.int .i64 ((k + n : Nat) : Int)) ∧ w' = w := by
  obtain ⟨aa, ca, rfl⟩ := h.len
  have HA : Hid (BytesAt (.slice aa n ca) (marks k n) w) := by rw [marks_len] at h; exact h
  rw [marks_len]
  clear h
  go_enter Try.func31, Try.ntmps31
  go_wp2_with fail
  go_loopw [1, 5] (fun kv iv wr => ∃ i : Nat, i ≤ n ∧ iv = .int .i64 i ∧ kv = .int .i64 ((k + i : Nat) : Int) ∧ wr = w) (fun _ iv _ => n - (intOf iv).toNat)
  case atStart => exact ⟨0, by omega, rfl, rfl, rfl⟩
  case round =>
    obtain ⟨i, hi, rfl, rfl, rfl⟩ := hrel
    obtain ⟨z, y, hz, hy, y1, y2, y3⟩ := mark_of k i (by omega)
    have HZ : Hid (k + i = z) := hz.symm
    rw [← hz]
    by_cases hin : i < n
    · have hin' : (i : Int) < (n : Int) := by omega
      obtain ⟨b, off, rfl, -, c0⟩ := HA.out.cellAt (i := i) (by rw [marks_len]; exact hin)
      have e : (marks k n)[i]'(by rw [marks_len]; exact hin) = y := by simp [marks, hy]
      rw [e] at c0
      clear e hz hy
      go_wp2_with fail
      go_roundw
      case rel =>
        refine ⟨i + 1, by omega, by go_num, ?_, trivial⟩
        have := HZ.out
        rw [show ((k + (i + 1) : Nat) : Int) = (z : Int) + 1 by omega]
      case measure => simp [intOf]; omega
    · obtain rfl : i = n := by omega
      clear hz hy
      go_wp2_with fail
      go_ret
      exact ⟨by rw [HZ.out]; rfl, rfl⟩

end Go.Proofs.Ytdhoimjkgicneac
