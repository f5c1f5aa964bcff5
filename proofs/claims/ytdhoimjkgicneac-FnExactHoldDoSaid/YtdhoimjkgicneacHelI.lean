/- The laws' marks over writes. -/
import Derived.Test.YtdhoimjkgicneacHelH
namespace Go.Proofs.Ytdhoimjkgicneac
open Go Go.RowKit

set_option maxRecDepth 100000 in
set_option maxHeartbeats 1600000 in
theorem mark_writes (base : Nat) (v : Value) (ws : List Wr) (k : Nat) (w : World) (h : OwnW base v ws w) (hx : ws.length ≤ 100000000) (hk : k ≤ 100000000000) :
    Calls Try.prog 24 #[v, .int .i64 k] w fun e w' => e = .returned (.int .i64 ((k + 3 * ws.length : Nat) : Int)) ∧ OwnW base v (marksW k ws.length) w' ∧ Touch (fun b => v.ownBlock = some b) w w' := by
  rcases ownW_cases h with ⟨rfl, rfl⟩ | ⟨g, cap, rfl, hg, hg2⟩
  · clear h
    go_enter Try.func24, Try.ntmps24
    go_wp2_with fail
    go_loopw [1, 5] (fun kv iv wr => iv = .int .i64 0 ∧ kv = .int .i64 k ∧ wr = w) (fun _ _ _ => 0)
    case atStart => exact ⟨rfl, rfl, rfl⟩
    case round =>
      obtain ⟨rfl, rfl, rfl⟩ := hrel
      go_wp2_with fail
      go_ret
      exact ⟨rfl, ownW_nil _ _, Touch.refl _ _⟩
  · obtain ⟨n, hn⟩ : ∃ n, n = ws.length := ⟨_, rfl⟩
    have HO : Hid (OwnW base (.slice (some ⟨g, 0, none⟩) n cap) ws w) := by rw [hn]; exact h
    have HL : Hid (n = ws.length) := hn
    have HP : Hid ((fun b => (Value.slice (some ⟨g, 0, none⟩) n cap).ownBlock = some b) g) := rfl
    clear h
    rw [← hn] at hx ⊢
    clear hn
    obtain ⟨p, hp⟩ : ∃ p, p = (fun b => (Value.slice (some ⟨g, 0, none⟩) n cap).ownBlock = some b) := ⟨_, rfl⟩
    rw [← hp] at HP ⊢
    clear hp
    go_enter Try.func24, Try.ntmps24
    go_wp2_with fail
    go_loopw [1, 5] (fun kv iv wr => ∃ i : Nat, i ≤ n ∧ iv = .int .i64 i ∧ kv = .int .i64 ((k + 3 * i : Nat) : Int) ∧ OwnW base (.slice (some ⟨g, 0, none⟩) n cap) (marksW k i ++ ws.drop i) wr ∧ Touch p w wr) (fun _ iv _ => n - (intOf iv).toNat)
    case atStart => exact ⟨0, by omega, rfl, rfl, by simpa [marksW] using HO.out, Touch.refl _ _⟩
    case round =>
      clear HO
      obtain ⟨i, hi, rfl, rfl, hO, hB⟩ := hrel
      have hl : n = (marksW k i ++ ws.drop i).length := by have := HL.out; simp [marksW_len]; omega
      obtain ⟨z, y, hz, hy, y1, y2, y3⟩ := markW_of k i (by omega)
      have HZ : Hid (k + 3 * i = z) := hz.symm
      rw [← hz]
      by_cases hin : i < n
      · have hin' : (0 : Int) ≤ (i : Int) ∧ (i : Int) < (n : Int) := by omega
        obtain ⟨⟨x0, c0, c1, c2⟩, ff⟩ := hO.cellAt hl (i := i) (by omega)
        have f0 := ff (i * 3)
        have f1 := ff (i * 3 + 1)
        have f2 := ff (i * 3 + 2)
        have HN : Hid (OwnW base (.slice (some ⟨g, 0, none⟩) n cap) (marksW k (i + 1) ++ ws.drop (i + 1)) (((wr.setCell ⟨g, i * 3, none⟩ (.int .i64 (z : Int))).setCell ⟨g, i * 3 + 1, none⟩ (.int .i64 ((z : Int) + 1))).setCell ⟨g, i * 3 + 2, none⟩ (.int .u8 (y : Int))) ∧ Touch p w (((wr.setCell ⟨g, i * 3, none⟩ (.int .i64 (z : Int))).setCell ⟨g, i * 3 + 1, none⟩ (.int .i64 ((z : Int) + 1))).setCell ⟨g, i * 3 + 2, none⟩ (.int .u8 (y : Int)))) := by
          refine ⟨?_, ((hB.setCell HP.out _).setCell HP.out _).setCell HP.out _⟩
          rw [← marksW_set k i ws (by have := HL.out; omega), ← hz]
          have := hO.put hl i (markW z)
          rw [hy]
          exact this
        clear hO hB hl hz hy ff
        go_wp2_with fail
        go_roundw
        case rel =>
          refine ⟨i + 1, by omega, by go_num, ?_, HN.out.1, HN.out.2⟩
          have := HZ.out
          rw [show ((k + 3 * (i + 1) : Nat) : Int) = (z : Int) + 1 + 1 + 1 by omega]
        case measure => simp [intOf]; omega
      · obtain rfl : i = n := by omega
        have HN : Hid (OwnW base (.slice (some ⟨g, 0, none⟩) i cap) (marksW k i) wr ∧ Touch p w wr) := by
          refine ⟨?_, hB⟩
          rwa [List.drop_of_length_le (by have := HL.out; omega), List.append_nil] at hO
        clear hO hB hl hz hy
        go_wp2_with fail
        go_ret
        exact ⟨by rw [HZ.out]; rfl, HN.out.1, HN.out.2⟩

set_option maxRecDepth 100000 in
set_option maxHeartbeats 1600000 in
theorem held_writes (v : Value) (n k : Nat) (w : World) (h : WritesAt v (marksW k n) w) (hx : n ≤ 100000000) (hk : k ≤ 100000000000) :
    Calls Try.prog 35 #[v, .int .i64 k] w fun e w' => e = .returned (.int .i64 ((k + 3 * n : Nat) : Int)) ∧ w' = w := by
  obtain ⟨aa, ca, rfl⟩ := WritesIn.len h
  have HA : Hid (WritesIn w.heap.size (.slice aa n ca) (marksW k n) w) := by rw [marksW_len] at h; exact h
  rw [marksW_len]
  clear h
  go_enter Try.func35, Try.ntmps35
  go_wp2_with fail
  go_loopw [1, 5] (fun kv iv wr => ∃ i : Nat, i ≤ n ∧ iv = .int .i64 i ∧ kv = .int .i64 ((k + 3 * i : Nat) : Int) ∧ wr = w) (fun _ iv _ => n - (intOf iv).toNat)
  case atStart => exact ⟨0, by omega, rfl, rfl, rfl⟩
  case round =>
    obtain ⟨i, hi, rfl, rfl, rfl⟩ := hrel
    obtain ⟨z, y, hz, hy, y1, y2, y3⟩ := markW_of k i (by omega)
    have HZ : Hid (k + 3 * i = z) := hz.symm
    rw [← hz]
    by_cases hin : i < n
    · have hin' : (0 : Int) ≤ (i : Int) ∧ (i : Int) < (n : Int) := by omega
      obtain ⟨b, off, rfl, -, c0, c1, c2⟩ := HA.out.one (i := i) (by rw [marksW_len]; exact hin)
      have e : (marksW k n)[i]'(by rw [marksW_len]; exact hin) = markW z := by simp [marksW, hz]
      rw [e] at c0 c1 c2
      have e1 : (markW z).slot = (z : Int) + 1 := by simp [markW]
      have e2 : ((markW z).byte : Int) = (y : Int) := by rw [hy]; rfl
      rw [e1] at c1
      rw [e2] at c2
      simp only [markW] at c0
      clear e e1 e2 hz hy
      go_wp2_with fail
      go_roundw
      case rel =>
        refine ⟨i + 1, by omega, by go_num, ?_, trivial⟩
        have := HZ.out
        rw [show ((k + 3 * (i + 1) : Nat) : Int) = (z : Int) + 1 + 1 + 1 by omega]
      case measure => simp [intOf]; omega
    · obtain rfl : i = n := by omega
      clear hz hy
      go_wp2_with fail
      go_ret
      exact ⟨by rw [HZ.out]; rfl, rfl⟩

/-- Writes owned by blocks of an interval. -/
def OwnWI (lo hi : Nat) (v : Value) (xs : List Wr) (w : World) : Prop := OwnW lo v xs w ∧ ∀ g, v.ownBlock = some g → g < hi
theorem OwnWI.of {lo : Nat} {v : Value} {xs : List Wr} {w : World} (h : OwnW lo v xs w) : OwnWI lo w.heap.size v xs w := ⟨h, fun _ hg => (h.lt hg).2⟩
theorem OwnWI.at {lo hi : Nat} {v : Value} {xs : List Wr} {w : World} (h : OwnWI lo hi v xs w) : WritesAt v xs w := h.1.at
theorem OwnWI.below {lo hi B : Nat} {v : Value} {xs : List Wr} {w w' : World} (h : OwnWI lo hi v xs w) (hb : Below B w w') (hB : hi ≤ B) : OwnWI lo hi v xs w' :=
  ⟨h.1.kept fun g hg => hb.block g (Nat.lt_of_lt_of_le (h.2 g hg) hB), h.2⟩
theorem OwnWI.far {lo hi l h : Nat} {v : Value} {xs : List Wr} {w w' : World} (o : OwnWI lo hi v xs w) (ht : Touch (within l h) w w') (hp : hi ≤ l ∨ h ≤ lo) : OwnWI lo hi v xs w' :=
  ⟨o.1.kept fun g hg => ht.block g (o.1.lt hg).2 fun h3 => by have := (o.1.lt hg).1; have := o.2 g hg; obtain ⟨h4, h5⟩ := h3; omega, o.2⟩
theorem mark_writesI (lo hi : Nat) (v : Value) (ws : List Wr) (k : Nat) (w : World) (h : OwnWI lo hi v ws w) (hx : ws.length ≤ 100000000) (hk : k ≤ 100000000000) :
    Calls Try.prog 24 #[v, .int .i64 k] w fun e w' => e = .returned (.int .i64 ((k + 3 * ws.length : Nat) : Int)) ∧ OwnWI lo hi v (marksW k ws.length) w' ∧ Touch (within lo hi) w w' :=
  (mark_writes lo v ws k w h.1 hx hk).mono fun _ _ ⟨h1, h2, h3⟩ => ⟨h1, ⟨h2, h.2⟩, h3.mono fun g _ hg => ⟨(h.1.lt hg).1, h.2 g hg⟩⟩

end Go.Proofs.Ytdhoimjkgicneac
