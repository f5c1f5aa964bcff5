/- The laws' marks over bytes and over a store, with what they leave alone. -/
import Derived.Test.YtdhoimjkgicneacHelD
namespace Go.Proofs.Ytdhoimjkgicneac
open Go Go.RowKit

/-- Nothing of what was there has changed but the blocks of p. -/
structure Touch (p : Nat → Prop) (w w' : World) : Prop where
  os : w'.os = w.os
  tape : w'.tape = w.tape
  output : w'.output = w.output
  size : w.heap.size ≤ w'.heap.size
  block : ∀ k, k < w.heap.size → ¬ p k → w'.heap[k]? = w.heap[k]?

theorem Touch.refl (p : Nat → Prop) (w : World) : Touch p w w := ⟨rfl, rfl, rfl, Nat.le_refl _, fun _ _ _ => rfl⟩
theorem Touch.trans {p : Nat → Prop} {a b c : World} (h : Touch p a b) (k : Touch p b c) : Touch p a c :=
  ⟨k.os.trans h.os, k.tape.trans h.tape, k.output.trans h.output, Nat.le_trans h.size k.size, fun i hi hp => (k.block i (Nat.lt_of_lt_of_le hi h.size) hp).trans (h.block i hi hp)⟩
theorem Touch.mono {p q : Nat → Prop} {a b : World} (h : Touch p a b) (hq : ∀ k, k < a.heap.size → p k → q k) : Touch q a b :=
  ⟨h.os, h.tape, h.output, h.size, fun i hi hp => h.block i hi fun e => hp (hq i hi e)⟩
theorem Touch.of_below {p : Nat → Prop} {w w' : World} (h : Below w.heap.size w w') : Touch p w w' := ⟨h.os, h.tape, h.output, h.size, fun k hk _ => h.block k hk⟩
theorem Touch.below {p : Nat → Prop} {w w' : World} {B : Nat} (h : Touch p w w') (hB : B ≤ w.heap.size) (hp : ∀ k, k < B → ¬ p k) : Below B w w' := ⟨h.os, h.tape, h.output, h.size, fun k hk => h.block k (by omega) (hp k hk)⟩
theorem Touch.setCell {p : Nat → Prop} {w w' : World} (h : Touch p w w') {a : Addr} (ha : p a.block) (v : Value) : Touch p w (w'.setCell a v) :=
  ⟨h.os, h.tape, h.output, by simpa using h.size, fun k hk hp => (Below.heap_setCell w' a v k (fun e => hp (e ▸ ha))).trans (h.block k hk hp)⟩
theorem Own.touch {p : Nat → Prop} {base : Nat} {v : Value} {xs : List Nat} {w w' : World} (h : Own base v xs w) (ht : Touch p w w') (hp : ∀ g, base ≤ g → g < w.heap.size → v.ownBlock = some g → ¬ p g) : Own base v xs w' :=
  h.kept fun g hg => ht.block g (World.ownsRow.lt h g hg).2 (hp g (World.ownsRow.lt h g hg).1 (World.ownsRow.lt h g hg).2 hg)
theorem Touch.cell {p : Nat → Prop} {w w' : World} (h : Touch p w w') {a : Addr} (ha : a.block < w.heap.size) (hp : ¬ p a.block) : w'.cell? a = w.cell? a := World.cell?_of_block (h.block a.block ha hp)

set_option maxRecDepth 100000 in
set_option maxHeartbeats 800000 in
theorem mark_bytesT (base : Nat) (v : Value) (xs : List Nat) (k : Nat) (w : World) (h : Own base v xs w) (hx : xs.length ≤ 100000000) (hk : k ≤ 100000000000) :
    Calls Try.prog 30 #[v, .int .i64 k] w fun e w' => e = .returned (.int .i64 ((k + xs.length : Nat) : Int)) ∧ Own base v (marks k xs.length) w' ∧ Touch (fun b => v.ownBlock = some b) w w' := by
  rcases own_cases h with ⟨rfl, rfl⟩ | ⟨g, cap, rfl, hg, hg2⟩
  · clear h
    go_enter Try.func30, Try.ntmps30
    go_wp2_with fail
    go_loopw [1, 5] (fun kv iv wr => iv = .int .i64 0 ∧ kv = .int .i64 k ∧ wr = w) (fun _ _ _ => 0)
    case atStart => exact ⟨rfl, rfl, rfl⟩
    case round =>
      obtain ⟨rfl, rfl, rfl⟩ := hrel
      go_wp2_with fail
      go_ret
      exact ⟨rfl, own_nil _ _, Touch.refl _ _⟩
  · obtain ⟨n, hn⟩ : ∃ n, n = xs.length := ⟨_, rfl⟩
    have HO : Hid (Own base (.slice (some ⟨g, 0, none⟩) n cap) xs w) := by rw [hn]; exact h
    have HL : Hid (n = xs.length) := hn
    have HP : Hid ((fun b => (Value.slice (some ⟨g, 0, none⟩) n cap).ownBlock = some b) g) := rfl
    clear h
    rw [← hn] at hx ⊢
    clear hn
    obtain ⟨p, hp⟩ : ∃ p, p = (fun b => (Value.slice (some ⟨g, 0, none⟩) n cap).ownBlock = some b) := ⟨_, rfl⟩
    rw [← hp] at HP ⊢
    clear hp
    go_enter Try.func30, Try.ntmps30
    go_wp2_with fail
    go_loopw [1, 5] (fun kv iv wr => ∃ i : Nat, i ≤ n ∧ iv = .int .i64 i ∧ kv = .int .i64 ((k + i : Nat) : Int) ∧ Own base (.slice (some ⟨g, 0, none⟩) n cap) (marks k i ++ xs.drop i) wr ∧ Touch p w wr) (fun _ iv _ => n - (intOf iv).toNat)
    case atStart => exact ⟨0, by omega, rfl, rfl, by simpa [marks] using HO.out, Touch.refl _ _⟩
    case round =>
      clear HO
      obtain ⟨i, hi, rfl, rfl, hO, hB⟩ := hrel
      have hl : n = (marks k i ++ xs.drop i).length := by have := HL.out; simp [marks_len]; omega
      obtain ⟨z, y, hz, hy, y1, y2, y3⟩ := mark_of k i (by omega)
      have HZ : Hid (k + i = z) := hz.symm
      rw [← hz]
      by_cases hin : i < n
      · have hin' : (i : Int) < (n : Int) := by omega
        obtain ⟨x0, c0, f0⟩ : ∃ x0 : Nat, wr.cell? ⟨g, i, none⟩ = some (.int .u8 (x0 : Int)) ∧ wr.frozen? ⟨g, i, none⟩ = false := ⟨_, hO.cellAt hl (i := i) (by omega)⟩
        have HN : Hid (Own base (.slice (some ⟨g, 0, none⟩) n cap) (marks k (i + 1) ++ xs.drop (i + 1)) (wr.setCell ⟨g, i, none⟩ (.int .u8 (y : Int))) ∧ Touch p w (wr.setCell ⟨g, i, none⟩ (.int .u8 (y : Int)))) := by
          refine ⟨?_, hB.setCell HP.out _⟩
          rw [← marks_set k i xs (by have := HL.out; omega), ← hy]
          exact hO.put hl i y
        clear hO hB hl hz hy
        go_wp2_with fail
        go_roundw
        case rel =>
          refine ⟨i + 1, by omega, by go_num, ?_, HN.out.1, HN.out.2⟩
          have := HZ.out
          rw [show ((k + (i + 1) : Nat) : Int) = (z : Int) + 1 by omega]
        case measure => simp [intOf]; omega
      · obtain rfl : i = n := by omega
        have HN : Hid (Own base (.slice (some ⟨g, 0, none⟩) i cap) (marks k i) wr ∧ Touch p w wr) := by
          refine ⟨?_, hB⟩
          rwa [List.drop_of_length_le (by have := HL.out; omega), List.append_nil] at hO
        clear hO hB hl hz hy
        go_wp2_with fail
        go_ret
        exact ⟨by rw [HZ.out]; rfl, HN.out.1, HN.out.2⟩

end Go.Proofs.Ytdhoimjkgicneac
