/- Which slot counts, and what a store keeps: of the program and of the specification. -/
import Derived.Test.YtdhoimjkgicneacHolB
namespace Go.Proofs.Ytdhoimjkgicneac
open Go Go.RowKit

/-- A slot as a value. -/
def slV (s : Sl) (d : Value) : Value := .agg #[.int .u8 (s.mark : Int), .int .u8 (s.turn : Int), d]

set_option maxHeartbeats 800000 in
theorem copy_spec (d : Value) (xs : List Nat) (w : World) (hd : BytesAt d xs w) (hl : xs.length ≤ 8000000) :
    Calls Try.prog 58 #[d] w fun e w' => ∃ d', e = .returned d' ∧ Own w.heap.size d' xs w' ∧ Below w.heap.size w w' := by
  obtain ⟨ao, cap, rfl⟩ := hd.len
  go_enter Try.func58, Try.ntmps58
  go_wp2_with (at_builtin; refine list_app (ys := xs) (xs := []) (w.heap.size) rfl _ _ rfl rfl rfl ?c0 ?c1 ?c2 ?c3 ?c4)
  case c0 => exact World.ownsRow_made w #[] 0 (Nat.le_refl _) (by decide) rfl
  case c1 => exact hd.below ((Below.refl w.heap.size w).alloc (Nat.le_refl _) _) (Nat.le_refl _)
  case c2 => simpa using hl
  case c3 => simp
  intro d' w1 ho hg ha
  have H : Hid (Own w.heap.size d' xs w1 ∧ Below w.heap.size w w1) := by
    refine ⟨ho, ((Below.refl w.heap.size w).alloc (Nat.le_refl _) _).trans (grown_below hg (by simp) ?_)⟩
    intro g hg
    simp [Value.ownBlock] at hg
    omega
  obtain ⟨ao', cap', rfl⟩ := own_size ho
  clear ho hg ha hd
  go_wp2_with fail
  go_ret
  exact ⟨_, rfl, H.out.1, H.out.2⟩

set_option maxHeartbeats 800000 in
theorem good_impl (s : Sl) (a : Option Addr) (cap : Nat) (w : World) (hl : s.data.length ≤ 8000000) :
    Calls Try.prog 56 #[slV s (.slice a s.data.length cap)] w fun e w' => e = .returned (.bool s.good) ∧ Below w.heap.size w w' := by
  obtain ⟨m, t, d⟩ := s
  simp only [slV, Sl.good] at hl ⊢
  by_cases h1 : m = 165
  · by_cases h2 : t ≤ 2
    · have h3 : (t : Int) < 3 := by omega
      by_cases h4 : d.length ≤ 20100
      · have h5 : (d.length : Int) ≤ 20100 := by omega
        subst h1
        go_enter Try.func56, Try.ntmps56
        go_wp2
        go_ret
        exact ⟨by simp [h2, h4], (Below.refl _ _).alloc (Nat.le_refl _) _⟩
      · have h5 : ¬ (d.length : Int) ≤ 20100 := by omega
        subst h1
        go_enter Try.func56, Try.ntmps56
        go_wp2
        go_ret
        exact ⟨by simp, (Below.refl _ _).alloc (Nat.le_refl _) _⟩
    · have h3 : ¬ (t : Int) < 3 := by omega
      subst h1
      go_enter Try.func56, Try.ntmps56
      go_wp2
      go_ret
      exact ⟨by simp, (Below.refl _ _).alloc (Nat.le_refl _) _⟩
  · have h2 : ((m : Int) == 165) = false := by simp; omega
    go_enter Try.func56, Try.ntmps56
    go_wp2
    go_ret
    exact ⟨by simp [h1], (Below.refl _ _).alloc (Nat.le_refl _) _⟩

set_option maxHeartbeats 800000 in
theorem good_spec (s : Sl) (a : Option Addr) (cap : Nat) (w : World) (hl : s.data.length ≤ 8000000) :
    Calls Try.prog 55 #[slV s (.slice a s.data.length cap)] w fun e w' => e = .returned (.bool s.good) ∧ Below w.heap.size w w' := by
  obtain ⟨m, t, d⟩ := s
  simp only [slV, Sl.good] at hl ⊢
  by_cases h1 : m = 165
  · by_cases h2 : t ≤ 2
    · have h3 : (t : Int) ≤ 2 := by omega
      by_cases h4 : d.length ≤ 20100
      · have h5 : (d.length : Int) ≤ 20100 := by omega
        subst h1
        go_enter Try.func55, Try.ntmps55
        go_wp2
        go_ret
        exact ⟨by simp [h2, h4], (Below.refl _ _).alloc (Nat.le_refl _) _⟩
      · have h5 : ¬ (d.length : Int) ≤ 20100 := by omega
        subst h1
        go_enter Try.func55, Try.ntmps55
        go_wp2
        go_ret
        exact ⟨by simp, (Below.refl _ _).alloc (Nat.le_refl _) _⟩
    · have h3 : ¬ (t : Int) ≤ 2 := by omega
      subst h1
      go_enter Try.func55, Try.ntmps55
      go_wp2
      go_ret
      exact ⟨by simp, (Below.refl _ _).alloc (Nat.le_refl _) _⟩
  · have h2 : ((m : Int) == 165) = false := by simp; omega
    go_enter Try.func55, Try.ntmps55
    go_wp2
    go_ret
    exact ⟨by simp [h1], (Below.refl _ _).alloc (Nat.le_refl _) _⟩

set_option maxHeartbeats 800000 in
theorem next_any (t : Nat) (w : World) (ht : t ≤ 2) : Calls Try.prog 57 #[.int .u8 (t : Int)] w fun e w' => e = .returned (.int .u8 (((t + 1) % 3 : Nat) : Int)) ∧ w' = w := by
  go_enter Try.func57, Try.ntmps57
  go_wp2
  go_ret
  exact ⟨by simp, rfl⟩

end Go.Proofs.Ytdhoimjkgicneac
