/- At every list of bytes the program's KeptBack answers as the specification's: the law, walked. -/
import Derived.Test.YtdhoimjkgicneacKepM
import Derived.Test.YtdhoimjkgicneacHelB
import Derived.Test.YtdhoimjkgicneacEqM
namespace Go.Proofs.Ytdhoimjkgicneac
open Go Go.RowKit

attribute [local go_sem] zMemK

theorem same_selfB (v : MemV) : SameM v v := ⟨rfl, rfl, rfl, rfl, rfl, fun _ _ => rfl, fun _ _ => rfl, fun _ _ => rfl, fun _ _ => rfl, fun _ _ => rfl, fun _ _ => rfl, fun _ _ => same_refl _, rfl, rfl, rfl⟩

theorem fresh_putB (x : MemV) (w : World) : MemAt w.heap.size mem0 (w.alloc (.cells mem0.row 78)) ∧ MemAt w.heap.size x ((w.alloc (.cells mem0.row 78)).setCells w.heap.size 0 x.row.toList) ∧ Below w.heap.size w ((w.alloc (.cells mem0.row 78)).setCells w.heap.size 0 x.row.toList) := by
  have h := MemAt.alloc mem0 w 78
  exact ⟨h, h.stored x, setCells_below _ _ _ ((Below.refl _ _).alloc (Nat.le_refl _) _) (Nat.le_refl _)⟩

set_option maxHeartbeats 400000 in
theorem law_long (a0 : Option Addr) (l0 c0 : Nat) (w : World) (h : 1048576 < l0) (m0 : l0 ≤ 9223372036854775807) :
    Calls Try.prog 10 #[.slice a0 l0 c0] w fun e w' => e = .returned (.bool true) ∧ Below w.heap.size w w' := by
  go_enter Try.func10, Try.ntmps10
  go_wp2
  go_ret
  exact ⟨rfl, Below.refl _ _⟩

set_option maxRecDepth 100000 in
set_option maxHeartbeats 1600000 in
theorem law_short (a0 : Option Addr) (l0 c0 : Nat) (w : World) (h0 : l0 ≤ 1048576) (C0 : CodeAt (.slice a0 l0 c0) w) :
    Calls Try.prog 10 #[.slice a0 l0 c0] w fun e w' => e = .returned (.bool true) ∧ Below w.heap.size w w' := by
  obtain ⟨xs, A, hx⟩ := code_bytes C0
  have hxl : xs.length = l0 := by
    obtain ⟨a, cap, e, -⟩ := A
    simp only [Value.slice.injEq] at e
    omega
  obtain ⟨f, hfe⟩ : ∃ f : Nat → Nat, f = fun k => xs.getD k 0 := ⟨_, rfl⟩
  have hf : ∀ i x, xs[i]? = some x → f i = x := fun i x e => by rw [hfe]; simp [List.getD, e]
  have hfb : ∀ k, f k ≤ 255 := fun k => by
    rw [hfe]
    simp only [List.getD]
    cases e : xs[k]? with
    | none => simp
    | some x => exact hx x (List.mem_of_getElem? e)
  clear hfe
  obtain ⟨t, ht⟩ : ∃ t : Bool, t = true ↔ xs.length = 134 ∧ Flags f := by
    by_cases h : xs.length = 134 ∧ Flags f
    · exact ⟨true, by simp [h]⟩
    · exact ⟨false, by simp [h]⟩
  have S1 : ∀ v w, BytesAt v xs w → Calls Try.prog 42 #[v] w fun e w' => e = .returned (.tuple #[.agg (if t then (scanV f).row else mem0.row), .bool t]) ∧ Below w.heap.size w w' := fun v w h => spec_back v xs f w h hf hfb (by omega) t ht
  have S2 : ∀ v w, BytesAt v xs w → Calls Try.prog 43 #[v] w fun e w' => e = .returned (.tuple #[.agg (if t then (scanV f).row else mem0.row), .bool t]) ∧ Below w.heap.size w w' := fun v w h => impl_back v xs f w h hf hfb (by omega) t ht
  obtain ⟨r, hr⟩ : ∃ r : MemV, (if t then (scanV f).row else mem0.row) = r.row := by
    cases t
    · exact ⟨mem0, rfl⟩
    · exact ⟨scanV f, rfl⟩
  rw [hr] at S1 S2
  clear hr ht hf hfb hx C0
  have HA : Hid (ByteArg (.slice a0 l0 c0) xs w ∧ xs.length = l0) := ⟨A, hxl⟩
  clear A hxl
  go_enter Try.func10, Try.ntmps10
  go_wp2_with fail
  refine (to_bytes _ xs w HA.out.1 (by have := HA.out.2; omega)).mono ?_
  rintro e w1 ⟨o1, rfl, own1, b1⟩
  have H1 : Hid (Own w.heap.size o1 xs w1 ∧ Below w.heap.size w w1) := ⟨own1, b1⟩
  clear own1 b1
  go_wp2_with fail
  refine (S1 o1 w1 H1.out.1.at).mono ?_
  rintro e w2 ⟨rfl, b2⟩
  obtain ⟨m0, m1, b3⟩ := fresh_putB r w2
  have b13 := b2.trans (b3.mono b2.size)
  have H2 : Hid (MemAt w2.heap.size r _ ∧ Below w.heap.size w _) := ⟨m1, H1.out.2.trans (b13.mono H1.out.2.size)⟩
  have L1 := store_mem r m0
  generalize (w2.alloc (.cells mem0.row 78)).setCells w2.heap.size 0 r.row.toList = w3 at H2 L1
  clear m0 m1 b3 b13 b2 H1
  go_upto_region 4 with (refine list_store (t := 78) (x := .pointer (some ⟨w2.heap.size, 0, none⟩)) (u := .agg r.row) rfl rfl rfl rfl L1 ?_)
  try simp only [Act.put]
  clear L1
  generalize w2.heap.size = q2 at H2 ⊢
  go_wp2_with fail
  refine (to_bytes _ xs w3 (HA.out.1.below H2.out.2) (by have := HA.out.2; omega)).mono ?_
  rintro e w4 ⟨o4, rfl, own4, b4⟩
  have H4 : Hid (Own w3.heap.size o4 xs w4 ∧ MemAt q2 r w4 ∧ Below w.heap.size w w4) := ⟨own4, H2.out.1.below b4 H2.out.1.z, H2.out.2.trans (b4.mono H2.out.2.size)⟩
  have H4s : Hid (w3.heap.size ≤ w4.heap.size) := b4.size
  clear own4 b4 H2
  go_wp2_with fail
  refine (S2 o4 w4 H4.out.1.at).mono ?_
  rintro e w5 ⟨rfl, b5⟩
  obtain ⟨m0, m1, b6⟩ := fresh_putB r w5
  have b46 := b5.trans (b6.mono b5.size)
  have H5 : Hid (MemAt w5.heap.size r _ ∧ MemAt q2 r _ ∧ Own w3.heap.size o4 xs _ ∧ Below w.heap.size w _) := ⟨m1, H4.out.2.1.below b46 H4.out.2.1.z, H4.out.1.below b46 (Nat.le_refl _), H4.out.2.2.trans (b46.mono H4.out.2.2.size)⟩
  have L1 := store_mem r m0
  have L2 := load_mem H5.out.1
  have L3 := load_mem H5.out.2.1
  generalize (w5.alloc (.cells mem0.row 78)).setCells w5.heap.size 0 r.row.toList = w6 at H5 L1 L2 L3
  clear m0 m1 b6 b46 b5 H4
  go_upto_region 6 with (refine list_store (t := 78) (x := .pointer (some ⟨w5.heap.size, 0, none⟩)) (u := .agg r.row) rfl rfl rfl rfl L1 ?_)
  try simp only [Act.put]
  clear L1
  generalize w5.heap.size = q5 at H5 L2 ⊢
  go_wp2_with (first | refine list_load (t := 78) (x := .pointer (some ⟨q5, 0, none⟩)) (u := .agg r.row) rfl rfl rfl L2 ?_ | refine list_load (t := 78) (x := .pointer (some ⟨q2, 0, none⟩)) (u := .agg r.row) rfl rfl rfl L3 ?_)
  clear L2 L3
  refine (eq_mem w6 (same_selfB r)).mono ?_
  rintro e w7 ⟨rfl, b7⟩
  have H7 : Hid (Own w3.heap.size o4 xs w7 ∧ Below w.heap.size w w7) := ⟨H5.out.2.2.1.below b7 (Nat.le_refl _), H5.out.2.2.2.trans (b7.mono H5.out.2.2.2.size)⟩
  clear b7 H5
  cases t
  all_goals
    go_wp2_with fail
    refine (to_bytes _ xs w7 (HA.out.1.below H7.out.2) (by have := HA.out.2; omega)).mono ?_
    rintro e w8 ⟨o8, rfl, own8, b8⟩
    have H8 : Hid (Own w3.heap.size o4 xs w8 ∧ Own w7.heap.size o8 xs w8 ∧ Below w.heap.size w w8) := ⟨H7.out.1.below b8 (Nat.le_refl _), own8, H7.out.2.trans (b8.mono H7.out.2.size)⟩
    clear own8 b8 H7
    go_wp2_with fail
    refine (eq_bytes o4 o8 xs xs w8 H8.out.1.at H8.out.2.1.at (by have := HA.out.2; omega)).mono ?_
    rintro e w9 ⟨q, rfl, hq, b9⟩
    obtain rfl : q = true := hq.2 rfl
    have H9 : Hid (Below w.heap.size w w9) := H8.out.2.2.trans (b9.mono H8.out.2.2.size)
    clear b9 hq H8
    go_wp2_with fail
    go_ret
    exact ⟨rfl, H9.out⟩

theorem law (a0 : Option Addr) (l0 c0 : Nat) (w : World) (C0 : CodeAt (.slice a0 l0 c0) w) (n0 : l0 ≤ 9223372036854775807) :
    Calls Try.prog 10 #[.slice a0 l0 c0] w fun e w' => e = .returned (.bool true) ∧ Below w.heap.size w w' := by
  by_cases h : l0 ≤ 1048576
  · exact law_short a0 l0 c0 w h C0
  · exact law_long a0 l0 c0 w (by omega) n0

end Go.Proofs.Ytdhoimjkgicneac
