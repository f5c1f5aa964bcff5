/- A write as a function value: what the program makes of it. -/
import Derived.Test.YtdhoimjkgicneacHolD
import Derived.Test.YtdhoimjkgicneacHolL
import Derived.Recover
namespace Go.Proofs.Ytdhoimjkgicneac
open Go Go.RowKit

/-- A write as a value. -/
def wrV (x : Wr) : Value := .agg #[.int .i64 x.kind, .int .i64 x.slot, .int .u8 (x.byte : Int)]

/-- Its numbers are of their widths. -/
structure WrOk (x : Wr) : Prop where
  k0 : -9223372036854775808 ≤ x.kind
  k1 : x.kind ≤ 9223372036854775807
  s0 : -9223372036854775808 ≤ x.slot
  s1 : x.slot ≤ 9223372036854775807
  by_ : x.byte ≤ 255

/-- A function value that writes x into the store at block S, when it is called; what it has captured lies in blocks lo to hi. -/
def ArmAt (S lo hi : Nat) (F : Nat) (cap : Array Value) (x : Wr) (w : World) : Prop :=
  (cap = #[] ∧ (F = 93 ∨ F = 98) ∧ ∀ r : Ro, r.write x = r) ∨
  ∃ V P o : Nat, lo ≤ V ∧ V < hi ∧ lo ≤ P ∧ P < hi ∧ ((x.slot = 0 ∧ o = 2) ∨ (x.slot = 1 ∧ o = 5)) ∧ w.cell? ⟨V, 0, none⟩ = some (.pointer (some ⟨S, o, none⟩)) ∧ w.cell? ⟨P, 2, none⟩ = some (.int .u8 (x.byte : Int)) ∧
    ((x.kind = 1 ∧ F = 94 ∧ cap = #[.pointer (some ⟨P, 0, none⟩), .pointer (some ⟨V, 0, none⟩)]) ∨ (x.kind = 2 ∧ F = 95 ∧ cap = #[.pointer (some ⟨P, 0, none⟩), .pointer (some ⟨V, 0, none⟩)]) ∨
     (x.kind = 3 ∧ F = 96 ∧ cap = #[.pointer (some ⟨V, 0, none⟩)]) ∨ (x.kind = 4 ∧ F = 97 ∧ cap = #[.pointer (some ⟨V, 0, none⟩), .pointer (some ⟨P, 0, none⟩)]))

theorem write_slot {x : Wr} (h0 : x.slot ≠ 0) (h1 : x.slot ≠ 1) (r : Ro) : r.write x = r := by simp [Ro.write, h0, h1]
theorem write_kind {x : Wr} (h1 : x.kind ≠ 1) (h2 : x.kind ≠ 2) (h3 : x.kind ≠ 3) (h4 : x.kind ≠ 4) (r : Ro) : r.write x = r := by
  simp [Ro.write, Sl.into, h1, h2, h3, h4]

set_option maxRecDepth 100000 in
set_option maxHeartbeats 1600000 in
theorem writer_far (S : Nat) (x : Wr) (w : World) (h : x.slot < 0 ∨ 2 ≤ x.slot) :
    Calls Try.prog 81 #[.pointer (some ⟨S, 0, none⟩), wrV x] w fun e w' => ∃ F cap, e = .returned (.func (.func F) #[] cap) ∧ ArmAt S w.heap.size w'.heap.size F cap x w' ∧ Below w.heap.size w w' := by
  have HW : Hid (∀ r : Ro, r.write x = r) := write_slot (by omega) (by omega)
  obtain ⟨k, s, b⟩ := x
  simp only [wrV] at h ⊢
  by_cases h0 : s < 0
  · go_enter Try.func81, Try.ntmps81
    go_wp2
    go_ret
    exact ⟨_, _, rfl, Or.inl ⟨rfl, Or.inl rfl, HW.out⟩, (Below.refl _ _).alloc (Nat.le_refl _) _⟩
  · have h1 : (2 : Int) ≤ s := by omega
    go_enter Try.func81, Try.ntmps81
    go_wp2
    go_ret
    exact ⟨_, _, rfl, Or.inl ⟨rfl, Or.inl rfl, HW.out⟩, (Below.refl _ _).alloc (Nat.le_refl _) _⟩

set_option maxRecDepth 100000 in
set_option maxHeartbeats 3200000 in
theorem writer_0 (S : Nat) (x : Wr) (w : World) (h : x.slot = 0) :
    Calls Try.prog 81 #[.pointer (some ⟨S, 0, none⟩), wrV x] w fun e w' => ∃ F cap, e = .returned (.func (.func F) #[] cap) ∧ ArmAt S w.heap.size w'.heap.size F cap x w' ∧ Below w.heap.size w w' := by
  have hmf : ∀ (fn : Fn) (first cap : Array Value) (w : World), (Instr.makeFunc fn first cap).run Try.prog w = .ok (.func fn first cap) w := fun _ _ _ _ => rfl
  have HK : Hid (x.kind ≠ 1 → x.kind ≠ 2 → x.kind ≠ 3 → x.kind ≠ 4 → ∀ r : Ro, r.write x = r) := fun h1 h2 h3 h4 => write_kind h1 h2 h3 h4
  obtain ⟨k, s, b⟩ := x
  simp only [wrV] at h HK ⊢
  subst h
  have b1 : Below w.heap.size w (((w.alloc (.cells #[.int .i64 k, .int .i64 0, .int .u8 (b : Int)] 35)).alloc (.cells #[.pointer (some ⟨S, 2, none⟩)] 143)).drew) := (((Below.refl w.heap.size w).alloc (Nat.le_refl _) _).alloc (by simp) _).drew
  have H : Hid (Below w.heap.size w (((w.alloc (.cells #[.int .i64 k, .int .i64 0, .int .u8 (b : Int)] 35)).alloc (.cells #[.pointer (some ⟨S, 2, none⟩)] 143)).drew) ∧ ∀ (F : Nat) (cap : Array Value), ((k = 1 ∧ F = 94 ∧ cap = #[.pointer (some ⟨w.heap.size, 0, none⟩), .pointer (some ⟨w.heap.size + 1, 0, none⟩)]) ∨ (k = 2 ∧ F = 95 ∧ cap = #[.pointer (some ⟨w.heap.size, 0, none⟩), .pointer (some ⟨w.heap.size + 1, 0, none⟩)]) ∨
     (k = 3 ∧ F = 96 ∧ cap = #[.pointer (some ⟨w.heap.size + 1, 0, none⟩)]) ∨ (k = 4 ∧ F = 97 ∧ cap = #[.pointer (some ⟨w.heap.size + 1, 0, none⟩), .pointer (some ⟨w.heap.size, 0, none⟩)])) →
     ArmAt S w.heap.size (((w.alloc (.cells #[.int .i64 k, .int .i64 0, .int .u8 (b : Int)] 35)).alloc (.cells #[.pointer (some ⟨S, 2, none⟩)] 143)).drew).heap.size F cap ⟨k, 0, b⟩ (((w.alloc (.cells #[.int .i64 k, .int .i64 0, .int .u8 (b : Int)] 35)).alloc (.cells #[.pointer (some ⟨S, 2, none⟩)] 143)).drew)) :=
    ⟨b1, fun F cap hc => Or.inr ⟨w.heap.size + 1, w.heap.size, 2, by omega, by simp, by omega, by simp; omega, Or.inl ⟨rfl, rfl⟩, by simp, by simp, hc⟩⟩
  clear b1
  by_cases h1 : k = 1
  · subst h1
    clear HK
    go_enter Try.func81, Try.ntmps81
    go_wp2
    go_region
    go_wp2
    go_ret
    exact ⟨_, _, rfl, H.out.2 _ _ (by simp), H.out.1⟩
  by_cases h2 : k = 2
  · subst h2
    clear HK
    go_enter Try.func81, Try.ntmps81
    go_wp2
    go_region
    go_wp2
    go_ret
    exact ⟨_, _, rfl, H.out.2 _ _ (by simp), H.out.1⟩
  by_cases h3 : k = 3
  · subst h3
    clear HK
    go_enter Try.func81, Try.ntmps81
    go_wp2
    go_region
    go_wp2
    go_ret
    exact ⟨_, _, rfl, H.out.2 _ _ (by simp), H.out.1⟩
  by_cases h4 : k = 4
  · subst h4
    clear HK
    go_enter Try.func81, Try.ntmps81
    go_wp2
    go_region
    go_wp2
    go_ret
    exact ⟨_, _, rfl, H.out.2 _ _ (by simp), H.out.1⟩
  have q1 : (k == 1) = false := by simpa using h1
  have q2 : (k == 2) = false := by simpa using h2
  have q3 : (k == 3) = false := by simpa using h3
  have q4 : (k == 4) = false := by simpa using h4
  have HW : Hid (∀ r : Ro, r.write ⟨k, 0, b⟩ = r) := HK.out h1 h2 h3 h4
  clear h1 h2 h3 h4 HK
  go_enter Try.func81, Try.ntmps81
  go_wp2
  go_region
  go_wp2
  go_ret
  exact ⟨_, _, rfl, Or.inl ⟨rfl, Or.inr rfl, HW.out⟩, H.out.1⟩

set_option maxRecDepth 100000 in
set_option maxHeartbeats 3200000 in
theorem writer_1 (S : Nat) (x : Wr) (w : World) (h : x.slot = 1) :
    Calls Try.prog 81 #[.pointer (some ⟨S, 0, none⟩), wrV x] w fun e w' => ∃ F cap, e = .returned (.func (.func F) #[] cap) ∧ ArmAt S w.heap.size w'.heap.size F cap x w' ∧ Below w.heap.size w w' := by
  have hmf : ∀ (fn : Fn) (first cap : Array Value) (w : World), (Instr.makeFunc fn first cap).run Try.prog w = .ok (.func fn first cap) w := fun _ _ _ _ => rfl
  have HK : Hid (x.kind ≠ 1 → x.kind ≠ 2 → x.kind ≠ 3 → x.kind ≠ 4 → ∀ r : Ro, r.write x = r) := fun h1 h2 h3 h4 => write_kind h1 h2 h3 h4
  obtain ⟨k, s, b⟩ := x
  simp only [wrV] at h HK ⊢
  subst h
  have b1 : Below w.heap.size w (((w.alloc (.cells #[.int .i64 k, .int .i64 1, .int .u8 (b : Int)] 35)).alloc (.cells #[.pointer (some ⟨S, 5, none⟩)] 143)).drew) := (((Below.refl w.heap.size w).alloc (Nat.le_refl _) _).alloc (by simp) _).drew
  have H : Hid (Below w.heap.size w (((w.alloc (.cells #[.int .i64 k, .int .i64 1, .int .u8 (b : Int)] 35)).alloc (.cells #[.pointer (some ⟨S, 5, none⟩)] 143)).drew) ∧ ∀ (F : Nat) (cap : Array Value), ((k = 1 ∧ F = 94 ∧ cap = #[.pointer (some ⟨w.heap.size, 0, none⟩), .pointer (some ⟨w.heap.size + 1, 0, none⟩)]) ∨ (k = 2 ∧ F = 95 ∧ cap = #[.pointer (some ⟨w.heap.size, 0, none⟩), .pointer (some ⟨w.heap.size + 1, 0, none⟩)]) ∨
     (k = 3 ∧ F = 96 ∧ cap = #[.pointer (some ⟨w.heap.size + 1, 0, none⟩)]) ∨ (k = 4 ∧ F = 97 ∧ cap = #[.pointer (some ⟨w.heap.size + 1, 0, none⟩), .pointer (some ⟨w.heap.size, 0, none⟩)])) →
     ArmAt S w.heap.size (((w.alloc (.cells #[.int .i64 k, .int .i64 1, .int .u8 (b : Int)] 35)).alloc (.cells #[.pointer (some ⟨S, 5, none⟩)] 143)).drew).heap.size F cap ⟨k, 1, b⟩ (((w.alloc (.cells #[.int .i64 k, .int .i64 1, .int .u8 (b : Int)] 35)).alloc (.cells #[.pointer (some ⟨S, 5, none⟩)] 143)).drew)) :=
    ⟨b1, fun F cap hc => Or.inr ⟨w.heap.size + 1, w.heap.size, 5, by omega, by simp, by omega, by simp; omega, Or.inr ⟨rfl, rfl⟩, by simp, by simp, hc⟩⟩
  clear b1
  by_cases h1 : k = 1
  · subst h1
    clear HK
    go_enter Try.func81, Try.ntmps81
    go_wp2
    go_region
    go_wp2
    go_ret
    exact ⟨_, _, rfl, H.out.2 _ _ (by simp), H.out.1⟩
  by_cases h2 : k = 2
  · subst h2
    clear HK
    go_enter Try.func81, Try.ntmps81
    go_wp2
    go_region
    go_wp2
    go_ret
    exact ⟨_, _, rfl, H.out.2 _ _ (by simp), H.out.1⟩
  by_cases h3 : k = 3
  · subst h3
    clear HK
    go_enter Try.func81, Try.ntmps81
    go_wp2
    go_region
    go_wp2
    go_ret
    exact ⟨_, _, rfl, H.out.2 _ _ (by simp), H.out.1⟩
  by_cases h4 : k = 4
  · subst h4
    clear HK
    go_enter Try.func81, Try.ntmps81
    go_wp2
    go_region
    go_wp2
    go_ret
    exact ⟨_, _, rfl, H.out.2 _ _ (by simp), H.out.1⟩
  have q1 : (k == 1) = false := by simpa using h1
  have q2 : (k == 2) = false := by simpa using h2
  have q3 : (k == 3) = false := by simpa using h3
  have q4 : (k == 4) = false := by simpa using h4
  have HW : Hid (∀ r : Ro, r.write ⟨k, 1, b⟩ = r) := HK.out h1 h2 h3 h4
  clear h1 h2 h3 h4 HK
  go_enter Try.func81, Try.ntmps81
  go_wp2
  go_region
  go_wp2
  go_ret
  exact ⟨_, _, rfl, Or.inl ⟨rfl, Or.inr rfl, HW.out⟩, H.out.1⟩

theorem writer_any (S : Nat) (x : Wr) (w : World) :
    Calls Try.prog 81 #[.pointer (some ⟨S, 0, none⟩), wrV x] w fun e w' => ∃ F cap, e = .returned (.func (.func F) #[] cap) ∧ ArmAt S w.heap.size w'.heap.size F cap x w' ∧ Below w.heap.size w w' := by
  by_cases h0 : x.slot = 0
  · exact writer_0 S x w h0
  · by_cases h1 : x.slot = 1
    · exact writer_1 S x w h1
    · exact writer_far S x w (by omega)

end Go.Proofs.Ytdhoimjkgicneac
