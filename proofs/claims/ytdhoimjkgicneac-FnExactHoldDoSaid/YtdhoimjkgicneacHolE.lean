/- What a store keeps: of the program and of the specification. -/
import Derived.Test.YtdhoimjkgicneacHolD
namespace Go.Proofs.Ytdhoimjkgicneac
open Go Go.RowKit

/-- What is answered of a store: its bytes in new memory, or none. -/
def NowAt (B : Nat) (r : Ro) (v : Value) (w : World) : Prop := ∃ d q, v = .tuple #[d, .bool q] ∧ ((∃ xs, r.now = some xs ∧ q = true ∧ Own B d xs w) ∨ (r.now = none ∧ q = false ∧ d = .slice none 0 0))

theorem now_a {r : Ro} (h : r.slotNow = 0) : r.now = some r.a.data := by simp [Ro.now, h]
theorem now_b {r : Ro} (h : r.slotNow = 1) : r.now = some r.b.data := by simp [Ro.now, h]
theorem now_no {r : Ro} (h : r.slotNow = -1) : r.now = none := by simp [Ro.now, h]

set_option maxHeartbeats 1600000 in
theorem now_spec (v : Value) (r : Ro) (w : World) (h : RomAt v r w) :
    Calls Try.prog 27 #[v] w fun e w' => ∃ u, e = .returned u ∧ NowAt w.heap.size r u w' ∧ Below w.heap.size w w' := by
  have HR : Hid (RomAt v r w) := h
  obtain ⟨ok, da, db, rfl, ha, hb⟩ := h
  have l1 := ok.ad.len
  have l2 := ok.bd.len
  have HA : Hid (BytesAt da r.a.data w) := ha
  have HB : Hid (BytesAt db r.b.data w) := hb
  obtain ⟨aa, ca, rfl⟩ := ha.len
  obtain ⟨ab, cb, rfl⟩ := hb.len
  clear ok ha hb
  simp only [romV] at HR ⊢
  go_enter Try.func27, Try.ntmps27
  go_wp2_with fail
  have b0 : Below w.heap.size w (w.alloc (.cells #[.int .u8 (r.a.mark : Int), .int .u8 (r.a.turn : Int), .slice aa r.a.data.length ca, .int .u8 (r.b.mark : Int), .int .u8 (r.b.turn : Int), .slice ab r.b.data.length cb] 32)) := (Below.refl _ _).alloc (Nat.le_refl _) _
  refine (slot_spec _ r _ (HR.out.below b0 (Nat.le_refl _))).mono ?_
  rintro e w1 ⟨rfl, b1⟩
  have X1 : Hid (RomBox w.heap.size 0 r (.slice aa r.a.data.length ca) (.slice ab r.b.data.length cb) w1) := (box_new r _ _ w _).below b1 (by simp)
  have B1 : Hid (Below w.heap.size w w1) := b0.trans (b1.mono (by simp))
  have s1 : w.heap.size < w1.heap.size := X1.out.z
  have c2 := X1.out.c2
  have c5 := X1.out.c5
  simp only [Nat.zero_add] at c2 c5
  clear b0 b1 HR
  rcases slot_cases r with ⟨h, -⟩ | ⟨h, -⟩ | ⟨h, -, -⟩
  · have E : Hid (r.now = some r.a.data) := now_a h
    rw [h]
    clear h
    go_wp2_with fail
    refine (copy_spec _ r.a.data w1 (HA.out.below B1.out (Nat.le_refl _)) (by omega)).mono ?_
    rintro e w2 ⟨d', rfl, o2, b2⟩
    have H2 : Hid (Own w.heap.size d' r.a.data w2 ∧ Below w.heap.size w w2) := ⟨o2.mono (by omega), B1.out.trans (b2.mono (by omega))⟩
    obtain ⟨a', c', rfl⟩ := own_size o2
    clear o2 b2
    go_wp2_with fail
    go_ret2
    exact ⟨_, rfl, ⟨_, _, rfl, Or.inl ⟨_, E.out, rfl, H2.out.1⟩⟩, H2.out.2⟩
  · have E : Hid (r.now = some r.b.data) := now_b h
    rw [h]
    clear h
    go_wp2_with fail
    refine (copy_spec _ r.b.data w1 (HB.out.below B1.out (Nat.le_refl _)) (by omega)).mono ?_
    rintro e w2 ⟨d', rfl, o2, b2⟩
    have H2 : Hid (Own w.heap.size d' r.b.data w2 ∧ Below w.heap.size w w2) := ⟨o2.mono (by omega), B1.out.trans (b2.mono (by omega))⟩
    obtain ⟨a', c', rfl⟩ := own_size o2
    clear o2 b2
    go_wp2_with fail
    go_ret2
    exact ⟨_, rfl, ⟨_, _, rfl, Or.inl ⟨_, E.out, rfl, H2.out.1⟩⟩, H2.out.2⟩
  · have E : Hid (r.now = none) := now_no h
    rw [h]
    clear h
    go_wp2_with fail
    go_ret2
    exact ⟨_, rfl, ⟨_, _, rfl, Or.inr ⟨E.out, rfl, rfl⟩⟩, B1.out⟩

set_option maxRecDepth 100000 in
set_option maxHeartbeats 1600000 in
theorem now_impl (v : Value) (r : Ro) (w : World) (h : RomAt v r w) :
    Calls Try.prog 28 #[v] w fun e w' => ∃ u, e = .returned u ∧ NowAt w.heap.size r u w' ∧ Below w.heap.size w w' := by
  have hf : ∀ (x y : Int) (z : Value) (w : World), (Instr.field 30 (.agg #[.int .u8 x, .int .u8 y, z]) 2).run Try.prog w = .ok z w := fun _ _ _ _ => rfl
  have HR : Hid (RomAt v r w) := h
  obtain ⟨ok, da, db, rfl, ha, hb⟩ := h
  have l1 := ok.ad.len
  have l2 := ok.bd.len
  have HA : Hid (BytesAt da r.a.data w) := ha
  have HB : Hid (BytesAt db r.b.data w) := hb
  obtain ⟨aa, ca, rfl⟩ := ha.len
  obtain ⟨ab, cb, rfl⟩ := hb.len
  clear ok ha hb
  simp only [romV] at HR ⊢
  go_enter Try.func28, Try.ntmps28
  go_wp2_with fail
  have b0 : Below w.heap.size w (w.alloc (.cells #[.int .u8 (r.a.mark : Int), .int .u8 (r.a.turn : Int), .slice aa r.a.data.length ca, .int .u8 (r.b.mark : Int), .int .u8 (r.b.turn : Int), .slice ab r.b.data.length cb] 32)) := (Below.refl _ _).alloc (Nat.le_refl _) _
  refine (slot_impl _ r _ (HR.out.below b0 (Nat.le_refl _))).mono ?_
  rintro e w1 ⟨rfl, b1⟩
  have X1 : Hid (RomBox w.heap.size 0 r (.slice aa r.a.data.length ca) (.slice ab r.b.data.length cb) w1) := (box_new r _ _ w _).below b1 (by simp)
  have B1 : Hid (Below w.heap.size w w1) := b0.trans (b1.mono (by simp))
  have s1 : w.heap.size < w1.heap.size := X1.out.z
  have c0 := X1.out.c0
  have c1 := X1.out.c1
  have c2 := X1.out.c2
  have c3 := X1.out.c3
  have c4 := X1.out.c4
  have c5 := X1.out.c5
  simp only [Nat.zero_add] at c1 c2 c3 c4 c5
  clear b0 b1 HR
  rcases slot_cases r with ⟨h, -⟩ | ⟨h, -⟩ | ⟨h, -, -⟩
  · have E : Hid (r.now = some r.a.data) := now_a h
    rw [h]
    clear h
    go_wp2_with fail
    refine (copy_any _ _ _ r.a.data w1 (HA.out.below B1.out (Nat.le_refl _)) (by omega)).mono ?_
    rintro e w2 ⟨d', rfl, o2, b2⟩
    have H2 : Hid (Own w.heap.size d' r.a.data w2 ∧ Below w.heap.size w w2) := ⟨o2.mono (by omega), B1.out.trans (b2.mono (by omega))⟩
    obtain ⟨a', c', rfl⟩ := own_size o2
    clear o2 b2
    go_wp2_with fail
    go_ret2
    exact ⟨_, rfl, ⟨_, _, rfl, Or.inl ⟨_, E.out, rfl, H2.out.1⟩⟩, H2.out.2⟩
  · have E : Hid (r.now = some r.b.data) := now_b h
    rw [h]
    clear h
    go_wp2_with fail
    refine (copy_any _ _ _ r.b.data w1 (HB.out.below B1.out (Nat.le_refl _)) (by omega)).mono ?_
    rintro e w2 ⟨d', rfl, o2, b2⟩
    have H2 : Hid (Own w.heap.size d' r.b.data w2 ∧ Below w.heap.size w w2) := ⟨o2.mono (by omega), B1.out.trans (b2.mono (by omega))⟩
    obtain ⟨a', c', rfl⟩ := own_size o2
    clear o2 b2
    go_wp2_with fail
    go_ret2
    exact ⟨_, rfl, ⟨_, _, rfl, Or.inl ⟨_, E.out, rfl, H2.out.1⟩⟩, H2.out.2⟩
  · have E : Hid (r.now = none) := now_no h
    rw [h]
    clear h
    go_wp2_with fail
    go_ret2
    exact ⟨_, rfl, ⟨_, _, rfl, Or.inr ⟨E.out, rfl, rfl⟩⟩, B1.out⟩

end Go.Proofs.Ytdhoimjkgicneac
