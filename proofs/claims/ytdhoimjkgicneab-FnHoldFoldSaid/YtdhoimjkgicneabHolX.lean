/- Drawn bytes and slots. -/
import Derived.Test.YtdhoimjkgicneabHolQ
import Derived.Test.YtdhoimjkgicneabDrawN
namespace Go.Proofs.Ytdhoimjkgicneab
open Go Go.RowKit

theorem Rd.grown {R c : Nat} {w w' : World} {row : Option Nat} (h : Rd R c w) (hg : w.grownBy w' row) (hrow : ∀ k, row = some k → R < k) : Rd R c w' := by
  have hb : ∀ i, i ≤ R → i < w.heap.size → w'.heap[i]? = w.heap[i]? := fun i h1 h2 => hg.block i h2 (fun e => by have := hrow i e.symm; omega)
  have hc : ∀ (b o : Nat), b ≤ R → b < w.heap.size → w'.cell? ⟨b, o, none⟩ = w.cell? ⟨b, o, none⟩ := fun b o h1 h2 => World.cell?_of_block (hb b h1 h2)
  have hs := hg.size
  rcases h with ⟨b, off, len, cap, p, hp, h⟩ | ⟨p, hp, h⟩
  · refine Or.inl ⟨b, off, len, cap, p, hp, ?_⟩
    have h1 := h.zR
    have h2 := h.lt
    refine ⟨by omega, h.lt, by rw [hc _ _ (Nat.le_refl _) h1]; exact h.c0, by rw [hc _ _ (Nat.le_refl _) h1]; exact h.c1, (World.frozen?_of_block (hb R (Nat.le_refl _) h1)).trans h.fr, ?_, h.l1, h.l2⟩
    intro i hi
    obtain ⟨x, hx, ex⟩ := h.el i hi
    exact ⟨x, hx, by rw [hc _ _ (by omega) (by omega)]; exact ex⟩
  · refine Or.inr ⟨p, hp, ?_⟩
    have h1 := h.zR
    obtain ⟨a, cap, e0⟩ := h.c0
    exact ⟨by omega, ⟨a, cap, by rw [hc _ _ (Nat.le_refl _) h1]; exact e0⟩, by rw [hc _ _ (Nat.le_refl _) h1]; exact h.c1, (World.frozen?_of_block (hb R (Nat.le_refl _) h1)).trans h.fr⟩

theorem Moved.grown {R : Nat} {w w1 w2 : World} {row : Option Nat} (h : Moved R w w1) (hg : w1.grownBy w2 row) (hrow : ∀ k, row = some k → w.heap.size ≤ k) : Moved R w w2 :=
  ⟨hg.os.trans h.os, hg.tape.trans h.tape, hg.output.trans h.output, Nat.le_trans h.size hg.size, fun i hi hn => (hg.block i (Nat.lt_of_lt_of_le hi h.size) (fun e => by have := hrow i e.symm; omega)).trans (h.block i hi hn)⟩

theorem Own.moved {R base : Nat} {w w' : World} {v : Value} {xs : List Nat} (h : Own base v xs w) (hm : Moved R w w') (hR : R < base) : Own base v xs w' :=
  h.kept fun g hg => hm.block g (own_lt h hg) (by have := (World.ownsRow.lt h g hg).1; omega)

theorem BytesAt.moved {R : Nat} {w w' : World} {v : Value} {xs : List Nat} (h : BytesAt v xs w) (hm : Moved R w w') (hR : ∀ a n c, v = .slice (some a) n c → a.block ≠ R) : BytesAt v xs w' := by
  rcases h with ⟨b, off, cap, rfl, hz, hc, he⟩ | ⟨rfl, rfl⟩
  · exact Or.inl ⟨b, off, cap, rfl, Nat.lt_of_lt_of_le hz hm.size, hc, fun i x hx => (hm.cell (p := ⟨b, off + i, none⟩) hz (hR ⟨b, off, none⟩ _ _ rfl)).trans (he i x hx)⟩
  · exact Or.inr ⟨rfl, rfl⟩

/-- Any number as a byte. -/
theorem byte_of (z : Int) : ∃ y : Nat, IntKind.u8.wrap z = (y : Int) ∧ z % 256 = (y : Int) ∧ y ≤ 255 :=
  ⟨(z % 256).toNat, by show z % 256 = _; omega, by omega, by omega⟩

/-- What holds while bytes are drawn. -/
def DatRel (R c : Nat) (w0 : World) (ov iv : Value) (wr : World) : Prop := ∃ (i : Nat) (xs : List Nat), i ≤ 11 ∧ iv = .int .i64 (i : Int) ∧ xs.length + i ≤ 11 ∧ Few xs ∧ Own w0.heap.size ov xs wr ∧ Rd R (c + 12 - i) wr ∧ Moved R w0 wr

set_option maxRecDepth 100000 in
set_option maxHeartbeats 2000000 in
theorem data_draw (R c : Nat) (w : World) (h : Rd R c w) (hc : c ≤ 900) :
    Calls Try.prog 33 #[.pointer (some ⟨R, 0, none⟩)] w fun e w' => ∃ v xs, e = .returned v ∧ Own w.heap.size v xs w' ∧ Few xs ∧ Rd R (c + 14) w' ∧ Moved R w w' := by
  have hR := h.size
  have HD : Hid (Rd R c w) := h
  clear h
  go_enter Try.func33, Try.ntmps33
  go_wp2_with fail
  have m0 : Moved R w (w.alloc (.cells #[] 5)) := Moved.alloc R w _
  have o0 : Own w.heap.size (.slice (some ⟨w.heap.size, 0, none⟩) 0 0) [] (w.alloc (.cells #[] 5)) := World.ownsRow_made w #[] 0 (Nat.le_refl _) (by decide) rfl
  refine (pick_any R c 12 _ (HD.out.alloc _) (by omega) (by omega)).mono ?_
  rintro e w1 ⟨y, rfl, y0, y1, -, rd, mv⟩
  have y2 : y < 12 := y1 (by omega)
  obtain ⟨j, rfl⟩ : ∃ j : Nat, y = j := ⟨y.toNat, by omega⟩
  have I0 : Hid (DatRel R c w (.slice (some ⟨w.heap.size, 0, none⟩) 0 0) (.int .i64 (j : Int)) w1) := ⟨j, [], by omega, rfl, by simp; omega, Few.nil, o0.moved mv hR, rd.mono (by omega), m0.trans mv⟩
  clear rd mv y1 m0 o0
  go_wp2_with fail
  go_loopw [3, 4] (fun ov iv wr => DatRel R c w ov iv wr) (fun _ iv _ => (intOf iv).toNat)
  case atStart => exact I0.out
  case round =>
    clear I0
    obtain ⟨i, xs, hi, rfl, hxi, few, own, rd, mv⟩ := hrel
    have HI : Hid (Few xs ∧ Own w.heap.size u3 xs wr ∧ Rd R (c + 12 - i) wr ∧ Moved R w wr) := ⟨few, own, rd, mv⟩
    have zr : w.heap.size ≤ wr.heap.size := mv.size
    clear few own rd mv
    by_cases hi0 : 0 < i
    · have hi0' : (0 : Int) < (i : Int) := by omega
      go_wp2_with fail
      refine (num_lit R (c + 12 - i) _ wr wr.heap.size rfl HI.out.2.2.1 (by omega) (by simp) (by simp) (by simp) 6 rfl).mono ?_
      rintro e w2 ⟨z, rfl, rd2, mv2⟩
      obtain ⟨y, hy1, hy2, hy3⟩ := byte_of z
      have O2 : Own w.heap.size u3 xs w2 := HI.out.2.1.moved mv2 hR
      have H2 : Hid (Own w.heap.size u3 xs w2 ∧ Rd R (c + 12 - i + 1) w2 ∧ Moved R w w2) := ⟨O2, rd2, HI.out.2.2.2.trans mv2⟩
      have z2 : w.heap.size ≤ w2.heap.size := H2.out.2.2.size
      clear rd2 mv2 O2
      go_wp2_with (at_builtin; refine list_app w.heap.size (v := u3) (s := .slice (some ⟨w2.heap.size, 0, none⟩) 1 1) (xs := xs) (ys := [y]) rfl (.tmp 12) (.tmp 17) rfl rfl rfl (World.ownsRow.alloc H2.out.1 _) ?c1 (by simp; omega) (by simp; omega) ?_)
      case c1 => exact (bytes_one y w2 5 1).resolve_right (by simp)
      intro v3 w3 o3 g3 a3
      have HN : Hid (DatRel R c w v3 (.int .i64 ((i : Int) - 1)) w3) := by
        refine ⟨i - 1, xs ++ [y], by omega, by have e : ((i - 1 : Nat) : Int) = (i : Int) - 1 := by omega
                                               rw [e], by simp; omega, HI.out.1.snoc hy3 (by omega), o3, ?_, ?_⟩
        · exact ((H2.out.2.1.alloc _).grown g3 (fun k hk => by have := (World.ownsRow.lt H2.out.1 k hk).1; omega)).mono (by omega)
        · exact (H2.out.2.2.alloc' _).grown g3 (fun k hk => (World.ownsRow.lt H2.out.1 k hk).1)
      clear o3 g3 a3
      go_wp2_with fail
      go_roundw
      case rel => exact HN.out
      case measure => simp [intOf]; omega
    · have hi0' : ¬ (0 : Int) < (i : Int) := by omega
      obtain ⟨i0, ih, iz0, iz1, iz2⟩ := info_parts info_byte
      go_wp2_with fail
      refine (pick_any R (c + 12 - i) 40 wr HI.out.2.2.1 (by omega) (by omega)).mono ?_
      rintro e w2 ⟨y, rfl, y0, y1, -, rd, mv⟩
      have H2 : Hid (Own w.heap.size u3 xs w2 ∧ Rd R (c + 12 - i + 1) w2 ∧ Moved R w w2) := ⟨HI.out.2.1.moved mv hR, rd, HI.out.2.2.2.trans mv⟩
      clear rd mv y1
      by_cases hy : y = 0
      · subst hy
        go_wp2_with fail
        refine (pick_any R (c + 12 - i + 1) 2 w2 H2.out.2.1 (by omega) (by omega)).mono ?_
        rintro e w3 ⟨p, rfl, p0, p1, -, rd, mv⟩
        have p2 : p < 2 := p1 (by omega)
        obtain ⟨q, rfl⟩ : ∃ q : Nat, p = q := ⟨p.toNat, by omega⟩
        have H3 : Hid (Rd R (c + 14) w3 ∧ Moved R w w3) := ⟨rd.mono (by omega), H2.out.2.2.trans mv⟩
        have z3 : w.heap.size ≤ w3.heap.size := H3.out.2.size
        clear rd mv p1
        go_wp2_with (at_make; refine wpList_make_full _ rfl _ _ 22 rfl w.heap.size 5 i0 (.int .u8 0) 1 Try.underlying22 ih iz0 iz1 _ _ _ _ (20100 + q) rfl rfl (by simp) (by simp) (by rw [iz2]; omega) (by unfold maxLen; omega) z3 ?_)
        intro w4 o4 g4
        have H4 : Hid (Own w.heap.size (.slice (some ⟨w3.heap.size, 0, none⟩) (20100 + q) (20100 + q)) (List.replicate (20100 + q) 0) w4 ∧ Few (List.replicate (20100 + q) 0) ∧ Rd R (c + 14) w4 ∧ Moved R w w4) := by
          refine ⟨?_, ⟨fun x hx => by rw [List.mem_replicate] at hx; omega, by rw [List.length_replicate]; omega⟩, H3.out.1.grown g4 (by simp), H3.out.2.grown g4 (by simp)⟩
          unfold Own
          have e1 : bytesV (List.replicate (20100 + q) 0) = List.replicate (20100 + q) (.int .u8 0) := by simp [bytesV]
          rw [e1, List.length_replicate]
          rw [toList_madeCells_one] at o4
          exact o4
        clear o4 g4
        go_wp2_with fail
        go_ret
        exact ⟨_, _, rfl, H4.out.1, H4.out.2.1, H4.out.2.2.1, H4.out.2.2.2⟩
      · have hy' : (y == 0) = false := by simpa using hy
        go_wp2_with fail
        go_ret
        exact ⟨_, _, rfl, H2.out.1, HI.out.1, H2.out.2.1.mono (by omega), H2.out.2.2⟩

end Go.Proofs.Ytdhoimjkgicneab
