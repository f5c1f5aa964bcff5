/- A slice of bytes that came in, and the laws' copy of it. -/
import Derived.Test.YtdhoimjkgicneacHelA
import Derived.Test.YtdhoimjkgicneacCodeA
namespace Go.Proofs.Ytdhoimjkgicneac
open Go Go.RowKit

/-- A slice of bytes that came in; if it is empty it may point anywhere. -/
def ByteArg (v : Value) (xs : List Nat) (w : World) : Prop :=
  ∃ a cap, v = .slice a xs.length cap ∧ (0 < xs.length → ∃ b off, a = some ⟨b, off, none⟩ ∧ b < w.heap.size ∧ ∀ i x, xs[i]? = some x → w.cell? ⟨b, off + i, none⟩ = some (.int .u8 ((x : Nat) : Int)))

theorem ByteArg.below {v : Value} {xs : List Nat} {w w' : World} (h : ByteArg v xs w) (hb : Below w.heap.size w w') : ByteArg v xs w' := by
  obtain ⟨a, cap, rfl, h⟩ := h
  refine ⟨a, cap, rfl, fun h0 => ?_⟩
  obtain ⟨b, off, rfl, hz, hc⟩ := h h0
  exact ⟨b, off, rfl, Nat.lt_of_lt_of_le hz hb.size, fun i x hx => (hb.cell (p := ⟨b, off + i, none⟩) hz).trans (hc i x hx)⟩

theorem code_bytes {v : Value} {w : World} (h : CodeAt v w) : ∃ xs, ByteArg v xs w ∧ ∀ x ∈ xs, x ≤ 255 := by
  rcases h with ⟨b, off, len, cap, rfl, hz, h1, h2, h3, he⟩ | ⟨a, cap, rfl⟩
  · refine ⟨(List.range len).map fun i => (intOf ((w.cell? ⟨b, off + i, none⟩).getD undef)).toNat, ⟨some ⟨b, off, none⟩, cap, by simp, fun _ => ⟨b, off, rfl, hz, fun i x hx => ?_⟩⟩, fun x hx => ?_⟩
    · have hi : i < len := by have := (List.getElem?_eq_some_iff.1 hx).1; simpa using this
      obtain ⟨y, hy, ey⟩ := he i hi
      simp only [List.getElem?_map, List.getElem?_range hi, Option.map_some, ey, Option.getD_some, intOf, Int.toNat_natCast, Option.some.injEq] at hx
      subst hx
      exact ey
    · simp only [List.mem_map, List.mem_range] at hx
      obtain ⟨i, hi, rfl⟩ := hx
      obtain ⟨y, hy, ey⟩ := he i hi
      simp only [ey, Option.getD_some, intOf, Int.toNat_natCast]
      exact hy
  · exact ⟨[], ⟨a, cap, rfl, fun h0 => by simp at h0⟩, by simp⟩

theorem copy_set (xs : List Nat) {i : Nat} (h : i < xs.length) : (xs.take i ++ List.replicate (xs.length - i) 0).set i (xs[i]'h) = xs.take (i + 1) ++ List.replicate (xs.length - (i + 1)) 0 := by
  have hl : (xs.take i).length = i := by simp; omega
  rw [List.set_append_right _ _ (by omega), hl, Nat.sub_self, show xs.length - i = xs.length - (i + 1) + 1 by omega, List.replicate_succ, List.set_cons_zero, List.take_add_one, List.getElem?_eq_getElem h, Option.toList_some, List.append_assoc]
  rfl

set_option maxRecDepth 100000 in
set_option maxHeartbeats 800000 in
theorem to_bytes (v : Value) (xs : List Nat) (w : World) (h : ByteArg v xs w) (hx : xs.length ≤ 100000000) :
    Calls Try.prog 33 #[v] w fun e w' => ∃ o, e = .returned o ∧ Own w.heap.size o xs w' ∧ Below w.heap.size w w' := by
  obtain ⟨i0, ih, iz0, iz1, iz2⟩ := info_parts info_byte
  obtain ⟨a, cap, rfl, hA⟩ := h
  obtain ⟨n, hn⟩ : ∃ n, n = xs.length := ⟨_, rfl⟩
  have HA : Hid (n = xs.length ∧ (0 < xs.length → ∃ b off, a = some ⟨b, off, none⟩ ∧ b < w.heap.size ∧ ∀ i x, xs[i]? = some x → w.cell? ⟨b, off + i, none⟩ = some (.int .u8 ((x : Nat) : Int)))) := ⟨hn, hA⟩
  rw [← hn] at hx ⊢
  clear hA hn
  go_enter Try.func33, Try.ntmps33
  go_wp2_with (at_make; refine wpList_make_full _ rfl _ _ 22 rfl w.heap.size 5 i0 (.int .u8 0) 1 Try.underlying22 ih iz0 iz1 _ _ _ _ n rfl rfl rfl rfl (by rw [iz2]; omega) (by unfold maxLen; omega) (Nat.le_refl _) ?_)
  intro w1 o1 g1
  have O1 : Own w.heap.size (.slice (some ⟨w.heap.size, 0, none⟩) n n) (List.replicate n 0) w1 := by
    unfold Own
    have e1 : bytesV (List.replicate n 0) = List.replicate n (.int .u8 0) := by simp [bytesV]
    rw [e1, List.length_replicate]
    rw [toList_madeCells_one] at o1
    exact o1
  have B1 : Below w.heap.size w w1 := grown_below g1 (Nat.le_refl _) (by simp)
  have HO : Hid (Own w.heap.size (.slice (some ⟨w.heap.size, 0, none⟩) n n) (List.replicate n 0) w1 ∧ Below w.heap.size w w1) := ⟨O1, B1⟩
  clear o1 g1 O1 B1
  go_wp2_with fail
  go_loopw [4] (fun iv wr => ∃ i : Nat, i ≤ n ∧ iv = .int .i64 i ∧ Own w.heap.size (.slice (some ⟨w.heap.size, 0, none⟩) n n) (xs.take i ++ List.replicate (n - i) 0) wr ∧ Below w.heap.size w wr) (fun iv _ => n - (intOf iv).toNat)
  case atStart => exact ⟨0, by omega, rfl, by simpa using HO.out.1, HO.out.2⟩
  case round =>
    clear HO
    obtain ⟨i, hi, rfl, hO, hB⟩ := hrel
    have hl : n = (xs.take i ++ List.replicate (n - i) 0).length := by have := HA.out.1; simp; omega
    by_cases hin : i < n
    · have hin' : (i : Int) < (n : Int) := by omega
      obtain ⟨b, off, rfl, hz, hc⟩ := HA.out.2 (by have := HA.out.1; omega)
      have hix : i < xs.length := by have := HA.out.1; omega
      obtain ⟨x, hxe⟩ : ∃ x, x = xs[i]'hix := ⟨_, rfl⟩
      have c1 : wr.cell? ⟨b, off + i, none⟩ = some (.int .u8 ((x : Nat) : Int)) := (hB.cell (p := ⟨b, off + i, none⟩) hz).trans (hc i x (by rw [hxe]; exact List.getElem?_eq_getElem hix))
      obtain ⟨x0, c0, f0⟩ : ∃ x0 : Nat, wr.cell? ⟨w.heap.size, i, none⟩ = some (.int .u8 (x0 : Int)) ∧ wr.frozen? ⟨w.heap.size, i, none⟩ = false := ⟨_, hO.cellAt hl (i := i) (by omega)⟩
      have HN : Hid (Own w.heap.size (.slice (some ⟨w.heap.size, 0, none⟩) n n) (xs.take (i + 1) ++ List.replicate (n - (i + 1)) 0) (wr.setCell ⟨w.heap.size, i, none⟩ (.int .u8 (x : Int))) ∧ Below w.heap.size w (wr.setCell ⟨w.heap.size, i, none⟩ (.int .u8 (x : Int)))) := by
        refine ⟨?_, hB.setCell (Nat.le_refl _) _⟩
        have := hO.put hl i x
        have e := copy_set xs hix
        rw [← HA.out.1, ← hxe] at e
        rwa [e] at this
      clear hO hB hl hxe hc
      go_wp2_with fail
      go_roundw
      case rel => exact ⟨i + 1, by omega, by go_num, HN.out.1, HN.out.2⟩
      case measure => simp [intOf]; omega
    · obtain rfl : i = n := by omega
      have HN : Hid (Own w.heap.size (.slice (some ⟨w.heap.size, 0, none⟩) i i) xs wr ∧ Below w.heap.size w wr) := by
        refine ⟨?_, hB⟩
        rwa [Nat.sub_self, List.replicate_zero, List.append_nil, List.take_of_length_le (by have := HA.out.1; omega)] at hO
      clear hO hB hl
      go_wp2_with fail
      go_ret
      exact ⟨_, rfl, HN.out.1, HN.out.2⟩

end Go.Proofs.Ytdhoimjkgicneac
