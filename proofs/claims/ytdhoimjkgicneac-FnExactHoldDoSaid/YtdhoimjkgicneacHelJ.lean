/- Writes that came in, the laws' copy of them, and their size. -/
import Derived.Test.YtdhoimjkgicneacHelI
namespace Go.Proofs.Ytdhoimjkgicneac
open Go Go.RowKit

/-- A slice of writes that came in; if it is empty it may point anywhere. -/
def WrArg (v : Value) (ws : List Wr) (w : World) : Prop :=
  ∃ a cap, v = .slice a ws.length cap ∧ (0 < ws.length → ∃ b off, a = some ⟨b, off, none⟩ ∧ b < w.heap.size ∧ ∀ (i : Nat) (x : Wr), ws[i]? = some x → w.cell? ⟨b, off + i * 3, none⟩ = some (.int .i64 x.kind) ∧ w.cell? ⟨b, off + i * 3 + 1, none⟩ = some (.int .i64 x.slot) ∧ w.cell? ⟨b, off + i * 3 + 2, none⟩ = some (.int .u8 (x.byte : Int)))

theorem WrArg.below {v : Value} {ws : List Wr} {w w' : World} (h : WrArg v ws w) (hb : Below w.heap.size w w') : WrArg v ws w' := by
  obtain ⟨a, cap, rfl, h⟩ := h
  refine ⟨a, cap, rfl, fun h0 => ?_⟩
  obtain ⟨b, off, rfl, hz, hc⟩ := h h0
  refine ⟨b, off, rfl, Nat.lt_of_lt_of_le hz hb.size, fun i x hx => ?_⟩
  obtain ⟨h1, h2, h3⟩ := hc i x hx
  exact ⟨(hb.cell (p := ⟨b, _, none⟩) hz).trans h1, (hb.cell (p := ⟨b, _, none⟩) hz).trans h2, (hb.cell (p := ⟨b, _, none⟩) hz).trans h3⟩

theorem load_writeL {B o : Nat} {x y z : Value} {w : World} (h0 : w.cell? ⟨B, o, none⟩ = some x) (h1 : w.cell? ⟨B, o + 1, none⟩ = some y) (h2 : w.cell? ⟨B, o + 2, none⟩ = some z) :
    (Instr.loadAt 28 (.pointer (some ⟨B, o, none⟩))).run Try.prog w = .ok (.agg #[x, y, z]) w := by
  simp [go_sem, h0, h1, h2]

set_option maxRecDepth 100000 in
set_option maxHeartbeats 400000 in
theorem to_write (k s b : Int) (w : World) :
    Calls Try.prog 14 #[.agg #[.int .i64 k, .int .i64 s, .int .u8 b]] w fun e w' => e = .returned (.agg #[.int .i64 k, .int .i64 s, .int .u8 b]) ∧ Below w.heap.size w w' := by
  have HB : Hid (Below w.heap.size w (((w.alloc (.cells #[.int .i64 k, .int .i64 s, .int .u8 b] 28)).alloc (.cells #[.int .i64 k, .int .i64 s, .int .u8 b] 35)).alloc (.cells #[.int .i64 k, .int .i64 s, .int .u8 b] 35))) := (((Below.refl w.heap.size w).alloc (Nat.le_refl _) _).alloc (by simp) _).alloc (by simp; omega) _
  go_enter Try.func14, Try.ntmps14
  go_wp2_with fail
  refine bodyPost_ret (v := .agg #[.int .i64 k, .int .i64 s, .int .u8 b]) (by simp [results, Try.results14, go_sem]) rfl ?_
  exact ⟨rfl, HB.out⟩

set_option maxHeartbeats 400000 in
theorem sz_writes (a : Option Addr) (n cap : Nat) (left : Int) (w : World) (hn : n ≤ 9223372036854775807) (h0 : 0 ≤ left) (h1 : left ≤ 1048576) :
    Calls Try.prog 19 #[.slice a n cap, .int .i64 left] w fun e w' => e = .returned (.int .i64 (leftZ left n)) ∧ w' = w := by
  unfold leftZ
  obtain ⟨z, hz⟩ : ∃ z, left - (n : Int) = z := ⟨_, rfl⟩
  have hw : IntKind.i64.wrap z = z := wrap64h (by omega) (by omega)
  rw [hz]
  by_cases h : z < 0
  · rw [if_pos h]
    go_enter Try.func19, Try.ntmps19
    go_wp2_with fail
    go_ret
    exact ⟨rfl, rfl⟩
  · rw [if_neg h]
    go_enter Try.func19, Try.ntmps19
    go_wp2_with fail
    go_ret
    exact ⟨rfl, rfl⟩

theorem writesV_zero (n : Nat) : (madeCells #[.int .i64 0, .int .i64 0, .int .u8 0] (n * 3)).toList = writesV (List.replicate n ⟨0, 0, 0⟩) := by
  apply List.ext_getElem?
  intro j
  by_cases hj : j < n * 3
  · have hi : (List.replicate n (⟨0, 0, 0⟩ : Wr))[j / 3]? = some ⟨0, 0, 0⟩ := by rw [List.getElem?_replicate, if_pos (by omega)]
    obtain ⟨e0, e1, e2⟩ := writesV_get _ _ _ hi
    have hl : (madeCells #[.int .i64 0, .int .i64 0, .int .u8 0] (n * 3)).toList[j]? = some ((#[.int .i64 0, .int .i64 0, .int .u8 0] : Array Value)[j % 3]!) := by
      simp [madeCells, hj]
    rw [hl]
    have h3 : j % 3 = 0 ∨ j % 3 = 1 ∨ j % 3 = 2 := by omega
    rcases h3 with h | h | h
    · rw [h]
      exact ((congrArg (fun q => (writesV (List.replicate n (⟨0, 0, 0⟩ : Wr)))[q]?) (show j = j / 3 * 3 by omega)).trans e0).symm
    · rw [h]
      exact ((congrArg (fun q => (writesV (List.replicate n (⟨0, 0, 0⟩ : Wr)))[q]?) (show j = j / 3 * 3 + 1 by omega)).trans e1).symm
    · rw [h]
      exact ((congrArg (fun q => (writesV (List.replicate n (⟨0, 0, 0⟩ : Wr)))[q]?) (show j = j / 3 * 3 + 2 by omega)).trans e2).symm
  · rw [List.getElem?_eq_none (by simp [size_madeCells]; omega), List.getElem?_eq_none (by rw [writesV_len, List.length_replicate]; omega)]

theorem copyW_set (xs : List Wr) {i : Nat} (h : i < xs.length) : (xs.take i ++ List.replicate (xs.length - i) (⟨0, 0, 0⟩ : Wr)).set i (xs[i]'h) = xs.take (i + 1) ++ List.replicate (xs.length - (i + 1)) ⟨0, 0, 0⟩ := by
  have hl : (xs.take i).length = i := by simp; omega
  rw [List.set_append_right _ _ (by omega), hl, Nat.sub_self, show xs.length - i = xs.length - (i + 1) + 1 by omega, List.replicate_succ, List.set_cons_zero, List.take_add_one, List.getElem?_eq_getElem h, Option.toList_some, List.append_assoc]
  rfl

set_option maxRecDepth 100000 in
set_option maxHeartbeats 800000 in
theorem to_writes (v : Value) (xs : List Wr) (w : World) (h : WrArg v xs w) (hx : xs.length ≤ 10000000) :
    Calls Try.prog 21 #[v] w fun e w' => ∃ o, e = .returned o ∧ OwnW w.heap.size o xs w' ∧ Below w.heap.size w w' := by
  obtain ⟨i0, ih, iz0, iz1, iz2⟩ := info_parts info_write
  obtain ⟨a, cap, rfl, hA⟩ := h
  obtain ⟨n, hn⟩ : ∃ n, n = xs.length := ⟨_, rfl⟩
  have HA : Hid (n = xs.length ∧ (0 < xs.length → ∃ b off, a = some ⟨b, off, none⟩ ∧ b < w.heap.size ∧ ∀ (i : Nat) (x : Wr), xs[i]? = some x → w.cell? ⟨b, off + i * 3, none⟩ = some (.int .i64 x.kind) ∧ w.cell? ⟨b, off + i * 3 + 1, none⟩ = some (.int .i64 x.slot) ∧ w.cell? ⟨b, off + i * 3 + 2, none⟩ = some (.int .u8 (x.byte : Int)))) := ⟨hn, hA⟩
  rw [← hn] at hx ⊢
  clear hA hn
  go_enter Try.func21, Try.ntmps21
  go_wp2_with (at_make; refine wpList_make_full _ rfl _ _ 43 rfl w.heap.size 35 i0 (.agg #[.int .i64 0, .int .i64 0, .int .u8 0]) 3 Try.underlying43 ih iz0 iz1 _ _ _ _ n rfl rfl rfl rfl (by rw [iz2]; omega) (by unfold maxLen; omega) (Nat.le_refl _) ?_)
  intro w1 o1 g1
  have O1 : OwnW w.heap.size (.slice (some ⟨w.heap.size, 0, none⟩) n n) (List.replicate n ⟨0, 0, 0⟩) w1 := by
    unfold OwnW
    rw [List.length_replicate, ← writesV_zero]
    exact o1
  have B1 : Below w.heap.size w w1 := grown_below g1 (Nat.le_refl _) (by simp)
  have HO : Hid (OwnW w.heap.size (.slice (some ⟨w.heap.size, 0, none⟩) n n) (List.replicate n ⟨0, 0, 0⟩) w1 ∧ Below w.heap.size w w1) := ⟨O1, B1⟩
  clear o1 g1 O1 B1
  go_wp2_with fail
  go_loopw [4] (fun iv wr => ∃ i : Nat, i ≤ n ∧ iv = .int .i64 i ∧ OwnW w.heap.size (.slice (some ⟨w.heap.size, 0, none⟩) n n) (xs.take i ++ List.replicate (n - i) ⟨0, 0, 0⟩) wr ∧ Below w.heap.size w wr) (fun iv _ => n - (intOf iv).toNat)
  case atStart => exact ⟨0, by omega, rfl, by simpa using HO.out.1, HO.out.2⟩
  case round =>
    clear HO
    obtain ⟨i, hi, rfl, hO, hB⟩ := hrel
    have hl : n = (xs.take i ++ List.replicate (n - i) (⟨0, 0, 0⟩ : Wr)).length := by have := HA.out.1; simp; omega
    by_cases hin : i < n
    · have hin' : (0 : Int) ≤ (i : Int) ∧ (i : Int) < (n : Int) := by omega
      obtain ⟨b, off, rfl, hz, hc⟩ := HA.out.2 (by have := HA.out.1; omega)
      have hix : i < xs.length := by have := HA.out.1; omega
      obtain ⟨x, hxe⟩ : ∃ x, x = xs[i]'hix := ⟨_, rfl⟩
      obtain ⟨c0, c1, c2⟩ := hc i x (by rw [hxe]; exact List.getElem?_eq_getElem hix)
      have C0 := (hB.cell (p := ⟨b, off + i * 3, none⟩) hz).trans c0
      have C1 := (hB.cell (p := ⟨b, off + i * 3 + 1, none⟩) hz).trans c1
      have C2 := (hB.cell (p := ⟨b, off + i * 3 + 2, none⟩) hz).trans c2
      obtain ⟨kd, sl, bt⟩ := x
      simp only at C0 C1 C2
      have T := to_write kd sl bt wr
      have HS : Hid (OwnW w.heap.size (.slice (some ⟨w.heap.size, 0, none⟩) n n) (xs.take i ++ List.replicate (n - i) ⟨0, 0, 0⟩) wr ∧ Below w.heap.size w wr ∧ xs[i]'hix = ⟨kd, sl, bt⟩) := ⟨hO, hB, hxe.symm⟩
      have HLn : Hid (n = (xs.take i ++ List.replicate (n - i) (⟨0, 0, 0⟩ : Wr)).length) := hl
      clear hO hB hl hxe hc c0 c1 c2
      go_wp2_with fail
      refine T.mono ?_
      rintro e w2 ⟨rfl, b2⟩
      have hO2 := HS.out.1.below b2 (Nat.le_refl _)
      obtain ⟨⟨x0, d0, d1, d2⟩, ff⟩ := hO2.cellAt HLn.out (i := i) (by have := HLn.out; omega)
      have f0 := ff (i * 3)
      have f1 := ff (i * 3 + 1)
      have f2 := ff (i * 3 + 2)
      have HN : Hid (OwnW w.heap.size (.slice (some ⟨w.heap.size, 0, none⟩) n n) (xs.take (i + 1) ++ List.replicate (n - (i + 1)) ⟨0, 0, 0⟩) (((w2.setCell ⟨w.heap.size, i * 3, none⟩ (.int .i64 kd)).setCell ⟨w.heap.size, i * 3 + 1, none⟩ (.int .i64 sl)).setCell ⟨w.heap.size, i * 3 + 2, none⟩ (.int .u8 (bt : Int))) ∧ Below w.heap.size w (((w2.setCell ⟨w.heap.size, i * 3, none⟩ (.int .i64 kd)).setCell ⟨w.heap.size, i * 3 + 1, none⟩ (.int .i64 sl)).setCell ⟨w.heap.size, i * 3 + 2, none⟩ (.int .u8 (bt : Int)))) := by
        have B2 := HS.out.2.1.trans (b2.mono HS.out.2.1.size)
        refine ⟨?_, ((B2.setCell (Nat.le_refl _) _).setCell (Nat.le_refl _) _).setCell (Nat.le_refl _) _⟩
        have := hO2.put HLn.out i ⟨kd, sl, bt⟩
        have e := copyW_set xs hix
        rw [← HA.out.1, HS.out.2.2] at e
        rwa [e] at this
      clear hO2 ff b2 T HS HLn C0 C1 C2
      go_wp2_with fail
      go_roundw
      case rel => exact ⟨i + 1, by omega, by go_num, HN.out.1, HN.out.2⟩
      case measure => simp [intOf]; omega
    · obtain rfl : i = n := by omega
      have HN : Hid (OwnW w.heap.size (.slice (some ⟨w.heap.size, 0, none⟩) i i) xs wr ∧ Below w.heap.size w wr) := by
        refine ⟨?_, hB⟩
        rwa [Nat.sub_self, List.replicate_zero, List.append_nil, List.take_of_length_le (by have := HA.out.1; omega)] at hO
      clear hO hB hl
      go_wp2_with fail
      go_ret
      exact ⟨_, rfl, HN.out.1, HN.out.2⟩

end Go.Proofs.Ytdhoimjkgicneac
