/- Texts of this proof laid together: KepB, RegK. -/
import Derived.Test.YtdhoimjkgicneabLot17
import Derived.Test.YtdhoimjkgicneabLot2
import Derived.Deep.Cut
import Derived.OrdersHeld
import Derived.Tactics
import Derived.Test.YtdhoimjkgicneabRows
import Derived.WalkKit
/- An element of a row; a struct that is built; what the program writes of a memory. -/
namespace Go.Proofs.Ytdhoimjkgicneab
open Go Go.RowKit

theorem iTimer1 : ∀ w, (isAgg 47).run Try.prog w = .ok true w := fun _ => by kernel_rfl
theorem sTimer1 : ∀ w, (sizeOf 47).run Try.prog w = .ok 2 w := fun _ => by kernel_rfl
theorem iCounter1 : ∀ w, (isAgg 50).run Try.prog w = .ok true w := fun _ => by kernel_rfl
theorem sCounter1 : ∀ w, (sizeOf 50).run Try.prog w = .ok 3 w := fun _ => by kernel_rfl

theorem row_extract (f : Nat → Value) {n o m : Nat} (h : o + m ≤ n) : (rowOf f n).extract o (o + m) = rowOf (fun j => f (o + j)) m := by
  apply Array.ext_getElem?
  intro i
  unfold rowOf
  rw [Array.getElem?_extract]
  by_cases hi : i < m
  · rw [if_pos (by simp; omega)]
    simp [hi, show o + i < n by omega]
  · rw [if_neg (by simp; omega)]
    simp [hi]

theorem timer_at (D : Nat → Bool) (C : Nat → Nat) {k : Nat} (h : k < 16) (w : World) : (Instr.index 48 (.agg (rowOf (fTimer D C) 32)) (.int .i64 k)).run Try.prog w = .ok (.agg #[.bool (D k), .int .u16 (C k)]) w := by
  have e : (rowOf (fTimer D C) 32).extract (k * 2) (k * 2 + 2) = #[.bool (D k), .int .u16 (C k)] := by
    rw [row_extract _ (by omega)]
    show #[fTimer D C (k * 2 + 0), fTimer D C (k * 2 + 1)] = _
    rw [Nat.add_zero, fTimer_0, fTimer_1]
  have hk : (0 : Int) ≤ (k : Int) ∧ (k : Int) < (16 : Nat) := by omega
  simp only [Instr.index, asIntOf, Sem.run_bind, Sem.run_pure, Result.andThen_ok, run_underlying Try.underlying48, sTimer1, iTimer1, part, Int.toNat_natCast, if_pos hk, if_true, e]

theorem counter_at (D L : Nat → Bool) (C : Nat → Nat) {k : Nat} (h : k < 16) (w : World) : (Instr.index 51 (.agg (rowOf (fCounter D L C) 48)) (.int .i64 k)).run Try.prog w = .ok (.agg #[.bool (D k), .bool (L k), .int .u16 (C k)]) w := by
  have e : (rowOf (fCounter D L C) 48).extract (k * 3) (k * 3 + 3) = #[.bool (D k), .bool (L k), .int .u16 (C k)] := by
    rw [row_extract _ (by omega)]
    show #[fCounter D L C (k * 3 + 0), fCounter D L C (k * 3 + 1), fCounter D L C (k * 3 + 2)] = _
    rw [Nat.add_zero, fCounter_0, fCounter_1, fCounter_2]
  have hk : (0 : Int) ≤ (k : Int) ∧ (k : Int) < (16 : Nat) := by omega
  simp only [Instr.index, asIntOf, Sem.run_bind, Sem.run_pure, Result.andThen_ok, run_underlying Try.underlying51, sCounter1, iCounter1, part, Int.toNat_natCast, if_pos hk, if_true, e]

theorem list_index {ops : Array Oper} {Q : Exit → Act → World → Prop} {rest : List Oper} {o : Oper} {a : Act} {w : World} {t : TypeId} {x y : Operand} {u1 u2 u : Value}
    (ho : o.op = .index t x y) (hx : a.eval x = u1) (hy : a.eval y = u2) (hg : Region.wanted o (yielded ops a.tmps) = true)
    (h : (Instr.index t u1 u2).run Try.prog w = .ok u w) (hK : wpList Try.prog ops Q rest (a.put o.dst u) w) : wpList Try.prog ops Q (o :: rest) a w := by
  rw [wpList, if_pos hg]
  subst hx hy
  refine .inl ?_
  have e : (execOp a.eval o).run Try.prog w = .ok (.value u) w := by
    simp only [execOp, ho, Sem.run_bind, h, Result.andThen, Sem.run_pure]
  unfold Oper.wp
  rw [e]
  exact hK

set_option maxHeartbeats 400000 in
theorem impl_flags (a b : Bool) (w : World) : Calls Try.prog 49 #[.bool a, .bool b] w fun e w' => e = .returned (.int .u8 (bit2 a b : Nat)) ∧ w' = w := by
  cases a <;> cases b
  all_goals
    go_enter Try.func49, Try.ntmps49
    go_wp2_with fail
    go_ret
    exact ⟨rfl, rfl⟩

/-- While a memory is written: its first n bytes are out, the memory stands at its box. -/
structure Making (v : MemV) (n : Nat) (w wr : World) (o : Value) : Prop where
  own : Own (w.heap.size + 1) o (pre v n) wr
  b : Below w.heap.size w wr
  m : MemAt w.heap.size v wr

theorem le2 (v : MemV) {n x : Nat} (h0 : keptByte v n = x % 256) (h1 : keptByte v (n + 1) = x / 256 % 256) : pre v n ++ le 2 x = pre v (n + 2) := pre_two v n h0 h1
theorem le4 (v : MemV) : pre v 0 ++ le 4 (v.m / 4294967296) = pre v 4 := by
  have := le_snoc 0 (v.m / 4294967296)
  show [v.m / 4294967296 % 256, v.m / 4294967296 / 256 % 256, v.m / 4294967296 / 256 / 256 % 256, v.m / 4294967296 / 256 / 256 / 256 % 256] = [keptByte v 0, keptByte v 1, keptByte v 2, keptByte v 3]
  rw [kb_0, kb_1, kb_2, kb_3]

theorem Making.next {v : MemV} {n m : Nat} {w wr w' : World} {o o' : Value} {xs : List Nat} (h : Making v n w wr o) (hp : Putting (w.heap.size + 1) (pre v n ++ xs) wr w' o') (e : pre v n ++ xs = pre v m) : Making v m w w' o' := by
  rw [e] at hp
  exact ⟨hp.own, h.b.trans (hp.b.mono (by omega)), h.m.below hp.b (by omega)⟩

theorem Making.app {v : MemV} {n : Nat} {w wr w' : World} {o o' : Value} {y : Nat} (h : Making v n w wr o) (t : TypeId) (c : Array Value)
    (ho : Own (w.heap.size + 1) o' (pre v n ++ [y]) w') (hg : (wr.alloc (.cells c t)).grownBy w' o.ownBlock) (e : keptByte v n = y) : Making v (n + 1) w w' o' := by
  have hz : w.heap.size + 1 ≤ wr.heap.size := h.m.z
  have hp := Putting.more ⟨h.own, Below.refl _ _, hz⟩ t c ho hg
  exact h.next hp (by rw [← e, pre_succ])

theorem Making.box {v : MemV} {n : Nat} {w wr : World} {o : Value} (h : Making v n w wr o) (c : Array Value) (t : TypeId) : Making v n w (wr.alloc (.cells c t)) o ∧ o.ownBlock ≠ some wr.heap.size :=
  ⟨⟨World.ownsRow.alloc h.own _, h.b.alloc h.b.size _, h.m.below ((Below.refl wr.heap.size wr).alloc (Nat.le_refl _) _) h.m.z⟩, fun e => by have := (World.ownsRow.lt h.own _ e).2; omega⟩

theorem Making.set {v : MemV} {n b k : Nat} {w wr : World} {o u : Value} (h : Making v n w wr o) (hb : w.heap.size < b) (ho : o.ownBlock ≠ some b) : Making v n w (wr.setCell ⟨b, k, none⟩ u) o :=
  ⟨h.own.setCell ho _, h.b.setCell (by show _ ≤ b; omega) _, h.m.at_other (by omega)⟩

set_option maxRecDepth 100000 in
set_option maxHeartbeats 1600000 in
theorem impl_make (v : MemV) (w : World) (hv : v.Ok) :
    Calls Try.prog 22 #[.agg v.row] w fun e w' => ∃ o, e = .returned o ∧ Own w.heap.size o (pre v 134) w' ∧ Below w.heap.size w w' := by
  obtain ⟨i0, ih, iz0, iz1, iz2⟩ := info_parts info_byte
  have A0 : Hid (MemAt w.heap.size v (w.alloc (.cells v.row 57)) ∧ Below w.heap.size w (w.alloc (.cells v.row 57))) := ⟨MemAt.alloc v w _, (Below.refl _ _).alloc (Nat.le_refl _) _⟩
  go_enter Try.func22, Try.ntmps22
  go_wp2_with (at_make; refine wpList_make_own _ rfl _ _ 22 rfl (w.heap.size + 1) 5 i0 (.int .u8 0) 1 Try.underlying22 ih iz0 iz1 _ _ _ 134 rfl rfl rfl (by rw [iz2]; omega) (by unfold maxLen; omega) (by simp) ?_)
  intro w1 o1 g1
  have M : Making v 0 w w1 (.slice (some ⟨w.heap.size + 1, 0, none⟩) 0 134) := by
    have b1 : Below (w.heap.size + 1) (w.alloc (.cells v.row 57)) w1 := grown_below g1 (by simp) (by simp)
    exact ⟨o1, A0.out.2.trans (b1.mono (by omega)), A0.out.1.below b1 (by omega)⟩
  clear o1 g1 A0
  obtain ⟨o1, ho1⟩ : ∃ o1, o1 = Value.slice (some ⟨w.heap.size + 1, 0, none⟩) 0 134 := ⟨_, rfl⟩
  rw [← ho1] at M ⊢
  clear ho1
  obtain ⟨q, hq, q1, q2, q3⟩ : ∃ q : Nat, v.m / 4294967296 = q ∧ (v.m : Int) / 4294967296 = (q : Int) ∧ (q : Int) % 4294967296 = (q : Int) ∧ IntKind.u32.wrap (q : Int) = (q : Int) :=
    ⟨_, rfl, by omega, by have := hv.m; omega, by show ((v.m / 4294967296 : Nat) : Int) % 4294967296 = _; have := hv.m; omega⟩
  have HM : Hid (Making v 0 w w1 o1) := M
  have c2 := M.m.c 2 (by omega)
  rw [MemV.cell_m] at c2
  clear M
  go_wp2_with fail
  refine (out4 (w.heap.size + 1) q o1 (pre v 0) w1 HM.out.own (by simp [pre_len]) HM.out.m.z).mono ?_
  rintro e w2 ⟨o2, rfl, P2⟩
  have M := HM.out.next P2 (by rw [← hq]; exact le4 v)
  clear P2 HM c2 q1 q2 q3 hq
  have HM : Hid (Making v 4 w w2 o2) := M
  have c3 := M.m.c 3 (by omega)
  rw [MemV.cell_s] at c3
  clear M
  go_wp2_with fail
  refine (out2 (w.heap.size + 1) v.s o2 (pre v 4) w2 HM.out.own (by simp [pre_len]) HM.out.m.z).mono ?_
  rintro e w3 ⟨o3, rfl, P3⟩
  have M := HM.out.next P3 (le2 v (kb_4 v) (kb_5 v))
  clear P3 HM c3
  have L1 := load_row aTimer sTimer M.m.timers
  have HM : Hid (Making v 6 w w3 o3) := M
  clear M
  go_wp2_with (refine list_load (t := 48) (x := .pointer (some ⟨w.heap.size, 5, none⟩)) (u := .agg (rowOf (fTimer v.tD v.tC) 32)) rfl rfl rfl L1 ?_)
  clear L1
  go_loopw [3, 23] (fun ov iv wr => ∃ k : Nat, k ≤ 16 ∧ iv = .int .i64 k ∧ Making v (6 + k * 3) w wr ov) (fun _ iv _ => 16 - (intOf iv).toNat)
  case atStart => exact ⟨0, by omega, rfl, HM.out⟩
  case round =>
    clear HM
    obtain ⟨k, hk, rfl, M⟩ := hrel
    have HM : Hid (Making v (6 + k * 3) w wr u3) := M
    clear M
    by_cases hlt : k < 16
    · have hlt' : (k : Int) < 16 := by omega
      have ix := timer_at v.tD v.tC hlt wr
      obtain ⟨w4, hw4⟩ : ∃ w4, w4 = wr.alloc (.cells #[.bool (v.tD k), .int .u16 (v.tC k)] 47) := ⟨_, rfl⟩
      have HN : Hid (Making v (6 + k * 3) w w4 u3 ∧ u3.ownBlock ≠ some wr.heap.size) := hw4 ▸ HM.out.box _ _
      have b1 : w4.cell? ⟨wr.heap.size, 1, none⟩ = some (.int .u16 (v.tC k)) := by rw [hw4]; simp
      have HZ : Hid (w4.heap.size = wr.heap.size + 1) := by rw [hw4]; simp [Hid]
      have y0 : bit2 (v.tD k) false = bit1 (v.tD k) := by unfold bit2; rfl
      go_wp2_with (refine list_index (t := 48) rfl rfl rfl rfl ix ?_)
      refine (impl_flags (v.tD k) false _).mono ?_
      rintro e w5 ⟨rfl, rfl⟩
      rw [y0, ← hw4]
      clear ix hw4 HM y0
      go_wp2_with (at_builtin; refine list_app (w.heap.size + 1) (v := u3) (s := .slice (some ⟨w4.heap.size, 0, none⟩) 1 1) (xs := pre v (6 + k * 3)) (ys := [bit1 (v.tD k)]) rfl (.tmp 26) (.tmp 30) rfl rfl rfl (World.ownsRow.alloc HN.out.1.own _) ?c1 (by simp [pre_len]; omega) (by have := HN.out.1.m.z; simp; omega) ?_)
      case c1 => exact (bytes_one _ w4 5 1).resolve_right (by simp)
      intro o5 w5 p5 g5 a5
      have M5 := HN.out.1.app _ _ p5 g5 (kb_t0 v k hlt)
      have b5 : w5.cell? ⟨wr.heap.size, 1, none⟩ = some (.int .u16 (v.tC k)) := by rw [grown_cell g5 (by have := HZ.out; simp; omega) (fun e => HN.out.2 e.symm)]; exact (((Below.refl w4.heap.size w4).alloc (Nat.le_refl _) _).cell (p := ⟨wr.heap.size, 1, none⟩) (by have := HZ.out; show wr.heap.size < w4.heap.size; omega)).trans b1
      clear p5 g5 a5 HN b1 HZ
      have HM : Hid (Making v (6 + k * 3 + 1) w w5 o5) := M5
      clear M5
      go_wp2_with fail
      refine (out2 (w.heap.size + 1) (v.tC k) o5 (pre v (6 + k * 3 + 1)) w5 HM.out.own (by simp [pre_len]; omega) HM.out.m.z).mono ?_
      rintro e w6 ⟨o6, rfl, P6⟩
      have M6 := HM.out.next P6 (le2 v (kb_t1 v k hlt) (kb_t2 v k hlt))
      clear P6 HM b5
      have HM : Hid (Making v (6 + k * 3 + 1 + 2) w w6 o6) := M6
      clear M6
      go_wp2_with fail
      go_roundw
      case rel => exact ⟨k + 1, by omega, by go_num, by rw [show 6 + (k + 1) * 3 = 6 + k * 3 + 1 + 2 by omega]; exact HM.out⟩
      case measure => simp [intOf]; omega
    · obtain rfl : k = 16 := by omega
      have L1 := load_row aCounter sCounter HM.out.m.counters
      go_wp2_with (refine list_load (t := 51) (x := .pointer (some ⟨w.heap.size, 37, none⟩)) (u := .agg (rowOf (fCounter v.cD v.cL v.cC) 48)) rfl rfl rfl L1 ?_)
      clear L1
      go_loopw [3, 39] (fun ov iv wr => ∃ k : Nat, k ≤ 16 ∧ iv = .int .i64 k ∧ Making v (54 + k * 3) w wr ov) (fun _ iv _ => 16 - (intOf iv).toNat)
      case atStart => exact ⟨0, by omega, rfl, HM.out⟩
      case round =>
        clear HM
        obtain ⟨k, hk, rfl, M⟩ := hrel
        have HM : Hid (Making v (54 + k * 3) w wr u3) := M
        clear M
        by_cases hlt : k < 16
        · have hlt' : (k : Int) < 16 := by omega
          have ix := counter_at v.cD v.cL v.cC hlt wr
          obtain ⟨w4, hw4⟩ : ∃ w4, w4 = wr.alloc (.cells #[.bool (v.cD k), .bool (v.cL k), .int .u16 (v.cC k)] 50) := ⟨_, rfl⟩
          have HN : Hid (Making v (54 + k * 3) w w4 u3 ∧ u3.ownBlock ≠ some wr.heap.size) := hw4 ▸ HM.out.box _ _
          have b1 : w4.cell? ⟨wr.heap.size, 2, none⟩ = some (.int .u16 (v.cC k)) := by rw [hw4]; simp
          have HZ : Hid (w4.heap.size = wr.heap.size + 1) := by rw [hw4]; simp [Hid]
          go_wp2_with (refine list_index (t := 51) rfl rfl rfl rfl ix ?_)
          refine (impl_flags (v.cD k) (v.cL k) _).mono ?_
          rintro e w5 ⟨rfl, rfl⟩
          rw [← hw4]
          clear ix hw4 HM
          go_wp2_with (at_builtin; refine list_app (w.heap.size + 1) (v := u3) (s := .slice (some ⟨w4.heap.size, 0, none⟩) 1 1) (xs := pre v (54 + k * 3)) (ys := [bit2 (v.cD k) (v.cL k)]) rfl (.tmp 42) (.tmp 48) rfl rfl rfl (World.ownsRow.alloc HN.out.1.own _) ?c1 (by simp [pre_len]; omega) (by have := HN.out.1.m.z; simp; omega) ?_)
          case c1 => exact (bytes_one _ w4 5 1).resolve_right (by simp)
          intro o5 w5 p5 g5 a5
          have M5 := HN.out.1.app _ _ p5 g5 (kb_c0 v k hlt)
          have b5 : w5.cell? ⟨wr.heap.size, 2, none⟩ = some (.int .u16 (v.cC k)) := by rw [grown_cell g5 (by have := HZ.out; simp; omega) (fun e => HN.out.2 e.symm)]; exact (((Below.refl w4.heap.size w4).alloc (Nat.le_refl _) _).cell (p := ⟨wr.heap.size, 2, none⟩) (by have := HZ.out; show wr.heap.size < w4.heap.size; omega)).trans b1
          clear p5 g5 a5 HN b1 HZ
          have HM : Hid (Making v (54 + k * 3 + 1) w w5 o5) := M5
          clear M5
          go_wp2_with fail
          refine (out2 (w.heap.size + 1) (v.cC k) o5 (pre v (54 + k * 3 + 1)) w5 HM.out.own (by simp [pre_len]; omega) HM.out.m.z).mono ?_
          rintro e w6 ⟨o6, rfl, P6⟩
          have M6 := HM.out.next P6 (le2 v (kb_c1 v k hlt) (kb_c2 v k hlt))
          clear P6 HM b5
          have HM : Hid (Making v (54 + k * 3 + 1 + 2) w w6 o6) := M6
          clear M6
          go_wp2_with fail
          go_roundw
          case rel => exact ⟨k + 1, by omega, by go_num, by rw [show 54 + (k + 1) * 3 = 54 + k * 3 + 1 + 2 by omega]; exact HM.out⟩
          case measure => simp [intOf]; omega
        · obtain rfl : k = 16 := by omega
          go_wp2_with fail
          go_loopw [3, 58] (fun ov iv wr => ∃ k : Nat, k ≤ 16 ∧ iv = .int .i64 k ∧ Making v (102 + k * 2) w wr ov) (fun _ iv _ => 16 - (intOf iv).toNat)
          case atStart => exact ⟨0, by omega, rfl, HM.out⟩
          case round =>
            clear HM
            obtain ⟨k, hk, rfl, M⟩ := hrel
            have HM : Hid (Making v (102 + k * 2) w wr u3) := M
            clear M
            by_cases hlt : k < 16
            · have hlt' : (k : Int) < 16 := by omega
              have c3 : wr.cell? ⟨w.heap.size, 101 + k, none⟩ = some (.int .i16 (v.d (16 + k))) := by
                have := HM.out.m.c (85 + (16 + k)) (by omega)
                rw [v.cell_d _ (by omega)] at this
                rw [show 101 + k = 85 + (16 + k) by omega]
                exact this
              obtain ⟨y, hy, y1, y2⟩ : ∃ y : Nat, unsg (v.d (16 + k)) = y ∧ v.d (16 + k) % 65536 = (y : Int) ∧ IntKind.u16.wrap (v.d (16 + k)) = (y : Int) := ⟨_, rfl, by unfold unsg; omega, by show v.d (16 + k) % 65536 = _; unfold unsg; omega⟩
              go_wp2_with fail
              refine (out2 (w.heap.size + 1) y u3 (pre v (102 + k * 2)) wr HM.out.own (by simp [pre_len]; omega) HM.out.m.z).mono ?_
              rintro e w6 ⟨o6, rfl, P6⟩
              have M6 := HM.out.next P6 (le2 v (by rw [kb_d0, hy]) (by rw [kb_d1, hy]))
              clear P6 HM c3 y1 y2 hy
              have HM : Hid (Making v (102 + k * 2 + 2) w w6 o6) := M6
              clear M6
              go_wp2_with fail
              go_roundw
              case rel =>
                refine ⟨_, _, _, _, _, _, _, _, _, _, _, ⟨k + 1, by omega, ?_, by rw [show 102 + (k + 1) * 2 = 102 + k * 2 + 2 by omega]; exact HM.out⟩, rfl⟩
                go_num
              case measure => simp [intOf]; omega
            · obtain rfl : k = 16 := by omega
              go_wp2_with fail
              go_ret
              exact ⟨_, rfl, HM.out.own.mono (by omega), HM.out.b⟩

end Go.Proofs.Ytdhoimjkgicneab

/- A region that draws its order, walked with a condition that is held behind each of its operations: what yields its value in every world that meets it is taken first. -/
namespace Go.Proofs.Ytdhoimjkgicneab
open Go Go.RowKit

section
variable {P : Program} {ops : Array Oper} {Q : Exit → Act → World → Prop} {md : Region.Mode} {S : World → Prop} {fuel : Nat} {ls : Array Bool} {a : Act} {w : World}

theorem held_any {i : Nat} {o : Oper} {v : Value} (hi : ops[i]? = some o) (hs : Region.noSelect ops = true) (hf : Region.free md ops ls i = true) (hr : (Region.ready md ops ls).contains i = true)
    (hg : Region.wanted o (yielded ops a.tmps) = true) (hQ : ∀ c a w, Q (.panic c) (a.put o.dst v) w → Q (.panic c) a w) (hv : ∀ w, S w → (execOp a.eval o).run P w = .ok (.value v) w) (hS : S w)
    (h : wpAnyH P md ops Q S fuel (ls.setIfInBounds i true) (a.put o.dst v) w) : wpAnyH P md ops Q S (fuel + 1) ls a w :=
  wpAnyH_take hi hs hf hr hQ (Or.inl ⟨hg, hv⟩) hS h

theorem held_load {i : Nat} {o : Oper} {t : TypeId} {p : Operand} {x v : Value} (hi : ops[i]? = some o) (ho : o.op = .load t p) (hx : a.eval p = x) (hs : Region.noSelect ops = true) (hf : Region.free md ops ls i = true) (hr : (Region.ready md ops ls).contains i = true)
    (hg : Region.wanted o (yielded ops a.tmps) = true) (hQ : ∀ c a w, Q (.panic c) (a.put o.dst v) w → Q (.panic c) a w) (hv : ∀ w, S w → (Instr.loadAt t x).run P w = .ok v w) (hS : S w)
    (h : wpAnyH P md ops Q S fuel (ls.setIfInBounds i true) (a.put o.dst v) w) : wpAnyH P md ops Q S (fuel + 1) ls a w := by
  refine held_any hi hs hf hr hg hQ (fun w hw => ?_) hS h
  subst hx
  simp only [execOp, ho, Sem.run_bind, hv w hw, Result.andThen, Sem.run_pure]

theorem op_is {i : Nat} {o : Oper} {K : Act → World → Prop} (hi : ops[i]? = some o) (hg : Region.wanted o (yielded ops a.tmps) = true) (h : o.wp P a w K Q) : wpOp P ops Q i K a w := by
  unfold wpOp
  simp only [hi, hg, if_true]
  exact .inl h

theorem held_one {i : Nat} (hr : Region.ready md ops ls = [i]) (h : wpOp P ops Q i (fun a' w' => S w' ∧ wpAnyH P md ops Q S fuel (ls.setIfInBounds i true) a' w') a w) : wpAnyH P md ops Q S (fuel + 1) ls a w :=
  wpAnyH_all hr (by simp) (fun j hj => by
    have : j = i := by simpa using hj
    subst this; exact h)
theorem held_two {i j : Nat} (hr : Region.ready md ops ls = [i, j]) (h : wpOp P ops Q i (fun a' w' => S w' ∧ wpAnyH P md ops Q S fuel (ls.setIfInBounds i true) a' w') a w)
    (g : wpOp P ops Q j (fun a' w' => S w' ∧ wpAnyH P md ops Q S fuel (ls.setIfInBounds j true) a' w') a w) : wpAnyH P md ops Q S (fuel + 1) ls a w :=
  wpAnyH_all hr (by simp) (fun k hk => by
    have : k = i ∨ k = j := by simpa using hk
    rcases this with rfl | rfl
    · exact h
    · exact g)

theorem held_call {i : Nat} {o : Oper} {f : FuncId} {args : Array Value} {K : Act → World → Prop} (hi : ops[i]? = some o) (hg : Region.wanted o (yielded ops a.tmps) = true)
    (he : (execOp a.eval o).run P w = .ok (.enter f args) w) (h : Calls P f args w fun e w' => ∃ u, e = .returned u ∧ K (a.put o.dst u) w') : wpOp P ops Q i K a w := by
  refine op_is hi hg ?_
  unfold Oper.wp
  rw [he]
  simp only [Oper.upon]
  exact h.mono fun e w' ⟨u, hu, hk⟩ => by subst hu; exact hk
theorem held_value {i : Nat} {o : Oper} {u : Value} {w' : World} {K : Act → World → Prop} (hi : ops[i]? = some o) (hg : Region.wanted o (yielded ops a.tmps) = true)
    (he : (execOp a.eval o).run P w = .ok (.value u) w') (h : K (a.put o.dst u) w') : wpOp P ops Q i K a w := by
  refine op_is hi hg ?_
  unfold Oper.wp
  rw [he]
  exact h
theorem held_store {i : Nat} {o : Oper} {t : TypeId} {p y : Operand} {x u : Value} {w' : World} {K : Act → World → Prop} (hi : ops[i]? = some o) (ho : o.op = .store t p y) (hx : a.eval p = x) (hu : a.eval y = u) (hg : Region.wanted o (yielded ops a.tmps) = true)
    (he : (Instr.storeAt t x u).run P w = .ok () w') (h : K (a.put o.dst undef) w') : wpOp P ops Q i K a w := by
  refine op_is hi hg ?_
  subst hx hu
  have e : (execOp a.eval o).run P w = .ok .skip w' := by
    simp only [execOp, ho, Sem.run_bind, he, Result.andThen, Sem.run_pure]
  unfold Oper.wp
  rw [e]
  exact h
end

end Go.Proofs.Ytdhoimjkgicneab
