/- Texts of this proof laid together: MyR, MyB, MrC. -/
import Derived.Test.YtdhoimjkgicneaaGreatDoorLot35
import Derived.Test.YtdhoimjkgicneaaGreatDoorLot1
import Derived.Deep.Cut
import Derived.Test.YtdhoimjkgicneaaGreatDoorLot27
import Derived.Test.YtdhoimjkgicneaaGreatDoorLot17
import Derived.Test.YtdhoimjkgicneaaGreatDoorLot12
import Derived.Test.YtdhoimjkgicneaaGreatDoorLot28
import Derived.Deep.RegionHeld
/- The arrays of a memory as values: read whole, one element of them, compared with nothing. -/
namespace Go.Proofs.YtdhoimjkgicneaaGreatDoor
open Go Go.RowKit

theorem iTimerM : ∀ w, (isAgg 27).run Tryz.prog w = .ok true w := fun _ => by kernel_rfl
theorem sTimerM : ∀ w, (sizeOf 27).run Tryz.prog w = .ok 2 w := fun _ => by kernel_rfl
theorem iCounterM : ∀ w, (isAgg 30).run Tryz.prog w = .ok true w := fun _ => by kernel_rfl
theorem sCounterM : ∀ w, (sizeOf 30).run Tryz.prog w = .ok 3 w := fun _ => by kernel_rfl
theorem iTimersM : ∀ w, (isAgg 28).run Tryz.prog w = .ok true w := fun _ => by kernel_rfl
theorem sTimersM : ∀ w, (sizeOf 28).run Tryz.prog w = .ok 32 w := fun _ => by kernel_rfl
theorem iCountersM : ∀ w, (isAgg 31).run Tryz.prog w = .ok true w := fun _ => by kernel_rfl
theorem sCountersM : ∀ w, (sizeOf 31).run Tryz.prog w = .ok 48 w := fun _ => by kernel_rfl
theorem iIntsM : ∀ w, (isAgg 33).run Tryz.prog w = .ok true w := fun _ => by kernel_rfl
theorem sIntsM : ∀ w, (sizeOf 33).run Tryz.prog w = .ok 32 w := fun _ => by kernel_rfl
theorem iRealsM : ∀ w, (isAgg 35).run Tryz.prog w = .ok true w := fun _ => by kernel_rfl
theorem sRealsM : ∀ w, (sizeOf 35).run Tryz.prog w = .ok 16 w := fun _ => by kernel_rfl

theorem row_extractM (f : Nat → Value) {n o m : Nat} (h : o + m ≤ n) : (rowOf f n).extract o (o + m) = rowOf (fun j => f (o + j)) m := by
  apply Array.ext_getElem?
  intro i
  unfold rowOf
  rw [Array.getElem?_extract]
  by_cases hi : i < m
  · rw [if_pos (by simp; omega)]
    simp [hi, show o + i < n by omega]
  · rw [if_neg (by simp; omega)]
    simp [hi]

theorem timerI (D : Nat → Bool) (C : Nat → Nat) {k : Nat} (h : k < 16) (w : World) : (Instr.index 28 (.agg (rowOf (fTimer D C) 32)) (.int .i64 k)).run Tryz.prog w = .ok (.agg #[.bool (D k), .int .u16 (C k)]) w := by
  have e : (rowOf (fTimer D C) 32).extract (k * 2) (k * 2 + 2) = #[.bool (D k), .int .u16 (C k)] := by
    rw [row_extractM _ (by omega)]
    show #[fTimer D C (k * 2 + 0), fTimer D C (k * 2 + 1)] = _
    rw [Nat.add_zero, fTimer_0, fTimer_1]
  have hk : (0 : Int) ≤ (k : Int) ∧ (k : Int) < (16 : Nat) := by omega
  simp only [Instr.index, asIntOf, Sem.run_bind, Sem.run_pure, Result.andThen_ok, run_underlying Tryz.underlying28, sTimerM, iTimerM, part, Int.toNat_natCast, if_pos hk, if_true, e]
theorem counterI (D L : Nat → Bool) (C : Nat → Nat) {k : Nat} (h : k < 16) (w : World) : (Instr.index 31 (.agg (rowOf (fCounter D L C) 48)) (.int .i64 k)).run Tryz.prog w = .ok (.agg #[.bool (D k), .bool (L k), .int .u16 (C k)]) w := by
  have e : (rowOf (fCounter D L C) 48).extract (k * 3) (k * 3 + 3) = #[.bool (D k), .bool (L k), .int .u16 (C k)] := by
    rw [row_extractM _ (by omega)]
    show #[fCounter D L C (k * 3 + 0), fCounter D L C (k * 3 + 1), fCounter D L C (k * 3 + 2)] = _
    rw [Nat.add_zero, fCounter_0, fCounter_1, fCounter_2]
  have hk : (0 : Int) ≤ (k : Int) ∧ (k : Int) < (16 : Nat) := by omega
  simp only [Instr.index, asIntOf, Sem.run_bind, Sem.run_pure, Result.andThen_ok, run_underlying Tryz.underlying31, sCounterM, iCounterM, part, Int.toNat_natCast, if_pos hk, if_true, e]
theorem intI (d : Nat → Int) {k : Nat} (h : k < 32) (w : World) : (Instr.index 33 (.agg (rowOf (fInt d) 32)) (.int .i64 k)).run Tryz.prog w = .ok (.int .i16 (d k)) w := by
  have e2 : (rowOf (fInt d) 32)[k]? = some (.int .i16 (d k)) := by rw [rowOf_get _ h]; rfl
  simp [Instr.index, asIntOf, Sem.run_bind, Sem.run_pure, Result.andThen_ok, run_underlying Tryz.underlying33, part, e2]
  intro h'
  omega
theorem realI (r : Nat → Nat) {k : Nat} (h : k < 16) (w : World) : (Instr.index 35 (.agg (rowOf (fReal r) 16)) (.int .i64 k)).run Tryz.prog w = .ok (.float .f64 (r k)) w := by
  have e2 : (rowOf (fReal r) 16)[k]? = some (.float .f64 (r k)) := by rw [rowOf_get _ h]; rfl
  simp [Instr.index, asIntOf, Sem.run_bind, Sem.run_pure, Result.andThen_ok, run_underlying Tryz.underlying35, part, e2]
  intro h'
  omega

section
variable {b : Nat} {v : MemV} {w : World}
theorem load_timersM (h : MemAt b v w) : (Instr.loadAt 28 (.pointer (some ⟨b, 5, none⟩))).run Tryz.prog w = .ok (.agg (rowOf (fTimer v.tD v.tC) 32)) w := load_row iTimersM sTimersM ((h.sub (o := 5) (n := 32) (by omega)).congr fun _ hk => cell_timer hk)
theorem load_countersM (h : MemAt b v w) : (Instr.loadAt 31 (.pointer (some ⟨b, 37, none⟩))).run Tryz.prog w = .ok (.agg (rowOf (fCounter v.cD v.cL v.cC) 48)) w := load_row iCountersM sCountersM ((h.sub (o := 37) (n := 48) (by omega)).congr fun _ hk => cell_counter hk)
theorem load_intsM (h : MemAt b v w) : (Instr.loadAt 33 (.pointer (some ⟨b, 85, none⟩))).run Tryz.prog w = .ok (.agg (rowOf (fInt v.d) 32)) w := load_row iIntsM sIntsM ((h.sub (o := 85) (n := 32) (by omega)).congr fun _ hk => cell_int' hk)
theorem load_realsM (h : MemAt b v w) : (Instr.loadAt 35 (.pointer (some ⟨b, 117, none⟩))).run Tryz.prog w = .ok (.agg (rowOf (fReal v.r) 16)) w := load_row iRealsM sRealsM ((h.sub (o := 117) (n := 16) (by omega)).congr fun _ hk => cell_real' hk)
end

theorem list_indexM {ops : Array Oper} {Q : Exit → Act → World → Prop} {rest : List Oper} {o : Oper} {a : Act} {w : World} {t : TypeId} {x y : Operand} {u1 u2 u : Value}
    (ho : o.op = .index t x y) (hx : a.eval x = u1) (hy : a.eval y = u2) (hg : Region.wanted o (yielded ops a.tmps) = true)
    (h : (Instr.index t u1 u2).run Tryz.prog w = .ok u w) (hK : wpList Tryz.prog ops Q rest (a.put o.dst u) w) : wpList Tryz.prog ops Q (o :: rest) a w := by
  rw [wpList, if_pos hg]
  subst hx hy
  refine .inl ?_
  have e : (execOp a.eval o).run Tryz.prog w = .ok (.value u) w := by
    simp only [execOp, ho, Sem.run_bind, h, Result.andThen, Sem.run_pure]
  unfold Oper.wp
  rw [e]
  exact hK

theorem neq_timer (D : Bool) (C : Nat) (w : World) : (binOp .neq 27 (.agg #[.bool D, .int .u16 C]) (.agg #[.bool false, .int .u16 0])).run Tryz.prog w = .ok (.bool (D || C != 0)) w := by
  cases D
  · by_cases h : C = 0
    · subst h; kernel_rfl
    · simp [go_sem, h]
  · simp [go_sem]

end Go.Proofs.YtdhoimjkgicneaaGreatDoor

/- The program's words of a memory: a number with its marks, a named value, the words of bits. -/
namespace Go.Proofs.YtdhoimjkgicneaaGreatDoor
open Go Go.RowKit

set_option maxHeartbeats 800000 in
theorem impl_marked (c : Nat) (d l : Bool) (w : World) (T : Tabs w) (hc : c < 65536) :
    Calls Tryz.prog 33 #[.int .u16 c, .bool d, .bool l] w fun e w' => e = .returned (.string ⟨(countL c d l).toArray⟩) ∧ Below w.heap.size w w' := by
  have CI := impl_itoaN c w (by omega) T
  have l1 := dd_len5 hc
  clear T
  cases d <;> cases l
  all_goals
    go_enter Tryz.func33, Tryz.ntmps33
    go_wp2_with fail
    refine CI.mono ?_
    rintro e w1 ⟨rfl, b1⟩
    have H1 : Hid (Below w.heap.size w w1) := b1
    clear b1 CI
    go_wp2_with fail
    go_ret
    refine ⟨ret_str ?_, H1.out⟩
    first
      | (simp [countL, markL]; done)
      | (rw [show (⟨#[33]⟩ : ByteArray) = ⟨([33] : List UInt8).toArray⟩ from rfl, show (⟨#[43]⟩ : ByteArray) = ⟨([43] : List UInt8).toArray⟩ from rfl, str_cat, str_cat]; simp [countL, markL]; done)
      | (rw [show (⟨#[33]⟩ : ByteArray) = ⟨([33] : List UInt8).toArray⟩ from rfl, str_cat]; simp [countL, markL]; done)
      | (rw [show (⟨#[43]⟩ : ByteArray) = ⟨([43] : List UInt8).toArray⟩ from rfl, str_cat]; simp [countL, markL])

set_option maxHeartbeats 800000 in
theorem impl_named (kd n : Nat) (val : List UInt8) (w : World) (T : Tabs w) (h1 : 1 ≤ kd) (h2 : kd ≤ 10) (hn : (n : Int) < sizeZ kd) (hv : val.length ≤ 1000) :
    Calls Tryz.prog 32 #[.int .i64 kd, .int .i64 n, .string ⟨val.toArray⟩] w fun e w' => e = .returned (.string ⟨(letterL kd ++ (Lib.decDigits n ++ 61 :: val)).toArray⟩) ∧ Below w.heap.size w w' := by
  have hz := sizeZ_bd (kd : Int)
  have CT := impl_text kd n 0 w T
  rw [text_dev (by unfold okB; rw [if_neg (by omega), if_neg (by omega), if_neg (by omega)]; simp; omega) (by omega), Lib.itoa_nonneg] at CT
  have l1 := letterL_len (kd : Int)
  have l2 := dd_len 2 n (by omega)
  clear T hz hn
  go_enter Tryz.func32, Tryz.ntmps32
  go_wp2_with fail
  refine CT.mono ?_
  rintro e w1 ⟨rfl, b1⟩
  have H1 : Hid (Below w.heap.size w w1) := b1
  clear b1 CT
  go_wp2_with fail
  go_ret
  refine ⟨ret_str ?_, H1.out⟩
  rw [show (⟨#[61]⟩ : ByteArray) = ⟨([61] : List UInt8).toArray⟩ from rfl, str_cat, str_cat]
  simp

theorem bit_wordM (k n : Nat) (_h1 : 1 ≤ k) (h2 : k ≤ 5) : (⟨k, n, 0, false, false, 0, []⟩ : Wd).text = letterL k ++ (Lib.decDigits n ++ []) := by
  unfold Wd.text Wd.tail
  simp only
  rw [if_neg (by omega), if_neg (by omega), if_neg (by omega), if_pos h2]

/-- What stands while words are gathered. -/
def WS (v : MemV) (w : World) (s : Value) (L : List Wd) (wr : World) : Prop := OwnS (w.heap.size + 1) s (L.map Wd.text) wr ∧ MemAt w.heap.size v wr ∧ Below w.heap.size w wr

theorem WS.below {v : MemV} {w wr wr' : World} {s : Value} {L : List Wd} (h : WS v w s L wr) (b : Below wr.heap.size wr wr') : WS v w s L wr' :=
  ⟨h.1.below b (Nat.le_refl _), h.2.1.below b h.2.1.z, h.2.2.trans (b.mono h.2.2.size)⟩
theorem WS.app {v : MemV} {w wr wr' : World} {s s' : Value} {L : List Wd} {x : Wd} {ss : List (List UInt8)} (h : WS v w s L wr) (ho : OwnS (w.heap.size + 1) s' ss wr') (e : ss = L.map Wd.text ++ [x.text]) (hg : wr.grownBy wr' s.ownBlock) : WS v w s' (L ++ [x]) wr' := by
  have hz := h.2.1.z
  have b1 : Below (w.heap.size + 1) wr wr' := grownS_below hg (by omega) (fun g hg => (h.1.lt hg).1)
  exact ⟨by rw [List.map_append, List.map_singleton, ← e]; exact ho, h.2.1.below b1 (by omega), h.2.2.trans (b1.mono (by omega))⟩
theorem WS.first (v : MemV) (w : World) (t : TypeId) : WS v w (.slice none 0 0) [] (w.alloc (.cells v.row t)) := ⟨ownS_nil _ _, MemAt.alloc v w t, (Below.refl _ _).alloc (Nat.le_refl _) _⟩
theorem WS.size {v : MemV} {w wr : World} {s : Value} {L : List Wd} (h : WS v w s L wr) : ∃ (a : Option Addr) (cap : Nat), s = .slice a L.length cap := by
  obtain ⟨a, cap, e⟩ := ownS_size h.1
  exact ⟨a, cap, by rw [e, List.length_map]⟩

end Go.Proofs.YtdhoimjkgicneaaGreatDoor

/- The specification's l6Cut and l6Words: a text cut at its spaces, and the words that are not empty. -/
namespace Go.Proofs.YtdhoimjkgicneaaGreatDoor
open Go Go.RowKit

theorem splitS_count : ∀ (l : List UInt8), (splitS l).length ≤ l.length + 1
  | [] => by simp [splitS]
  | c :: cs => by
    have ih := splitS_count cs
    rw [splitS]
    split
    · simp; omega
    · split
      · simp
      · rename_i w ws e
        rw [e] at ih
        simp at ih ⊢
        omega

/-- How far a text is cut: to place k, what is not cut off yet begins at place f. -/
def CutI (l : List UInt8) (k f : Nat) (D : List (List UInt8)) : Prop :=
  (k ≤ l.length ∧ f ≤ k ∧ (32 : UInt8) ∉ (l.take k).drop f ∧ splitS l = D ++ splitS (l.drop f)) ∨ (k = l.length + 1 ∧ splitS l = D)

theorem cutI_start (l : List UInt8) : CutI l 0 0 [] := Or.inl ⟨Nat.zero_le _, Nat.le_refl _, by simp, by simp⟩

theorem cutS_at {l : List UInt8} {k f : Nat} (hk : k < l.length) (hf : f ≤ k) {c : UInt8} (hc : l[k]? = some c) : l.drop f = (l.take k).drop f ++ c :: l.drop (k + 1) := by
  have h1 : l = l.take k ++ c :: l.drop (k + 1) := by
    obtain ⟨h2, h3⟩ := List.getElem?_eq_some_iff.1 hc
    rw [← h3, List.getElem_cons_drop, List.take_append_drop]
  have h2 : (l.take k).length = k := by simp; omega
  have h3 : l.drop f = (l.take k ++ c :: l.drop (k + 1)).drop f := congrArg (List.drop f) h1
  rw [h3, List.drop_append_of_le_length (by omega)]

theorem cutI_sp {l : List UInt8} {k f : Nat} {D : List (List UInt8)} (h : CutI l k f D) (hk : k < l.length) (hc : l[k]? = some 32) : CutI l (k + 1) (k + 1) (D ++ [(l.take k).drop f]) := by
  rcases h with ⟨-, h2, h3, h4⟩ | ⟨h1, -⟩
  · refine Or.inl ⟨hk, Nat.le_refl _, by simp, ?_⟩
    rw [h4, cutS_at hk h2 hc, splitS_cons h3]
    simp
  · omega

theorem cutI_ns {l : List UInt8} {k f : Nat} {D : List (List UInt8)} {c : UInt8} (h : CutI l k f D) (hk : k < l.length) (hc : l[k]? = some c) (hn : c ≠ 32) : CutI l (k + 1) f D := by
  rcases h with ⟨-, h2, h3, h4⟩ | ⟨h1, -⟩
  · refine Or.inl ⟨hk, by omega, ?_, h4⟩
    have e : l.take (k + 1) = l.take k ++ [c] := by rw [List.take_add_one, hc]; rfl
    have hl : (l.take k).length = k := by simp; omega
    rw [e, List.drop_append_of_le_length (by omega)]
    intro hm
    rcases List.mem_append.1 hm with hm | hm
    · exact h3 hm
    · have : (32 : UInt8) = c := by simpa using hm
      exact hn this.symm
  · omega

theorem cutI_end {l : List UInt8} {f : Nat} {D : List (List UInt8)} (h : CutI l l.length f D) : CutI l (l.length + 1) (l.length + 1) (D ++ [(l.take l.length).drop f]) := by
  rcases h with ⟨-, h2, h3, h4⟩ | ⟨h1, -⟩
  · refine Or.inr ⟨rfl, ?_⟩
    rw [List.take_length] at h3 ⊢
    rw [h4, splitS_one h3]
  · omega

theorem cutI_len {l : List UInt8} {k f : Nat} {D : List (List UInt8)} (h : CutI l k f D) : D.length ≤ l.length + 1 := by
  have h0 := splitS_count l
  rcases h with ⟨-, -, -, h⟩ | ⟨-, h⟩
  · rw [h] at h0
    simp at h0
    omega
  · rw [← h]; exact h0

/-- Strings that are owned, in a world that grew. -/
def OwnL (w : World) (o : Value) (D : List (List UInt8)) (wr : World) : Prop := OwnS w.heap.size o D wr ∧ Below w.heap.size w wr

theorem OwnL.app {w wr wr' : World} {o o' : Value} {D E : List (List UInt8)} (h : OwnL w o D wr) (ho : OwnS w.heap.size o' E wr') (hg : wr.grownBy wr' o.ownBlock) : OwnL w o' E wr' := by
  have b1 : Below w.heap.size wr wr' := grownS_below hg h.2.size (fun g hg => (h.1.lt hg).1)
  exact ⟨ho, h.2.trans b1⟩

set_option maxHeartbeats 1000000 in
theorem spec_cut6 (s : ByteArray) (w : World) (hs : s.size ≤ 6000) :
    Calls Tryz.prog 53 #[.string s, .int .u8 32] w fun e w' => ∃ o, e = .returned o ∧ OwnL w o (splitS s.data.toList) w' := by
  have hl : s.data.toList.length = s.size := by rw [Array.length_toList]; rfl
  go_enter Tryz.func53, Tryz.ntmps53
  have H0 : Hid (OwnL w (.slice (some ⟨w.heap.size, 0, none⟩) 0 0) [] (w.alloc (.cells #[] 9))) := ⟨World.ownsRow_made w #[] 0 (Nat.le_refl _) (by decide) rfl, (Below.refl _ _).alloc (Nat.le_refl _) _⟩
  go_wp2_with fail
  generalize w.alloc (.cells #[] 9) = w0 at H0 ⊢
  go_loopw [5, 6, 7] (fun o f i wr => ∃ (k g : Nat) (D : List (List UInt8)), k ≤ s.size + 1 ∧ g ≤ s.size + 1 ∧ f = .int .i64 g ∧ i = .int .i64 k ∧ CutI s.data.toList k g D ∧ OwnL w o D wr) (fun _ _ i _ => s.size + 1 - (intOf i).toNat)
  case atStart => exact ⟨0, 0, [], by omega, by omega, rfl, rfl, cutI_start _, H0.out⟩
  case round =>
    clear H0
    obtain ⟨k, g, D, hk, hg, rfl, rfl, hc, hO⟩ := hrel
    have HC : Hid (CutI s.data.toList k g D) := hc
    have HO : Hid (OwnL w u5 D wr) := hO
    have hD : D.length ≤ 6001 := by have := cutI_len hc; omega
    clear hc hO
    by_cases hlt : k < s.size
    · have hgk : g ≤ k := by
        rcases HC.out with ⟨-, h, -⟩ | ⟨h, -⟩ <;> omega
      have hck : s.data.toList[k]? = some s[k] := by
        rw [List.getElem?_eq_getElem (by omega)]
        rfl
      cases hc : (s[k].toNat : Int) == 32 with
      | true =>
        have hc32 : s[k] = 32 := UInt8.toNat_inj.1 (by have := hc; simp at this; show s[k].toNat = 32; omega)
        obtain ⟨x, hx⟩ : ∃ x, x = (s.data.toList.take k).drop g := ⟨_, rfl⟩
        have hxe : s.extract g k = ⟨x.toArray⟩ := by
          rw [hx]
          apply ByteArray.ext
          apply Array.toList_inj.1
          have := ext_take s.data.toList g k
          have e : (⟨s.data.toList.toArray⟩ : ByteArray) = s := by simp
          rw [e] at this
          rw [this]
        have hbw : Below wr.heap.size wr (wr.alloc (.cells #[.string ⟨x.toArray⟩] 9)) := (Below.refl _ _).alloc (Nat.le_refl _) _
        have HU : Hid (OwnS w.heap.size u5 D (wr.alloc (.cells #[.string ⟨x.toArray⟩] 9))) := HO.out.1.below hbw (Nat.le_refl _)
        have OL : Hid (OwnL w u5 D (wr.alloc (.cells #[.string ⟨x.toArray⟩] 9))) := ⟨HU.out, HO.out.2.trans (hbw.mono HO.out.2.size)⟩
        have hwz := HO.out.2.size
        clear hbw
        have HCN : Hid (CutI s.data.toList (k + 1) (k + 1) (D ++ [x])) := by
          show CutI s.data.toList (k + 1) (k + 1) (D ++ [x])
          rw [hx]
          exact cutI_sp HC.out (by omega) (by rw [hck, hc32])
        clear hx hck hc32 HC HO
        go_wp2_with (at_builtin; refine list_appS w.heap.size (v := u5) (s := .slice (some ⟨wr.heap.size, 0, none⟩) 1 1) (xs := D) (ys := [x]) rfl (.tmp 26) (.tmp 31) rfl rfl rfl HU.out ?c1 (by simp only [List.length_singleton]; omega) (by simp; omega) ?_)
        case c1 => exact one_str x wr 9
        intro o2 w2 own2 g2
        have HN : Hid (OwnL w o2 (D ++ [x]) w2) := OL.out.app own2 g2
        clear own2 g2
        go_wp2_with fail
        go_roundw
        case rel => exact ⟨k + 1, k + 1, D ++ [x], by omega, by omega, by go_num, by go_num, HCN.out, HN.out⟩
        case measure => simp [intOf]; omega
      | false =>
        have hc32 : s[k] ≠ 32 := by
          intro e
          rw [e] at hc
          revert hc
          decide
        have HCN : Hid (CutI s.data.toList (k + 1) g D) := cutI_ns HC.out (by omega) hck hc32
        clear hck hc32 HC
        go_wp2_with fail
        go_roundw
        case rel => exact ⟨k + 1, g, D, by omega, by omega, rfl, by go_num, HCN.out, HO.out⟩
        case measure => simp [intOf]; omega
    · by_cases heq : k = s.size
      · subst heq
        have hgk : g ≤ s.size := by
          rcases HC.out with ⟨-, h, -⟩ | ⟨h, -⟩ <;> omega
        obtain ⟨x, hx⟩ : ∃ x, x = (s.data.toList.take s.size).drop g := ⟨_, rfl⟩
        have hxe : s.extract g s.size = ⟨x.toArray⟩ := by
          rw [hx]
          apply ByteArray.ext
          apply Array.toList_inj.1
          have := ext_take s.data.toList g s.size
          have e : (⟨s.data.toList.toArray⟩ : ByteArray) = s := by simp
          rw [e] at this
          rw [this]
        have hbw : Below wr.heap.size wr (wr.alloc (.cells #[.string ⟨x.toArray⟩] 9)) := (Below.refl _ _).alloc (Nat.le_refl _) _
        have HU : Hid (OwnS w.heap.size u5 D (wr.alloc (.cells #[.string ⟨x.toArray⟩] 9))) := HO.out.1.below hbw (Nat.le_refl _)
        have OL : Hid (OwnL w u5 D (wr.alloc (.cells #[.string ⟨x.toArray⟩] 9))) := ⟨HU.out, HO.out.2.trans (hbw.mono HO.out.2.size)⟩
        have hwz := HO.out.2.size
        clear hbw
        have HCN : Hid (CutI s.data.toList (s.size + 1) (s.size + 1) (D ++ [x])) := by
          show CutI s.data.toList (s.size + 1) (s.size + 1) (D ++ [x])
          have h := HC.out
          rw [hx]
          rw [← hl] at h ⊢
          exact cutI_end h
        clear hx HC HO
        go_wp2_with (at_builtin; refine list_appS w.heap.size (v := u5) (s := .slice (some ⟨wr.heap.size, 0, none⟩) 1 1) (xs := D) (ys := [x]) rfl (.tmp 26) (.tmp 31) rfl rfl rfl HU.out ?c1 (by simp only [List.length_singleton]; omega) (by simp; omega) ?_)
        case c1 => exact one_str x wr 9
        intro o2 w2 own2 g2
        have HN : Hid (OwnL w o2 (D ++ [x]) w2) := OL.out.app own2 g2
        clear own2 g2
        go_wp2_with fail
        go_roundw
        case rel => exact ⟨s.size + 1, s.size + 1, D ++ [x], by omega, by omega, by go_num, by go_num, HCN.out, HN.out⟩
        case measure => simp [intOf]
      · obtain rfl : k = s.size + 1 := by omega
        have HE : Hid (OwnL w u5 (splitS s.data.toList) wr) := by
          show OwnL w u5 (splitS s.data.toList) wr
          rcases HC.out with ⟨h, -⟩ | ⟨-, h⟩
          · omega
          · rw [h]; exact HO.out
        clear HC HO hlt heq
        go_wp2_with fail
        go_ret
        exact ⟨_, rfl, HE.out⟩

/-- The words of a text that are not empty. -/
def wordsS (l : List UInt8) : List (List UInt8) := (splitS l).filter fullB

theorem take_full (L : List (List UInt8)) (k : Nat) (x : List UInt8) (hx : L[k]? = some x) : (L.take (k + 1)).filter fullB = (L.take k).filter fullB ++ (if fullB x then [x] else []) := by
  rw [List.take_add_one, hx, List.filter_append]
  simp only [Option.toList_some]
  cases h : fullB x <;> simp [h]

set_option maxHeartbeats 1000000 in
theorem spec_words6 (s : ByteArray) (w : World) (hs : s.size ≤ 6000) :
    Calls Tryz.prog 23 #[.string s] w fun e w' => ∃ o, e = .returned o ∧ OwnL w o (wordsS s.data.toList) w' := by
  have hl : s.data.toList.length = s.size := by rw [Array.length_toList]; rfl
  go_enter Tryz.func23, Tryz.ntmps23
  go_wp2_with fail
  refine (spec_cut6 s w hs).mono ?_
  rintro e w1 ⟨o1, rfl, O1⟩
  obtain ⟨L, hL⟩ : ∃ L, L = splitS s.data.toList := ⟨_, rfl⟩
  have hLn : L.length ≤ 6001 := by have := splitS_count s.data.toList; rw [hL]; omega
  have HLs : Hid (L = splitS s.data.toList) := hL
  rw [← hL] at O1
  clear hL
  obtain ⟨g, cap, rfl, hg, hcap, hcell⟩ : ∃ g cap, o1 = .slice (some ⟨g, 0, none⟩) L.length cap ∧ g < w1.heap.size ∧ L.length ≤ cap ∧ ∀ (i : Nat) (x : List UInt8), L[i]? = some x → w1.cell? ⟨g, i, none⟩ = some (.string ⟨x.toArray⟩) := by
    rcases ownS_cases O1.1 with ⟨-, h⟩ | ⟨g, cap, e, -, h1, h2, h3⟩
    · rw [HLs.out] at h
      exact absurd h (splitS_ne _)
    · exact ⟨g, cap, e, h1, h2, h3⟩
  have HB : Hid (Below w.heap.size w w1) := O1.2
  have HCL : Hid (∀ (i : Nat) (x : List UInt8), L[i]? = some x → w1.cell? ⟨g, i, none⟩ = some (.string ⟨x.toArray⟩)) := hcell
  clear O1 hcell
  have H0 : Hid (OwnL w1 (.slice (some ⟨w1.heap.size, 0, none⟩) 0 0) [] (w1.alloc (.cells #[] 9))) := ⟨World.ownsRow_made w1 #[] 0 (Nat.le_refl _) (by decide) rfl, (Below.refl _ _).alloc (Nat.le_refl _) _⟩
  go_wp2_with fail
  generalize w1.alloc (.cells #[] 9) = w0 at H0 ⊢
  go_loopw [4, 5] (fun o i wr => ∃ k : Nat, k ≤ L.length ∧ i = .int .i64 k ∧ OwnL w1 o ((L.take k).filter fullB) wr) (fun _ i _ => L.length - (intOf i).toNat)
  case atStart => exact ⟨0, by omega, rfl, by simpa using H0.out⟩
  case round =>
    clear H0
    obtain ⟨k, hk, rfl, hO⟩ := hrel
    have HO : Hid (OwnL w1 u4 ((L.take k).filter fullB) wr) := hO
    clear hO
    by_cases hlt : k < L.length
    · obtain ⟨x, hx⟩ : ∃ x, L[k]? = some x := ⟨_, List.getElem?_eq_getElem hlt⟩
      have c0 : wr.cell? ⟨g, k, none⟩ = some (.string ⟨x.toArray⟩) := (World.cell?_of_block (w := w1) (a := ⟨g, k, none⟩) (HO.out.2.block g hg)).trans (HCL.out k x hx)
      have htf := take_full L k x hx
      have hDn : ((L.take k).filter fullB).length ≤ 6001 := by
        have h1 := List.length_filter_le fullB (L.take k)
        have h2 : (L.take k).length ≤ L.length := by simp; omega
        omega
      have HD : Hid ((L.take (k + 1)).filter fullB = (L.take k).filter fullB ++ (if fullB x then [x] else [])) := htf
      clear htf hx
      generalize (L.take k).filter fullB = D at HO HD hDn
      cases x with
      | nil =>
        have HN : Hid (OwnL w1 u4 ((L.take (k + 1)).filter fullB) wr) := by
          show OwnL w1 u4 ((L.take (k + 1)).filter fullB) wr
          rw [HD.out]
          simpa [fullB] using HO.out
        go_wp2_with fail
        go_roundw
        case rel => exact ⟨k + 1, by omega, by go_num, HN.out⟩
        case measure => simp [intOf]; omega
      | cons c cs =>
        obtain ⟨x, hx⟩ : ∃ x, x = c :: cs := ⟨_, rfl⟩
        have hne : (x == []) = false := by rw [hx]; rfl
        have hne2 : (x != []) = true := by rw [hx]; rfl
        have HD2 : Hid ((L.take (k + 1)).filter fullB = D ++ [x]) := by
          show (L.take (k + 1)).filter fullB = D ++ [x]
          rw [HD.out, ← hx]
          have : fullB x = true := by rw [hx]; rfl
          rw [this]
          rfl
        rw [← hx] at c0
        clear HD hx
        have hbw : Below wr.heap.size wr (wr.alloc (.cells #[.string ⟨x.toArray⟩] 9)) := (Below.refl _ _).alloc (Nat.le_refl _) _
        have HU : Hid (OwnS w1.heap.size u4 D (wr.alloc (.cells #[.string ⟨x.toArray⟩] 9))) := HO.out.1.below hbw (Nat.le_refl _)
        have OL : Hid (OwnL w1 u4 D (wr.alloc (.cells #[.string ⟨x.toArray⟩] 9))) := ⟨HU.out, HO.out.2.trans (hbw.mono HO.out.2.size)⟩
        have hwz := HO.out.2.size
        clear hbw
        go_wp2_with (at_builtin; refine list_appS w1.heap.size (v := u4) (s := .slice (some ⟨wr.heap.size, 0, none⟩) 1 1) (xs := D) (ys := [x]) rfl (.tmp 20) (.tmp 25) rfl rfl rfl HU.out ?c1 (by simp only [List.length_singleton]; omega) (by simp; omega) ?_)
        case c1 => exact one_str x wr 9
        intro o2 w2 own2 g2
        have HN : Hid (OwnL w1 o2 ((L.take (k + 1)).filter fullB) w2) := by
          show OwnL w1 o2 ((L.take (k + 1)).filter fullB) w2
          rw [HD2.out]
          exact OL.out.app own2 g2
        clear own2 g2
        go_wp2_with fail
        go_roundw
        case rel => exact ⟨k + 1, by omega, by go_num, HN.out⟩
        case measure => simp [intOf]; omega
    · obtain rfl : k = L.length := by omega
      have HE : Hid (OwnL w u4 (wordsS s.data.toList) wr) := by
        have h := HO.out
        rw [List.take_length, HLs.out] at h
        exact ⟨h.1.mono HB.out.size, HB.out.trans (h.2.mono HB.out.size)⟩
      clear HO hlt
      go_wp2_with fail
      go_ret
      exact ⟨_, rfl, HE.out⟩

end Go.Proofs.YtdhoimjkgicneaaGreatDoor
