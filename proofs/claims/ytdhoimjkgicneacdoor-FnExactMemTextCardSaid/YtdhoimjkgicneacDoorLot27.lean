/- Texts of this proof laid together: RegK, MxC. -/
import Derived.OrdersHeld
import Derived.Tactics
import Derived.Test.YtdhoimjkgicneacDoorRows
import Derived.WalkKit
import Derived.Test.YtdhoimjkgicneacDoorLot26
import Derived.Test.YtdhoimjkgicneacDoorLot13
import Derived.Deep.RegionHeld
import Derived.Deep.Cut
/- A region that draws its order, walked with a condition that is held behind each of its operations: what yields its value in every world that meets it is taken first. -/
namespace Go.Proofs.YtdhoimjkgicneacDoor
open Go Go.RowKit

section
variable {P : Program} {ops : Array Oper} {Q : Exit → Act → World → Prop} {md : Region.Mode} {S : World → Prop} {fuel : Nat} {ls : Array Bool} {a : Act} {w : World}

theorem held_any {i : Nat} {o : Oper} {v : Value} (hi : ops[i]? = some o) (hs : Region.noSelect ops = true) (hf : Region.free md ops ls i = true) (hr : (Region.ready md ops ls).contains i = true)
    (hg : Region.wanted o (yielded ops a.tmps) = true) (hQ : ∀ c a w, Q (.panic c) (a.put o.dst v) w → Q (.panic c) a w) (hv : ∀ w, S w → (execOp a.eval o).run P w = .ok (.value v) w) (hS : S w)
    (h : wpAnyH P md ops Q S fuel (ls.setIfInBounds i true) (a.put o.dst v) w) : wpAnyH P md ops Q S (fuel + 1) ls a w :=
  wpAnyH_take hi hs hf hr hQ (Or.inl ⟨hg, hv⟩) hS h

theorem held_load {i : Nat} {o : Oper} {t : TypeId} {p : Operand} {x v : Value} (hi : ops[i]? = some o) (ho : o.op = .load t p) (hx : a.eval p = x) (hs : Region.noSelect ops = true) (hf : Region.free md ops ls i = true) (hr : (Region.ready md ops ls).contains i = true)
    (hg : Region.wanted o (yielded ops a.tmps) = true) (hQ : ∀ c a w, Q (.panic c) (a.put o.dst v) w → Q (.panic c) a w) (hv : ∀ w, S w → (Instr.loadAt t x).run P w = .ok v w) (hS : S w)
    (h : wpAnyH P md ops Q S fuel (ls.setIfInBounds i true) (a.put o.dst v) w) : wpAnyH P md ops Q S (fuel + 1) ls a w := by
  refine held_any hi hs hf hr hg hQ (fun w hw => ?_) hS h
  subst hx
  simp only [execOp, ho, Sem.run_bind, hv w hw, Result.andThen, Sem.run_pure]

theorem op_is {i : Nat} {o : Oper} {K : Act → World → Prop} (hi : ops[i]? = some o) (hg : Region.wanted o (yielded ops a.tmps) = true) (h : o.wp P a w K Q) : wpOp P ops Q i K a w := by
  unfold wpOp
  simp only [hi, hg, if_true]
  exact .inl h

theorem held_one {i : Nat} (hr : Region.ready md ops ls = [i]) (h : wpOp P ops Q i (fun a' w' => S w' ∧ wpAnyH P md ops Q S fuel (ls.setIfInBounds i true) a' w') a w) : wpAnyH P md ops Q S (fuel + 1) ls a w :=
  wpAnyH_all hr (by simp) (fun j hj => by
    have : j = i := by simpa using hj
    subst this; exact h)
theorem held_two {i j : Nat} (hr : Region.ready md ops ls = [i, j]) (h : wpOp P ops Q i (fun a' w' => S w' ∧ wpAnyH P md ops Q S fuel (ls.setIfInBounds i true) a' w') a w)
    (g : wpOp P ops Q j (fun a' w' => S w' ∧ wpAnyH P md ops Q S fuel (ls.setIfInBounds j true) a' w') a w) : wpAnyH P md ops Q S (fuel + 1) ls a w :=
  wpAnyH_all hr (by simp) (fun k hk => by
    have : k = i ∨ k = j := by simpa using hk
    rcases this with rfl | rfl
    · exact h
    · exact g)

theorem held_call {i : Nat} {o : Oper} {f : FuncId} {args : Array Value} {K : Act → World → Prop} (hi : ops[i]? = some o) (hg : Region.wanted o (yielded ops a.tmps) = true)
    (he : (execOp a.eval o).run P w = .ok (.enter f args) w) (h : Calls P f args w fun e w' => ∃ u, e = .returned u ∧ K (a.put o.dst u) w') : wpOp P ops Q i K a w := by
  refine op_is hi hg ?_
  unfold Oper.wp
  rw [he]
  simp only [Oper.upon]
  exact h.mono fun e w' ⟨u, hu, hk⟩ => by subst hu; exact hk
theorem held_value {i : Nat} {o : Oper} {u : Value} {w' : World} {K : Act → World → Prop} (hi : ops[i]? = some o) (hg : Region.wanted o (yielded ops a.tmps) = true)
    (he : (execOp a.eval o).run P w = .ok (.value u) w') (h : K (a.put o.dst u) w') : wpOp P ops Q i K a w := by
  refine op_is hi hg ?_
  unfold Oper.wp
  rw [he]
  exact h
theorem held_store {i : Nat} {o : Oper} {t : TypeId} {p y : Operand} {x u : Value} {w' : World} {K : Act → World → Prop} (hi : ops[i]? = some o) (ho : o.op = .store t p y) (hx : a.eval p = x) (hu : a.eval y = u) (hg : Region.wanted o (yielded ops a.tmps) = true)
    (he : (Instr.storeAt t x u).run P w = .ok () w') (h : K (a.put o.dst undef) w') : wpOp P ops Q i K a w := by
  refine op_is hi hg ?_
  subst hx hu
  have e : (execOp a.eval o).run P w = .ok .skip w' := by
    simp only [execOp, ho, Sem.run_bind, he, Result.andThen, Sem.run_pure]
  unfold Oper.wp
  rw [e]
  exact h
end

end Go.Proofs.YtdhoimjkgicneacDoor

/- The specification's text of a memory. -/
namespace Go.Proofs.YtdhoimjkgicneacDoor
open Go Go.RowKit

theorem add_ba (a b : ByteArray) (w : World) (h : a.size + b.size ≤ 1000000) : (binOp .add 9 (.string a) (.string b)).run Tryd.prog w = .ok (.string (a ++ b)) w := by
  simp [go_sem]
  omega

section
variable {ops : Array Oper} {Q : Exit → Act → World → Prop} {md : Region.Mode} {S : World → Prop} {fuel : Nat} {ls : Array Bool} {a : Act} {w : World}
theorem held_add {i : Nat} {o : Oper} {p q : Operand} {x y : ByteArray} (hi : ops[i]? = some o) (ho : o.op = .binOp .add 9 p q 9) (hx : a.eval p = .string x) (hy : a.eval q = .string y) (hs : Region.noSelect ops = true) (hf : Region.free md ops ls i = true) (hr : (Region.ready md ops ls).contains i = true)
    (hg : Region.wanted o (yielded ops a.tmps) = true) (hQ : ∀ c a w, Q (.panic c) (a.put o.dst (.string (x ++ y))) w → Q (.panic c) a w) (hl : x.size + y.size ≤ 1000000) (hS : S w)
    (h : wpAnyH Tryd.prog md ops Q S fuel (ls.setIfInBounds i true) (a.put o.dst (.string (x ++ y))) w) : wpAnyH Tryd.prog md ops Q S (fuel + 1) ls a w := by
  refine held_any hi hs hf hr hg hQ (fun w _ => ?_) hS h
  have e : (eqGuard .add 9 p q (.string x) (.string y)).run Tryd.prog w = .ok () w := rfl
  simp only [execOp, ho, hx, hy, Sem.run_bind, e, add_ba x y w hl, Result.andThen, Sem.run_pure]
end

theorem ba_of (l : List UInt8) : ∃ b : ByteArray, b = ⟨l.toArray⟩ ∧ b.size = l.length := ⟨_, rfl, by simp [ByteArray.size]⟩

/-- What stands while the text is written. -/
def SX (v : MemV) (w : World) (s : Value) (L : List Wd) (wr : World) : Prop := s = .string ⟨(spL L).toArray⟩ ∧ MemAt w.heap.size v wr ∧ Below w.heap.size w wr
theorem SX.below {v : MemV} {w wr wr' : World} {s : Value} {L : List Wd} (h : SX v w s L wr) (b : Below wr.heap.size wr wr') : SX v w s L wr' :=
  ⟨h.1, h.2.1.below b h.2.1.z, h.2.2.trans (b.mono h.2.2.size)⟩
theorem SX.more {v : MemV} {w wr : World} {L : List Wd} {x : Wd} {so tw : ByteArray} {wr' : World} (h : SX v w (.string so) L wr) (b : Below wr.heap.size wr wr') (e : tw = ⟨(x.text ++ [32]).toArray⟩) : SX v w (.string (so ++ tw)) (L ++ [x]) wr' := by
  have h' := h.below b
  refine ⟨?_, h'.2.1, h'.2.2⟩
  have e1 : so = ⟨(spL L).toArray⟩ := by injection h.1
  rw [e, e1, str_cat, spL_append, spL_one]

theorem pre_len {v : MemV} {tx : Nat → List UInt8} (hv : v.Ok) (hl : ∀ i, i < 16 → (tx i).length ≤ 50) {L M : List Wd} (h : L ++ M = allW v tx) : (spL L).length ≤ 2400 := by
  have := all_len hv hl
  rw [← h, spL_append, List.length_append] at this
  omega

theorem timer_text (n c : Nat) (d : Bool) : (⟨7, n, c, d, false, 0, []⟩ : Wd).text = letterL 7 ++ (Lib.decDigits n ++ 61 :: countL c d false) := rfl
theorem counter_text (n c : Nat) (d l : Bool) : (⟨8, n, c, d, l, 0, []⟩ : Wd).text = letterL 8 ++ (Lib.decDigits n ++ 61 :: countL c d l) := rfl
theorem int_text (n : Nat) (z : Int) : (⟨9, n, 0, false, false, z, []⟩ : Wd).text = letterL 9 ++ (Lib.decDigits n ++ 61 :: Lib.itoa z) := rfl
theorem real_text (n : Nat) (t : List UInt8) : (⟨10, n, 0, false, false, 0, t⟩ : Wd).text = letterL 10 ++ (Lib.decDigits n ++ 61 :: t) := rfl

/-- The specification's device with a tail, as bytes. -/
theorem dev_ba (kd i : Nat) (tl : List UInt8) (x : Wd) (ta : ByteArray) (hi : i ≤ 100) (ht : tl.length ≤ 100) (hta : ta = ⟨tl.toArray⟩) (hx : x.text = letterL kd ++ (Lib.decDigits i ++ tl)) :
    ∃ tw : ByteArray, tw = ⟨(x.text ++ [32]).toArray⟩ ∧ tw.size ≤ 200 ∧ ∀ w, Calls Tryd.prog 29 #[.int .i64 kd, .int .i64 i, .string ta] w fun e w' => e = .returned (.string tw) ∧ Below w.heap.size w w' := by
  refine ⟨_, rfl, ?_, fun w => ?_⟩
  · have l1 := letterL_len (kd : Int)
    have l2 := dd_len 2 i (by omega)
    rw [hx]
    simp [ByteArray.size]
    omega
  · have := spec_dev kd i tl w hi (by omega)
    rw [hta, hx]
    simpa using this

theorem dec_ba (c : Nat) (hc : c < 4294967296) : ∃ de : ByteArray, de = ⟨(Lib.decDigits c).toArray⟩ ∧ de.size ≤ 10 ∧ ∀ w, Calls Tryd.prog 30 #[.int .i64 c] w fun e w' => e = .returned (.string de) ∧ Below w.heap.size w w' :=
  ⟨_, rfl, by have := dd_len10 hc; simpa [ByteArray.size] using this, fun w => spec_dec1 c w (by omega)⟩
theorem mark_ba (b : Bool) (s : ByteArray) : ∃ mk : ByteArray, mk = (if b then s else ⟨#[]⟩) ∧ mk.size ≤ s.size ∧ ∀ w, Calls Tryd.prog 31 #[.bool b, .string s] w fun e w' => e = .returned (.string mk) ∧ Below w.heap.size w w' :=
  ⟨_, rfl, by cases b; exact Nat.zero_le _; exact Nat.le_refl _, fun w => (spec_mark b s w).mono fun _ _ ⟨h1, h2⟩ => ⟨h1, by rw [h2]; exact Below.refl _ _⟩⟩

theorem count_ba (c : Nat) (d : Bool) (de mk : ByteArray) (h1 : de = ⟨(Lib.decDigits c).toArray⟩) (h2 : mk = (if d then ⟨#[33]⟩ else ⟨#[]⟩)) : (⟨#[61]⟩ : ByteArray) ++ de ++ mk = ⟨(61 :: countL c d false).toArray⟩ := by
  have e : mk = ⟨(markL d 33).toArray⟩ := by rw [h2]; cases d <;> rfl
  rw [h1, e, show (⟨#[61]⟩ : ByteArray) = ⟨([61] : List UInt8).toArray⟩ from rfl, str_cat, str_cat]
  simp [countL, markL]
theorem count_ba2 (c : Nat) (d l : Bool) (de mk ml : ByteArray) (h1 : de = ⟨(Lib.decDigits c).toArray⟩) (h2 : mk = (if d then ⟨#[33]⟩ else ⟨#[]⟩)) (h3 : ml = (if l then ⟨#[43]⟩ else ⟨#[]⟩)) : (⟨#[61]⟩ : ByteArray) ++ de ++ mk ++ ml = ⟨(61 :: countL c d l).toArray⟩ := by
  have e : mk = ⟨(markL d 33).toArray⟩ := by rw [h2]; cases d <;> rfl
  have e2 : ml = ⟨(markL l 43).toArray⟩ := by rw [h3]; cases l <;> rfl
  rw [h1, e, e2, show (⟨#[61]⟩ : ByteArray) = ⟨([61] : List UInt8).toArray⟩ from rfl, str_cat, str_cat, str_cat]
  simp [countL]

theorem wrapM {C : Nat} (h : C < 4294967296) : IntKind.i64.wrap (C : Int) = (C : Int) := by
  simp [IntKind.wrap, IntKind.signed, IntKind.bits]
  omega

theorem load_u16M {a : Addr} {v : Value} {w : World} (h : w.cell? a = some v) : (Instr.loadAt 24 (.pointer (some a))).run Tryd.prog w = .ok v w := by simp [go_sem, h]
theorem load_boolM {a : Addr} {v : Value} {w : World} (h : w.cell? a = some v) : (Instr.loadAt 4 (.pointer (some a))).run Tryd.prog w = .ok v w := by simp [go_sem, h]
theorem load_u32M {a : Addr} {v : Value} {w : World} (h : w.cell? a = some v) : (Instr.loadAt 22 (.pointer (some a))).run Tryd.prog w = .ok v w := by simp [go_sem, h]

theorem pre_timer (v : MemV) (tx : Nat → List UInt8) {i : Nat} (hi : i ≤ 16) : ∃ M, (bitsW v ++ timerP v i) ++ M = allW v tx := by
  obtain ⟨M, hM⟩ : ∃ M, timerP v 16 = timerP v i ++ M := seg_leN i 16 _ _ hi
  exact ⟨M ++ (counterW v ++ (intW v ++ (realW tx ++ (timeW v ++ (ranW v ++ faultW v))))), by unfold allW; rw [← timerP_all, hM]; simp⟩
theorem pre_counter (v : MemV) (tx : Nat → List UInt8) {i : Nat} (hi : i ≤ 16) : ∃ M, (bitsW v ++ timerW v ++ counterP v i) ++ M = allW v tx := by
  obtain ⟨M, hM⟩ : ∃ M, counterP v 16 = counterP v i ++ M := seg_leN i 16 _ _ hi
  exact ⟨M ++ (intW v ++ (realW tx ++ (timeW v ++ (ranW v ++ faultW v)))), by unfold allW; rw [← counterP_all, hM]; simp⟩
theorem pre_int (v : MemV) (tx : Nat → List UInt8) {i : Nat} (hi : i ≤ 32) : ∃ M, (bitsW v ++ timerW v ++ counterW v ++ intP v i) ++ M = allW v tx := by
  obtain ⟨M, hM⟩ : ∃ M, intP v 32 = intP v i ++ M := seg_leN i 32 _ _ hi
  exact ⟨M ++ (realW tx ++ (timeW v ++ (ranW v ++ faultW v))), by unfold allW; rw [← intP_all, hM]; simp⟩
theorem pre_real (v : MemV) (tx : Nat → List UInt8) {i : Nat} (hi : i ≤ 16) : ∃ M, (bitsW v ++ timerW v ++ counterW v ++ intW v ++ realP tx i) ++ M = allW v tx := by
  obtain ⟨M, hM⟩ : ∃ M, realP tx 16 = realP tx i ++ M := seg_leN i 16 _ _ hi
  exact ⟨M ++ (timeW v ++ (ranW v ++ faultW v)), by unfold allW; rw [← realP_all, hM]; simp⟩

theorem time_ba (v : MemV) (tb : Bool) (de m1 : ByteArray) (hb : tb = decide (0 < v.time)) (hde : de = ⟨(Lib.decDigits v.time).toArray⟩) (h : m1 = (if tb then (⟨#[116, 105, 109, 101, 61]⟩ : ByteArray) ++ de ++ ⟨#[32]⟩ else ⟨#[]⟩)) : m1 = ⟨(spL (timeW v)).toArray⟩ := by
  rw [h, hb, hde]
  by_cases h0 : v.time = 0
  · have e : timeW v = [] := by unfold timeW; rw [h0]; rfl
    rw [e, h0]
    rfl
  · have e : timeW v = [⟨11, 0, v.time, false, false, 0, []⟩] := by unfold timeW; rw [if_pos (by simpa using h0)]
    have h1 : decide (0 < v.time) = true := by simp; omega
    rw [e, h1, spL_one, if_pos rfl, show (⟨#[116, 105, 109, 101, 61]⟩ : ByteArray) = ⟨([116, 105, 109, 101, 61] : List UInt8).toArray⟩ from rfl, show (⟨#[32]⟩ : ByteArray) = ⟨([32] : List UInt8).toArray⟩ from rfl, str_cat, str_cat]
    rfl
theorem ran_ba (v : MemV) (m2 : ByteArray) (h : m2 = (if v.ran then ⟨#[114, 97, 110, 32]⟩ else ⟨#[]⟩)) : m2 = ⟨(spL (ranW v)).toArray⟩ := by
  rw [h]
  unfold ranW
  cases v.ran <;> rfl
theorem fault_ba (v : MemV) (m3 : ByteArray) (h : m3 = (if v.fault then ⟨#[102, 97, 117, 108, 116, 32]⟩ else ⟨#[]⟩)) : m3 = ⟨(spL (faultW v)).toArray⟩ := by
  rw [h]
  unfold faultW
  cases v.fault <;> rfl
theorem fin_ba (v : MemV) (tx : Nat → List UInt8) (so m1 m2 m3 : ByteArray) (h0 : so = ⟨(spL (bitsW v ++ timerW v ++ counterW v ++ intW v ++ realW tx)).toArray⟩) (h1 : m1 = ⟨(spL (timeW v)).toArray⟩) (h2 : m2 = ⟨(spL (ranW v)).toArray⟩) (h3 : m3 = ⟨(spL (faultW v)).toArray⟩) : so ++ m1 ++ m2 ++ m3 = ⟨(spL (allW v tx)).toArray⟩ := by
  rw [h0, h1, h2, h3, str_cat, str_cat, str_cat]
  unfold allW
  simp [spL_append]

end Go.Proofs.YtdhoimjkgicneacDoor
