/- The writes that wait, done one behind the other. -/
import Derived.Test.YtdhoimjkgicneacHolH
namespace Go.Proofs.Ytdhoimjkgicneac
open Go Go.RowKit

/-- A slice's block is none of lo to hi. -/
def Out (lo hi : Nat) (d : Value) : Prop := ∀ k, d.ownBlock = some k → k < lo ∨ hi ≤ k

/-- The store while the writes that wait are done: what they have captured, in blocks lo to hi, stays as it is. -/
structure RunAt (base S lo hi : Nat) (w0 : World) (g : Int) (r : Ro) (da db : Value) (w : World) : Prop where
  st : StAt base S g r da db w
  xa : Out lo hi da
  xb : Out lo hi db
  mid : ∀ i, lo ≤ i → i < hi → w.heap[i]? = w0.heap[i]?
  bel : Below base w0 w
  hiz : hi ≤ w.heap.size
  low : S < lo
  ok : RoOk r

theorem RunAt.cell {base S lo hi : Nat} {w0 w : World} {g : Int} {r : Ro} {da db : Value} (h : RunAt base S lo hi w0 g r da db w) {b i : Nat} {v : Value} (h1 : lo ≤ b) (h2 : b < hi) (hc : w0.cell? ⟨b, i, none⟩ = some v) : w.cell? ⟨b, i, none⟩ = some v :=
  (World.cell?_of_block (h.mid b h1 h2)).trans hc

theorem RunAt.setS {base S lo hi : Nat} {w0 w : World} {g g' : Int} {r r' : Ro} {da db da' db' : Value} (h : RunAt base S lo hi w0 g r da db w) {i : Nat} {v : Value} (st : StAt base S g' r' da' db' (w.setCell ⟨S, i, none⟩ v)) (xa : Out lo hi da') (xb : Out lo hi db') (ok : RoOk r') :
    RunAt base S lo hi w0 g' r' da' db' (w.setCell ⟨S, i, none⟩ v) :=
  ⟨st, xa, xb, fun k h1 h2 => (Below.heap_setCell w ⟨S, i, none⟩ v k (by have := h.low; show k ≠ S; omega)).trans (h.mid k h1 h2), h.bel.setCell h.st.bS _, by simpa using h.hiz, h.low, ok⟩

theorem RunAt.setG {base S lo hi : Nat} {w0 w w1 : World} {g g' : Int} {r r' : Ro} {da db da' db' : Value} {row : Option Nat} (h : RunAt base S lo hi w0 g r da db w) (hg : w.grownBy w1 row) (hrow : ∀ k, row = some k → (k < lo ∨ hi ≤ k) ∧ base ≤ k) {i : Nat} {v : Value}
    (st : StAt base S g' r' da' db' (w1.setCell ⟨S, i, none⟩ v)) (xa : Out lo hi da') (xb : Out lo hi db') (ok : RoOk r') :
    RunAt base S lo hi w0 g' r' da' db' (w1.setCell ⟨S, i, none⟩ v) := by
  have hz := h.hiz
  have hb : Below base w w1 := grown_below hg (by have := h.st.bS; have := h.st.box.z; omega) (fun k hk => (hrow k hk).2)
  refine ⟨st, xa, xb, fun k h1 h2 => ?_, (h.bel.trans hb).setCell h.st.bS _, by have := hg.size; simp; omega, h.low, ok⟩
  refine (Below.heap_setCell w1 ⟨S, i, none⟩ v k (by have := h.low; show k ≠ S; omega)).trans ((hg.block k (by omega) ?_).trans (h.mid k h1 h2))
  intro e
  have := (hrow k e.symm).1
  omega

theorem Few.into {s : Sl} {x : Wr} (h : Few s.data) (hx : x.byte ≤ 255) : Few (s.into x).data := by
  unfold Sl.into
  split
  · exact h
  split
  · exact h
  split
  · exact Few.nil
  split
  · split
    · exact h.snoc hx (by omega)
    · exact h
  · exact h
theorem into_mark {s : Sl} {x : Wr} (h : s.mark ≤ 255) (hx : x.byte ≤ 255) : (s.into x).mark ≤ 255 := by
  unfold Sl.into
  (repeat' split) <;> assumption
theorem into_turn {s : Sl} {x : Wr} (h : s.turn ≤ 255) (hx : x.byte ≤ 255) : (s.into x).turn ≤ 255 := by
  unfold Sl.into
  (repeat' split) <;> assumption
theorem RoOk.write {r : Ro} {x : Wr} (h : RoOk r) (hx : x.byte ≤ 255) : RoOk (r.write x) := by
  unfold Ro.write
  split
  · exact ⟨into_mark h.am hx, into_turn h.at' hx, h.ad.into hx, h.bm, h.bt, h.bd⟩
  split
  · exact ⟨h.am, h.at', h.ad, into_mark h.bm hx, into_turn h.bt hx, h.bd.into hx⟩
  · exact h

theorem out_nil (lo hi : Nat) : Out lo hi (.slice none 0 0) := fun k hk => by simp [Value.ownBlock] at hk
theorem Out.next {lo hi : Nat} {d d' : Value} {w : World} (h : Out lo hi d) (hz : hi ≤ w.heap.size) (hd : d'.ownBlock = d.ownBlock ∨ ∃ k, w.heap.size ≤ k ∧ d'.ownBlock = some k) : Out lo hi d' := by
  intro k hk
  rcases hd with e | ⟨k', h1, e⟩
  · exact h k (e ▸ hk)
  · rw [e] at hk; simp at hk; omega

/-- One write that waits is done. -/
theorem arm_step {base S lo hi : Nat} {w0 w : World} {r : Ro} {da db : Value} (h : RunAt base S lo hi w0 1 r da db w) {x : Wr} {F : Nat} {cap : Array Value} (ha : ArmAt S lo hi F cap x w0) (hx : x.byte ≤ 255) :
    (invoke (.fn (.func F) cap) #[]).run Try.prog w = .ok (.enter F cap) w ∧
    CallsD Try.prog F cap .returning w fun e u' w' => u' = .returning ∧ (e = .returned (.tuple #[]) ∧ ∃ da' db', RunAt base S lo hi w0 1 (r.write x) da' db' w') := by
  have ok' : RoOk (r.write x) := h.ok.write hx
  obtain ⟨q2, q3, q4, q5, q6, q7⟩ := h.st.cells
  have zb : base ≤ w.heap.size := by have := h.st.bS; have := h.st.box.z; omega
  rcases ha with ⟨rfl, hF, hw⟩ | ⟨V, P, o, v1, v2, p1, p2, hs, cv, cp, hk⟩
  · rw [hw r]
    rcases hF with rfl | rfl
    · exact ⟨by simp [go_sem], (close_none1 .returning w).mono fun e u' w' ⟨h1, h2, h3⟩ => ⟨h1, h2, da, db, h3 ▸ h⟩⟩
    · exact ⟨by simp [go_sem], (close_none6 .returning w).mono fun e u' w' ⟨h1, h2, h3⟩ => ⟨h1, h2, da, db, h3 ▸ h⟩⟩
  · have cv' := h.cell v1 v2 cv
    have cp' := h.cell p1 p2 cp
    have hPS : P ≠ S := by have := h.low; omega
    obtain ⟨k, s, b⟩ := x
    simp only at hs hk hx cp'
    rcases hs with ⟨rfl, rfl⟩ | ⟨rfl, rfl⟩
    · rcases hk with ⟨rfl, rfl, rfl⟩ | ⟨rfl, rfl, rfl⟩ | ⟨rfl, rfl, rfl⟩ | ⟨rfl, rfl, rfl⟩
      · refine ⟨by simp [go_sem], (close_mark S 2 V P b _ .returning w cv' cp' q2 (h.st.fr _)).mono fun e u' w' ⟨h1, h2, h3⟩ => ⟨h1, h2, da, db, ?_⟩⟩
        rw [h3]
        have e : r.write ⟨1, 0, b⟩ = ⟨⟨b, r.a.turn, r.a.data⟩, r.b⟩ := by simp [Ro.write, Sl.into]
        rw [e] at ok' ⊢
        exact h.setS (h.st.mark_a b) h.xa h.xb ok'
      · refine ⟨by simp [go_sem], (close_turn S 2 V P b _ .returning w cv' cp' q3 (h.st.fr _)).mono fun e u' w' ⟨h1, h2, h3⟩ => ⟨h1, h2, da, db, ?_⟩⟩
        rw [h3]
        have e : r.write ⟨2, 0, b⟩ = ⟨⟨r.a.mark, b, r.a.data⟩, r.b⟩ := by simp [Ro.write, Sl.into]
        rw [e] at ok' ⊢
        exact h.setS (h.st.turn_a b) h.xa h.xb ok'
      · refine ⟨by simp [go_sem], (close_wipe S 2 V _ .returning w cv' q4 (h.st.fr _)).mono fun e u' w' ⟨h1, h2, h3⟩ => ⟨h1, h2, .slice none 0 0, db, ?_⟩⟩
        rw [h3]
        have e : r.write ⟨3, 0, b⟩ = ⟨⟨r.a.mark, r.a.turn, []⟩, r.b⟩ := by simp [Ro.write, Sl.into]
        rw [e] at ok' ⊢
        exact h.setS h.st.wipe_a (out_nil _ _) h.xb ok'
      · by_cases hn : r.a.data.length < 20100
        · refine ⟨by simp [go_sem], (close_put base S 2 V P b da r.a.data .returning w cv' cp' q4 (h.st.fr _) h.st.oa zb h.st.na (fun e => by have := h.xa _ e; omega) (fun e => by have := h.xa _ e; omega) hPS hn).mono fun e u' w' ⟨h1, h2, d', w1, h3, o1, g1, a1⟩ => ⟨h1, h2, d', db, ?_⟩⟩
          rw [h3]
          have e : r.write ⟨4, 0, b⟩ = ⟨⟨r.a.mark, r.a.turn, r.a.data ++ [b]⟩, r.b⟩ := by simp [Ro.write, Sl.into, hn]
          rw [e] at ok' ⊢
          exact h.setG g1 (fun k hk => ⟨h.xa k hk, (World.ownsRow.lt h.st.oa k hk).1⟩) (h.st.put_a o1 g1 a1) (h.xa.next h.hiz a1) h.xb ok'
        · obtain ⟨a0, c0, e0⟩ := own_size h.st.oa
          have e : r.write ⟨4, 0, b⟩ = r := by simp [Ro.write, Sl.into, hn]
          rw [e]
          exact ⟨by simp [go_sem], (close_full S 2 V P a0 r.a.data.length c0 .returning w cv' (e0 ▸ q4) (by omega)).mono fun e u' w' ⟨h1, h2, h3⟩ => ⟨h1, h2, da, db, h3 ▸ h⟩⟩
    · rcases hk with ⟨rfl, rfl, rfl⟩ | ⟨rfl, rfl, rfl⟩ | ⟨rfl, rfl, rfl⟩ | ⟨rfl, rfl, rfl⟩
      · refine ⟨by simp [go_sem], (close_mark S 5 V P b _ .returning w cv' cp' q5 (h.st.fr _)).mono fun e u' w' ⟨h1, h2, h3⟩ => ⟨h1, h2, da, db, ?_⟩⟩
        rw [h3]
        have e : r.write ⟨1, 1, b⟩ = ⟨r.a, ⟨b, r.b.turn, r.b.data⟩⟩ := by simp [Ro.write, Sl.into]
        rw [e] at ok' ⊢
        exact h.setS (h.st.mark_b b) h.xa h.xb ok'
      · refine ⟨by simp [go_sem], (close_turn S 5 V P b _ .returning w cv' cp' q6 (h.st.fr _)).mono fun e u' w' ⟨h1, h2, h3⟩ => ⟨h1, h2, da, db, ?_⟩⟩
        rw [h3]
        have e : r.write ⟨2, 1, b⟩ = ⟨r.a, ⟨r.b.mark, b, r.b.data⟩⟩ := by simp [Ro.write, Sl.into]
        rw [e] at ok' ⊢
        exact h.setS (h.st.turn_b b) h.xa h.xb ok'
      · refine ⟨by simp [go_sem], (close_wipe S 5 V _ .returning w cv' q7 (h.st.fr _)).mono fun e u' w' ⟨h1, h2, h3⟩ => ⟨h1, h2, da, .slice none 0 0, ?_⟩⟩
        rw [h3]
        have e : r.write ⟨3, 1, b⟩ = ⟨r.a, ⟨r.b.mark, r.b.turn, []⟩⟩ := by simp [Ro.write, Sl.into]
        rw [e] at ok' ⊢
        exact h.setS h.st.wipe_b h.xa (out_nil _ _) ok'
      · by_cases hn : r.b.data.length < 20100
        · refine ⟨by simp [go_sem], (close_put base S 5 V P b db r.b.data .returning w cv' cp' q7 (h.st.fr _) h.st.ob zb h.st.nb (fun e => by have := h.xb _ e; omega) (fun e => by have := h.xb _ e; omega) hPS hn).mono fun e u' w' ⟨h1, h2, d', w1, h3, o1, g1, a1⟩ => ⟨h1, h2, da, d', ?_⟩⟩
          rw [h3]
          have e : r.write ⟨4, 1, b⟩ = ⟨r.a, ⟨r.b.mark, r.b.turn, r.b.data ++ [b]⟩⟩ := by simp [Ro.write, Sl.into, hn]
          rw [e] at ok' ⊢
          exact h.setG g1 (fun k hk => ⟨h.xb k hk, (World.ownsRow.lt h.st.ob k hk).1⟩) (h.st.put_b o1 g1 a1) h.xa (h.xb.next h.hiz a1) ok'
        · obtain ⟨a0, c0, e0⟩ := own_size h.st.ob
          have e : r.write ⟨4, 1, b⟩ = r := by simp [Ro.write, Sl.into, hn]
          rw [e]
          exact ⟨by simp [go_sem], (close_full S 5 V P a0 r.b.data.length c0 .returning w cv' (e0 ▸ q7) (by omega)).mono fun e u' w' ⟨h1, h2, h3⟩ => ⟨h1, h2, da, db, h3 ▸ h⟩⟩

/-- What waits, and what it writes. -/
def Armed (S lo hi : Nat) (w : World) : List Deferred → List Wr → Prop
  | [], [] => True
  | d :: ds, x :: ws => (∃ F cap, d = { target := .fn (.func F) cap, args := #[] } ∧ ArmAt S lo hi F cap x w) ∧ Armed S lo hi w ds ws
  | _, _ => False

theorem leaves_arms {base S lo hi : Nat} {w0 : World} {fn : Func} {tmps : Array Value} {R : Ending → World → Prop} {tl : List Deferred} : ∀ (ws : List Wr) (ds : List Deferred), Armed S lo hi w0 ds ws → (∀ x ∈ ws, x.byte ≤ 255) → ∀ (r : Ro) (da db : Value) (w : World), RunAt base S lo hi w0 1 r da db w →
    (∀ da' db' w', RunAt base S lo hi w0 1 (r.play ws) da' db' w' → Leaves Try.prog fn tmps R tl .returning w') → Leaves Try.prog fn tmps R (ds ++ tl) .returning w := by
  intro ws
  induction ws with
  | nil =>
    intro ds hA _ r da db w h hK
    cases ds with
    | nil => exact hK da db w h
    | cons d ds => exact hA.elim
  | cons x ws ih =>
    intro ds hA hb r da db w h hK
    cases ds with
    | nil => exact hA.elim
    | cons d ds =>
      obtain ⟨⟨F, cap, rfl, ha⟩, hA⟩ := hA
      obtain ⟨hi1, hc⟩ := arm_step h ha (hb x (by simp))
      refine leaves_cons (by simp) hi1 (hc.mono ?_)
      rintro e u' w' ⟨rfl, rfl, da', db', h'⟩
      exact ih ds hA (fun y hy => hb y (by simp [hy])) (r.write x) da' db' w' h' hK

end Go.Proofs.Ytdhoimjkgicneac
