/- The store while it is written: what each write makes of it. -/
import Derived.Test.YtdhoimjkgicneacHolG
namespace Go.Proofs.Ytdhoimjkgicneac
open Go Go.RowKit

/-- The store at block S; what it holds lies in blocks of its own. -/
structure StAt (base S : Nat) (g : Int) (r : Ro) (da db : Value) (w : World) : Prop where
  bS : base ≤ S
  box : RomBox S 2 r da db w
  c0 : w.cell? ⟨S, 0, none⟩ = some (.int .i32 g)
  fr : ∀ i, w.frozen? ⟨S, i, none⟩ = false
  oa : Own base da r.a.data w
  ob : Own base db r.b.data w
  na : da.ownBlock ≠ some S
  nb : db.ownBlock ≠ some S
  nn : ∀ k, da.ownBlock = some k → db.ownBlock ≠ some k

theorem cell_set {w : World} {S i : Nat} {u : Value} (hs : w.cell? ⟨S, i, none⟩ = some u) (v : Value) (j : Nat) : (w.setCell ⟨S, i, none⟩ v).cell? ⟨S, j, none⟩ = if j = i then some v else w.cell? ⟨S, j, none⟩ := by
  by_cases h : j = i
  · subst h
    rw [if_pos rfl]
    exact World.cell?_setCell_same w _ v hs
  · rw [if_neg h]
    exact World.cell?_setCell_other w _ _ v (by intro e; injection e with e1 e2; exact h e2.symm)

theorem StAt.set {base S : Nat} {g g' : Int} {r r' : Ro} {da db da' db' : Value} {w : World} (h : StAt base S g r da db w) {i : Nat} {u : Value} (hs : w.cell? ⟨S, i, none⟩ = some u) (v : Value)
    (c0 : (if 0 = i then some v else w.cell? ⟨S, 0, none⟩) = some (.int .i32 g')) (c2 : (if 2 = i then some v else w.cell? ⟨S, 2, none⟩) = some (.int .u8 (r'.a.mark : Int))) (c3 : (if 3 = i then some v else w.cell? ⟨S, 3, none⟩) = some (.int .u8 (r'.a.turn : Int)))
    (c4 : (if 4 = i then some v else w.cell? ⟨S, 4, none⟩) = some da') (c5 : (if 5 = i then some v else w.cell? ⟨S, 5, none⟩) = some (.int .u8 (r'.b.mark : Int))) (c6 : (if 6 = i then some v else w.cell? ⟨S, 6, none⟩) = some (.int .u8 (r'.b.turn : Int)))
    (c7 : (if 7 = i then some v else w.cell? ⟨S, 7, none⟩) = some db') (oa : Own base da' r'.a.data w) (ob : Own base db' r'.b.data w) (na : da'.ownBlock ≠ some S) (nb : db'.ownBlock ≠ some S) (nn : ∀ k, da'.ownBlock = some k → db'.ownBlock ≠ some k) :
    StAt base S g' r' da' db' (w.setCell ⟨S, i, none⟩ v) :=
  ⟨h.bS, ⟨by simpa using h.box.z, (cell_set hs v 2).trans c2, (cell_set hs v 3).trans c3, (cell_set hs v 4).trans c4, (cell_set hs v 5).trans c5, (cell_set hs v 6).trans c6, (cell_set hs v 7).trans c7⟩, (cell_set hs v 0).trans c0,
    fun j => by simpa using h.fr j, oa.setCell na _, ob.setCell nb _, na, nb, nn⟩

theorem StAt.cells {base S : Nat} {g : Int} {r : Ro} {da db : Value} {w : World} (h : StAt base S g r da db w) :
    w.cell? ⟨S, 2, none⟩ = some (.int .u8 (r.a.mark : Int)) ∧ w.cell? ⟨S, 3, none⟩ = some (.int .u8 (r.a.turn : Int)) ∧ w.cell? ⟨S, 4, none⟩ = some da ∧ w.cell? ⟨S, 5, none⟩ = some (.int .u8 (r.b.mark : Int)) ∧ w.cell? ⟨S, 6, none⟩ = some (.int .u8 (r.b.turn : Int)) ∧ w.cell? ⟨S, 7, none⟩ = some db :=
  ⟨h.box.c0, h.box.c1, h.box.c2, h.box.c3, h.box.c4, h.box.c5⟩

theorem StAt.guard {base S : Nat} {g : Int} {r : Ro} {da db : Value} {w : World} (h : StAt base S g r da db w) (g' : Int) : StAt base S g' r da db (w.setCell ⟨S, 0, none⟩ (.int .i32 g')) := by
  obtain ⟨q2, q3, q4, q5, q6, q7⟩ := h.cells
  exact h.set h.c0 _ (by simp) (by simp [q2]) (by simp [q3]) (by simp [q4]) (by simp [q5]) (by simp [q6]) (by simp [q7]) h.oa h.ob h.na h.nb h.nn

theorem StAt.mark_a {base S : Nat} {g : Int} {r : Ro} {da db : Value} {w : World} (h : StAt base S g r da db w) (b : Nat) : StAt base S g ⟨⟨b, r.a.turn, r.a.data⟩, r.b⟩ da db (w.setCell ⟨S, 2, none⟩ (.int .u8 (b : Int))) := by
  obtain ⟨q2, q3, q4, q5, q6, q7⟩ := h.cells
  exact h.set q2 _ (by simp [h.c0]) (by simp) (by simp [q3]) (by simp [q4]) (by simp [q5]) (by simp [q6]) (by simp [q7]) h.oa h.ob h.na h.nb h.nn
theorem StAt.turn_a {base S : Nat} {g : Int} {r : Ro} {da db : Value} {w : World} (h : StAt base S g r da db w) (b : Nat) : StAt base S g ⟨⟨r.a.mark, b, r.a.data⟩, r.b⟩ da db (w.setCell ⟨S, 2 + 1, none⟩ (.int .u8 (b : Int))) := by
  obtain ⟨q2, q3, q4, q5, q6, q7⟩ := h.cells
  exact h.set q3 _ (by simp [h.c0]) (by simp [q2]) (by simp) (by simp [q4]) (by simp [q5]) (by simp [q6]) (by simp [q7]) h.oa h.ob h.na h.nb h.nn
theorem StAt.wipe_a {base S : Nat} {g : Int} {r : Ro} {da db : Value} {w : World} (h : StAt base S g r da db w) : StAt base S g ⟨⟨r.a.mark, r.a.turn, []⟩, r.b⟩ (.slice none 0 0) db (w.setCell ⟨S, 2 + 2, none⟩ (.slice none 0 0)) := by
  obtain ⟨q2, q3, q4, q5, q6, q7⟩ := h.cells
  exact h.set q4 _ (by simp [h.c0]) (by simp [q2]) (by simp [q3]) (by simp) (by simp [q5]) (by simp [q6]) (by simp [q7]) (own_nil _ _) h.ob (by simp [Value.ownBlock]) h.nb (by simp [Value.ownBlock])

theorem StAt.mark_b {base S : Nat} {g : Int} {r : Ro} {da db : Value} {w : World} (h : StAt base S g r da db w) (b : Nat) : StAt base S g ⟨r.a, ⟨b, r.b.turn, r.b.data⟩⟩ da db (w.setCell ⟨S, 5, none⟩ (.int .u8 (b : Int))) := by
  obtain ⟨q2, q3, q4, q5, q6, q7⟩ := h.cells
  exact h.set q5 _ (by simp [h.c0]) (by simp [q2]) (by simp [q3]) (by simp [q4]) (by simp) (by simp [q6]) (by simp [q7]) h.oa h.ob h.na h.nb h.nn
theorem StAt.turn_b {base S : Nat} {g : Int} {r : Ro} {da db : Value} {w : World} (h : StAt base S g r da db w) (b : Nat) : StAt base S g ⟨r.a, ⟨r.b.mark, b, r.b.data⟩⟩ da db (w.setCell ⟨S, 5 + 1, none⟩ (.int .u8 (b : Int))) := by
  obtain ⟨q2, q3, q4, q5, q6, q7⟩ := h.cells
  exact h.set q6 _ (by simp [h.c0]) (by simp [q2]) (by simp [q3]) (by simp [q4]) (by simp [q5]) (by simp) (by simp [q7]) h.oa h.ob h.na h.nb h.nn
theorem StAt.wipe_b {base S : Nat} {g : Int} {r : Ro} {da db : Value} {w : World} (h : StAt base S g r da db w) : StAt base S g ⟨r.a, ⟨r.b.mark, r.b.turn, []⟩⟩ da (.slice none 0 0) (w.setCell ⟨S, 5 + 2, none⟩ (.slice none 0 0)) := by
  obtain ⟨q2, q3, q4, q5, q6, q7⟩ := h.cells
  exact h.set q7 _ (by simp [h.c0]) (by simp [q2]) (by simp [q3]) (by simp [q4]) (by simp [q5]) (by simp [q6]) (by simp) h.oa (own_nil _ _) h.na (by simp [Value.ownBlock]) (by simp [Value.ownBlock])

/-- A store stays where its blocks stay. -/
theorem StAt.grown {base S : Nat} {g : Int} {r : Ro} {da db : Value} {w w1 : World} {row : Option Nat} (h : StAt base S g r da db w) (hg : w.grownBy w1 row) (hS : some S ≠ row) :
    RomBox S 2 r da db w1 ∧ w1.cell? ⟨S, 0, none⟩ = some (.int .i32 g) ∧ ∀ i, w1.frozen? ⟨S, i, none⟩ = false :=
  ⟨h.box.of_block (hg.block S h.box.z hS), (grown_cell hg h.box.z hS).trans h.c0, fun i => (grown_frozen hg h.box.z hS).trans (h.fr i)⟩

theorem own_lt {base : Nat} {v : Value} {xs : List Nat} {w : World} (h : Own base v xs w) {k : Nat} (hk : v.ownBlock = some k) : k < w.heap.size := (World.ownsRow.lt h k hk).2

theorem StAt.put_a {base S : Nat} {g : Int} {r : Ro} {da db d' : Value} {w w1 : World} {b : Nat} (h : StAt base S g r da db w) (ho : Own base d' (r.a.data ++ [b]) w1) (hg : w.grownBy w1 da.ownBlock) (hd : d'.ownBlock = da.ownBlock ∨ ∃ k, w.heap.size ≤ k ∧ d'.ownBlock = some k) :
    StAt base S g ⟨⟨r.a.mark, r.a.turn, r.a.data ++ [b]⟩, r.b⟩ d' db (w1.setCell ⟨S, 2 + 2, none⟩ d') := by
  obtain ⟨box, c0, fr⟩ := h.grown hg (fun e => h.na e.symm)
  have ob : Own base db r.b.data w1 := h.ob.kept fun k hk => hg.block k (own_lt h.ob hk) (fun e => h.nn k e.symm hk)
  have h1 : StAt base S g ⟨⟨r.a.mark, r.a.turn, r.a.data ++ [b]⟩, r.b⟩ d' db (w1.setCell ⟨S, 2 + 2, none⟩ d') := by
    have z := h.box.z
    have na : d'.ownBlock ≠ some S := by
      rcases hd with e | ⟨k, hk, e⟩
      · rw [e]; exact h.na
      · rw [e]; simp; omega
    have nn : ∀ k, d'.ownBlock = some k → db.ownBlock ≠ some k := by
      intro k hk
      rcases hd with e | ⟨k', hk', e⟩
      · exact h.nn k (e ▸ hk)
      · intro hb
        have := own_lt h.ob hb
        rw [e] at hk
        simp at hk
        omega
    have q : w1.cell? ⟨S, 4, none⟩ = some da := box.c2
    refine ⟨h.bS, ⟨by simpa using box.z, ?_, ?_, ?_, ?_, ?_, ?_⟩, ?_, fun j => by simpa using fr j, ho.setCell na _, ob.setCell h.nb _, na, h.nb, nn⟩
    · rw [cell_set q]; exact box.c0
    · rw [cell_set q]; exact box.c1
    · rw [cell_set q]; rfl
    · rw [cell_set q]; exact box.c3
    · rw [cell_set q]; exact box.c4
    · rw [cell_set q]; exact box.c5
    · rw [cell_set q]; exact c0
  exact h1

theorem StAt.put_b {base S : Nat} {g : Int} {r : Ro} {da db d' : Value} {w w1 : World} {b : Nat} (h : StAt base S g r da db w) (ho : Own base d' (r.b.data ++ [b]) w1) (hg : w.grownBy w1 db.ownBlock) (hd : d'.ownBlock = db.ownBlock ∨ ∃ k, w.heap.size ≤ k ∧ d'.ownBlock = some k) :
    StAt base S g ⟨r.a, ⟨r.b.mark, r.b.turn, r.b.data ++ [b]⟩⟩ da d' (w1.setCell ⟨S, 5 + 2, none⟩ d') := by
  obtain ⟨box, c0, fr⟩ := h.grown hg (fun e => h.nb e.symm)
  have oa : Own base da r.a.data w1 := h.oa.kept fun k hk => hg.block k (own_lt h.oa hk) (fun e => h.nn k hk e.symm)
  have z := h.box.z
  have nb : d'.ownBlock ≠ some S := by
    rcases hd with e | ⟨k, hk, e⟩
    · rw [e]; exact h.nb
    · rw [e]; simp; omega
  have nn : ∀ k, da.ownBlock = some k → d'.ownBlock ≠ some k := by
    intro k hk
    rcases hd with e | ⟨k', hk', e⟩
    · rw [e]; exact h.nn k hk
    · intro hb
      have := own_lt h.oa hk
      rw [e] at hb
      simp at hb
      omega
  have q : w1.cell? ⟨S, 7, none⟩ = some db := box.c5
  refine ⟨h.bS, ⟨by simpa using box.z, ?_, ?_, ?_, ?_, ?_, ?_⟩, ?_, fun j => by simpa using fr j, oa.setCell h.na _, ho.setCell nb _, h.na, nb, nn⟩
  · rw [cell_set q]; exact box.c0
  · rw [cell_set q]; exact box.c1
  · rw [cell_set q]; exact box.c2
  · rw [cell_set q]; exact box.c3
  · rw [cell_set q]; exact box.c4
  · rw [cell_set q]; rfl
  · rw [cell_set q]; exact c0

end Go.Proofs.Ytdhoimjkgicneac
