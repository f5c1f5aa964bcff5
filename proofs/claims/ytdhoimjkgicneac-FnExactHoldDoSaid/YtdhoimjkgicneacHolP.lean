/- A store of two slots, its writes and a plan of them, as plain things: what a plan cut behind any number of writes keeps. -/
import Derived.WalkKit
namespace Go.Proofs.Ytdhoimjkgicneac

/-- A slot. -/
structure Sl where
  mark : Nat
  turn : Nat
  data : List Nat

/-- A store. -/
structure Ro where
  a : Sl
  b : Sl

/-- What is written at once. -/
structure Wr where
  kind : Int
  slot : Int
  byte : Nat

def Sl.into (s : Sl) (w : Wr) : Sl :=
  if w.kind = 1 then { s with mark := w.byte } else if w.kind = 2 then { s with turn := w.byte } else if w.kind = 3 then { s with data := [] }
  else if w.kind = 4 then (if s.data.length < 20100 then { s with data := s.data ++ [w.byte] } else s) else s

def Ro.write (r : Ro) (w : Wr) : Ro := if w.slot = 0 then { r with a := r.a.into w } else if w.slot = 1 then { r with b := r.b.into w } else r

def Ro.play (r : Ro) (ws : List Wr) : Ro := ws.foldl Ro.write r

def Sl.good (s : Sl) : Bool := decide (s.mark = 165) && decide (s.turn ≤ 2) && decide (s.data.length ≤ 20100)

def Ro.slotNow (r : Ro) : Int := if r.a.good = true ∧ r.b.good = true ∧ r.b.turn = (r.a.turn + 1) % 3 then 1 else if r.a.good = true then 0 else if r.b.good = true then 1 else -1

def Ro.now (r : Ro) : Option (List Nat) := if r.slotNow = 0 then some r.a.data else if r.slotNow = 1 then some r.b.data else none

/-- The slot that is to be written, its turn, and the last write. -/
def Ro.to (r : Ro) : Int := if r.slotNow = 0 then 1 else 0
def Ro.turnTo (r : Ro) : Nat := if r.slotNow = 0 then (r.a.turn + 1) % 3 else if r.slotNow = 1 then (r.b.turn + 1) % 3 else 0
def puts (t : Int) (data : List Nat) : List Wr := data.map fun x => ⟨4, t, x⟩
def Ro.tail (r : Ro) : List Wr := if 0 ≤ r.slotNow then [⟨1, r.slotNow, 0⟩] else []
def Ro.plan (r : Ro) (data : List Nat) : List Wr := [⟨1, r.to, 0⟩, ⟨3, r.to, 0⟩] ++ puts r.to data ++ [⟨2, r.to, r.turnTo⟩, ⟨1, r.to, 165⟩] ++ r.tail

theorem Ro.play_append (r : Ro) (u v : List Wr) : r.play (u ++ v) = (r.play u).play v := by simp [Ro.play]
theorem Ro.play_cons (r : Ro) (w : Wr) (v : List Wr) : r.play (w :: v) = (r.write w).play v := rfl
theorem Ro.play_nil (r : Ro) : r.play [] = r := rfl

theorem puts_a (data : List Nat) : ∀ (m t : Nat) (d : List Nat) (B : Sl), d.length + data.length ≤ 20100 → (Ro.mk ⟨m, t, d⟩ B).play (puts 0 data) = ⟨⟨m, t, d ++ data⟩, B⟩ := by
  induction data with
  | nil => intro m t d B _; simp [puts, Ro.play]
  | cons x xs ih =>
    intro m t d B h
    simp only [List.length_cons] at h
    have e : puts 0 (x :: xs) = ⟨4, 0, x⟩ :: puts 0 xs := rfl
    have e2 : (Ro.mk ⟨m, t, d⟩ B).write ⟨4, 0, x⟩ = ⟨⟨m, t, d ++ [x]⟩, B⟩ := by simp [Ro.write, Sl.into, show d.length < 20100 by omega]
    rw [e, Ro.play_cons, e2, ih m t (d ++ [x]) B (by simp; omega)]
    simp

theorem puts_b (data : List Nat) : ∀ (m t : Nat) (d : List Nat) (A : Sl), d.length + data.length ≤ 20100 → (Ro.mk A ⟨m, t, d⟩).play (puts 1 data) = ⟨A, ⟨m, t, d ++ data⟩⟩ := by
  induction data with
  | nil => intro m t d A _; simp [puts, Ro.play]
  | cons x xs ih =>
    intro m t d A h
    simp only [List.length_cons] at h
    have e : puts 1 (x :: xs) = ⟨4, 1, x⟩ :: puts 1 xs := rfl
    have e2 : (Ro.mk A ⟨m, t, d⟩).write ⟨4, 1, x⟩ = ⟨A, ⟨m, t, d ++ [x]⟩⟩ := by simp [Ro.write, Sl.into, show d.length < 20100 by omega]
    rw [e, Ro.play_cons, e2, ih m t (d ++ [x]) A (by simp; omega)]
    simp

theorem puts_take (t : Int) (data : List Nat) (n : Nat) : (puts t data).take n = puts t (data.take n) := by simp [puts, List.map_take]
theorem puts_len (t : Int) (data : List Nat) : (puts t data).length = data.length := by simp [puts]

/-- A slot while a plan is written into it. -/
def half (s : Sl) (turn : Nat) (data : List Nat) (n : Nat) : Sl :=
  if n = 0 then s else if n = 1 then { s with mark := 0 } else if n ≤ data.length + 2 then ⟨0, s.turn, data.take (n - 2)⟩ else if n = data.length + 3 then ⟨0, turn, data⟩ else ⟨165, turn, data⟩

theorem frame_take (t : Int) (turn : Nat) (data : List Nat) (tl : List Wr) (n : Nat) :
    (([⟨1, t, 0⟩, ⟨3, t, 0⟩] ++ puts t data ++ [⟨2, t, turn⟩, ⟨1, t, 165⟩] ++ tl : List Wr)).take n =
      if n = 0 then [] else if n = 1 then [⟨1, t, 0⟩] else if n ≤ data.length + 2 then [⟨1, t, 0⟩, ⟨3, t, 0⟩] ++ puts t (data.take (n - 2))
      else if n = data.length + 3 then [⟨1, t, 0⟩, ⟨3, t, 0⟩] ++ puts t data ++ [⟨2, t, turn⟩]
      else [⟨1, t, 0⟩, ⟨3, t, 0⟩] ++ puts t data ++ [⟨2, t, turn⟩, ⟨1, t, 165⟩] ++ tl.take (n - (data.length + 4)) := by
  split
  · subst_vars; simp
  split
  · subst_vars; simp
  split
  · rename_i h0 h1 h2
    obtain ⟨k, rfl⟩ : ∃ k, n = k + 2 := ⟨n - 2, by omega⟩
    simp only [List.cons_append, List.nil_append, List.append_assoc, List.take_succ_cons]
    rw [List.take_append_of_le_length (by rw [puts_len]; omega), puts_take]
    simp
  split
  · subst_vars
    simp [puts_len, List.take_append, List.take_of_length_le]
  · rename_i h0 h1 h2 h3
    obtain ⟨k, rfl⟩ : ∃ k, n = k + (data.length + 4) := ⟨n - (data.length + 4), by omega⟩
    rw [List.take_append]
    congr 1
    · exact List.take_of_length_le (by simp [puts_len])
    · simp [puts_len]

theorem play_half_a (A B : Sl) (turn : Nat) (data tl : _) (n : Nat) (hd : data.length ≤ 20100) :
    (Ro.mk A B).play (([⟨1, 0, 0⟩, ⟨3, 0, 0⟩] ++ puts 0 data ++ [⟨2, 0, turn⟩, ⟨1, 0, 165⟩] ++ tl : List Wr).take n) = (Ro.mk (half A turn data n) B).play (tl.take (n - (data.length + 4))) := by
  rw [frame_take]
  have c2 : (Ro.mk A B).play [⟨1, 0, 0⟩, ⟨3, 0, 0⟩] = ⟨⟨0, A.turn, []⟩, B⟩ := by simp [Ro.play, Ro.write, Sl.into]
  have c3 : ∀ xs : List Nat, xs.length ≤ 20100 → (Ro.mk A B).play ([⟨1, 0, 0⟩, ⟨3, 0, 0⟩] ++ puts 0 xs) = ⟨⟨0, A.turn, xs⟩, B⟩ := by
    intro xs h
    rw [Ro.play_append, c2, puts_a _ _ _ _ _ (by simpa using h)]; simp
  unfold half
  split
  · subst_vars; simp [Ro.play]
  split
  · subst_vars; simp [Ro.play, Ro.write, Sl.into]
  split
  · rename_i h0 h1 h2
    rw [c3 _ (by simp; omega), show n - (data.length + 4) = 0 by omega]; rfl
  split
  · rw [Ro.play_append, c3 _ hd, show n - (data.length + 4) = 0 by omega]; simp [Ro.play, Ro.write, Sl.into]
  · rw [Ro.play_append, Ro.play_append, c3 _ hd]
    congr 1

theorem play_half_b (A B : Sl) (turn : Nat) (data tl : _) (n : Nat) (hd : data.length ≤ 20100) :
    (Ro.mk A B).play (([⟨1, 1, 0⟩, ⟨3, 1, 0⟩] ++ puts 1 data ++ [⟨2, 1, turn⟩, ⟨1, 1, 165⟩] ++ tl : List Wr).take n) = (Ro.mk A (half B turn data n)).play (tl.take (n - (data.length + 4))) := by
  rw [frame_take]
  have c2 : (Ro.mk A B).play [⟨1, 1, 0⟩, ⟨3, 1, 0⟩] = ⟨A, ⟨0, B.turn, []⟩⟩ := by simp [Ro.play, Ro.write, Sl.into]
  have c3 : ∀ xs : List Nat, xs.length ≤ 20100 → (Ro.mk A B).play ([⟨1, 1, 0⟩, ⟨3, 1, 0⟩] ++ puts 1 xs) = ⟨A, ⟨0, B.turn, xs⟩⟩ := by
    intro xs h
    rw [Ro.play_append, c2, puts_b _ _ _ _ _ (by simpa using h)]; simp
  unfold half
  split
  · subst_vars; simp [Ro.play]
  split
  · subst_vars; simp [Ro.play, Ro.write, Sl.into]
  split
  · rename_i h0 h1 h2
    rw [c3 _ (by simp; omega), show n - (data.length + 4) = 0 by omega]; rfl
  split
  · rw [Ro.play_append, c3 _ hd, show n - (data.length + 4) = 0 by omega]; simp [Ro.play, Ro.write, Sl.into]
  · rw [Ro.play_append, Ro.play_append, c3 _ hd]
    congr 1

theorem half_bad (s : Sl) (turn : Nat) (data : List Nat) (n : Nat) (h0 : n ≠ 0) (h1 : n < data.length + 4) : (half s turn data n).good = false := by
  unfold half Sl.good
  split
  · contradiction
  split
  · simp
  split
  · simp
  split
  · simp
  · omega
theorem half_whole (s : Sl) (turn : Nat) (data : List Nat) (n : Nat) (h1 : data.length + 4 ≤ n) : half s turn data n = ⟨165, turn, data⟩ := by
  unfold half
  split
  · omega
  split
  · omega
  split
  · omega
  split
  · omega
  · rfl
theorem half_none (s : Sl) (turn : Nat) (data : List Nat) : half s turn data 0 = s := rfl

theorem plan_len (r : Ro) (data : List Nat) : (r.plan data).length = data.length + 4 + r.tail.length := by
  simp [Ro.plan, puts_len]; omega

/-- Old or new. -/
theorem old_or_new (r : Ro) (data : List Nat) (hd : data.length ≤ 20100) (n : Nat) :
    (n < data.length + 4 → (r.play ((r.plan data).take n)).now = r.now) ∧ (data.length + 4 ≤ n → (r.play ((r.plan data).take n)).now = some data) := by
  obtain ⟨A, B⟩ := r
  have hgood : ∀ t : Nat, t ≤ 2 → (Sl.mk 165 t data).good = true := by intro t ht; simp [Sl.good, hd, ht]
  have hbad : ∀ (t : Nat) (d : List Nat), (Sl.mk 0 t d).good = false := by intro t d; simp [Sl.good]
  have hgt : ∀ s : Sl, s.good = true → s.turn ≤ 2 := by intro s hs; simp [Sl.good] at hs; exact hs.1.2
  by_cases ga : A.good = true
  · by_cases gb : B.good = true
    · by_cases gt : B.turn = (A.turn + 1) % 3
      · -- B counts
        have e1 : (Ro.mk A B).slotNow = 1 := by simp [Ro.slotNow, ga, gb, gt]
        have ep : (Ro.mk A B).plan data = [⟨1, 0, 0⟩, ⟨3, 0, 0⟩] ++ puts 0 data ++ [⟨2, 0, (B.turn + 1) % 3⟩, ⟨1, 0, 165⟩] ++ [⟨1, 1, 0⟩] := by simp [Ro.plan, Ro.to, Ro.turnTo, Ro.tail, e1]
        rw [ep, play_half_a _ _ _ _ _ _ hd]
        have en : (Ro.mk A B).now = some B.data := by simp [Ro.now, e1]
        rw [en]
        refine ⟨fun h => ?_, fun h => ?_⟩
        · rw [show n - (data.length + 4) = 0 by omega, List.take_zero, Ro.play_nil]
          by_cases h0 : n = 0
          · subst h0; rw [half_none]; exact en
          · have := half_bad A ((B.turn + 1) % 3) data n h0 h
            simp [Ro.now, Ro.slotNow, this, gb]
        · rw [half_whole _ _ _ _ h]
          have := hgt B gb
          have h1 := hgood ((B.turn + 1) % 3) (by omega)
          by_cases h5 : n - (data.length + 4) = 0
          · rw [h5, List.take_zero, Ro.play_nil]
            have hne : B.turn ≠ (B.turn + 1 + 1) % 3 := by omega
            have e2 : (Ro.mk ⟨165, (B.turn + 1) % 3, data⟩ B).slotNow = 0 := by simp [Ro.slotNow, h1, gb, hne]
            simp [Ro.now, e2]
          · obtain ⟨k, hk⟩ : ∃ k, n - (data.length + 4) = k + 1 := ⟨n - (data.length + 4) - 1, by omega⟩
            rw [hk]
            have e2 : (Ro.mk ⟨165, (B.turn + 1) % 3, data⟩ ⟨0, B.turn, B.data⟩).slotNow = 0 := by simp [Ro.slotNow, h1, hbad]
            simp [Ro.play, Ro.write, Sl.into, Ro.now, e2]
      · have e1 : (Ro.mk A B).slotNow = 0 := by simp [Ro.slotNow, ga, gt]
        have ep : (Ro.mk A B).plan data = [⟨1, 1, 0⟩, ⟨3, 1, 0⟩] ++ puts 1 data ++ [⟨2, 1, (A.turn + 1) % 3⟩, ⟨1, 1, 165⟩] ++ [⟨1, 0, 0⟩] := by simp [Ro.plan, Ro.to, Ro.turnTo, Ro.tail, e1]
        rw [ep, play_half_b _ _ _ _ _ _ hd]
        have en : (Ro.mk A B).now = some A.data := by simp [Ro.now, e1]
        rw [en]
        refine ⟨fun h => ?_, fun h => ?_⟩
        · rw [show n - (data.length + 4) = 0 by omega, List.take_zero, Ro.play_nil]
          by_cases h0 : n = 0
          · subst h0; rw [half_none]; exact en
          · have := half_bad B ((A.turn + 1) % 3) data n h0 h
            simp [Ro.now, Ro.slotNow, this, ga]
        · rw [half_whole _ _ _ _ h]
          have := hgt A ga
          have h1 := hgood ((A.turn + 1) % 3) (by omega)
          by_cases h5 : n - (data.length + 4) = 0
          · rw [h5, List.take_zero, Ro.play_nil]
            have e2 : (Ro.mk A ⟨165, (A.turn + 1) % 3, data⟩).slotNow = 1 := by simp [Ro.slotNow, h1, ga]
            simp [Ro.now, e2]
          · obtain ⟨k, hk⟩ : ∃ k, n - (data.length + 4) = k + 1 := ⟨n - (data.length + 4) - 1, by omega⟩
            rw [hk]
            have e2 : (Ro.mk ⟨0, A.turn, A.data⟩ ⟨165, (A.turn + 1) % 3, data⟩).slotNow = 1 := by simp [Ro.slotNow, h1, hbad]
            simp [Ro.play, Ro.write, Sl.into, Ro.now, e2]
    · have gb' : B.good = false := by simpa using gb
      have e1 : (Ro.mk A B).slotNow = 0 := by simp [Ro.slotNow, ga, gb']
      have ep : (Ro.mk A B).plan data = [⟨1, 1, 0⟩, ⟨3, 1, 0⟩] ++ puts 1 data ++ [⟨2, 1, (A.turn + 1) % 3⟩, ⟨1, 1, 165⟩] ++ [⟨1, 0, 0⟩] := by simp [Ro.plan, Ro.to, Ro.turnTo, Ro.tail, e1]
      rw [ep, play_half_b _ _ _ _ _ _ hd]
      have en : (Ro.mk A B).now = some A.data := by simp [Ro.now, e1]
      rw [en]
      refine ⟨fun h => ?_, fun h => ?_⟩
      · rw [show n - (data.length + 4) = 0 by omega, List.take_zero, Ro.play_nil]
        by_cases h0 : n = 0
        · subst h0; rw [half_none]; exact en
        · have := half_bad B ((A.turn + 1) % 3) data n h0 h
          simp [Ro.now, Ro.slotNow, this, ga]
      · rw [half_whole _ _ _ _ h]
        have := hgt A ga
        have h1 := hgood ((A.turn + 1) % 3) (by omega)
        by_cases h5 : n - (data.length + 4) = 0
        · rw [h5, List.take_zero, Ro.play_nil]
          have e2 : (Ro.mk A ⟨165, (A.turn + 1) % 3, data⟩).slotNow = 1 := by simp [Ro.slotNow, h1, ga]
          simp [Ro.now, e2]
        · obtain ⟨k, hk⟩ : ∃ k, n - (data.length + 4) = k + 1 := ⟨n - (data.length + 4) - 1, by omega⟩
          rw [hk]
          have e2 : (Ro.mk ⟨0, A.turn, A.data⟩ ⟨165, (A.turn + 1) % 3, data⟩).slotNow = 1 := by simp [Ro.slotNow, h1, hbad]
          simp [Ro.play, Ro.write, Sl.into, Ro.now, e2]
  · have ga' : A.good = false := by simpa using ga
    by_cases gb : B.good = true
    · have e1 : (Ro.mk A B).slotNow = 1 := by simp [Ro.slotNow, ga', gb]
      have ep : (Ro.mk A B).plan data = [⟨1, 0, 0⟩, ⟨3, 0, 0⟩] ++ puts 0 data ++ [⟨2, 0, (B.turn + 1) % 3⟩, ⟨1, 0, 165⟩] ++ [⟨1, 1, 0⟩] := by simp [Ro.plan, Ro.to, Ro.turnTo, Ro.tail, e1]
      rw [ep, play_half_a _ _ _ _ _ _ hd]
      have en : (Ro.mk A B).now = some B.data := by simp [Ro.now, e1]
      rw [en]
      refine ⟨fun h => ?_, fun h => ?_⟩
      · rw [show n - (data.length + 4) = 0 by omega, List.take_zero, Ro.play_nil]
        by_cases h0 : n = 0
        · subst h0; rw [half_none]; exact en
        · have := half_bad A ((B.turn + 1) % 3) data n h0 h
          simp [Ro.now, Ro.slotNow, this, gb]
      · rw [half_whole _ _ _ _ h]
        have := hgt B gb
        have h1 := hgood ((B.turn + 1) % 3) (by omega)
        by_cases h5 : n - (data.length + 4) = 0
        · rw [h5, List.take_zero, Ro.play_nil]
          have hne : B.turn ≠ (B.turn + 1 + 1) % 3 := by omega
          have e2 : (Ro.mk ⟨165, (B.turn + 1) % 3, data⟩ B).slotNow = 0 := by simp [Ro.slotNow, h1, gb, hne]
          simp [Ro.now, e2]
        · obtain ⟨k, hk⟩ : ∃ k, n - (data.length + 4) = k + 1 := ⟨n - (data.length + 4) - 1, by omega⟩
          rw [hk]
          have e2 : (Ro.mk ⟨165, (B.turn + 1) % 3, data⟩ ⟨0, B.turn, B.data⟩).slotNow = 0 := by simp [Ro.slotNow, h1, hbad]
          simp [Ro.play, Ro.write, Sl.into, Ro.now, e2]
    · have gb' : B.good = false := by simpa using gb
      have e1 : (Ro.mk A B).slotNow = -1 := by simp [Ro.slotNow, ga', gb']
      have ep : (Ro.mk A B).plan data = [⟨1, 0, 0⟩, ⟨3, 0, 0⟩] ++ puts 0 data ++ [⟨2, 0, 0⟩, ⟨1, 0, 165⟩] ++ [] := by simp [Ro.plan, Ro.to, Ro.turnTo, Ro.tail, e1]
      rw [ep, play_half_a _ _ _ _ _ _ hd]
      have en : (Ro.mk A B).now = none := by simp [Ro.now, e1]
      rw [en, List.take_nil, Ro.play_nil]
      refine ⟨fun h => ?_, fun h => ?_⟩
      · by_cases h0 : n = 0
        · subst h0; rw [half_none]; exact en
        · have := half_bad A 0 data n h0 h
          simp [Ro.now, Ro.slotNow, this, gb']
      · rw [half_whole _ _ _ _ h]
        have h1 := hgood 0 (by omega)
        have e2 : (Ro.mk ⟨165, 0, data⟩ B).slotNow = 0 := by simp [Ro.slotNow, h1, gb']
        simp [Ro.now, e2]

theorem now_tail (r : Ro) : r.tail.length = if r.now = none then 0 else 1 := by
  unfold Ro.tail Ro.now
  have : r.slotNow = 0 ∨ r.slotNow = 1 ∨ r.slotNow = -1 := by unfold Ro.slotNow; split; simp; split; simp; split <;> simp
  rcases this with h | h | h <;> simp [h]

theorem slot_cases (r : Ro) : (r.slotNow = 0 ∧ r.a.good = true) ∨ (r.slotNow = 1 ∧ r.b.good = true) ∨ (r.slotNow = -1 ∧ r.a.good = false ∧ r.b.good = false) := by
  unfold Ro.slotNow
  cases r.a.good <;> cases r.b.good <;> simp <;> omega

/-- What is there behind a whole plan. -/
theorem play_whole (r : Ro) (data : List Nat) (hd : data.length ≤ 20100) :
    r.play (r.plan data) = if r.slotNow = 0 then ⟨⟨0, r.a.turn, r.a.data⟩, ⟨165, (r.a.turn + 1) % 3, data⟩⟩ else if r.slotNow = 1 then ⟨⟨165, (r.b.turn + 1) % 3, data⟩, ⟨0, r.b.turn, r.b.data⟩⟩ else ⟨⟨165, 0, data⟩, r.b⟩ := by
  obtain ⟨A, B⟩ := r
  have hn : ∀ (r : Ro), (r.plan data).take (data.length + 5) = r.plan data := fun r => List.take_of_length_le (by rw [plan_len, now_tail]; split <;> omega)
  rw [← hn]
  rcases slot_cases ⟨A, B⟩ with ⟨h, -⟩ | ⟨h, -⟩ | ⟨h, -, -⟩
  · have ep : (Ro.mk A B).plan data = [⟨1, 1, 0⟩, ⟨3, 1, 0⟩] ++ puts 1 data ++ [⟨2, 1, (A.turn + 1) % 3⟩, ⟨1, 1, 165⟩] ++ [⟨1, 0, 0⟩] := by simp [Ro.plan, Ro.to, Ro.turnTo, Ro.tail, h]
    rw [ep, play_half_b _ _ _ _ _ _ hd, half_whole _ _ _ _ (by omega), show data.length + 5 - (data.length + 4) = 1 by omega]
    simp [h, Ro.play, Ro.write, Sl.into]
  · have ep : (Ro.mk A B).plan data = [⟨1, 0, 0⟩, ⟨3, 0, 0⟩] ++ puts 0 data ++ [⟨2, 0, (B.turn + 1) % 3⟩, ⟨1, 0, 165⟩] ++ [⟨1, 1, 0⟩] := by simp [Ro.plan, Ro.to, Ro.turnTo, Ro.tail, h]
    rw [ep, play_half_a _ _ _ _ _ _ hd, half_whole _ _ _ _ (by omega), show data.length + 5 - (data.length + 4) = 1 by omega]
    simp [h, Ro.play, Ro.write, Sl.into]
  · have ep : (Ro.mk A B).plan data = [⟨1, 0, 0⟩, ⟨3, 0, 0⟩] ++ puts 0 data ++ [⟨2, 0, 0⟩, ⟨1, 0, 165⟩] ++ [] := by simp [Ro.plan, Ro.to, Ro.turnTo, Ro.tail, h]
    rw [ep, play_half_a _ _ _ _ _ _ hd, half_whole _ _ _ _ (by omega)]
    simp [h, Ro.play]

/-- Behind a whole plan the slot that was written counts, and the one that counted has no mark. -/
theorem once (r : Ro) (data : List Nat) (hd : data.length ≤ 20100) :
    (r.slotNow = 0 ∧ (r.play (r.plan data)).slotNow = 1 ∧ (r.play (r.plan data)).b.mark = 165 ∧ (r.play (r.plan data)).a.mark = 0) ∨
    (r.slotNow = 1 ∧ (r.play (r.plan data)).slotNow = 0 ∧ (r.play (r.plan data)).a.mark = 165 ∧ (r.play (r.plan data)).b.mark = 0) ∨
    (r.slotNow = -1 ∧ (r.play (r.plan data)).slotNow = 0 ∧ (r.play (r.plan data)).a.mark = 165 ∧ (r.play (r.plan data)).b.mark = r.b.mark) := by
  have hgt : ∀ s : Sl, s.good = true → s.turn ≤ 2 := by intro s hs; simp [Sl.good] at hs; exact hs.1.2
  have hgood : ∀ t : Nat, t ≤ 2 → (Sl.mk 165 t data).good = true := by intro t ht; simp [Sl.good, hd, ht]
  have hbad : ∀ (t : Nat) (d : List Nat), (Sl.mk 0 t d).good = false := by intro t d; simp [Sl.good]
  rcases slot_cases r with ⟨h, g⟩ | ⟨h, g⟩ | ⟨h, ga, gb⟩
  · have e : r.play (r.plan data) = ⟨⟨0, r.a.turn, r.a.data⟩, ⟨165, (r.a.turn + 1) % 3, data⟩⟩ := by rw [play_whole r data hd, h]; rfl
    rw [e]
    exact Or.inl ⟨h, by simp [Ro.slotNow, hbad, hgood ((r.a.turn + 1) % 3) (by have := hgt _ g; omega)], rfl, rfl⟩
  · have e : r.play (r.plan data) = ⟨⟨165, (r.b.turn + 1) % 3, data⟩, ⟨0, r.b.turn, r.b.data⟩⟩ := by rw [play_whole r data hd, h]; rfl
    rw [e]
    exact Or.inr (Or.inl ⟨h, by simp [Ro.slotNow, hbad, hgood ((r.b.turn + 1) % 3) (by have := hgt _ g; omega)], rfl, rfl⟩)
  · have e : r.play (r.plan data) = ⟨⟨165, 0, data⟩, r.b⟩ := by rw [play_whole r data hd, h]; rfl
    rw [e]
    exact Or.inr (Or.inr ⟨h, by simp [Ro.slotNow, gb, hgood 0 (by omega)], rfl, rfl⟩)

end Go.Proofs.Ytdhoimjkgicneac
