/- The specification's writes into a slot. -/
import Derived.Test.YtdhoimjkgicneacHolM
namespace Go.Proofs.Ytdhoimjkgicneac
open Go Go.RowKit

theorem grown_set {w w' : World} {row : Option Nat} (h : w.grownBy w' row) {a : Addr} (ha : w.heap.size ≤ a.block) (v : Value) : w.grownBy (w'.setCell a v) row :=
  ⟨h.os, h.tape, h.output, by simpa using h.size, fun k hk hn => (Below.heap_setCell w' a v k (by omega)).trans (h.block k hk hn)⟩
theorem grown_alloc {w w' : World} {row : Option Nat} (h : w.grownBy w' row) (o : Obj) : w.grownBy (w'.alloc o) row :=
  h.trans (World.grownBy_alloc w' o row)
theorem grown_of_below {w w' : World} {row : Option Nat} (h : Below w.heap.size w w') : w.grownBy w' row := ⟨h.os, h.tape, h.output, h.size, fun k hk _ => h.block k hk⟩

set_option maxRecDepth 100000 in
set_option maxHeartbeats 1600000 in
/-- A write that is no put. -/
theorem into_spec (s : Sl) (x : Wr) (a : Option Addr) (n cap : Nat) (w : World) (hk : x.kind ≠ 4) :
    Calls Try.prog 46 #[slV s (.slice a n cap), wrV x] w fun e w' => (∃ d', e = .returned (slV (s.into x) d') ∧ ((d' = .slice a n cap ∧ (s.into x).data = s.data) ∨ (d' = .slice none 0 0 ∧ (s.into x).data = []))) ∧ Below w.heap.size w w' := by
  obtain ⟨m, t, d⟩ := s
  obtain ⟨k, sl, b⟩ := x
  simp only [slV, wrV] at hk ⊢
  have q4 : (k == 4) = false := by simpa using hk
  have B0 : ∀ (c0 c1 c2 : Array Value), Below w.heap.size w (((w.alloc (.cells c0 30)).alloc (.cells c1 35)).alloc (.cells c2 30)) := fun _ _ _ => (((Below.refl w.heap.size w).alloc (Nat.le_refl _) _).alloc (by simp) _).alloc (by simp; omega) _
  have HB : Hid (∀ (c0 c1 c2 : Array Value), Below w.heap.size w (((w.alloc (.cells c0 30)).alloc (.cells c1 35)).alloc (.cells c2 30))) := B0
  clear B0
  by_cases h1 : k = 1
  · subst h1
    go_enter Try.func46, Try.ntmps46
    go_wp2_with fail
    exact bodyPost_ret (v := .agg #[.int .u8 (b : Int), .int .u8 (t : Int), .slice a n cap]) (by simp [results, Try.results46, go_sem]) rfl ⟨⟨_, by simp [Sl.into], Or.inl ⟨rfl, by simp [Sl.into]⟩⟩, HB.out _ _ _⟩
  by_cases h2 : k = 2
  · subst h2
    go_enter Try.func46, Try.ntmps46
    go_wp2_with fail
    exact bodyPost_ret (v := .agg #[.int .u8 (m : Int), .int .u8 (b : Int), .slice a n cap]) (by simp [results, Try.results46, go_sem]) rfl ⟨⟨_, by simp [Sl.into], Or.inl ⟨rfl, by simp [Sl.into]⟩⟩, HB.out _ _ _⟩
  by_cases h3 : k = 3
  · subst h3
    go_enter Try.func46, Try.ntmps46
    go_wp2_with fail
    exact bodyPost_ret (v := .agg #[.int .u8 (m : Int), .int .u8 (t : Int), .slice none 0 0]) (by simp [results, Try.results46, go_sem]) rfl ⟨⟨_, by simp [Sl.into], Or.inr ⟨rfl, by simp [Sl.into]⟩⟩, HB.out _ _ _⟩
  have q1 : (k == 1) = false := by simpa using h1
  have q2 : (k == 2) = false := by simpa using h2
  have q3 : (k == 3) = false := by simpa using h3
  have HE : Hid ((Sl.mk m t d).into ⟨k, sl, b⟩ = ⟨m, t, d⟩) := (show _ = _ by simp [Sl.into, h1, h2, h3, hk])
  go_enter Try.func46, Try.ntmps46
  go_wp2_with fail
  refine bodyPost_ret (v := .agg #[.int .u8 (m : Int), .int .u8 (t : Int), .slice a n cap]) (by simp [results, Try.results46, go_sem]) rfl ?_
  rw [HE.out]
  exact ⟨⟨_, rfl, Or.inl ⟨rfl, rfl⟩⟩, HB.out _ _ _⟩

set_option maxRecDepth 100000 in
set_option maxHeartbeats 1600000 in
/-- A write into a slot of one's own. -/
theorem add_spec (base : Nat) (s : Sl) (x : Wr) (d : Value) (w : World) (ho : Own base d s.data w) (hb : base ≤ w.heap.size) (hl : s.data.length ≤ 2000000) :
    Calls Try.prog 51 #[slV s d, wrV x] w fun e w' => ∃ d', e = .returned (slV (s.into x) d') ∧ Own base d' (s.into x).data w' ∧ w.grownBy w' d.ownBlock ∧ (d'.ownBlock = d.ownBlock ∨ d'.ownBlock = none ∨ ∃ k, w.heap.size ≤ k ∧ d'.ownBlock = some k) := by
  have HO : Hid (Own base d s.data w) := ho
  have HL : Hid (∀ k, d.ownBlock = some k → k < w.heap.size) := fun k hk => own_lt ho hk
  obtain ⟨ao, cap, rfl⟩ := own_size ho
  clear ho
  obtain ⟨k, sl, b⟩ := x
  obtain ⟨m, t, xs⟩ := s
  simp only [slV, wrV] at hl HO ⊢
  by_cases hk : k = 4
  · subst hk
    by_cases hn : xs.length < 20100
    · have hn' : (xs.length : Int) < 20100 := by omega
      have HE : Hid ((Sl.mk m t xs).into ⟨4, sl, b⟩ = ⟨m, t, xs ++ [b]⟩) := (show _ = _ by simp [Sl.into, hn])
      have O3 : Hid (Own base (.slice ao xs.length cap) xs ((((w.alloc (.cells #[.int .u8 (m : Int), .int .u8 (t : Int), .slice ao xs.length cap] 30)).alloc (.cells #[.int .i64 4, .int .i64 sl, .int .u8 (b : Int)] 35)).alloc (.cells #[.int .u8 0, .int .u8 0, .slice none 0 0] 30)).alloc (.cells #[.int .u8 (b : Int)] 5))) := World.ownsRow.alloc (World.ownsRow.alloc (World.ownsRow.alloc (World.ownsRow.alloc HO.out _) _) _) _
      go_enter Try.func51, Try.ntmps51
      go_wp2_with (at_builtin; refine list_app base (v := .slice ao xs.length cap) (s := .slice (some ⟨w.heap.size + 1 + 1 + 1, 0, none⟩) 1 1) (xs := xs) (ys := [b]) rfl (.tmp 15) (.tmp 18) rfl rfl rfl O3.out ?c1 (by simp; omega) (by simp; omega) ?_)
      case c1 =>
        have := (bytes_one b (((w.alloc (.cells #[.int .u8 (m : Int), .int .u8 (t : Int), .slice ao xs.length cap] 30)).alloc (.cells #[.int .i64 4, .int .i64 sl, .int .u8 (b : Int)] 35)).alloc (.cells #[.int .u8 0, .int .u8 0, .slice none 0 0] 30)) 5 1).resolve_right (by simp)
        simpa using this
      intro d' w4 o4 g4 a4
      have hz : ∀ k, k < w.heap.size + 4 → k < ((((w.alloc (.cells #[.int .u8 (m : Int), .int .u8 (t : Int), .slice ao xs.length cap] 30)).alloc (.cells #[.int .i64 4, .int .i64 sl, .int .u8 (b : Int)] 35)).alloc (.cells #[.int .u8 0, .int .u8 0, .slice none 0 0] 30)).alloc (.cells #[.int .u8 (b : Int)] 5)).heap.size := fun k hk => by simp; omega
      have row : ∀ k, w.heap.size ≤ k → some k ≠ (Value.slice ao xs.length cap).ownBlock := fun k hk e => by have := HL.out k e.symm; omega
      have kk : ∀ (q o : Nat), w.heap.size ≤ q → q < w.heap.size + 4 → w4.cell? ⟨q, o, none⟩ = ((((w.alloc (.cells #[.int .u8 (m : Int), .int .u8 (t : Int), .slice ao xs.length cap] 30)).alloc (.cells #[.int .i64 4, .int .i64 sl, .int .u8 (b : Int)] 35)).alloc (.cells #[.int .u8 0, .int .u8 0, .slice none 0 0] 30)).alloc (.cells #[.int .u8 (b : Int)] 5)).cell? ⟨q, o, none⟩ := fun q o h1 h2 => grown_cell g4 (hz q h2) (row q h1)
      have zz : ∀ (q o : Nat), w.heap.size ≤ q → q < w.heap.size + 4 → w4.frozen? ⟨q, o, none⟩ = ((((w.alloc (.cells #[.int .u8 (m : Int), .int .u8 (t : Int), .slice ao xs.length cap] 30)).alloc (.cells #[.int .i64 4, .int .i64 sl, .int .u8 (b : Int)] 35)).alloc (.cells #[.int .u8 0, .int .u8 0, .slice none 0 0] 30)).alloc (.cells #[.int .u8 (b : Int)] 5)).frozen? ⟨q, o, none⟩ := fun q o h1 h2 => grown_frozen g4 (hz q h2) (row q h1)
      have k0 : w4.cell? ⟨w.heap.size, 0, none⟩ = some (.int .u8 (m : Int)) := by rw [kk _ _ (by omega) (by omega)]; simp [go_sem]
      have k1 : w4.cell? ⟨w.heap.size, 1, none⟩ = some (.int .u8 (t : Int)) := by rw [kk _ _ (by omega) (by omega)]; simp [go_sem]
      have k2 : w4.cell? ⟨w.heap.size, 2, none⟩ = some (.slice ao xs.length cap) := by rw [kk _ _ (by omega) (by omega)]; simp [go_sem]
      have z2 : w4.frozen? ⟨w.heap.size, 2, none⟩ = false := by rw [zz _ _ (by omega) (by omega)]; simp [go_sem]
      have r0 : w4.cell? ⟨w.heap.size + 1 + 1, 0, none⟩ = some (.int .u8 0) := by rw [kk _ _ (by omega) (by omega)]; simp [go_sem]
      have r1 : w4.cell? ⟨w.heap.size + 1 + 1, 1, none⟩ = some (.int .u8 0) := by rw [kk _ _ (by omega) (by omega)]; simp [go_sem]
      have r2 : w4.cell? ⟨w.heap.size + 1 + 1, 2, none⟩ = some (.slice none 0 0) := by rw [kk _ _ (by omega) (by omega)]; simp [go_sem]
      have f0 : w4.frozen? ⟨w.heap.size + 1 + 1, 0, none⟩ = false := by rw [zz _ _ (by omega) (by omega)]; simp [go_sem]
      have f1 : w4.frozen? ⟨w.heap.size + 1 + 1, 1, none⟩ = false := by rw [zz _ _ (by omega) (by omega)]; simp [go_sem]
      have f2 : w4.frozen? ⟨w.heap.size + 1 + 1, 2, none⟩ = false := by rw [zz _ _ (by omega) (by omega)]; simp [go_sem]
      have H4 : Hid (Own base d' (xs ++ [b]) w4 ∧ w.grownBy w4 (Value.slice ao xs.length cap).ownBlock ∧ (d'.ownBlock = (Value.slice ao xs.length cap).ownBlock ∨ d'.ownBlock = some (w.heap.size + 4)) ∧ ∀ q, w.heap.size ≤ q → q < w.heap.size + 4 → d'.ownBlock ≠ some q) := by
        refine ⟨o4, (grown_alloc (grown_alloc (grown_alloc (grown_alloc (World.grownBy.refl w _) _) _) _) _).trans g4, ?_, ?_⟩
        · rcases a4 with a4 | a4
          · exact Or.inl a4
          · exact Or.inr a4
        · intro q h1 h2 e
          rcases a4 with a4 | a4
          · exact row q h1 (e.symm.trans a4)
          · rw [a4] at e; simp at e; omega
      obtain ⟨ao', cap', rfl⟩ := own_size o4
      clear o4 g4 a4 kk zz hz row O3
      go_wp2_with fail
      have hlen : (xs ++ [b]).length = xs.length + 1 := by simp
      have H5 := H4.out
      rw [hlen] at H5
      obtain ⟨o5, g5, a5, n5⟩ := H5
      refine bodyPost_ret (v := .agg #[.int .u8 (m : Int), .int .u8 (t : Int), .slice ao' (xs.length + 1) cap']) (by simp [results, Try.results51, go_sem, r0, r1, r2]) rfl ?_
      rw [HE.out]
      refine ⟨_, rfl, (((o5.setCell (n5 _ (Nat.le_refl _) (by show w.heap.size < _; omega)) _).setCell (n5 _ (by show _ ≤ w.heap.size + 1 + 1; omega) (by show w.heap.size + 1 + 1 < _; omega)) _).setCell (n5 _ (by show _ ≤ w.heap.size + 1 + 1; omega) (by show w.heap.size + 1 + 1 < _; omega)) _).setCell (n5 _ (by show _ ≤ w.heap.size + 1 + 1; omega) (by show w.heap.size + 1 + 1 < _; omega)) _, grown_set (grown_set (grown_set (grown_set g5 (Nat.le_refl _) _) (by show _ ≤ w.heap.size + 1 + 1; omega) _) (by show _ ≤ w.heap.size + 1 + 1; omega) _) (by show _ ≤ w.heap.size + 1 + 1; omega) _, ?_⟩
      rcases a5 with a5 | a5
      · exact Or.inl a5
      · exact Or.inr (Or.inr ⟨_, by omega, a5⟩)
    · have hn' : ¬ (xs.length : Int) < 20100 := by omega
      have HE : Hid ((Sl.mk m t xs).into ⟨4, sl, b⟩ = ⟨m, t, xs⟩) := (show _ = _ by simp [Sl.into, hn])
      have HG : Hid (Own base (.slice ao xs.length cap) xs (((w.alloc (.cells #[.int .u8 (m : Int), .int .u8 (t : Int), .slice ao xs.length cap] 30)).alloc (.cells #[.int .i64 4, .int .i64 sl, .int .u8 (b : Int)] 35)).alloc (.cells #[.int .u8 (m : Int), .int .u8 (t : Int), .slice ao xs.length cap] 30)) ∧ w.grownBy (((w.alloc (.cells #[.int .u8 (m : Int), .int .u8 (t : Int), .slice ao xs.length cap] 30)).alloc (.cells #[.int .i64 4, .int .i64 sl, .int .u8 (b : Int)] 35)).alloc (.cells #[.int .u8 (m : Int), .int .u8 (t : Int), .slice ao xs.length cap] 30)) (Value.slice ao xs.length cap).ownBlock) :=
        ⟨World.ownsRow.alloc (World.ownsRow.alloc (World.ownsRow.alloc HO.out _) _) _, grown_alloc (grown_alloc (grown_alloc (World.grownBy.refl w _) _) _) _⟩
      go_enter Try.func51, Try.ntmps51
      go_wp2_with fail
      refine bodyPost_ret (v := .agg #[.int .u8 (m : Int), .int .u8 (t : Int), .slice ao xs.length cap]) (by simp [results, Try.results51, go_sem]) rfl ?_
      rw [HE.out]
      exact ⟨_, rfl, HG.out.1, HG.out.2, Or.inl rfl⟩
  · have hk' : (k == 4) = false := by simpa using hk
    go_enter Try.func51, Try.ntmps51
    go_wp2_with fail
    have b0 : Below w.heap.size w (((w.alloc (.cells #[.int .u8 (m : Int), .int .u8 (t : Int), .slice ao xs.length cap] 30)).alloc (.cells #[.int .i64 k, .int .i64 sl, .int .u8 (b : Int)] 35)).alloc (.cells #[.int .u8 0, .int .u8 0, .slice none 0 0] 30)) := (((Below.refl w.heap.size w).alloc (Nat.le_refl _) _).alloc (by simp) _).alloc (by simp; omega) _
    refine (into_spec ⟨m, t, xs⟩ ⟨k, sl, b⟩ ao xs.length cap _ hk).mono ?_
    rintro e w1 ⟨⟨d', rfl, hd'⟩, b1⟩
    have e0 : (((w.alloc (.cells #[.int .u8 (m : Int), .int .u8 (t : Int), .slice ao xs.length cap] 30)).alloc (.cells #[.int .i64 k, .int .i64 sl, .int .u8 (b : Int)] 35)).alloc (.cells #[.int .u8 0, .int .u8 0, .slice none 0 0] 30)).heap.size = w.heap.size + 3 := by simp
    rw [e0] at b1
    have r0 : w1.cell? ⟨w.heap.size + 1 + 1, 0, none⟩ = some (.int .u8 0) := by rw [b1.cell (p := ⟨w.heap.size + 1 + 1, 0, none⟩) (by show w.heap.size + 1 + 1 < _; omega)]; simp [go_sem]
    have r1 : w1.cell? ⟨w.heap.size + 1 + 1, 1, none⟩ = some (.int .u8 0) := by rw [b1.cell (p := ⟨w.heap.size + 1 + 1, 1, none⟩) (by show w.heap.size + 1 + 1 < _; omega)]; simp [go_sem]
    have r2 : w1.cell? ⟨w.heap.size + 1 + 1, 2, none⟩ = some (.slice none 0 0) := by rw [b1.cell (p := ⟨w.heap.size + 1 + 1, 2, none⟩) (by show w.heap.size + 1 + 1 < _; omega)]; simp [go_sem]
    have f0 : w1.frozen? ⟨w.heap.size + 1 + 1, 0, none⟩ = false := by rw [b1.frozen (p := ⟨w.heap.size + 1 + 1, 0, none⟩) (by show w.heap.size + 1 + 1 < _; omega)]; simp [go_sem]
    have f1 : w1.frozen? ⟨w.heap.size + 1 + 1, 1, none⟩ = false := by rw [b1.frozen (p := ⟨w.heap.size + 1 + 1, 1, none⟩) (by show w.heap.size + 1 + 1 < _; omega)]; simp [go_sem]
    have f2 : w1.frozen? ⟨w.heap.size + 1 + 1, 2, none⟩ = false := by rw [b1.frozen (p := ⟨w.heap.size + 1 + 1, 2, none⟩) (by show w.heap.size + 1 + 1 < _; omega)]; simp [go_sem]
    have HB1 : Hid (Below w.heap.size w w1) := b0.trans (b1.mono (by omega))
    obtain ⟨s', hs'⟩ : ∃ s', s' = (Sl.mk m t xs).into ⟨k, sl, b⟩ := ⟨_, rfl⟩
    have HS : Hid ((Sl.mk m t xs).into ⟨k, sl, b⟩ = s') := hs'.symm
    rw [← hs'] at hd' ⊢
    have HD : Hid (Own base d' s'.data w1 ∧ (d'.ownBlock = (Value.slice ao xs.length cap).ownBlock ∨ d'.ownBlock = none)) := by
      rcases hd' with ⟨rfl, h2⟩ | ⟨rfl, h2⟩
      · rw [h2]
        exact ⟨HO.out.below HB1.out (Nat.le_refl _), Or.inl rfl⟩
      · rw [h2]
        exact ⟨own_nil _ _, Or.inr rfl⟩
    obtain ⟨ao', cap', rfl⟩ := own_size HD.out.1
    clear hd' b0 b1 e0 hs'
    simp only [slV]
    go_wp2_with fail
    have n5 : ∀ q, w.heap.size ≤ q → (Value.slice ao' s'.data.length cap').ownBlock ≠ some q := by
      intro q hq e
      rcases HD.out.2 with h | h
      · have := HL.out q (h.symm.trans e); omega
      · rw [h] at e; simp at e
    refine bodyPost_ret (v := .agg #[.int .u8 (s'.mark : Int), .int .u8 (s'.turn : Int), .slice ao' s'.data.length cap']) (by simp [results, Try.results51, go_sem, r0, r1, r2]) rfl ?_
    rw [HS.out]
    refine ⟨_, rfl, ((HD.out.1.setCell (n5 _ (by show _ ≤ w.heap.size + 1 + 1; omega)) _).setCell (n5 _ (by show _ ≤ w.heap.size + 1 + 1; omega)) _).setCell (n5 _ (by show _ ≤ w.heap.size + 1 + 1; omega)) _, grown_set (grown_set (grown_set (grown_of_below HB1.out) (by show _ ≤ w.heap.size + 1 + 1; omega) _) (by show _ ≤ w.heap.size + 1 + 1; omega) _) (by show _ ≤ w.heap.size + 1 + 1; omega) _, ?_⟩
    rcases HD.out.2 with h | h
    · exact Or.inl h
    · exact Or.inr (Or.inl h)

end Go.Proofs.Ytdhoimjkgicneac
