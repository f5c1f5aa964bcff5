/- The program's function values that write: what each does when it is called at the end. -/
import Derived.Test.YtdhoimjkgicneacHolF
import Derived.Test.YtdhoimjkgicneacRegK
import Derived.Deep.RegionHeld
namespace Go.Proofs.Ytdhoimjkgicneac
open Go Go.RowKit

theorem close_none1 (u : FrameMode) (w : World) : CallsD Try.prog 93 #[] u w fun e u' w' => u' = u ∧ (e = .returned (.tuple #[]) ∧ w' = w) := by
  go_enter_d Try.func93, Try.ntmps93
  go_wp2
  go_end0
  exact ⟨rfl, rfl⟩
theorem close_none6 (u : FrameMode) (w : World) : CallsD Try.prog 98 #[] u w fun e u' w' => u' = u ∧ (e = .returned (.tuple #[]) ∧ w' = w) := by
  go_enter_d Try.func98, Try.ntmps98
  go_wp2
  go_end0
  exact ⟨rfl, rfl⟩

theorem close_mark (S o V P : Nat) (b : Int) (m : Value) (u : FrameMode) (w : World) (cv : w.cell? ⟨V, 0, none⟩ = some (.pointer (some ⟨S, o, none⟩))) (cp : w.cell? ⟨P, 2, none⟩ = some (.int .u8 b))
    (cs : w.cell? ⟨S, o, none⟩ = some m) (fs : w.frozen? ⟨S, o, none⟩ = false) :
    CallsD Try.prog 94 #[.pointer (some ⟨P, 0, none⟩), .pointer (some ⟨V, 0, none⟩)] u w fun e u' w' => u' = u ∧ (e = .returned (.tuple #[]) ∧ w' = w.setCell ⟨S, o, none⟩ (.int .u8 b)) := by
  go_enter_d Try.func94, Try.ntmps94
  go_wp2
  go_end0
  exact ⟨rfl, rfl⟩

theorem close_turn (S o V P : Nat) (b : Int) (m : Value) (u : FrameMode) (w : World) (cv : w.cell? ⟨V, 0, none⟩ = some (.pointer (some ⟨S, o, none⟩))) (cp : w.cell? ⟨P, 2, none⟩ = some (.int .u8 b))
    (cs : w.cell? ⟨S, o + 1, none⟩ = some m) (fs : w.frozen? ⟨S, o + 1, none⟩ = false) :
    CallsD Try.prog 95 #[.pointer (some ⟨P, 0, none⟩), .pointer (some ⟨V, 0, none⟩)] u w fun e u' w' => u' = u ∧ (e = .returned (.tuple #[]) ∧ w' = w.setCell ⟨S, o + 1, none⟩ (.int .u8 b)) := by
  go_enter_d Try.func95, Try.ntmps95
  go_wp2
  go_end0
  exact ⟨rfl, rfl⟩

theorem close_wipe (S o V : Nat) (m : Value) (u : FrameMode) (w : World) (cv : w.cell? ⟨V, 0, none⟩ = some (.pointer (some ⟨S, o, none⟩)))
    (cs : w.cell? ⟨S, o + 2, none⟩ = some m) (fs : w.frozen? ⟨S, o + 2, none⟩ = false) :
    CallsD Try.prog 96 #[.pointer (some ⟨V, 0, none⟩)] u w fun e u' w' => u' = u ∧ (e = .returned (.tuple #[]) ∧ w' = w.setCell ⟨S, o + 2, none⟩ (.slice none 0 0)) := by
  go_enter_d Try.func96, Try.ntmps96
  go_wp2
  go_end0
  exact ⟨rfl, rfl⟩

theorem close_full (S o V P : Nat) (a : Option Addr) (n cap : Nat) (u : FrameMode) (w : World) (cv : w.cell? ⟨V, 0, none⟩ = some (.pointer (some ⟨S, o, none⟩)))
    (cs : w.cell? ⟨S, o + 2, none⟩ = some (.slice a n cap)) (hn : ¬ (n : Int) < 20100) :
    CallsD Try.prog 97 #[.pointer (some ⟨V, 0, none⟩), .pointer (some ⟨P, 0, none⟩)] u w fun e u' w' => u' = u ∧ (e = .returned (.tuple #[]) ∧ w' = w) := by
  go_enter_d Try.func97, Try.ntmps97
  go_wp2
  go_end0
  exact ⟨rfl, rfl⟩

theorem op_app (base : Nat) {v s : Value} {xs ys : List Nat} {w : World} {o : Oper} {a : Act} {K : Act → World → Prop} {Q : Exit → Act → World → Prop} (p x : Operand)
    (ho : o.op = .call { callee := .builtin .append, args := #[p, x], argTypes := #[22, 22] }) (hp : a.eval p = v) (hx : a.eval x = s)
    (h : Own base v xs w) (hs : BytesAt s ys w) (hl : xs.length + ys.length ≤ 8000000) (hb : base ≤ w.heap.size)
    (hK : ∀ v' w', Own base v' (xs ++ ys) w' → w.grownBy w' v.ownBlock → (v'.ownBlock = v.ownBlock ∨ v'.ownBlock = some w.heap.size) → K (a.put o.dst v') w') :
    o.wp Try.prog a w K Q := by
  obtain ⟨v', w', hr, h2, h3, h4⟩ := run_app base o.type h hs hl hb
  unfold Oper.wp execOp
  simp only [ho, resolve, invoke, builtin, Sem.run_bind, Sem.run_pure, Result.andThen_ok, List.map_toArray, List.map_cons, List.map_nil, hp, hx, hr]
  exact hK _ _ h2 h3 h4

theorem load_ptr {a : Addr} {v : Value} {w : World} (h : w.cell? a = some v) : (Instr.loadAt 143 (.pointer (some a))).run Try.prog w = .ok v w := by simp [go_sem, h]
theorem load_byte {a : Addr} {v : Value} {w : World} (h : w.cell? a = some v) : (Instr.loadAt 5 (.pointer (some a))).run Try.prog w = .ok v w := by simp [go_sem, h]

set_option maxRecDepth 100000 in
set_option maxHeartbeats 1600000 in
theorem close_put (base S o V P : Nat) (b : Nat) (d : Value) (xs : List Nat) (u : FrameMode) (w : World) (cv : w.cell? ⟨V, 0, none⟩ = some (.pointer (some ⟨S, o, none⟩))) (cp : w.cell? ⟨P, 2, none⟩ = some (.int .u8 (b : Int)))
    (cs : w.cell? ⟨S, o + 2, none⟩ = some d) (fs : w.frozen? ⟨S, o + 2, none⟩ = false) (ho : Own base d xs w) (hb : base ≤ w.heap.size) (hd : d.ownBlock ≠ some S) (hV : d.ownBlock ≠ some V) (hP : d.ownBlock ≠ some P) (hPS : P ≠ S) (hn : xs.length < 20100) :
    CallsD Try.prog 97 #[.pointer (some ⟨V, 0, none⟩), .pointer (some ⟨P, 0, none⟩)] u w fun e u' w' => u' = u ∧ (e = .returned (.tuple #[]) ∧ ∃ d' w1, w' = w1.setCell ⟨S, o + 2, none⟩ d' ∧ Own base d' (xs ++ [b]) w1 ∧ w.grownBy w1 d.ownBlock ∧ (d'.ownBlock = d.ownBlock ∨ ∃ k, w.heap.size ≤ k ∧ d'.ownBlock = some k)) := by
  have hn' : (xs.length : Int) < 20100 := by omega
  have HO : Hid (Own base d xs w) := ho
  obtain ⟨ao, cap, rfl⟩ := own_size ho
  clear ho
  go_enter_d Try.func97, Try.ntmps97
  go_wp2_with fail
  have hS : w.drew.cell? ⟨V, 0, none⟩ = some (.pointer (some ⟨S, o, none⟩)) ∧ w.drew.cell? ⟨P, 2, none⟩ = some (.int .u8 (b : Int)) := ⟨cv, cp⟩
  refine wp_region_held (S := fun w' => w'.cell? ⟨V, 0, none⟩ = some (.pointer (some ⟨S, o, none⟩)) ∧ w'.cell? ⟨P, 2, none⟩ = some (.int .u8 (b : Int))) (by kernel_rfl) ?_
  refine held_load (fuel := 11) (i := 0) (t := 143) (v := .pointer (some ⟨S, o, none⟩)) rfl rfl rfl (by kernel_rfl) (by kernel_rfl) (by kernel_rfl) rfl (fun _ _ _ h => h) (fun w' hw' => load_ptr hw'.1) hS ?_
  go_simp
  refine held_load (fuel := 10) (i := 1) (t := 143) (v := .pointer (some ⟨S, o, none⟩)) rfl rfl rfl (by kernel_rfl) (by kernel_rfl) (by kernel_rfl) rfl (fun _ _ _ h => h) (fun w' hw' => load_ptr hw'.1) hS ?_
  go_simp
  refine held_any (fuel := 9) (i := 2) (v := .pointer (some ⟨S, o, none⟩)) rfl (by kernel_rfl) (by kernel_rfl) (by kernel_rfl) rfl (fun _ _ _ h => h) (fun _ _ => rfl) hS ?_
  go_simp
  refine held_any (fuel := 8) (i := 3) (v := .pointer (some ⟨S, o + 2, none⟩)) rfl (by kernel_rfl) (by kernel_rfl) (by kernel_rfl) rfl (fun _ _ _ h => h) (fun _ _ => by simp [go_sem]) hS ?_
  go_simp
  refine held_any (fuel := 7) (i := 5) (v := .pointer (some ⟨P, 2, none⟩)) rfl (by kernel_rfl) (by kernel_rfl) (by kernel_rfl) rfl (fun _ _ _ h => h) (fun _ _ => by simp [go_sem]) hS ?_
  go_simp
  refine held_load (fuel := 6) (i := 6) (t := 5) (v := .int .u8 (b : Int)) rfl rfl rfl (by kernel_rfl) (by kernel_rfl) (by kernel_rfl) rfl (fun _ _ _ h => h) (fun w' hw' => load_byte hw'.2) hS ?_
  go_simp
  have BA : Hid (BytesAt (.slice (some ⟨w.heap.size, 0, none⟩) 1 1) [b] (w.drew.alloc (.cells #[.int .u8 (b : Int)] 5))) := by
    rcases bytes_one b w.drew 5 1 with h | h
    · exact h
    · cases h
  have hSa : (w.drew.alloc (.cells #[.int .u8 (b : Int)] 5)).cell? ⟨V, 0, none⟩ = some (.pointer (some ⟨S, o, none⟩)) ∧ (w.drew.alloc (.cells #[.int .u8 (b : Int)] 5)).cell? ⟨P, 2, none⟩ = some (.int .u8 (b : Int)) :=
    ⟨(World.cell?_alloc_past (w := w.drew) _ _ _ (World.block_lt_of_cell? w _ cv)).trans cv, (World.cell?_alloc_past (w := w.drew) _ _ _ (World.block_lt_of_cell? w _ cp)).trans cp⟩
  have csa : (w.alloc (.cells #[.int .u8 (b : Int)] 5)).cell? ⟨S, o + 2, none⟩ = some (.slice ao xs.length cap) := (World.cell?_alloc_past (w := w) _ _ _ (World.block_lt_of_cell? w _ cs)).trans cs
  refine wpAnyH_ready (rs := [4, 7]) (by kernel_rfl) (by simp) ?_
  refine AllReadyH.cons rfl (fun K hK => ?_) (AllReadyH.cons rfl (fun K hK => ?_) AllReadyH.nil)
  · go_simp
    refine hK.out _ _ hS (fun _ => ?_)
    clear hK K
    go_simp
    refine wpAnyH_ready (rs := [7]) (by kernel_rfl) (by simp) ?_
    refine AllReadyH.cons rfl (fun K hK => ?_) AllReadyH.nil
    go_simp
    refine hK.out _ _ hSa (fun _ => ?_)
    clear hK K
    go_simp
    refine wpAnyH_ready (rs := [8]) (by kernel_rfl) (by simp) ?_
    refine AllReadyH.cons rfl (fun K hK => ?_) AllReadyH.nil
    rw [if_pos (by rfl)]
    refine op_app base (v := .slice ao xs.length cap) (s := .slice (some ⟨w.heap.size, 0, none⟩) 1 1) (xs := xs) (ys := [b]) (.tmp 12) (.tmp 15) rfl rfl rfl (World.ownsRow.alloc HO.out.drew _) BA.out (by simp; omega) (by simp; omega) ?_
    intro d' w1 o1 g1 a1
    have hS1 : w1.cell? ⟨V, 0, none⟩ = some (.pointer (some ⟨S, o, none⟩)) ∧ w1.cell? ⟨P, 2, none⟩ = some (.int .u8 (b : Int)) :=
      ⟨(grown_cell g1 (by simp; have := World.block_lt_of_cell? w _ cv; simp at this; omega) (fun e => hV e.symm)).trans hSa.1, (grown_cell g1 (by simp; have := World.block_lt_of_cell? w _ cp; simp at this; omega) (fun e => hP e.symm)).trans hSa.2⟩
    have zS := World.block_lt_of_cell? w _ cs
    simp only at zS
    have cs1 : w1.cell? ⟨S, o + 2, none⟩ = some (.slice ao xs.length cap) := (grown_cell g1 (by simp; omega) (fun e => hd e.symm)).trans ((World.cell?_alloc_past (w := w.drew) _ _ _ zS).trans cs)
    have fs1 : w1.frozen? ⟨S, o + 2, none⟩ = false := (grown_frozen g1 (by simp; omega) (fun e => hd e.symm)).trans ((World.frozen?_alloc_past (w := w.drew) _ _ _ zS).trans fs)
    have g0 : w.grownBy (w.drew.alloc (.cells #[.int .u8 (b : Int)] 5)) (Value.slice ao xs.length cap).ownBlock := ⟨rfl, rfl, rfl, by simp, fun k hk _ => (World.grownBy_alloc w.drew _ none).block k hk (by simp)⟩
    have H1 : Hid (Own base d' (xs ++ [b]) w1 ∧ w.grownBy w1 (Value.slice ao xs.length cap).ownBlock ∧ (d'.ownBlock = (Value.slice ao xs.length cap).ownBlock ∨ ∃ k, w.heap.size ≤ k ∧ d'.ownBlock = some k)) := by
      refine ⟨o1, World.grownBy.trans g0 g1, ?_⟩
      rcases a1 with a1 | a1
      · exact Or.inl a1
      · exact Or.inr ⟨_, by simp, a1⟩
    refine hK.out _ _ hS1 (fun _ => ?_)
    obtain ⟨ao', cap', rfl⟩ := own_size o1
    clear hK K o1 g1 a1 g0
    go_simp
    refine held_any (fuel := 2) (i := 9) (v := .pointer (some ⟨S, o, none⟩)) rfl (by kernel_rfl) (by kernel_rfl) (by kernel_rfl) rfl (fun _ _ _ h => h) (fun _ _ => rfl) hS1 ?_
    go_simp
    refine held_any (fuel := 1) (i := 10) (v := .pointer (some ⟨S, o + 2, none⟩)) rfl (by kernel_rfl) (by kernel_rfl) (by kernel_rfl) rfl (fun _ _ _ h => h) (fun _ _ => by simp [go_sem]) hS1 ?_
    go_simp
    refine wpAnyH_ready (rs := [11]) (by kernel_rfl) (by simp) ?_
    refine AllReadyH.cons rfl (fun K hK => ?_) AllReadyH.nil
    go_simp
    refine hK.out _ _ ⟨(World.cell?_setCell_other _ _ _ _ (by simp)).trans hS1.1, (World.cell?_setCell_other _ _ _ _ (by intro e; injection e with e1; exact hPS e1.symm)).trans hS1.2⟩ (fun _ => ?_)
    clear hK K
    go_simp
    refine wpAnyH_done (by kernel_rfl) ?_ _
    go_end0
    exact ⟨rfl, _, w1, rfl, by have h1 := H1.out; rw [List.length_append, List.length_singleton] at h1; exact h1⟩
  · go_simp
    refine hK.out _ _ hSa (fun _ => ?_)
    clear hK K
    go_simp
    refine wpAnyH_ready (rs := [4]) (by kernel_rfl) (by simp) ?_
    refine AllReadyH.cons rfl (fun K hK => ?_) AllReadyH.nil
    go_simp
    refine hK.out _ _ hSa (fun _ => ?_)
    clear hK K
    go_simp
    refine wpAnyH_ready (rs := [8]) (by kernel_rfl) (by simp) ?_
    refine AllReadyH.cons rfl (fun K hK => ?_) AllReadyH.nil
    rw [if_pos (by rfl)]
    refine op_app base (v := .slice ao xs.length cap) (s := .slice (some ⟨w.heap.size, 0, none⟩) 1 1) (xs := xs) (ys := [b]) (.tmp 12) (.tmp 15) rfl rfl rfl (World.ownsRow.alloc HO.out.drew _) BA.out (by simp; omega) (by simp; omega) ?_
    intro d' w1 o1 g1 a1
    have hS1 : w1.cell? ⟨V, 0, none⟩ = some (.pointer (some ⟨S, o, none⟩)) ∧ w1.cell? ⟨P, 2, none⟩ = some (.int .u8 (b : Int)) :=
      ⟨(grown_cell g1 (by simp; have := World.block_lt_of_cell? w _ cv; simp at this; omega) (fun e => hV e.symm)).trans hSa.1, (grown_cell g1 (by simp; have := World.block_lt_of_cell? w _ cp; simp at this; omega) (fun e => hP e.symm)).trans hSa.2⟩
    have zS := World.block_lt_of_cell? w _ cs
    simp only at zS
    have cs1 : w1.cell? ⟨S, o + 2, none⟩ = some (.slice ao xs.length cap) := (grown_cell g1 (by simp; omega) (fun e => hd e.symm)).trans ((World.cell?_alloc_past (w := w.drew) _ _ _ zS).trans cs)
    have fs1 : w1.frozen? ⟨S, o + 2, none⟩ = false := (grown_frozen g1 (by simp; omega) (fun e => hd e.symm)).trans ((World.frozen?_alloc_past (w := w.drew) _ _ _ zS).trans fs)
    have g0 : w.grownBy (w.drew.alloc (.cells #[.int .u8 (b : Int)] 5)) (Value.slice ao xs.length cap).ownBlock := ⟨rfl, rfl, rfl, by simp, fun k hk _ => (World.grownBy_alloc w.drew _ none).block k hk (by simp)⟩
    have H1 : Hid (Own base d' (xs ++ [b]) w1 ∧ w.grownBy w1 (Value.slice ao xs.length cap).ownBlock ∧ (d'.ownBlock = (Value.slice ao xs.length cap).ownBlock ∨ ∃ k, w.heap.size ≤ k ∧ d'.ownBlock = some k)) := by
      refine ⟨o1, World.grownBy.trans g0 g1, ?_⟩
      rcases a1 with a1 | a1
      · exact Or.inl a1
      · exact Or.inr ⟨_, by simp, a1⟩
    refine hK.out _ _ hS1 (fun _ => ?_)
    obtain ⟨ao', cap', rfl⟩ := own_size o1
    clear hK K o1 g1 a1 g0
    go_simp
    refine held_any (fuel := 2) (i := 9) (v := .pointer (some ⟨S, o, none⟩)) rfl (by kernel_rfl) (by kernel_rfl) (by kernel_rfl) rfl (fun _ _ _ h => h) (fun _ _ => rfl) hS1 ?_
    go_simp
    refine held_any (fuel := 1) (i := 10) (v := .pointer (some ⟨S, o + 2, none⟩)) rfl (by kernel_rfl) (by kernel_rfl) (by kernel_rfl) rfl (fun _ _ _ h => h) (fun _ _ => by simp [go_sem]) hS1 ?_
    go_simp
    refine wpAnyH_ready (rs := [11]) (by kernel_rfl) (by simp) ?_
    refine AllReadyH.cons rfl (fun K hK => ?_) AllReadyH.nil
    go_simp
    refine hK.out _ _ ⟨(World.cell?_setCell_other _ _ _ _ (by simp)).trans hS1.1, (World.cell?_setCell_other _ _ _ _ (by intro e; injection e with e1; exact hPS e1.symm)).trans hS1.2⟩ (fun _ => ?_)
    clear hK K
    go_simp
    refine wpAnyH_done (by kernel_rfl) ?_ _
    go_end0
    exact ⟨rfl, _, w1, rfl, by have h1 := H1.out; rw [List.length_append, List.length_singleton] at h1; exact h1⟩

end Go.Proofs.Ytdhoimjkgicneac
