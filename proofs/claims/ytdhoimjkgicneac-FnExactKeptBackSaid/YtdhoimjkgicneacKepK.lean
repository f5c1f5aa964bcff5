/- What was kept, read by the program: its answer. -/
import Derived.Test.YtdhoimjkgicneacKepJ
namespace Go.Proofs.Ytdhoimjkgicneac
open Go Go.RowKit

attribute [local go_sem] zMemK

theorem ret_mb {fn : Func} {R : Ending → World → Prop} {a : Act} {w : World} {b c c' : Nat} {v : MemV} {t : Bool} (hf : fn.results = #[.cell c 78, .tmp c']) (hc : a.tmps.getD c undef = .pointer (some ⟨b, 0, none⟩)) (hc' : a.tmps.getD c' undef = .bool t)
    (hd : a.defers = []) (h : MemAt b v w) (hR : R (.returned (.tuple #[.agg v.row, .bool t])) w) : bodyPost Try.prog fn R .ret a w := by
  refine ⟨hd, .tuple #[.agg v.row, .bool t], ?_, hR⟩
  have hl : (loadVar 78 ⟨b, 0, none⟩).run Try.prog w = .ok (.agg v.row) w := by
    have := load_mem h
    simpa only [Instr.loadAt, Instr.sureAddr, Sem.run_bind, Sem.run_pure, Result.andThen] using this
  have e1 : a.tmps[c]?.getD undef = .pointer (some ⟨b, 0, none⟩) := by simpa using hc
  have e2 : a.tmps[c']?.getD undef = .bool t := by simpa using hc'
  simp [results, hf, e1, e2, asAddr, hl]

theorem built_none : Try.prog.built 78 [] = some mem0.row := by rw [built_mem]; rfl

set_option maxRecDepth 100000 in
set_option maxHeartbeats 1600000 in
theorem impl_back (v : Value) (xs : List Nat) (f : Nat → Nat) (w : World) (h : BytesAt v xs w) (hf : ∀ i x, xs[i]? = some x → f i = x) (hfb : ∀ k, f k ≤ 255) (hl2 : xs.length ≤ 100000000) (t : Bool) (ht : t = true ↔ xs.length = 134 ∧ Flags f) :
    Calls Try.prog 43 #[v] w fun e w' => e = .returned (.tuple #[.agg (if t then (scanV f).row else mem0.row), .bool t]) ∧ Below w.heap.size w w' := by
  have M0 := MemAt.alloc mem0 w 78
  have B0 : Below w.heap.size w (w.alloc (.cells mem0.row 78)) := (Below.refl _ _).alloc (Nat.le_refl _) _
  obtain ⟨aa, cap, rfl⟩ := h.len
  obtain ⟨n, hn⟩ : ∃ n, n = xs.length := ⟨_, rfl⟩
  have H : Hid (BytesAt (.slice aa n cap) xs w ∧ n = xs.length) := ⟨by rw [hn]; exact h, hn⟩
  rw [← hn] at hl2 ⊢
  by_cases hl : xs.length = 134
  · obtain rfl : n = 134 := hn.trans hl
    clear h hn
    go_enter Try.func43, Try.ntmps43
    go_upto_region 1 with fail
    have HM : Hid (MemAt w.heap.size mem0 _ ∧ Below w.heap.size w _) := ⟨M0, B0⟩
    clear M0 B0
    generalize w.alloc (.cells mem0.row 78) = w1 at HM ⊢
    go_wp2_with fail
    refine (impl_scan _ xs f w1 (H.out.1.below HM.out.2 (Nat.le_refl _)) hf hfb hl).mono ?_
    rintro e w2 ⟨rfl, b2⟩
    obtain ⟨r, hr⟩ : ∃ r, r = scanV f := ⟨_, rfl⟩
    have rok : r.Ok := hr ▸ scanV_ok hfb
    have hpre := scan_make hfb
    have HR0 : Hid (r = scanV f) := hr
    rw [← hr] at hpre ⊢
    clear hr
    have m2 := MemAt.alloc mem0 w2 78
    have m3 := m2.stored r
    have b3 : Below w2.heap.size w2 ((w2.alloc (.cells mem0.row 78)).setCells w2.heap.size 0 r.row.toList) := setCells_below _ _ _ ((Below.refl _ _).alloc (Nat.le_refl _) _) (Nat.le_refl _)
    have b13 := b2.trans (b3.mono b2.size)
    have H3 : Hid (MemAt w2.heap.size r _ ∧ MemAt w.heap.size mem0 _ ∧ Below w.heap.size w _) := ⟨m3, HM.out.1.below b13 HM.out.1.z, HM.out.2.trans (b13.mono HM.out.2.size)⟩
    have L1 := store_mem r m2
    have L2 := load_mem H3.out.1
    clear m2 m3 b3 b13 b2 HM
    go_upto_region 4 with (refine list_store (t := 78) (x := .pointer (some ⟨w2.heap.size, 0, none⟩)) (u := .agg r.row) rfl rfl rfl rfl L1 ?_)
    simp only [Act.put]
    clear L1
    generalize (w2.alloc (.cells mem0.row 78)).setCells w2.heap.size 0 r.row.toList = w3 at H3 L2 ⊢
    generalize w2.heap.size = q at H3 L2 ⊢
    go_wp2_with (refine list_load (t := 78) (x := .pointer (some ⟨q, 0, none⟩)) (u := .agg r.row) rfl rfl rfl L2 ?_)
    clear L2
    refine (impl_make r w3 rok).mono ?_
    rintro e w4 ⟨o, rfl, own4, b4⟩
    have H4 : Hid (Own w3.heap.size o (pre r 134) w4 ∧ Below w3.heap.size w3 w4) := ⟨own4, b4⟩
    clear own4 b4
    go_wp2_with fail
    refine (impl_array o (pre r 134) (keptByte r) w4 H4.out.1.at (fun i x hx => by
      have hi : i < 134 := by have := (List.getElem?_eq_some_iff.1 hx).1; rwa [pre_len] at this
      rw [pre_get r hi] at hx
      exact Option.some.inj hx) (pre_len r 134)).mono ?_
    rintro e w5 ⟨rfl, b5⟩
    have H5 : Hid (Below w3.heap.size w3 w5) := H4.out.2.trans (b5.mono H4.out.2.size)
    clear b5 H4
    go_wp2_with fail
    refine (impl_array _ xs f w5 (H.out.1.below (H3.out.2.2.trans (H5.out.mono H3.out.2.2.size)) (Nat.le_refl _)) hf hl).mono ?_
    rintro e w6 ⟨rfl, b6⟩
    have H6 : Hid (Below w3.heap.size w3 w6) := H5.out.trans (b6.mono H5.out.size)
    clear b6 H5
    obtain ⟨q2, Q1, Q2⟩ := eql_arr_all (fun i => ((keptByte r i : Nat) : Int)) (fun i => ((f i : Nat) : Int)) w6
    have hq : q2 = t := by
      rw [Bool.eq_iff_iff, ht, Q2, ← hpre]
      constructor
      · exact fun h => ⟨hl, fun k hk => by have := h k hk; omega⟩
      · exact fun h k hk => by rw [h.2 k hk]
    subst hq
    have Q1' : ∀ w, (binOp .neq 129 (.agg (rowOf (cellB (keptByte r)) 134)) (.agg (rowOf (cellB f) 134))).run Try.prog w = .ok (.bool (!q2)) w := Q1
    clear Q1 Q2 hpre ht
    have M6 := H3.out.2.1.below H6.out H3.out.2.1.z
    have R6 := H3.out.1.below H6.out H3.out.1.z
    have B6 := H3.out.2.2.trans (H6.out.mono H3.out.2.2.size)
    clear H3 H6
    cases q2 with
    | true =>
      have L9 := load_mem R6
      have L10 := store_mem r M6
      have HF : Hid (MemAt w.heap.size r _ ∧ Below w.heap.size w _) := ⟨M6.stored r, setCells_below r.row.toList w.heap.size 0 B6 (Nat.le_refl _)⟩
      clear M6 R6 B6
      go_wp2_with (first | (refine list_bin (t := 129) rfl rfl rfl rfl (run_eqGuard_agg _ _ _ _ _ _ _ (by kernel_rfl)) (Q1' _) ?_) | (refine list_load (t := 78) (x := .pointer (some ⟨q, 0, none⟩)) (u := .agg r.row) rfl rfl rfl L9 ?_) | refine list_store (t := 78) (x := .pointer (some ⟨w.heap.size, 0, none⟩)) (u := .agg r.row) rfl rfl rfl rfl L10 ?_)
      exact ret_mb (c := 2) (c' := 3) rfl rfl rfl rfl HF.out.1 ⟨by rw [HR0.out], HF.out.2⟩
    | false =>
      have L10 := store_mem mem0 M6
      have HF : Hid (MemAt w.heap.size mem0 _ ∧ Below w.heap.size w _) := ⟨M6.stored mem0, setCells_below mem0.row.toList w.heap.size 0 B6 (Nat.le_refl _)⟩
      clear M6 R6 B6
      go_wp2_with (first | (refine list_bin (t := 129) rfl rfl rfl rfl (run_eqGuard_agg _ _ _ _ _ _ _ (by kernel_rfl)) (Q1' _) ?_) | refine list_build (t := 78) (cells := mem0.row) (l := []) rfl rfl (by simp) built_none ?_ | refine list_store (t := 78) (x := .pointer (some ⟨w.heap.size, 0, none⟩)) (u := .agg mem0.row) rfl rfl rfl rfl L10 ?_)
      exact ret_mb (c := 2) (c' := 3) rfl rfl rfl rfl HF.out.1 ⟨rfl, HF.out.2⟩
  · obtain rfl : t = false := by
      cases t
      · rfl
      · exact absurd (ht.1 rfl).1 hl
    have hne : ¬ (n : Int) = 134 := by omega
    have hne2 : ((n : Int) == 134) = false := by simpa using hne
    clear h hn ht
    go_enter Try.func43, Try.ntmps43
    go_upto_region 1 with fail
    have L10 := store_mem mem0 M0
    have HF : Hid (MemAt w.heap.size mem0 _ ∧ Below w.heap.size w _) := ⟨M0.stored mem0, setCells_below mem0.row.toList w.heap.size 0 B0 (Nat.le_refl _)⟩
    clear M0 B0
    generalize w.alloc (.cells mem0.row 78) = w1 at HF L10 ⊢
    go_wp2_with (first | refine list_build (t := 78) (cells := mem0.row) (l := []) rfl rfl (by simp) built_none ?_ | refine list_store (t := 78) (x := .pointer (some ⟨w.heap.size, 0, none⟩)) (u := .agg mem0.row) rfl rfl rfl rfl L10 ?_)
    exact ret_mb (c := 2) (c' := 3) rfl rfl rfl rfl HF.out.1 ⟨rfl, HF.out.2⟩

end Go.Proofs.Ytdhoimjkgicneac
