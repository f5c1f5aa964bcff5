/- Texts of this proof laid together: KbC, Close. -/
import Derived.Test.YtdhoimjkgicneabLot21
import Derived.Test.YtdhoimjkgicneabLot26
import Derived.Test.YtdhoimjkgicneabLot29
import Derived.Test.YtdhoimjkgicneabLot17
import Derived.ProofKit
import Derived.OpenVars
import Derived.OpenShut
/- The law that what was kept is read back, walked. -/
namespace Go.Proofs.Ytdhoimjkgicneab
open Go Go.RowKit

attribute [local go_sem] zMemK

theorem kop_conv {o : Oper} {a : Act} {w : World} {K : Act → World → Prop} {Q : Exit → Act → World → Prop} {t t2 : TypeId} {p : Operand} {u : Value} (ho : o.op = .convert t t2 p) (he : (convert t t2 (a.eval p)).run Try.prog w = .ok u w) (h : K (a.put o.dst u) w) : o.wp Try.prog a w K Q := by
  have e : (execOp a.eval o).run Try.prog w = .ok (.value u) w := by
    simp only [execOp, ho, Sem.run_bind, he, Result.andThen, Sem.run_pure]
  unfold Oper.wp
  rw [e]
  exact h

theorem kheld_conv {P : Program} {ops : Array Oper} {Q : Exit → Act → World → Prop} {md : Region.Mode} {S : World → Prop} {fuel : Nat} {ls : Array Bool} {a : Act} {w : World} {i : Nat} {o : Oper} {t t2 : TypeId} {p : Operand} {x v : Value} (hi : ops[i]? = some o) (ho : o.op = .convert t t2 p) (hx : a.eval p = x) (hs : Region.noSelect ops = true) (hf : Region.free md ops ls i = true) (hr : (Region.ready md ops ls).contains i = true)
    (hg : Region.wanted o (yielded ops a.tmps) = true) (hQ : ∀ c a w, Q (.panic c) (a.put o.dst v) w → Q (.panic c) a w) (hv : ∀ w, S w → (convert t t2 x).run P w = .ok v w) (hS : S w)
    (h : wpAnyH P md ops Q S fuel (ls.setIfInBounds i true) (a.put o.dst v) w) : wpAnyH P md ops Q S (fuel + 1) ls a w := by
  refine held_any hi hs hf hr hg hQ (fun w hw => ?_) hS h
  subst hx
  simp only [execOp, ho, Sem.run_bind, hv w hw, Result.andThen, Sem.run_pure]

theorem kheld_skip {P : Program} {ops : Array Oper} {Q : Exit → Act → World → Prop} {md : Region.Mode} {S : World → Prop} {fuel : Nat} {ls : Array Bool} {a : Act} {w : World} {i : Nat} {o : Oper} (hi : ops[i]? = some o) (hs : Region.noSelect ops = true) (hf : Region.free md ops ls i = true) (hr : (Region.ready md ops ls).contains i = true)
    (hg : Region.wanted o (yielded ops a.tmps) = false) (hQ : ∀ c a w, Q (.panic c) (a.put o.dst undef) w → Q (.panic c) a w) (hS : S w)
    (h : wpAnyH P md ops Q S fuel (ls.setIfInBounds i true) (a.put o.dst undef) w) : wpAnyH P md ops Q S (fuel + 1) ls a w :=
  wpAnyH_take hi hs hf hr hQ (Or.inr ⟨hg, rfl⟩) hS h

theorem kept_scan (f : Nat → Nat) : (keptV (scanV f)).row = (scanV f).row := by
  have e : (List.range 136).map (keptV (scanV f)).cell = (List.range 136).map (scanV f).cell := List.map_congr_left fun k hk => by
    have hk := List.mem_range.1 hk
    refine cell_same _ _ hk (fun _ => rfl) (fun _ => rfl) (fun _ => ?_) (fun _ => rfl) (fun _ => rfl) (fun h1 h2 => ⟨rfl, rfl⟩) (fun _ _ => ⟨rfl, rfl, rfl⟩) (fun h1 h2 => ?_) (fun _ _ => rfl) (fun _ => rfl) (fun _ => rfl) (fun _ => rfl)
    · rw [kept_m, scan_m]
      omega
    · rw [kept_d, scan_d]
      by_cases h : k - 85 < 16
      · rw [if_pos h, if_pos h]
      · rw [if_neg h]
  unfold MemV.row
  rw [e]

theorem same_selfK (v : MemV) : SameM v v := ⟨rfl, rfl, rfl, rfl, rfl, fun _ _ => rfl, fun _ _ => rfl, fun _ _ => rfl, fun _ _ => rfl, fun _ _ => rfl, fun _ _ => rfl, fun _ _ => same_refl _, rfl, rfl, rfl⟩

theorem fresh_putK (x : MemV) (w : World) : MemAt w.heap.size mem0 (w.alloc (.cells mem0.row 57)) ∧ MemAt w.heap.size x ((w.alloc (.cells mem0.row 57)).setCells w.heap.size 0 x.row.toList) ∧ Below w.heap.size w ((w.alloc (.cells mem0.row 57)).setCells w.heap.size 0 x.row.toList) := by
  have h := MemAt.alloc mem0 w 57
  exact ⟨h, h.stored x, setCells_below _ _ _ ((Below.refl _ _).alloc (Nat.le_refl _) _) (Nat.le_refl _)⟩

theorem same_callK (r : MemV) (hr : r.Ok) (w : World) : Calls Try.prog 24 #[.agg r.row, .agg r.row] w fun e w' => e = .returned (.bool true) ∧ Below w.heap.size w w' :=
  (impl_same r r hr hr w).mono fun e w' ⟨q, h1, h2, h3⟩ => ⟨by rw [h1, h2.2 (same_selfK r)], h3⟩

theorem flags_kept (m : MemV) : Flags (keptByte m) := fun i hi => ⟨by rw [kb_t0 m i hi]; exact bit1_le _, by rw [kb_c0 m i hi]; exact bit2_le _ _⟩

set_option maxHeartbeats 400000 in
theorem law_long (a0 a1 : Option Addr) (l0 c0 l1 c1 : Nat) (w : World) (h : 1048576 < l0 ∨ 1048576 < l1) (m0 : l0 ≤ 9223372036854775807) (m1 : l1 ≤ 9223372036854775807) :
    Calls Try.prog 7 #[.slice a0 l0 c0, .slice a1 l1 c1] w fun e w' => e = .returned (.bool true) ∧ Below w.heap.size w w' := by
  by_cases h0 : 1048576 < l0
  · have h0' : (1048576 : Int) < (l0 : Int) := by omega
    clear h
    go_enter Try.func7, Try.ntmps7
    go_wp2
    go_ret
    exact ⟨rfl, Below.refl _ _⟩
  · have h0' : ¬ (1048576 : Int) < (l0 : Int) := by omega
    have h1' : (1048576 : Int) < (l1 : Int) := by omega
    clear h
    go_enter Try.func7, Try.ntmps7
    go_wp2
    go_ret
    exact ⟨rfl, Below.refl _ _⟩

set_option maxRecDepth 100000 in
set_option maxHeartbeats 1600000 in
theorem law_short (a0 a1 : Option Addr) (l0 c0 l1 c1 : Nat) (w : World) (h0 : l0 ≤ 1048576) (h1 : l1 ≤ 1048576) (C0 : CodeAt (.slice a0 l0 c0) w) (C1 : CodeAt (.slice a1 l1 c1) w) :
    Calls Try.prog 7 #[.slice a0 l0 c0, .slice a1 l1 c1] w fun e w' => e = .returned (.bool true) ∧ Below w.heap.size w w' := by
  have h0' : ¬ (1048576 : Int) < (l0 : Int) := by omega
  have h1' : ¬ (1048576 : Int) < (l1 : Int) := by omega
  have HC : Hid (CodeAt (.slice a0 l0 c0) w ∧ CodeAt (.slice a1 l1 c1) w) := ⟨C0, C1⟩
  clear C0 C1 h0 h1
  go_enter Try.func7, Try.ntmps7
  go_wp2_with fail
  refine (draw_kmake _ w HC.out.1).mono ?_
  rintro e w1 ⟨m, hm, rfl, b1⟩
  obtain ⟨m0, m1, b2⟩ := fresh_putK m w1
  have b12 := b1.trans (b2.mono b1.size)
  have H1 : Hid (MemAt w1.heap.size m _ ∧ Below w.heap.size w _) := ⟨m1, b12⟩
  have L1 := store_mem m m0
  have L2 := load_mem m1
  generalize (w1.alloc (.cells mem0.row 57)).setCells w1.heap.size 0 m.row.toList = w2 at H1 L1 L2
  clear m0 m1 b1 b2 b12
  go_upto_region 4 with (refine list_store (t := 57) (x := .pointer (some ⟨w1.heap.size, 0, none⟩)) (u := .agg m.row) rfl rfl rfl rfl L1 ?_)
  try simp only [Act.put]
  clear L1
  generalize w1.heap.size = q1 at H1 L2 ⊢
  go_wp2_with (refine list_load (t := 57) (x := .pointer (some ⟨q1, 0, none⟩)) (u := .agg m.row) rfl rfl rfl L2 ?_)
  clear L2
  refine (impl_make m w2 hm).mono ?_
  rintro e w3 ⟨o, rfl, own3, b3⟩
  have H3 : Hid (MemAt q1 m w3 ∧ Below w.heap.size w w3 ∧ BytesAt o (pre m 134) w3) := ⟨H1.out.1.below b3 H1.out.1.z, H1.out.2.trans (b3.mono H1.out.2.size), own3.at⟩
  obtain ⟨ao, cap, rfl⟩ := own_size own3
  rw [pre_len] at H3 ⊢
  clear own3 b3 H1
  have hpf : ∀ i x, (pre m 134)[i]? = some x → keptByte m i = x := fun i x hx => by
    have hi : i < 134 := by have := (List.getElem?_eq_some_iff.1 hx).1; rwa [pre_len] at this
    rw [pre_get m hi] at hx
    exact Option.some.inj hx
  have IB := impl_back (.slice ao 134 cap) (pre m 134) (keptByte m) w3 H3.out.2.2 hpf (keptByte_le m) (by rw [pre_len]; omega) true (by simp [pre_len, flags_kept m])
  rw [if_pos rfl, make_scan_row hm (fun k _ => rfl)] at IB
  go_wp2_with fail
  refine IB.mono ?_
  rintro e w4 ⟨rfl, b4⟩
  clear IB hpf
  have hk := keptV_ok hm
  have SK := fun w' => spec_kept m w' hm
  obtain ⟨r, hr⟩ : ∃ r, r = keptV m := ⟨_, rfl⟩
  rw [← hr] at hk SK ⊢
  clear hr
  obtain ⟨m0, m1, b5⟩ := fresh_putK r w4
  have b45 := b4.trans (b5.mono b4.size)
  have H4 : Hid (MemAt w4.heap.size r _ ∧ MemAt q1 m _ ∧ Below w.heap.size w _) := ⟨m1, H3.out.1.below b45 H3.out.1.z, H3.out.2.1.trans (b45.mono H3.out.2.1.size)⟩
  have L1 := store_mem r m0
  generalize (w4.alloc (.cells mem0.row 57)).setCells w4.heap.size 0 r.row.toList = w5 at H4 L1
  clear m0 m1 b4 b5 b45 H3
  go_upto_region 6 with (refine list_store (t := 57) (x := .pointer (some ⟨w4.heap.size, 0, none⟩)) (u := .agg r.row) rfl rfl rfl rfl L1 ?_)
  try simp only [Act.put]
  clear L1
  generalize w4.heap.size = q4 at H4 ⊢
  refine wp_region_belowM (by kernel_rfl) (by kernel_rfl) ?_
  quiet_step (exact fun _ => rfl)
  quiet_step (exact fun _ => rfl)
  quiet_step (exact fun _ => rfl)
  quiet_step (exact fun _ => rfl)
  quiet_step (exact fun _ => rfl)
  quiet_step (exact fun _ => rfl)
  quiet_step (exact fun _ => rfl)
  quiet_step (exact fun _ => rfl)
  refine quiet_load (t := 57) (v := .agg r.row) rfl rfl rfl (fun w' hw' => load_mem (H4.out.1.below hw' H4.out.1.z)) ?_
  go_simp
  refine quiet_load (t := 57) (v := .agg m.row) rfl rfl rfl (fun w' hw' => load_mem (H4.out.2.1.below hw' H4.out.2.1.z)) ?_
  go_simp
  refine wpQuiet_step (fun K hK => ?_)
  go_simp
  refine ⟨.agg r.row, fun w' hw' => (SK w').mono fun e w'' ⟨he, hb⟩ => ⟨he, hw'.trans (hb.mono hw'.size)⟩, hK _ ?_⟩
  clear hK K
  refine wpQuiet_step (fun K hK => ?_)
  go_simp
  refine ⟨.bool true, fun w' hw' => (same_callK r hk w').mono fun e w'' ⟨he, hb⟩ => ⟨he, hw'.trans (hb.mono hw'.size)⟩, hK _ ?_⟩
  clear hK K
  quiet_step (exact fun _ => rfl)
  quiet_step (exact fun _ => rfl)
  refine wpQuiet_nil ?_
  intro w6 hw6
  have H6 : Hid (Below w.heap.size w w6) := H4.out.2.2.trans (hw6.mono H4.out.2.2.size)
  clear hw6 H4 SK hk
  go_wp2_with fail
  refine (draw_kback _ w6 (HC.out.2.below H6.out)).mono ?_
  rintro e w7 ⟨od, xs, rfl, D7, hxb, hxl, b7⟩
  obtain ⟨f, hfe⟩ : ∃ f : Nat → Nat, f = fun k => xs.getD k 0 := ⟨_, rfl⟩
  have hf : ∀ i x, xs[i]? = some x → f i = x := fun i x e => by rw [hfe]; simp [List.getD, e]
  have hfb : ∀ k, f k ≤ 255 := fun k => by
    rw [hfe]
    simp only [List.getD]
    cases e : xs[k]? with
    | none => simp
    | some x => exact hxb x (List.mem_of_getElem? e)
  clear hfe
  obtain ⟨t, ht⟩ : ∃ t : Bool, t = true ↔ xs.length = 134 ∧ Flags f := by
    by_cases h : xs.length = 134 ∧ Flags f
    · exact ⟨true, by simp [h]⟩
    · exact ⟨false, by simp [h]⟩
  obtain ⟨y, hy, hyo⟩ : ∃ y : MemV, (if t then (scanV f).row else mem0.row) = y.row ∧ (t = true → y = scanV f) := by
    cases t
    · exact ⟨mem0, rfl, by simp⟩
    · exact ⟨scanV f, rfl, fun _ => rfl⟩
  have IB := impl_back od xs f w7 D7 hf hfb (by omega) t ht
  have SB := fun w' (h : BytesAt od xs w') => spec_back od xs f w' h hf hfb (by omega) t ht
  rw [hy] at IB SB
  have H7 : Hid (Below w.heap.size w w7 ∧ BytesAt od xs w7) := ⟨H6.out.trans (b7.mono H6.out.size), D7⟩
  have HT : Hid ((t = true ↔ xs.length = 134 ∧ Flags f) ∧ (t = true → y = scanV f)) := ⟨ht, hyo⟩
  clear b7 D7 H6 hy hyo ht
  go_wp2_with fail
  refine IB.mono ?_
  rintro e w8 ⟨rfl, b8⟩
  obtain ⟨m0, m1, b9⟩ := fresh_putK y w8
  have b89 := b8.trans (b9.mono b8.size)
  have H8 : Hid (MemAt w8.heap.size y _ ∧ BytesAt od xs _ ∧ Below w.heap.size w _) := ⟨m1, H7.out.2.below b89 (Nat.le_refl _), H7.out.1.trans (b89.mono H7.out.1.size)⟩
  have L1 := store_mem y m0
  generalize (w8.alloc (.cells mem0.row 57)).setCells w8.heap.size 0 y.row.toList = w9 at H8 L1
  clear m0 m1 b8 b9 b89 H7 IB
  go_upto_region 10 with (refine list_store (t := 57) (x := .pointer (some ⟨w8.heap.size, 0, none⟩)) (u := .agg y.row) rfl rfl rfl rfl L1 ?_)
  try simp only [Act.put]
  clear L1
  generalize w8.heap.size = q8 at H8 ⊢
  go_wp2_with fail
  refine (SB w9 H8.out.2.1).mono ?_
  rintro e w10 ⟨rfl, b10⟩
  obtain ⟨m0, m1, b11⟩ := fresh_putK y w10
  have b9b := b10.trans (b11.mono b10.size)
  have H9 : Hid (MemAt q8 y _ ∧ BytesAt od xs _ ∧ Below w.heap.size w _) := ⟨H8.out.1.below b9b H8.out.1.z, H8.out.2.1.below b9b (Nat.le_refl _), H8.out.2.2.trans (b9b.mono H8.out.2.2.size)⟩
  have L1 := store_mem y m0
  generalize (w10.alloc (.cells mem0.row 57)).setCells w10.heap.size 0 y.row.toList = w11 at H9 L1
  clear m0 m1 b10 b11 b9b H8 SB
  go_upto_region 11 with (refine list_store (t := 57) (x := .pointer (some ⟨w10.heap.size, 0, none⟩)) (u := .agg y.row) rfl rfl rfl rfl L1 ?_)
  try simp only [Act.put]
  clear L1
  cases t with
  | false =>
    have hS : Below w11.heap.size w11 w11.drew := (Below.refl _ _).drew
    refine wp_region_held (S := Below w11.heap.size w11) (by kernel_rfl) ?_
    refine held_any (fuel := 21) (i := 0) (v := .bool false) rfl (by kernel_rfl) (by kernel_rfl) (by kernel_rfl) rfl (fun _ _ _ h => h) (fun _ _ => rfl) hS ?_
    go_simp
    refine held_any (fuel := 20) (i := 1) (v := .bool false) rfl (by kernel_rfl) (by kernel_rfl) (by kernel_rfl) rfl (fun _ _ _ h => h) (fun _ _ => rfl) hS ?_
    go_simp
    refine held_any (fuel := 19) (i := 2) (v := .bool true) rfl (by kernel_rfl) (by kernel_rfl) (by kernel_rfl) rfl (fun _ _ _ h => h) (fun _ _ => by go_simp) hS ?_
    go_simp
    refine held_any (fuel := 18) (i := 3) (v := .bool true) rfl (by kernel_rfl) (by kernel_rfl) (by kernel_rfl) rfl (fun _ _ _ h => h) (fun _ _ => rfl) hS ?_
    go_simp
    refine held_any (fuel := 17) (i := 4) (v := .bool false) rfl (by kernel_rfl) (by kernel_rfl) (by kernel_rfl) rfl (fun _ _ _ h => h) (fun _ _ => rfl) hS ?_
    go_simp
    refine held_any (fuel := 16) (i := 5) (v := .bool true) rfl (by kernel_rfl) (by kernel_rfl) (by kernel_rfl) rfl (fun _ _ _ h => h) (fun _ _ => by go_simp) hS ?_
    go_simp
    refine held_any (fuel := 15) (i := 6) (v := .bool true) rfl (by kernel_rfl) (by kernel_rfl) (by kernel_rfl) rfl (fun _ _ _ h => h) (fun _ _ => rfl) hS ?_
    go_simp
    refine kheld_skip (fuel := 14) (i := 7) rfl (by kernel_rfl) (by kernel_rfl) (by kernel_rfl) rfl (fun _ _ _ h => h) hS ?_
    go_simp
    refine kheld_skip (fuel := 13) (i := 8) rfl (by kernel_rfl) (by kernel_rfl) (by kernel_rfl) rfl (fun _ _ _ h => h) hS ?_
    go_simp
    refine kheld_skip (fuel := 12) (i := 9) rfl (by kernel_rfl) (by kernel_rfl) (by kernel_rfl) rfl (fun _ _ _ h => h) hS ?_
    go_simp
    refine kheld_skip (fuel := 11) (i := 10) rfl (by kernel_rfl) (by kernel_rfl) (by kernel_rfl) rfl (fun _ _ _ h => h) hS ?_
    go_simp
    refine kheld_skip (fuel := 10) (i := 11) rfl (by kernel_rfl) (by kernel_rfl) (by kernel_rfl) rfl (fun _ _ _ h => h) hS ?_
    go_simp
    refine kheld_skip (fuel := 9) (i := 12) rfl (by kernel_rfl) (by kernel_rfl) (by kernel_rfl) rfl (fun _ _ _ h => h) hS ?_
    go_simp
    refine kheld_skip (fuel := 8) (i := 13) rfl (by kernel_rfl) (by kernel_rfl) (by kernel_rfl) rfl (fun _ _ _ h => h) hS ?_
    go_simp
    refine kheld_skip (fuel := 7) (i := 14) rfl (by kernel_rfl) (by kernel_rfl) (by kernel_rfl) rfl (fun _ _ _ h => h) hS ?_
    go_simp
    refine kheld_skip (fuel := 6) (i := 15) rfl (by kernel_rfl) (by kernel_rfl) (by kernel_rfl) rfl (fun _ _ _ h => h) hS ?_
    go_simp
    refine kheld_skip (fuel := 5) (i := 16) rfl (by kernel_rfl) (by kernel_rfl) (by kernel_rfl) rfl (fun _ _ _ h => h) hS ?_
    go_simp
    refine kheld_skip (fuel := 4) (i := 17) rfl (by kernel_rfl) (by kernel_rfl) (by kernel_rfl) rfl (fun _ _ _ h => h) hS ?_
    go_simp
    refine kheld_skip (fuel := 3) (i := 18) rfl (by kernel_rfl) (by kernel_rfl) (by kernel_rfl) rfl (fun _ _ _ h => h) hS ?_
    go_simp
    refine held_any (fuel := 2) (i := 19) (v := .bool true) rfl (by kernel_rfl) (by kernel_rfl) (by kernel_rfl) rfl (fun _ _ _ h => h) (fun _ _ => rfl) hS ?_
    go_simp
    refine held_any (fuel := 1) (i := 20) (v := .bool true) rfl (by kernel_rfl) (by kernel_rfl) (by kernel_rfl) rfl (fun _ _ _ h => h) (fun _ _ => rfl) hS ?_
    go_simp
    refine held_any (fuel := 0) (i := 21) (v := .bool true) rfl (by kernel_rfl) (by kernel_rfl) (by kernel_rfl) rfl (fun _ _ _ h => h) (fun _ _ => rfl) hS ?_
    go_simp
    refine wpAnyH_done (by kernel_rfl) ?_ _
    go_wp2_with fail
    go_ret
    exact ⟨rfl, H9.out.2.2.trans (hS.mono H9.out.2.2.size)⟩
  | true =>
    have hyf : y = scanV f := HT.out.2 rfl
    obtain ⟨hl, hF⟩ := HT.out.1.1 rfl
    have yok : y.Ok := hyf ▸ scanV_ok hfb
    have hpre : pre y 134 = xs := by
      refine List.ext_getElem? fun i => ?_
      by_cases hi : i < 134
      · rw [pre_get y hi, hyf, (scan_make hfb).2 hF i hi, List.getElem?_eq_getElem (by omega), hf i _ (List.getElem?_eq_getElem (by omega))]
      · rw [List.getElem?_eq_none (by rw [pre_len]; omega), List.getElem?_eq_none (by omega)]
    have KK : ∀ w', Calls Try.prog 28 #[.agg y.row] w' fun e w'' => e = .returned (.agg y.row) ∧ Below w'.heap.size w' w'' := fun w' => by
      have := impl_kept y w' yok
      rwa [hyf, kept_scan, ← hyf] at this
    have MK : ∀ w', Calls Try.prog 22 #[.agg y.row] w' fun e w'' => ∃ o, e = .returned o ∧ BytesAt o xs w'' ∧ Below w'.heap.size w' w'' := fun w' => (impl_make y w' yok).mono fun e w'' ⟨o, h1, h2, h3⟩ => ⟨o, h1, hpre ▸ h2.at, h3⟩
    clear hyf hF hl hpre HT
    have LY : ∀ w', Below w11.heap.size w11 w' → (Instr.loadAt 57 (.pointer (some ⟨q8, 0, none⟩))).run Try.prog w' = .ok (.agg y.row) w' := fun w' hw' => load_mem (H9.out.1.below hw' H9.out.1.z)
    have DX : ∀ w', Below w11.heap.size w11 w' → BytesAt od xs w' := fun w' hw' => H9.out.2.1.below hw' (Nat.le_refl _)
    have hS : Below w11.heap.size w11 w11.drew := (Below.refl _ _).drew
    refine wp_region_held (S := Below w11.heap.size w11) (by kernel_rfl) ?_
    refine held_any (fuel := 21) (i := 0) (v := .bool true) rfl (by kernel_rfl) (by kernel_rfl) (by kernel_rfl) rfl (fun _ _ _ h => h) (fun _ _ => rfl) hS ?_
    go_simp
    refine held_any (fuel := 20) (i := 1) (v := .bool true) rfl (by kernel_rfl) (by kernel_rfl) (by kernel_rfl) rfl (fun _ _ _ h => h) (fun _ _ => rfl) hS ?_
    go_simp
    refine held_any (fuel := 19) (i := 2) (v := .bool true) rfl (by kernel_rfl) (by kernel_rfl) (by kernel_rfl) rfl (fun _ _ _ h => h) (fun _ _ => by go_simp) hS ?_
    go_simp
    refine held_any (fuel := 18) (i := 3) (v := .bool true) rfl (by kernel_rfl) (by kernel_rfl) (by kernel_rfl) rfl (fun _ _ _ h => h) (fun _ _ => rfl) hS ?_
    go_simp
    refine held_any (fuel := 17) (i := 4) (v := .bool true) rfl (by kernel_rfl) (by kernel_rfl) (by kernel_rfl) rfl (fun _ _ _ h => h) (fun _ _ => rfl) hS ?_
    go_simp
    refine held_any (fuel := 16) (i := 5) (v := .bool false) rfl (by kernel_rfl) (by kernel_rfl) (by kernel_rfl) rfl (fun _ _ _ h => h) (fun _ _ => by go_simp) hS ?_
    go_simp
    refine held_any (fuel := 15) (i := 6) (v := .bool false) rfl (by kernel_rfl) (by kernel_rfl) (by kernel_rfl) rfl (fun _ _ _ h => h) (fun _ _ => rfl) hS ?_
    go_simp
    refine held_load (fuel := 14) (i := 7) (t := 57) (v := .agg y.row) rfl rfl rfl (by kernel_rfl) (by kernel_rfl) (by kernel_rfl) rfl (fun _ _ _ h => h) (fun w' hw' => LY w' hw') hS ?_
    go_simp
    refine held_any (fuel := 13) (i := 10) (v := od) rfl (by kernel_rfl) (by kernel_rfl) (by kernel_rfl) rfl (fun _ _ _ h => h) (fun _ _ => rfl) hS ?_
    go_simp
    refine kheld_conv (t := 22) (t2 := 9) (fuel := 12) (i := 11) (v := .string (strOf xs)) rfl rfl rfl (by kernel_rfl) (by kernel_rfl) (by kernel_rfl) rfl (fun _ _ _ h => h) (fun w' hw' => str_run (DX w' hw')) hS ?_
    go_simp
    refine wpAnyH_ready (rs := [8]) (by kernel_rfl) (by simp) ?_
    refine AllReadyH.cons rfl (fun K hK => ?_) AllReadyH.nil
    go_simp
    refine (MK _).mono ?_
    rintro e w12 ⟨o12, rfl, D12, b12⟩
    have hS9 := hS.trans (b12.mono hS.size)
    refine hK.out _ _ hS9 (fun _ => ?_)
    clear hK K b12
    go_simp
    refine wpAnyH_ready (rs := [9]) (by kernel_rfl) (by simp) ?_
    refine AllReadyH.cons rfl (fun K hK => ?_) AllReadyH.nil
    rw [if_pos (by rfl)]
    refine kop_conv (t := 22) (t2 := 9) rfl (str_run D12) ?_
    refine hK.out _ _ hS9 (fun _ => ?_)
    clear hK K D12
    go_simp
    refine held_any (fuel := 9) (i := 12) (v := .bool true) rfl (by kernel_rfl) (by kernel_rfl) (by kernel_rfl) rfl (fun _ _ _ h => h) (fun _ _ => by go_simp) hS9 ?_
    go_simp
    refine held_any (fuel := 8) (i := 13) (v := .bool true) rfl (by kernel_rfl) (by kernel_rfl) (by kernel_rfl) rfl (fun _ _ _ h => h) (fun _ _ => rfl) hS9 ?_
    go_simp
    refine held_load (fuel := 7) (i := 14) (t := 57) (v := .agg y.row) rfl rfl rfl (by kernel_rfl) (by kernel_rfl) (by kernel_rfl) rfl (fun _ _ _ h => h) (fun w' hw' => LY w' hw') hS9 ?_
    go_simp
    refine held_load (fuel := 6) (i := 16) (t := 57) (v := .agg y.row) rfl rfl rfl (by kernel_rfl) (by kernel_rfl) (by kernel_rfl) rfl (fun _ _ _ h => h) (fun w' hw' => LY w' hw') hS9 ?_
    go_simp
    refine wpAnyH_ready (rs := [15]) (by kernel_rfl) (by simp) ?_
    refine AllReadyH.cons rfl (fun K hK => ?_) AllReadyH.nil
    go_simp
    refine (KK _).mono ?_
    rintro e w13 ⟨rfl, b13⟩
    have hSc := hS9.trans (b13.mono hS9.size)
    refine hK.out _ _ hSc (fun _ => ?_)
    clear hK K b13
    go_simp
    refine wpAnyH_ready (rs := [17]) (by kernel_rfl) (by simp) ?_
    refine AllReadyH.cons rfl (fun K hK => ?_) AllReadyH.nil
    go_simp
    refine (same_callK y yok _).mono ?_
    rintro e w14 ⟨rfl, b14⟩
    have hSd := hSc.trans (b14.mono hSc.size)
    refine hK.out _ _ hSd (fun _ => ?_)
    clear hK K b14
    go_simp
    refine held_any (fuel := 3) (i := 18) (v := .bool true) rfl (by kernel_rfl) (by kernel_rfl) (by kernel_rfl) rfl (fun _ _ _ h => h) (fun _ _ => rfl) hSd ?_
    go_simp
    refine held_any (fuel := 2) (i := 19) (v := .bool true) rfl (by kernel_rfl) (by kernel_rfl) (by kernel_rfl) rfl (fun _ _ _ h => h) (fun _ _ => rfl) hSd ?_
    go_simp
    refine held_any (fuel := 1) (i := 20) (v := .bool true) rfl (by kernel_rfl) (by kernel_rfl) (by kernel_rfl) rfl (fun _ _ _ h => h) (fun _ _ => rfl) hSd ?_
    go_simp
    refine held_any (fuel := 0) (i := 21) (v := .bool true) rfl (by kernel_rfl) (by kernel_rfl) (by kernel_rfl) rfl (fun _ _ _ h => h) (fun _ _ => rfl) hSd ?_
    go_simp
    refine wpAnyH_done (by kernel_rfl) ?_ _
    go_wp2_with fail
    go_ret
    exact ⟨rfl, H9.out.2.2.trans (hSd.mono H9.out.2.2.size)⟩

theorem law (a0 a1 : Option Addr) (l0 c0 l1 c1 : Nat) (w : World) (C0 : CodeAt (.slice a0 l0 c0) w) (n0 : l0 ≤ 9223372036854775807) (C1 : CodeAt (.slice a1 l1 c1) w) (n1 : l1 ≤ 9223372036854775807) :
    Calls Try.prog 7 #[.slice a0 l0 c0, .slice a1 l1 c1] w fun e w' => e = .returned (.bool true) ∧ Below w.heap.size w w' := by
  by_cases h : l0 ≤ 1048576 ∧ l1 ≤ 1048576
  · exact law_short a0 a1 l0 c0 l1 c1 w h.1 h.2 C0 C1
  · exact law_long a0 a1 l0 c0 l1 c1 w (by omega) n0 n1

end Go.Proofs.Ytdhoimjkgicneab

/- How a law that answers true, and writes into nothing that was there, is closed: its arguments and the named variables read as they did. Of no one program. -/
namespace Go.Proofs.Ytdhoimjkgicneab
open Go Go.ChangeShapes Go.WideShapes Go.ChangeAt Go.RowKit

theorem below_trodAll {H : Type} {enc : TypeId × Value → H} {P : Program} (hl : laidOutB P = true) {W W' : World} (hb : Below W.heap.size W W') :
    ∀ {ts : List TypeId} {vs : List Value} {ds : List (DataW H)} {ps : List MemPlace}, (ts.all fun t => P.readableRec t && decide (t < P.types.size)) = true → (∀ x ∈ ps, x.block < W.heap.size) →
      DataW.TrodAll enc P W 0 (fun _ => true) true ts vs ds ps → DataW.TrodAll enc P W' 0 (fun b => decide (b < W.heap.size)) true ts vs ds ps := by
  intro ts
  induction ts with
  | nil =>
    intro vs ds ps _ _ h
    obtain ⟨rfl, rfl, rfl⟩ := trodAll_nil h
    exact trodAll_mk0
  | cons t ts ih =>
    intro vs ds ps hrow hlt h
    obtain ⟨v0, vs0, d0, ds0, p0, q0, rfl, rfl, rfl, h0, r0⟩ := trodAll_cons h
    simp only [List.all_cons, Bool.and_eq_true, decide_eq_true_eq] at hrow
    exact trodAll_cons_mk (Below.trod hl hrow.1.1 hrow.1.2 h0 hb (fun x hx => hlt x (by simp [hx]))) (ih (by simpa using hrow.2) (fun x hx => hlt x (by simp [hx])) r0)

theorem close_true {H : Type} {enc : TypeId × Value → H} {P : Program} {f : Func} {s : ChangeSpec} {W W' : World} {args : Array Value} {ds gs : List (DataW H)} {before : List MemPlace} {tb : TypeId}
    (hl : laidOutB P = true) (hrow : (f.params.toList.all fun t => P.readableRec t && decide (t < P.types.size)) = true) (hv : varsRowed P s.vars = true)
    (hres : f.resultTypes = #[tb]) (hbool : P.underlying tb = some .bool)
    (hW : DataW.Whole enc P f.params.toList s.vars false W args.toList ds gs before)
    (hfn : s.fn H (ds ++ gs) = { results := [.lit (.bool true)], args := ds, vars := gs })
    (hb : Below W.heap.size W W') : s.post enc P f false true false false W args (.bool true) W' := by
  have hlt := hW.lt
  have hW' := hW
  obtain ⟨p, q, hA, hV, rfl, hfz, hnd⟩ := hW
  refine ⟨ds, gs, p ++ q, [], p, q, hW', ?_, ?_, ?_, hb.frame _, fun h => by cases h⟩
  · rw [hfn, hres]
    exact trodAll_cons_mk (shut_bool hbool _) trodAll_mk0
  · rw [hfn]
    exact below_trodAll hl hb hrow (fun x hx => hlt x (by simp [hx])) hA
  · rw [hfn]
    exact Below.trodVars hl hb hv hV

end Go.Proofs.Ytdhoimjkgicneab
