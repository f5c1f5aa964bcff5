/- Texts of this proof laid together: KbB, KepE0. -/
import Derived.Test.YtdhoimjkgicneabLot19
import Derived.Test.YtdhoimjkgicneabLot20
/- Drawn memories and drawn bytes of what was kept. -/
namespace Go.Proofs.Ytdhoimjkgicneab
open Go Go.RowKit

attribute [local go_sem] zMemK

set_option maxRecDepth 100000 in
set_option maxHeartbeats 800000 in
theorem draw_kmake (v : Value) (w : World) (C : CodeAt v w) :
    Calls Try.prog 21 #[v] w fun e w' => ∃ m : MemV, m.Ok ∧ e = .returned (.agg m.row) ∧ Below w.heap.size w w' := by
  have B0 : Below w.heap.size w (w.alloc (.cells mem0.row 57)) := (Below.refl _ _).alloc (Nat.le_refl _) _
  have M0 := MemAt.alloc mem0 w 57
  have H0 : Hid (CodeAt v (w.alloc (.cells mem0.row 57)) ∧ Below w.heap.size w (w.alloc (.cells mem0.row 57)) ∧ MemAt w.heap.size mem0 (w.alloc (.cells mem0.row 57))) := ⟨C.below B0, B0, M0⟩
  clear C B0 M0
  go_enter Try.func21, Try.ntmps21
  go_upto_region 1 with fail
  generalize w.alloc (.cells mem0.row 57) = w1 at H0 ⊢
  go_wp2_with fail
  refine (open_any v w1 H0.out.1).mono ?_
  rintro e w2 ⟨rfl, rd2, b2⟩
  have H2 : Hid (Rd w1.heap.size 0 w2 ∧ Below w1.heap.size w1 w2) := ⟨rd2, b2⟩
  clear rd2 b2
  go_wp2_with fail
  refine (draw_kmem w1.heap.size 0 w2 H2.out.1 (by omega)).mono ?_
  rintro e w3 ⟨m, hm, rfl, rd3, mv3⟩
  have b3 : Below w1.heap.size w2 w3 := mv3.below H2.out.2.size (Nat.le_refl _)
  have b13 := H2.out.2.trans b3
  have M3 := H0.out.2.2.below b13 H0.out.2.2.z
  have L1 := store_mem m M3
  have HF : Hid (MemAt w.heap.size m _ ∧ Below w.heap.size w _) := ⟨M3.stored m, setCells_below m.row.toList w.heap.size 0 (H0.out.2.1.trans (b13.mono H0.out.2.1.size)) (Nat.le_refl _)⟩
  clear b3 b13 M3 rd3 mv3 H2 H0
  go_wp2_with (refine list_store (t := 57) (x := .pointer (some ⟨w.heap.size, 0, none⟩)) (u := .agg m.row) rfl rfl rfl rfl L1 ?_)
  exact ret_mem (c := 2) rfl rfl rfl HF.out.1 ⟨m, hm, rfl, HF.out.2⟩

theorem take_at {g n cap y : Nat} {xs : List Nat} {w : World} (h : BytesAt (.slice (some ⟨g, 0, none⟩) n cap) xs w) (hn : n = xs.length) (hy : y ≤ n) : BytesAt (.slice (some ⟨g, 0, none⟩) y cap) (xs.take y) w := by
  rcases h with ⟨b, off, cap', e, hz, hc, he⟩ | ⟨rfl, e⟩
  · simp only [Value.slice.injEq, Option.some.injEq, Addr.mk.injEq] at e
    obtain ⟨⟨rfl, rfl, -⟩, -, rfl⟩ := e
    refine Or.inl ⟨g, 0, cap, by simp; omega, hz, by simp; omega, fun i x hx => ?_⟩
    have : i < (xs.take y).length := (List.getElem?_eq_some_iff.1 hx).1
    rw [List.getElem?_take, if_pos (by simp at this; omega)] at hx
    exact he i x hx
  · simp at e

theorem byte_ofK (z : Int) : ∃ y : Nat, IntKind.u8.wrap z = (y : Int) ∧ z % 256 = (y : Int) ∧ y ≤ 255 :=
  ⟨(z % 256).toNat, by show z % 256 = _; omega, by omega, by omega⟩

/-- What a draw of such bytes leaves. -/
def DrawnY (w : World) (e : Ending) (w' : World) : Prop := ∃ o xs, e = .returned o ∧ BytesAt o xs w' ∧ (∀ x ∈ xs, x ≤ 255) ∧ xs.length ≤ 135 ∧ Below w.heap.size w w'

set_option maxRecDepth 100000 in
set_option maxHeartbeats 1600000 in
theorem draw_kback (v : Value) (w : World) (C : CodeAt v w) :
    Calls Try.prog 26 #[v] w (DrawnY w) := by
  have H0 : Hid (CodeAt v w) := C
  clear C
  go_enter Try.func26, Try.ntmps26
  go_wp2_with fail
  refine (open_any v w H0.out).mono ?_
  rintro e w2 ⟨rfl, rd2, b2⟩
  have H2 : Hid (Rd w.heap.size 0 w2 ∧ Below w.heap.size w w2) := ⟨rd2, b2⟩
  clear rd2 b2 H0
  go_wp2_with fail
  refine (draw_kmem w.heap.size 0 w2 H2.out.1 (by omega)).mono ?_
  rintro e w3 ⟨m, hm, rfl, rd3, mv3⟩
  have H3 : Hid (Rd w.heap.size 260 w3 ∧ Below w.heap.size w w3) := ⟨rd3, H2.out.2.trans (mv3.below H2.out.2.size (Nat.le_refl _))⟩
  clear rd3 mv3 H2
  go_wp2_with fail
  refine (spec_make m w3 hm).mono ?_
  rintro e w4 ⟨o, rfl, own4, b4⟩
  rcases own_cases own4 with ⟨-, e0⟩ | ⟨g, cap, rfl, hg, hg2⟩
  · have := congrArg List.length e0
    rw [pre_len] at this
    simp at this
  rw [pre_len] at own4 ⊢
  have hcap : 134 ≤ cap := by
    rcases own4.2 with ⟨e, -⟩ | ⟨g', cap', cur, e, -, -, hn, -⟩
    · simp at e
    · simp only [Value.slice.injEq] at e
      obtain ⟨-, -, rfl⟩ := e
      rw [pre_len] at hn
      exact hn
  have hRg : w.heap.size < g := by have := H3.out.1.size; omega
  obtain ⟨xs, hxs⟩ : ∃ xs, xs = pre m 134 := ⟨_, rfl⟩
  have HX : Hid (xs.length = 134 ∧ ∀ x ∈ xs, x ≤ 255) := by rw [hxs]; exact ⟨pre_len m 134, pre_le m 134⟩
  rw [← hxs] at own4
  have H4 : Hid (Rd w.heap.size 260 w4 ∧ Below w.heap.size w w4 ∧ Own w3.heap.size (.slice (some ⟨g, 0, none⟩) 134 cap) xs w4) := ⟨H3.out.1.below b4, H3.out.2.trans (b4.mono H3.out.2.size), own4⟩
  clear own4 b4 H3 hxs
  have i1 : (134 : Int) ≤ (cap : Int) := by omega
  go_wp2_with fail
  refine (pick_any w.heap.size 260 6 w4 H4.out.1 (by omega) (by omega)).mono ?_
  rintro e w5 ⟨x, rfl, x0, x1, -, rd5, mv5⟩
  have H5 : Hid (Rd w.heap.size 261 w5 ∧ Below w.heap.size w w5 ∧ Own w3.heap.size (.slice (some ⟨g, 0, none⟩) 134 cap) xs w5) := ⟨rd5, H4.out.2.1.trans (mv5.below H4.out.2.1.size (Nat.le_refl _)), H4.out.2.2.kept fun k hk => mv5.block k (by have := (World.ownsRow.lt H4.out.2.2 k hk).2; omega) (by simp [Value.ownBlock] at hk; omega)⟩
  clear rd5 mv5 H4 x1
  by_cases c0 : x = 0
  · subst c0
    go_wp2_with fail
    refine (pick_any w.heap.size 261 134 w5 H5.out.1 (by omega) (by omega)).mono ?_
    rintro e w6 ⟨y, rfl, y0, y1, -, rd6, mv6⟩
    have y2 : y < 134 := y1 (by omega)
    obtain ⟨n, rfl⟩ : ∃ n : Nat, y = (n : Int) := ⟨y.toNat, by omega⟩
    have O6 : Own w3.heap.size (.slice (some ⟨g, 0, none⟩) 134 cap) xs w6 := H5.out.2.2.kept fun k hk => mv6.block k (by have := (World.ownsRow.lt H5.out.2.2 k hk).2; omega) (by simp [Value.ownBlock] at hk; omega)
    have H6 : Hid (BytesAt (.slice (some ⟨g, 0, none⟩) n cap) (xs.take n) w6 ∧ Below w.heap.size w w6) := ⟨take_at (by have := O6.at; exact this) HX.out.1.symm (by omega), H5.out.2.1.trans (mv6.below H5.out.2.1.size (Nat.le_refl _))⟩
    clear O6 rd6 mv6 H5 y1
    have i2 : (n : Int) ≤ (cap : Int) := by omega
    have i3 : ¬ cap = 0 := by omega
    go_wp2_with fail
    go_ret
    exact ⟨_, xs.take n, rfl, H6.out.1, fun x hx => HX.out.2 x (List.mem_of_mem_take hx), by have := HX.out.1; simp; omega, H6.out.2⟩
  · have c0' : (x == 0) = false := by simpa using c0
    by_cases c1 : x = 1
    · subst c1
      have hz5 : w3.heap.size ≤ w5.heap.size := by have := (World.ownsRow.lt H5.out.2.2 g rfl).2; omega
      go_wp2_with (at_builtin; refine list_app w3.heap.size (v := .slice (some ⟨g, 0, none⟩) 134 cap) (s := .slice (some ⟨w5.heap.size, 0, none⟩) 1 1) (xs := xs) (ys := [0]) rfl (.tmp 23) (.tmp 24) rfl rfl rfl (World.ownsRow.alloc H5.out.2.2 _) ?c1 (by have := HX.out.1; simp; omega) (by simp; omega) ?_)
      case c1 => exact (bytes_one 0 w5 5 1).resolve_right (by simp)
      intro o6 w6 p6 g6 a6
      have H6 : Hid (BytesAt o6 (xs ++ [0]) w6 ∧ Below w.heap.size w w6) := by
        refine ⟨p6.at, ?_⟩
        have b1 : Below w.heap.size w (w5.alloc (.cells #[.int .u8 0] 5)) := H5.out.2.1.alloc H5.out.2.1.size _
        exact b1.trans (grown_below g6 (by have := H5.out.2.1.size; simp; omega) (fun k hk => by simp [Value.ownBlock] at hk; omega))
      clear p6 g6 a6 H5
      go_wp2_with fail
      go_ret
      exact ⟨_, xs ++ [0], rfl, H6.out.1, fun x hx => by simp at hx; rcases hx with hx | rfl; exact HX.out.2 x hx; omega, by have := HX.out.1; simp; omega, H6.out.2⟩
    · have c1' : (x == 1) = false := by simpa using c1
      by_cases c2 : x = 2
      · subst c2
        go_wp2_with fail
        refine (pick_any w.heap.size 261 134 w5 H5.out.1 (by omega) (by omega)).mono ?_
        rintro e w6 ⟨y, rfl, y0, y1, -, rd6, mv6⟩
        have y2 : y < 134 := y1 (by omega)
        obtain ⟨n, rfl⟩ : ∃ n : Nat, y = (n : Int) := ⟨y.toNat, by omega⟩
        have H6 : Hid (Rd w.heap.size 262 w6 ∧ Below w.heap.size w w6 ∧ Own w3.heap.size (.slice (some ⟨g, 0, none⟩) 134 cap) xs w6) := ⟨rd6, H5.out.2.1.trans (mv6.below H5.out.2.1.size (Nat.le_refl _)), H5.out.2.2.kept fun k hk => mv6.block k (by have := (World.ownsRow.lt H5.out.2.2 k hk).2; omega) (by simp [Value.ownBlock] at hk; omega)⟩
        clear rd6 mv6 H5 y1
        go_wp2_with fail
        refine (num_lit w.heap.size 262 _ w6 w6.heap.size rfl H6.out.1 (by omega) (by simp) (by simp) (by simp) 6 rfl).mono ?_
        rintro e w7 ⟨z, rfl, rd7, mv7⟩
        obtain ⟨b, b1, b2, b3⟩ := byte_ofK z
        have O7 : Own w3.heap.size (.slice (some ⟨g, 0, none⟩) 134 cap) xs w7 := H6.out.2.2.kept fun k hk => mv7.block k (by have := (World.ownsRow.lt H6.out.2.2 k hk).2; omega) (by simp [Value.ownBlock] at hk; omega)
        have H7 : Hid (BytesAt (.slice (some ⟨g, 0, none⟩) 134 cap) (xs.set n b) (w7.setCell ⟨g, n, none⟩ (.int .u8 (b : Int))) ∧ Below w.heap.size w (w7.setCell ⟨g, n, none⟩ (.int .u8 (b : Int)))) :=
          ⟨(O7.put HX.out.1.symm n b).at, (H6.out.2.1.trans (mv7.below H6.out.2.1.size (Nat.le_refl _))).setCell (by show _ ≤ g; omega) _⟩
        obtain ⟨x0', d1, f1⟩ : ∃ x0 : Nat, w7.cell? ⟨g, n, none⟩ = some (.int .u8 (x0 : Int)) ∧ w7.frozen? ⟨g, n, none⟩ = false := ⟨_, O7.cellAt HX.out.1.symm (i := n) (by have := HX.out.1; omega)⟩
        clear O7 rd7 mv7 H6
        go_wp2_with fail
        go_ret
        exact ⟨_, xs.set n b, rfl, H7.out.1, fun x hx => by rcases List.mem_or_eq_of_mem_set hx with h | rfl; exact HX.out.2 x h; exact b3, by have := HX.out.1; simp; omega, H7.out.2⟩
      · have c2' : (x == 2) = false := by simpa using c2
        go_wp2_with fail
        go_ret
        exact ⟨_, xs, rfl, H5.out.2.2.at, HX.out.2, by have := HX.out.1; omega, H5.out.2.1⟩

end Go.Proofs.Ytdhoimjkgicneab

/- What is kept of a memory, as the specification says it. -/
namespace Go.Proofs.Ytdhoimjkgicneab
open Go Go.RowKit

attribute [local go_sem] zMemK

theorem cell_same (a b : MemV) {k : Nat} (hk : k < 136) (h0 : k = 0 → a.x = b.x) (h1 : k = 1 → a.y = b.y) (h2 : k = 2 → a.m = b.m) (h3 : k = 3 → a.s = b.s) (h4 : k = 4 → a.e = b.e)
    (hT : 5 ≤ k → k < 37 → a.tD ((k - 5) / 2) = b.tD ((k - 5) / 2) ∧ a.tC ((k - 5) / 2) = b.tC ((k - 5) / 2))
    (hC : 37 ≤ k → k < 85 → a.cD ((k - 37) / 3) = b.cD ((k - 37) / 3) ∧ a.cL ((k - 37) / 3) = b.cL ((k - 37) / 3) ∧ a.cC ((k - 37) / 3) = b.cC ((k - 37) / 3))
    (hD : 85 ≤ k → k < 117 → a.d (k - 85) = b.d (k - 85)) (hR : 117 ≤ k → k < 133 → a.r (k - 117) = b.r (k - 117)) (h5 : k = 133 → a.time = b.time) (h6 : k = 134 → a.ran = b.ran) (h7 : k = 135 → a.fault = b.fault) : a.cell k = b.cell k := by
  unfold MemV.cell
  by_cases k0 : k = 0
  · rw [if_pos k0, if_pos k0, h0 k0]
  rw [if_neg k0, if_neg k0]
  by_cases k1 : k = 1
  · rw [if_pos k1, if_pos k1, h1 k1]
  rw [if_neg k1, if_neg k1]
  by_cases k2 : k = 2
  · rw [if_pos k2, if_pos k2, h2 k2]
  rw [if_neg k2, if_neg k2]
  by_cases k3 : k = 3
  · rw [if_pos k3, if_pos k3, h3 k3]
  rw [if_neg k3, if_neg k3]
  by_cases k4 : k = 4
  · rw [if_pos k4, if_pos k4, h4 k4]
  rw [if_neg k4, if_neg k4]
  by_cases k5 : k < 37
  · rw [if_pos k5, if_pos k5, (hT (by omega) k5).1, (hT (by omega) k5).2]
  rw [if_neg k5, if_neg k5]
  by_cases k6 : k < 85
  · rw [if_pos k6, if_pos k6, (hC (by omega) k6).1, (hC (by omega) k6).2.1, (hC (by omega) k6).2.2]
  rw [if_neg k6, if_neg k6]
  by_cases k7 : k < 117
  · rw [if_pos k7, if_pos k7, hD (by omega) k7]
  rw [if_neg k7, if_neg k7]
  by_cases k8 : k < 133
  · rw [if_pos k8, if_pos k8, hR (by omega) k8]
  rw [if_neg k8, if_neg k8]
  by_cases k9 : k = 133
  · rw [if_pos k9, if_pos k9, h5 k9]
  rw [if_neg k9, if_neg k9]
  by_cases k10 : k = 134
  · rw [if_pos k10, if_pos k10, h6 k10]
  rw [if_neg k10, if_neg k10, h7 (by omega)]

/-- While the specification copies: k timers and k registers are there. -/
def midV (v : MemV) (k : Nat) : MemV := ⟨0, 0, v.m / 4294967296 * 4294967296, v.s, 0, fun i => if i < k then v.tD i else false, fun i => if i < k then v.tC i else 0, v.cD, v.cL, v.cC, fun i => if i < 16 then 0 else if i < 16 + k then v.d i else 0, fun _ => 0, 0, false, false⟩

theorem mid_first (v : MemV) {u1 u2 : Value} (h1 : u1 = .int .u16 v.s) (h2 : u2 = .int .u64 ((v.m / 4294967296 * 4294967296 : Nat) : Int)) :
    Try.prog.built 57 [(3, u1), (2, u2), (6, .agg (rowOf (fCounter v.cD v.cL v.cC) 48))] = some (midV v 0).row := by
  subst h1 h2
  rw [built_mem, ← rowOf_mem, ← rowOf_mem, fill_row (off := 3) (n := 1) (g := fun _ => .int .u16 v.s) (by decide) rfl (by omega), fill_row (off := 2) (n := 1) (g := fun _ => .int .u64 ((v.m / 4294967296 * 4294967296 : Nat) : Int)) (by decide) rfl (by omega),
    fill_row (off := 37) (n := 48) (g := fCounter v.cD v.cL v.cC) (by decide) rfl (by omega), Instr.fill]
  congr 1

theorem mid_next (v : MemV) {k j : Nat} (hk : k < 16) (hj : j < 136) : (midV v (k + 1)).cell j = if j = 85 + (16 + k) then .int .i16 (v.d (16 + k)) else if j = 5 + k * 2 + 1 then .int .u16 (v.tC k) else if j = 5 + k * 2 then .bool (v.tD k) else (midV v k).cell j := by
  by_cases c1 : j = 85 + (16 + k)
  · rw [if_pos c1, c1, MemV.cell_d _ _ (by omega)]
    show Value.int .i16 (if 16 + k < 16 then 0 else if 16 + k < 16 + (k + 1) then v.d (16 + k) else 0) = _
    rw [if_neg (by omega), if_pos (by omega)]
  rw [if_neg c1]
  by_cases c2 : j = 5 + k * 2 + 1
  · rw [if_pos c2, c2, MemV.cell_tC _ _ hk]
    show Value.int .u16 ((if k < k + 1 then v.tC k else 0 : Nat) : Int) = _
    rw [if_pos (by omega)]
  rw [if_neg c2]
  by_cases c3 : j = 5 + k * 2
  · rw [if_pos c3, c3, MemV.cell_tD _ _ hk]
    show Value.bool (if k < k + 1 then v.tD k else false) = _
    rw [if_pos (by omega)]
  rw [if_neg c3]
  refine cell_same _ _ hj (fun _ => rfl) (fun _ => rfl) (fun _ => rfl) (fun _ => rfl) (fun _ => rfl) (fun h1 h2 => ?_) (fun _ _ => ⟨rfl, rfl, rfl⟩) (fun h1 h2 => ?_) (fun _ _ => rfl) (fun _ => rfl) (fun _ => rfl) (fun _ => rfl)
  · show (if (j - 5) / 2 < k + 1 then _ else _) = (if (j - 5) / 2 < k then _ else _) ∧ (if (j - 5) / 2 < k + 1 then _ else _) = (if (j - 5) / 2 < k then _ else _)
    by_cases h : (j - 5) / 2 < k
    · rw [if_pos h, if_pos h, if_pos (by omega), if_pos (by omega)]
      exact ⟨rfl, rfl⟩
    · rw [if_neg h, if_neg h, if_neg (by omega), if_neg (by omega)]
      exact ⟨rfl, rfl⟩
  · show (if j - 85 < 16 then _ else if j - 85 < 16 + (k + 1) then _ else _) = if j - 85 < 16 then _ else if j - 85 < 16 + k then _ else _
    by_cases h : j - 85 < 16
    · rw [if_pos h, if_pos h]
    · rw [if_neg h, if_neg h]
      by_cases h' : j - 85 < 16 + k
      · rw [if_pos h', if_pos (by omega)]
      · rw [if_neg h', if_neg (by omega)]

theorem mid_last (v : MemV) : (midV v 16).row = (keptV v).row := by
  have e : (List.range 136).map (midV v 16).cell = (List.range 136).map (keptV v).cell := List.map_congr_left fun k hk => by
    have hk := List.mem_range.1 hk
    refine cell_same _ _ hk (fun _ => rfl) (fun _ => rfl) (fun _ => rfl) (fun _ => rfl) (fun _ => rfl) (fun h1 h2 => ?_) (fun _ _ => ⟨rfl, rfl, rfl⟩) (fun h1 h2 => ?_) (fun _ _ => rfl) (fun _ => rfl) (fun _ => rfl) (fun _ => rfl)
    · show (if (k - 5) / 2 < 16 then _ else _) = _ ∧ (if (k - 5) / 2 < 16 then _ else _) = _
      rw [if_pos (by omega), if_pos (by omega)]
      exact ⟨rfl, rfl⟩
    · show (if k - 85 < 16 then _ else if k - 85 < 16 + 16 then _ else _) = if k - 85 < 16 then _ else _
      by_cases h : k - 85 < 16
      · rw [if_pos h, if_pos h]
      · rw [if_neg h, if_neg h, if_pos (by omega)]
  unfold MemV.row
  rw [e]

/-- Three cells are put. -/
theorem mid_put {v : MemV} {b k : Nat} {w : World} (hk : k < 16) (h : MemAt b (midV v k) w) :
    MemAt b (midV v (k + 1)) (((w.setCell ⟨b, 5 + k * 2, none⟩ (.bool (v.tD k))).setCell ⟨b, 5 + k * 2 + 1, none⟩ (.int .u16 (v.tC k))).setCell ⟨b, 85 + (16 + k), none⟩ (.int .i16 (v.d (16 + k)))) := by
  have h1 := h.rowAt.put (k := 5 + k * 2) (f' := fun j => if j = 5 + k * 2 then .bool (v.tD k) else (midV v k).cell j) (u := .bool (v.tD k)) (by omega) (if_pos rfl) (fun i _ hn => if_neg hn)
  have h2 := h1.put (k := 5 + k * 2 + 1) (f' := fun j => if j = 5 + k * 2 + 1 then .int .u16 (v.tC k) else if j = 5 + k * 2 then .bool (v.tD k) else (midV v k).cell j) (u := .int .u16 (v.tC k)) (by omega) (if_pos rfl) (fun i _ hn => if_neg hn)
  have h3 := h2.put (k := 85 + (16 + k)) (f' := fun j => if j = 85 + (16 + k) then .int .i16 (v.d (16 + k)) else if j = 5 + k * 2 + 1 then .int .u16 (v.tC k) else if j = 5 + k * 2 then .bool (v.tD k) else (midV v k).cell j) (u := .int .i16 (v.d (16 + k))) (by omega) (if_pos rfl) (fun i _ hn => if_neg hn)
  exact (h3.congr fun j hj => (mid_next v hk hj).symm).mem

/-- What is there while the specification copies. -/
structure Copying (v : MemV) (k : Nat) (w wr : World) : Prop where
  A : MemAt w.heap.size v wr
  R : MemAt (w.heap.size + 1) mem0 wr
  O : MemAt (w.heap.size + 1 + 1) (midV v k) wr
  B : Below w.heap.size w wr

theorem boxes0 (v : MemV) (w : World) : MemAt w.heap.size v ((w.alloc (.cells v.row 57)).alloc (.cells mem0.row 57)) ∧ MemAt (w.heap.size + 1 + 1) mem0 (((w.alloc (.cells v.row 57)).alloc (.cells mem0.row 57)).alloc (.cells mem0.row 57)) ∧ ∀ x : MemV,
    MemAt w.heap.size v ((((w.alloc (.cells v.row 57)).alloc (.cells mem0.row 57)).alloc (.cells mem0.row 57)).setCells (w.heap.size + 1 + 1) 0 x.row.toList) ∧
    MemAt (w.heap.size + 1) mem0 ((((w.alloc (.cells v.row 57)).alloc (.cells mem0.row 57)).alloc (.cells mem0.row 57)).setCells (w.heap.size + 1 + 1) 0 x.row.toList) ∧
    MemAt (w.heap.size + 1 + 1) x ((((w.alloc (.cells v.row 57)).alloc (.cells mem0.row 57)).alloc (.cells mem0.row 57)).setCells (w.heap.size + 1 + 1) 0 x.row.toList) ∧
    Below w.heap.size w ((((w.alloc (.cells v.row 57)).alloc (.cells mem0.row 57)).alloc (.cells mem0.row 57)).setCells (w.heap.size + 1 + 1) 0 x.row.toList) := by
  have h1 : ∀ (w : World) (o : Obj), Below w.heap.size w (w.alloc o) := fun w o => (Below.refl _ _).alloc (Nat.le_refl _) _
  have A1 := (MemAt.alloc v w 57).below (h1 _ (.cells mem0.row 57)) (by simp)
  have A2 := A1.below (h1 _ (.cells mem0.row 57)) (by simp; omega)
  have R1 := MemAt.alloc mem0 (w.alloc (.cells v.row 57)) 57
  rw [show (w.alloc (.cells v.row 57)).heap.size = w.heap.size + 1 by simp] at R1
  have R2 := R1.below (h1 _ (.cells mem0.row 57)) (by simp)
  have O2 := MemAt.alloc mem0 ((w.alloc (.cells v.row 57)).alloc (.cells mem0.row 57)) 57
  rw [show ((w.alloc (.cells v.row 57)).alloc (.cells mem0.row 57)).heap.size = w.heap.size + 1 + 1 by simp] at O2
  refine ⟨A1, O2, fun x => ⟨A2.other (by omega), R2.other (by omega), O2.stored x, setCells_below _ _ _ ((((Below.refl w.heap.size w).alloc (Nat.le_refl _) _).alloc (by simp) _).alloc (by simp; omega) _) (by omega)⟩⟩

end Go.Proofs.Ytdhoimjkgicneab
