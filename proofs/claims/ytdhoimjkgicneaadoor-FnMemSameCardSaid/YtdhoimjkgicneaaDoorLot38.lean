/- Texts of this proof laid together: FmU, MyF, MtL. -/
import Derived.Test.YtdhoimjkgicneaaDoorLot37
import Derived.Test.YtdhoimjkgicneaaDoorLot35
import Derived.Lib.Walk
import Derived.Lib.ItoaMem
import Derived.BigCall
import Derived.BigGuard
import Derived.Test.YtdhoimjkgicneaaDoorLot36
import Derived.Test.YtdhoimjkgicneaaDoorLot30
import Derived.Test.YtdhoimjkgicneaaDoorLot31
import Derived.Test.YtdhoimjkgicneaaDoorLot32
/- The library's FormatUint at base 10. -/
namespace Go.Proofs.YtdhoimjkgicneaaDoor
open Go Go.RowKit Go.Sort

theorem holds_zero0 (w : World) (T : TypeId) (nd : Nat) (hs : nd ≤ 24) : Holds (fun (b : UInt8) => Value.int .u8 (b.toNat : Int)) (w.alloc (.cells Lib.zeros24 T)) w.heap.size 0 (Array.replicate nd (0 : UInt8)) := fun j hj => by
  have hj' : j < nd := by simpa using hj
  refine ⟨?_, World.frozen?_alloc_new _ _ _ _⟩
  rw [World.cell?_alloc_new, Lib.zeros24_at _ (by omega), getElem!_pos _ j hj]
  simp

set_option maxHeartbeats 6400000 in
set_option maxRecDepth 100000 in
theorem fmt_inner (u : Nat) (hu64 : u < 18446744073709551616) (w : World) (T : Tabs w) :
    Calls Tryd.prog 137 #[.int .u64 u, .int .i64 10] w fun e w' => e = .returned (.string ⟨(Lib.decDigits u).toArray⟩) ∧ Below w.heap.size w w' := by
  by_cases hs : u < 100
  · have hs' : (u : Int) < 100 := by omega
    have CS := Tryd.internal_strconv_small u hs w
    go_enter Tryd.func137, Tryd.ntmps137
    go_wp2_with fail
    refine CS.mono ?_
    rintro e w' ⟨rfl, rfl⟩
    go_wp2_with fail
    go_ret
    exact ⟨rfl, Below.refl _ _⟩
  · have hs' : ¬ (u : Int) < 100 := by omega
    have hu1 : 1 ≤ u := by omega
    have hnd20 : Lib.nDigits u ≤ 20 := by have := Lib.numDigits_eq u hu1 hu64; split at this <;> omega
    have hal : Tryd.prog.arrayLen 165 = 24 := by kernel_rfl
    have hsl1 : ∀ W, (Instr.sliceAt 165 (.pointer (some ⟨w.heap.size, 0, none⟩)) none (some (.int .i64 (Lib.nDigits u : Int))) none).run Tryd.prog W = .ok (.slice (some ⟨w.heap.size, 0, none⟩) (Lib.nDigits u) 24) W := fun W => by
      rw [run_sliceAt_array_h W 165 ⟨w.heap.size, 0, none⟩ (by kernel_rfl) .i64 (Lib.nDigits u : Int) (by omega) (by rw [hal]; omega)]
      go_simp
    have hH0 := holds_zero0 w 165 (Lib.nDigits u) (by omega)
    have hfmt := Tryd.internal_strconv_formatBase10 w.heap.size 0 24 u (Array.replicate (Lib.nDigits u) 0) (w.alloc (.cells Lib.zeros24 165)) hH0 (by rw [Array.size_replicate]; exact Lib.lt_pow_nDigits u) hu64 (by rw [Array.size_replicate]; omega)
    rw [Array.size_replicate] at hfmt
    have HH0 := Lib.hid hH0
    have CN := Tryd.internal_strconv_numDigits u hu1 hu64 (w.alloc (.cells Lib.zeros24 165)) (Lib.tabIs_alloc T.tab _)
    clear hH0 hal T
    go_enter Tryd.func137, Tryd.ntmps137
    go_wp2_with fail
    refine CN.mono ?_
    rintro e w' ⟨rfl, rfl⟩
    go_wp2_with fail
    refine hfmt.mono ?_
    rintro e w' ⟨rfl, k, v', dk, rfl, hF⟩
    have hcv : (convert 22 9 (.slice (some ⟨w.heap.size, 0, none⟩) (Lib.nDigits u) 24)).run Tryd.prog ((putRow (fun (b : UInt8) => Value.int .u8 (b.toNat : Int)) (w.alloc (.cells Lib.zeros24 165)) w.heap.size 0 dk).drewN k) = .ok (.string ⟨(Lib.decDigits u).toArray⟩) ((putRow (fun (b : UInt8) => Value.int .u8 (b.toNat : Int)) (w.alloc (.cells Lib.zeros24 165)) w.heap.size 0 dk).drewN k) := by
      have h := run_convert_bytes_back (P := Tryd.prog) ((putRow (fun (b : UInt8) => Value.int .u8 (b.toNat : Int)) (w.alloc (.cells Lib.zeros24 165)) w.heap.size 0 dk).drewN k) 22 9 5 ⟨w.heap.size, 0, none⟩ 24 (Lib.decDigits u) Tryd.underlying22 Tryd.underlying5 Tryd.underlying9 (fun j hj => by
        rw [Lib.row_is_numeral hF j hj, Lib.add_plain, World.cell?_drewN]
        exact cell?_putRow (fun (b : UInt8) => Value.int .u8 (b.toNat : Int)) _ w.heap.size 0 _ dk HH0.out (by rw [hF.size, Array.size_replicate]) j (by rw [hF.size]; rw [Lib.decDigits_length] at hj; exact hj))
      rw [Lib.decDigits_length] at h
      exact h
    have HB : Hid (Below w.heap.size w ((putRow (fun (b : UInt8) => Value.int .u8 (b.toNat : Int)) (w.alloc (.cells Lib.zeros24 165)) w.heap.size 0 dk).drewN k)) := by
      obtain ⟨os', _, e⟩ := putRow_grow_new (fun (b : UInt8) => Value.int .u8 (b.toNat : Int)) w #[.cells Lib.zeros24 165] w.heap.size 0 dk (Nat.le_refl _)
      show Below _ _ _
      rw [alloc_eq_grow, e]
      exact grow_below w k os'
    go_wp2_with fail
    go_ret
    exact ⟨rfl, HB.out⟩

set_option maxHeartbeats 400000 in
theorem impl_fmtu (u : Nat) (hu64 : u < 18446744073709551616) (w : World) (T : Tabs w) :
    Calls Tryd.prog 101 #[.int .u64 u, .int .i64 10] w fun e w' => e = .returned (.string ⟨(Lib.decDigits u).toArray⟩) ∧ Below w.heap.size w w' := by
  have C := fmt_inner u hu64 w T
  clear T
  go_enter Tryd.func101, Tryd.ntmps101
  go_wp2_with fail
  refine C.mono ?_
  rintro e w1 ⟨rfl, b1⟩
  have H1 : Hid (Below w.heap.size w w1) := b1
  clear b1 C
  go_wp2_with fail
  go_ret
  exact ⟨rfl, H1.out⟩

end Go.Proofs.YtdhoimjkgicneaaDoor

/- The program's text of a memory. -/
namespace Go.Proofs.YtdhoimjkgicneaaDoor
open Go Go.RowKit

theorem impl_join (base : Nat) (s : Value) (ss : List (List UInt8)) (w : World) (h : OwnS base s ss w) (hn : ss.length ≤ 100000) (hl : (Lib.join ss [32]).length ≤ 140737488355328) :
    Calls Tryd.prog 102 #[s, .string ⟨#[32]⟩] w fun e w' => e = .returned (.string ⟨(Lib.join ss [32]).toArray⟩) ∧ Below w.heap.size w w' := by
  rcases ownS_cases h with ⟨rfl, rfl⟩ | ⟨g, cap, rfl, hb, hg, hc, he⟩
  · exact (Tryd.strings_Join_none none 0 ⟨#[32]⟩ w).mono fun e w' ⟨h1, h2⟩ => ⟨h1, by rw [h2]; exact Below.refl _ _⟩
  · have e1 : (ss.map fun s => (⟨s.toArray⟩ : ByteArray)).map (·.data.toList) = ss := by
      rw [List.map_map]
      exact (List.map_congr_left fun s _ => rfl).trans (List.map_id ss)
    have := Tryd.strings_Join g 0 cap (ss.map fun s => (⟨s.toArray⟩ : ByteArray)) ⟨#[32]⟩ w (fun j x hx => by
      rw [List.getElem?_map] at hx
      cases hy : ss[j]? with
      | none => rw [hy] at hx; simp at hx
      | some y =>
        rw [hy] at hx
        simp at hx
        rw [Nat.zero_add, he j y hy, hx]) hg (by rw [List.length_map]; omega) (by rw [List.length_map]; omega) (by rw [e1]; exact hl)
    rw [e1, List.length_map] at this
    exact this

theorem WS.appL {v : MemV} {w wr wr' : World} {s s' : Value} {L M : List Wd} {ss : List (List UInt8)} (h : WS v w s L wr) (ho : OwnS (w.heap.size + 1) s' ss wr') (e : ss = L.map Wd.text ++ M.map Wd.text) (hg : wr.grownBy wr' s.ownBlock) : WS v w s' (L ++ M) wr' := by
  have hz := h.2.1.z
  have b1 : Below (w.heap.size + 1) wr wr' := grownS_below hg (by omega) (fun g hg => (h.1.lt hg).1)
  exact ⟨by rw [List.map_append, ← e]; exact ho, h.2.1.below b1 (by omega), h.2.2.trans (b1.mono (by omega))⟩

theorem ownS_at {base : Nat} {s : Value} {ss : List (List UInt8)} {w : World} (h : OwnS base s ss w) : (∃ b cap, s = .slice (some ⟨b, 0, none⟩) ss.length cap ∧ ∀ (i : Nat) (x : List UInt8), ss[i]? = some x → w.cell? ⟨b, i, none⟩ = some (.string ⟨x.toArray⟩)) ∨ (ss = [] ∧ s = .slice none 0 0) := by
  rcases ownS_cases h with ⟨rfl, rfl⟩ | ⟨g, cap, rfl, -, -, -, he⟩
  · exact Or.inr ⟨rfl, rfl⟩
  · exact Or.inl ⟨g, cap, rfl, he⟩

theorem all_count (v : MemV) (tx : Nat → List UInt8) : (bitsW v).length ≤ 320 ∧ (timerW v ++ counterW v).length ≤ 32 ∧ (intW v ++ realW tx).length ≤ 48 ∧ (timeW v).length ≤ 1 ∧ (ranW v).length ≤ 1 ∧ (faultW v).length ≤ 1 := by
  have h1 := kinds_count v 5 (by omega)
  rw [kindsP_all] at h1
  have h2 : (timerW v).length ≤ 16 := seg_count _ _ _
  have h3 : (counterW v).length ≤ 16 := seg_count _ _ _
  have h4 : (intW v).length ≤ 32 := seg_count _ _ _
  have h5 : (realW tx).length ≤ 16 := seg_count _ _ _
  refine ⟨by omega, by rw [List.length_append]; omega, by rw [List.length_append]; omega, ?_, ?_, ?_⟩
  · unfold timeW; split <;> simp
  · unfold ranW; split <;> simp
  · unfold faultW; split <;> simp

set_option maxRecDepth 100000 in
set_option maxHeartbeats 6400000 in
theorem impl_mtext (v : MemV) (tx : Nat → List UInt8) (w : World) (hv : v.Ok) (ht : ∀ i, i < 16 → Txt (v.r i) (tx i)) (hl : ∀ i, i < 16 → (tx i).length ≤ 50) (T : Tabs w) :
    Calls Tryd.prog 50 #[.agg v.row] w fun e w' => e = .returned (.string ⟨(textV v tx).toArray⟩) ∧ Below w.heap.size w w' := by
  have H0 : Hid (WS v w (.slice none 0 0) [] (w.alloc (.cells v.row 61))) := WS.first v w 61
  have TT : ∀ w', Below w.heap.size w w' → Tabs w' := fun w' hw' => T.below hw' (Nat.le_refl _)
  have CB : ∀ w, Tabs w → Calls Tryd.prog 98 #[.agg v.row] w fun e w' => ∃ o, e = .returned o ∧ OwnS (w.heap.size + 1) o ((bitsW v).map Wd.text) w' ∧ Below w.heap.size w w' := fun w T => impl_bits v w hv T
  have CC : ∀ w, Tabs w → Calls Tryd.prog 99 #[.agg v.row] w fun e w' => ∃ o, e = .returned o ∧ OwnS (w.heap.size + 1) o ((timerW v ++ counterW v).map Wd.text) w' ∧ Below w.heap.size w w' := fun w T => impl_counts v w hv T
  have CN : ∀ w, Tabs w → Calls Tryd.prog 100 #[.agg v.row] w fun e w' => ∃ o, e = .returned o ∧ OwnS (w.heap.size + 1) o ((intW v ++ realW tx).map Wd.text) w' ∧ Below w.heap.size w w' := fun w T => impl_numbers v tx w hv ht hl T
  obtain ⟨n1, n2, n3, n4, n5, n6⟩ := all_count v tx
  have CF : ∀ w, Tabs w → Calls Tryd.prog 101 #[.int .u64 v.time, .int .i64 10] w fun e w' => e = .returned (.string ⟨(Lib.decDigits v.time).toArray⟩) ∧ Below w.heap.size w w' := fun w T => impl_fmtu v.time (by have := hv.time; omega) w T
  have htm := hv.time
  have hdl := dd_len10 htm
  have CJ : ∀ (s : Value) (L : List Wd) (wr : World), WS v w s L wr → L = allW v tx → Calls Tryd.prog 102 #[s, .string ⟨#[32]⟩] wr fun e w' => e = .returned (.string ⟨(textV v tx).toArray⟩) ∧ Below wr.heap.size wr w' := fun s L wr h e => by
    subst e
    have hlen := textV_len hv hl
    refine impl_join (w.heap.size + 1) s _ wr h.1 ?_ ?_
    · rw [List.length_map]
      unfold allW
      simp only [List.length_append] at n2 n3 ⊢
      omega
    · exact Nat.le_trans hlen (by omega)
  clear T hv ht hl
  go_enter Tryd.func50, Tryd.ntmps50
  go_upto_region 1 with fail
  have hw1 : (w.alloc (.cells v.row 61)).heap.size = w.heap.size + 1 := by simp
  generalize w.alloc (.cells v.row 61) = w1 at H0 hw1 ⊢
  have LM := load_mem H0.out.2.1
  have C1 := CB w1 (TT w1 H0.out.2.2)
  go_wp2_with (refine list_load (t := 61) rfl rfl rfl LM ?_)
  refine C1.mono ?_
  rintro e w2 ⟨o1, rfl, own1, b1⟩
  have h2 : WS v w o1 (bitsW v) w2 := ⟨own1.mono (by omega), H0.out.2.1.below b1 H0.out.2.1.z, H0.out.2.2.trans (b1.mono H0.out.2.2.size)⟩
  have H2 : Hid (WS v w o1 (bitsW v) w2) := h2
  have C2 := CC w2 (TT w2 h2.2.2)
  have LM2 := load_mem h2.2.1
  clear own1 b1 C1 LM h2 H0 CB hw1
  go_wp2_with (refine list_load (t := 61) rfl rfl rfl LM2 ?_)
  refine C2.mono ?_
  rintro e w3 ⟨o2, rfl, own2, b2⟩
  have H3 : Hid (WS v w o1 (bitsW v) w3 ∧ OwnS (w2.heap.size + 1) o2 ((timerW v ++ counterW v).map Wd.text) w3) := ⟨H2.out.below b2, own2⟩
  clear own2 b2 C2 LM2 H2 CC
  go_wp2_with (at_builtin; refine list_appS (w.heap.size + 1) (v := o1) (s := o2) (xs := (bitsW v).map Wd.text) (ys := (timerW v ++ counterW v).map Wd.text) rfl (.tmp 6) (.tmp 8) rfl rfl rfl H3.out.1.1 (ownS_at H3.out.2) (by simp only [List.length_map]; omega) (by have := H3.out.1.2.1.z; omega) ?_)
  intro o3 w4 own4 g4
  have h4 : WS v w o3 (bitsW v ++ (timerW v ++ counterW v)) w4 := H3.out.1.appL own4 (by simp) g4
  have H4 : Hid (WS v w o3 (bitsW v ++ (timerW v ++ counterW v)) w4) := h4
  have C4 := CN w4 (TT w4 h4.2.2)
  have LM4 := load_mem h4.2.1
  clear own4 g4 h4 H3
  go_wp2_with (refine list_load (t := 61) rfl rfl rfl LM4 ?_)
  refine C4.mono ?_
  rintro e w5 ⟨o4, rfl, own5, b5⟩
  have H5 : Hid (WS v w o3 (bitsW v ++ (timerW v ++ counterW v)) w5 ∧ OwnS (w4.heap.size + 1) o4 ((intW v ++ realW tx).map Wd.text) w5) := ⟨H4.out.below b5, own5⟩
  clear own5 b5 C4 LM4 H4 CN
  go_wp2_with (at_builtin; refine list_appS (w.heap.size + 1) (v := o3) (s := o4) (xs := (bitsW v ++ (timerW v ++ counterW v)).map Wd.text) (ys := (intW v ++ realW tx).map Wd.text) rfl (.tmp 10) (.tmp 12) rfl rfl rfl H5.out.1.1 (ownS_at H5.out.2) (by simp only [List.length_map, List.length_append] at n1 n2 n3 ⊢; omega) (by have := H5.out.1.2.1.z; omega) ?_)
  intro s6 w6 own6 g6
  obtain ⟨L, hL⟩ : ∃ L, L = (bitsW v ++ (timerW v ++ counterW v)) ++ (intW v ++ realW tx) := ⟨_, rfl⟩
  have H6 : Hid (WS v w s6 L w6) := by
    show WS v w s6 L w6
    rw [hL]
    exact H5.out.1.appL own6 (by simp) g6
  have hLn : L.length ≤ 400 := by
    rw [hL]
    simp only [List.length_append] at n1 n2 n3 ⊢
    omega
  have HL : Hid (L = (bitsW v ++ (timerW v ++ counterW v)) ++ (intW v ++ realW tx)) := hL
  clear own6 g6 H5 hL n1 n2 n3 n4 n5 n6
  have ct : w6.cell? ⟨w.heap.size, 133, none⟩ = some (.int .u32 v.time) := H6.out.2.1.c 133 (by omega)
  have HSw6 : Hid (WS v w s6 (L) w6) := H6.out
  clear H6
  by_cases htz : v.time = 0
  · have hte : timeW v = [] := by unfold timeW; rw [htz]; rfl
    have HT : Hid (timeW v = []) := hte
    have ct0 := ct
    rw [htz] at ct0
    clear hte ct CF htz
    have cr : w6.cell? ⟨w.heap.size, 134, none⟩ = some (.bool v.ran) := HSw6.out.2.1.c 134 (by omega)
    cases hran : v.ran with
    | true =>
      rw [hran] at cr
      have HR : Hid (ranW v = [⟨12, 0, 0, false, false, 0, []⟩]) := (show ranW v = _ by unfold ranW; rw [hran]; rfl)
      clear hran
      have hU := HSw6.out.below ((Below.refl w6.heap.size w6).alloc (Nat.le_refl _) (.cells #[.string (⟨([114, 97, 110]).toArray⟩)] 9))
      have HU : Hid (WS v w s6 (L) (w6.alloc (.cells #[.string (⟨([114, 97, 110]).toArray⟩)] 9))) := hU
      have hzU : w.heap.size + 1 ≤ w6.heap.size := by have := HSw6.out.2.1.z; omega
      clear hU
      go_wp2_with (at_builtin; refine list_appS (w.heap.size + 1) (v := s6) (s := .slice (some ⟨w6.heap.size, 0, none⟩) 1 1) (xs := (L).map Wd.text) (ys := [[114, 97, 110]]) rfl (.tmp 27) (.tmp 28) rfl rfl rfl HU.out.1 ?c1 (by simp <;> omega) (by simp; omega) ?_)
      case c1 => exact one_str ([114, 97, 110]) w6 9
      intro s6x x6 own g
      have HSx6 : Hid (WS v w s6x (L ++ [(⟨12, 0, 0, false, false, 0, []⟩ : Wd)]) x6) := HU.out.app own (by simp; rfl) g
      clear own g HU hzU
      have cf : x6.cell? ⟨w.heap.size, 135, none⟩ = some (.bool v.fault) := HSx6.out.2.1.c 135 (by omega)
      cases hfa : v.fault with
      | true =>
        rw [hfa] at cf
        have HF : Hid (faultW v = [⟨13, 0, 0, false, false, 0, []⟩]) := (show faultW v = _ by unfold faultW; rw [hfa]; rfl)
        clear hfa
        have hU := HSx6.out.below ((Below.refl x6.heap.size x6).alloc (Nat.le_refl _) (.cells #[.string (⟨([102, 97, 117, 108, 116]).toArray⟩)] 9))
        have HU : Hid (WS v w s6x (L ++ [(⟨12, 0, 0, false, false, 0, []⟩ : Wd)]) (x6.alloc (.cells #[.string (⟨([102, 97, 117, 108, 116]).toArray⟩)] 9))) := hU
        have hzU : w.heap.size + 1 ≤ x6.heap.size := by have := HSx6.out.2.1.z; omega
        clear hU
        go_wp2_with (at_builtin; refine list_appS (w.heap.size + 1) (v := s6x) (s := .slice (some ⟨x6.heap.size, 0, none⟩) 1 1) (xs := (L ++ [(⟨12, 0, 0, false, false, 0, []⟩ : Wd)]).map Wd.text) (ys := [[102, 97, 117, 108, 116]]) rfl (.tmp 32) (.tmp 33) rfl rfl rfl HU.out.1 ?c1 (by simp <;> omega) (by simp; omega) ?_)
        case c1 => exact one_str ([102, 97, 117, 108, 116]) x6 9
        intro s7x x7 own g
        have HSx7 : Hid (WS v w s7x (L ++ [(⟨12, 0, 0, false, false, 0, []⟩ : Wd)] ++ [(⟨13, 0, 0, false, false, 0, []⟩ : Wd)]) x7) := HU.out.app own (by simp; rfl) g
        clear own g HU hzU
        have CJ' := CJ s7x (L ++ [(⟨12, 0, 0, false, false, 0, []⟩ : Wd)] ++ [(⟨13, 0, 0, false, false, 0, []⟩ : Wd)]) x7 HSx7.out (by rw [HL.out]; unfold allW; rw [HT.out, HR.out, HF.out]; simp)
        go_wp2_with fail
        refine CJ'.mono ?_
        rintro e z9 ⟨rfl, bz⟩
        have HZ : Hid (Below w.heap.size w z9) := HSx7.out.2.2.trans (bz.mono HSx7.out.2.2.size)
        clear bz CJ'
        go_wp2_with fail
        go_ret
        exact ⟨rfl, HZ.out⟩
      | false =>
        rw [hfa] at cf
        have HF : Hid (faultW v = []) := (show faultW v = _ by unfold faultW; rw [hfa]; rfl)
        clear hfa
        have CJ' := CJ s6x (L ++ [(⟨12, 0, 0, false, false, 0, []⟩ : Wd)]) x6 HSx6.out (by rw [HL.out]; unfold allW; rw [HT.out, HR.out, HF.out]; simp)
        go_wp2_with fail
        refine CJ'.mono ?_
        rintro e z9 ⟨rfl, bz⟩
        have HZ : Hid (Below w.heap.size w z9) := HSx6.out.2.2.trans (bz.mono HSx6.out.2.2.size)
        clear bz CJ'
        go_wp2_with fail
        go_ret
        exact ⟨rfl, HZ.out⟩
    | false =>
      rw [hran] at cr
      have HR : Hid (ranW v = []) := (show ranW v = _ by unfold ranW; rw [hran]; rfl)
      clear hran
      have cf : w6.cell? ⟨w.heap.size, 135, none⟩ = some (.bool v.fault) := HSw6.out.2.1.c 135 (by omega)
      cases hfa : v.fault with
      | true =>
        rw [hfa] at cf
        have HF : Hid (faultW v = [⟨13, 0, 0, false, false, 0, []⟩]) := (show faultW v = _ by unfold faultW; rw [hfa]; rfl)
        clear hfa
        have hU := HSw6.out.below ((Below.refl w6.heap.size w6).alloc (Nat.le_refl _) (.cells #[.string (⟨([102, 97, 117, 108, 116]).toArray⟩)] 9))
        have HU : Hid (WS v w s6 (L) (w6.alloc (.cells #[.string (⟨([102, 97, 117, 108, 116]).toArray⟩)] 9))) := hU
        have hzU : w.heap.size + 1 ≤ w6.heap.size := by have := HSw6.out.2.1.z; omega
        clear hU
        go_wp2_with (at_builtin; refine list_appS (w.heap.size + 1) (v := s6) (s := .slice (some ⟨w6.heap.size, 0, none⟩) 1 1) (xs := (L).map Wd.text) (ys := [[102, 97, 117, 108, 116]]) rfl (.tmp 32) (.tmp 33) rfl rfl rfl HU.out.1 ?c1 (by simp <;> omega) (by simp; omega) ?_)
        case c1 => exact one_str ([102, 97, 117, 108, 116]) w6 9
        intro s8x x8 own g
        have HSx8 : Hid (WS v w s8x (L ++ [(⟨13, 0, 0, false, false, 0, []⟩ : Wd)]) x8) := HU.out.app own (by simp; rfl) g
        clear own g HU hzU
        have CJ' := CJ s8x (L ++ [(⟨13, 0, 0, false, false, 0, []⟩ : Wd)]) x8 HSx8.out (by rw [HL.out]; unfold allW; rw [HT.out, HR.out, HF.out]; simp)
        go_wp2_with fail
        refine CJ'.mono ?_
        rintro e z9 ⟨rfl, bz⟩
        have HZ : Hid (Below w.heap.size w z9) := HSx8.out.2.2.trans (bz.mono HSx8.out.2.2.size)
        clear bz CJ'
        go_wp2_with fail
        go_ret
        exact ⟨rfl, HZ.out⟩
      | false =>
        rw [hfa] at cf
        have HF : Hid (faultW v = []) := (show faultW v = _ by unfold faultW; rw [hfa]; rfl)
        clear hfa
        have CJ' := CJ s6 (L) w6 HSw6.out (by rw [HL.out]; unfold allW; rw [HT.out, HR.out, HF.out]; simp)
        go_wp2_with fail
        refine CJ'.mono ?_
        rintro e z9 ⟨rfl, bz⟩
        have HZ : Hid (Below w.heap.size w z9) := HSw6.out.2.2.trans (bz.mono HSw6.out.2.2.size)
        clear bz CJ'
        go_wp2_with fail
        go_ret
        exact ⟨rfl, HZ.out⟩
  · have hte : timeW v = [⟨11, 0, v.time, false, false, 0, []⟩] := by unfold timeW; rw [if_pos (by simpa using htz)]
    have HT : Hid (timeW v = [⟨11, 0, v.time, false, false, 0, []⟩]) := hte
    have htz' : ((v.time : Int) == 0) = false := by simpa using htz
    have CF' := CF w6 (TT w6 HSw6.out.2.2)
    clear hte CF htz
    go_wp2_with fail
    refine CF'.mono ?_
    rintro e y1 ⟨rfl, by1⟩
    have HSy1 : Hid (WS v w s6 (L) y1) := HSw6.out.below by1
    clear by1 CF' ct
    obtain ⟨te, hte⟩ : ∃ te, te = [116, 105, 109, 101, 61] ++ Lib.decDigits v.time := ⟨_, rfl⟩
    have HE : Hid ((⟨#[116, 105, 109, 101, 61]⟩ : ByteArray) ++ ⟨(Lib.decDigits v.time).toArray⟩ = ⟨te.toArray⟩) := (show (⟨([116, 105, 109, 101, 61] : List UInt8).toArray⟩ : ByteArray) ++ ⟨(Lib.decDigits v.time).toArray⟩ = ⟨te.toArray⟩ by rw [str_cat, hte])
    have HX : Hid (te = (⟨11, 0, v.time, false, false, 0, []⟩ : Wd).text) := hte
    clear hte
    have hU := HSy1.out.below ((Below.refl y1.heap.size y1).alloc (Nat.le_refl _) (.cells #[.string ((⟨#[116, 105, 109, 101, 61]⟩ : ByteArray) ++ ⟨(Lib.decDigits v.time).toArray⟩)] 9))
    have HU : Hid (WS v w s6 (L) (y1.alloc (.cells #[.string ((⟨#[116, 105, 109, 101, 61]⟩ : ByteArray) ++ ⟨(Lib.decDigits v.time).toArray⟩)] 9))) := hU
    have hzU : w.heap.size + 1 ≤ y1.heap.size := by have := HSy1.out.2.1.z; omega
    clear hU
    go_wp2_with (at_builtin; refine list_appS (w.heap.size + 1) (v := s6) (s := .slice (some ⟨y1.heap.size, 0, none⟩) 1 1) (xs := (L).map Wd.text) (ys := [te]) rfl (.tmp 17) (.tmp 23) rfl rfl rfl HU.out.1 ?c1 (by simp <;> omega) (by simp; omega) ?_)
    case c1 => exact HE.out ▸ one_str te y1 9
    intro s9x x9 own g
    have HSx9 : Hid (WS v w s9x (L ++ [(⟨11, 0, v.time, false, false, 0, []⟩ : Wd)]) x9) := HU.out.app own (by simp; exact HX.out) g
    clear own g HU hzU
    have cr : x9.cell? ⟨w.heap.size, 134, none⟩ = some (.bool v.ran) := HSx9.out.2.1.c 134 (by omega)
    cases hran : v.ran with
    | true =>
      rw [hran] at cr
      have HR : Hid (ranW v = [⟨12, 0, 0, false, false, 0, []⟩]) := (show ranW v = _ by unfold ranW; rw [hran]; rfl)
      clear hran
      have hU := HSx9.out.below ((Below.refl x9.heap.size x9).alloc (Nat.le_refl _) (.cells #[.string (⟨([114, 97, 110]).toArray⟩)] 9))
      have HU : Hid (WS v w s9x (L ++ [(⟨11, 0, v.time, false, false, 0, []⟩ : Wd)]) (x9.alloc (.cells #[.string (⟨([114, 97, 110]).toArray⟩)] 9))) := hU
      have hzU : w.heap.size + 1 ≤ x9.heap.size := by have := HSx9.out.2.1.z; omega
      clear hU
      go_wp2_with (at_builtin; refine list_appS (w.heap.size + 1) (v := s9x) (s := .slice (some ⟨x9.heap.size, 0, none⟩) 1 1) (xs := (L ++ [(⟨11, 0, v.time, false, false, 0, []⟩ : Wd)]).map Wd.text) (ys := [[114, 97, 110]]) rfl (.tmp 27) (.tmp 28) rfl rfl rfl HU.out.1 ?c1 (by simp <;> omega) (by simp; omega) ?_)
      case c1 => exact one_str ([114, 97, 110]) x9 9
      intro s10x x10 own g
      have HSx10 : Hid (WS v w s10x (L ++ [(⟨11, 0, v.time, false, false, 0, []⟩ : Wd)] ++ [(⟨12, 0, 0, false, false, 0, []⟩ : Wd)]) x10) := HU.out.app own (by simp; rfl) g
      clear own g HU hzU
      have cf : x10.cell? ⟨w.heap.size, 135, none⟩ = some (.bool v.fault) := HSx10.out.2.1.c 135 (by omega)
      cases hfa : v.fault with
      | true =>
        rw [hfa] at cf
        have HF : Hid (faultW v = [⟨13, 0, 0, false, false, 0, []⟩]) := (show faultW v = _ by unfold faultW; rw [hfa]; rfl)
        clear hfa
        have hU := HSx10.out.below ((Below.refl x10.heap.size x10).alloc (Nat.le_refl _) (.cells #[.string (⟨([102, 97, 117, 108, 116]).toArray⟩)] 9))
        have HU : Hid (WS v w s10x (L ++ [(⟨11, 0, v.time, false, false, 0, []⟩ : Wd)] ++ [(⟨12, 0, 0, false, false, 0, []⟩ : Wd)]) (x10.alloc (.cells #[.string (⟨([102, 97, 117, 108, 116]).toArray⟩)] 9))) := hU
        have hzU : w.heap.size + 1 ≤ x10.heap.size := by have := HSx10.out.2.1.z; omega
        clear hU
        go_wp2_with (at_builtin; refine list_appS (w.heap.size + 1) (v := s10x) (s := .slice (some ⟨x10.heap.size, 0, none⟩) 1 1) (xs := (L ++ [(⟨11, 0, v.time, false, false, 0, []⟩ : Wd)] ++ [(⟨12, 0, 0, false, false, 0, []⟩ : Wd)]).map Wd.text) (ys := [[102, 97, 117, 108, 116]]) rfl (.tmp 32) (.tmp 33) rfl rfl rfl HU.out.1 ?c1 (by simp <;> omega) (by simp; omega) ?_)
        case c1 => exact one_str ([102, 97, 117, 108, 116]) x10 9
        intro s11x x11 own g
        have HSx11 : Hid (WS v w s11x (L ++ [(⟨11, 0, v.time, false, false, 0, []⟩ : Wd)] ++ [(⟨12, 0, 0, false, false, 0, []⟩ : Wd)] ++ [(⟨13, 0, 0, false, false, 0, []⟩ : Wd)]) x11) := HU.out.app own (by simp; rfl) g
        clear own g HU hzU
        have CJ' := CJ s11x (L ++ [(⟨11, 0, v.time, false, false, 0, []⟩ : Wd)] ++ [(⟨12, 0, 0, false, false, 0, []⟩ : Wd)] ++ [(⟨13, 0, 0, false, false, 0, []⟩ : Wd)]) x11 HSx11.out (by rw [HL.out]; unfold allW; rw [HT.out, HR.out, HF.out]; simp)
        go_wp2_with fail
        refine CJ'.mono ?_
        rintro e z9 ⟨rfl, bz⟩
        have HZ : Hid (Below w.heap.size w z9) := HSx11.out.2.2.trans (bz.mono HSx11.out.2.2.size)
        clear bz CJ'
        go_wp2_with fail
        go_ret
        exact ⟨rfl, HZ.out⟩
      | false =>
        rw [hfa] at cf
        have HF : Hid (faultW v = []) := (show faultW v = _ by unfold faultW; rw [hfa]; rfl)
        clear hfa
        have CJ' := CJ s10x (L ++ [(⟨11, 0, v.time, false, false, 0, []⟩ : Wd)] ++ [(⟨12, 0, 0, false, false, 0, []⟩ : Wd)]) x10 HSx10.out (by rw [HL.out]; unfold allW; rw [HT.out, HR.out, HF.out]; simp)
        go_wp2_with fail
        refine CJ'.mono ?_
        rintro e z9 ⟨rfl, bz⟩
        have HZ : Hid (Below w.heap.size w z9) := HSx10.out.2.2.trans (bz.mono HSx10.out.2.2.size)
        clear bz CJ'
        go_wp2_with fail
        go_ret
        exact ⟨rfl, HZ.out⟩
    | false =>
      rw [hran] at cr
      have HR : Hid (ranW v = []) := (show ranW v = _ by unfold ranW; rw [hran]; rfl)
      clear hran
      have cf : x9.cell? ⟨w.heap.size, 135, none⟩ = some (.bool v.fault) := HSx9.out.2.1.c 135 (by omega)
      cases hfa : v.fault with
      | true =>
        rw [hfa] at cf
        have HF : Hid (faultW v = [⟨13, 0, 0, false, false, 0, []⟩]) := (show faultW v = _ by unfold faultW; rw [hfa]; rfl)
        clear hfa
        have hU := HSx9.out.below ((Below.refl x9.heap.size x9).alloc (Nat.le_refl _) (.cells #[.string (⟨([102, 97, 117, 108, 116]).toArray⟩)] 9))
        have HU : Hid (WS v w s9x (L ++ [(⟨11, 0, v.time, false, false, 0, []⟩ : Wd)]) (x9.alloc (.cells #[.string (⟨([102, 97, 117, 108, 116]).toArray⟩)] 9))) := hU
        have hzU : w.heap.size + 1 ≤ x9.heap.size := by have := HSx9.out.2.1.z; omega
        clear hU
        go_wp2_with (at_builtin; refine list_appS (w.heap.size + 1) (v := s9x) (s := .slice (some ⟨x9.heap.size, 0, none⟩) 1 1) (xs := (L ++ [(⟨11, 0, v.time, false, false, 0, []⟩ : Wd)]).map Wd.text) (ys := [[102, 97, 117, 108, 116]]) rfl (.tmp 32) (.tmp 33) rfl rfl rfl HU.out.1 ?c1 (by simp <;> omega) (by simp; omega) ?_)
        case c1 => exact one_str ([102, 97, 117, 108, 116]) x9 9
        intro s12x x12 own g
        have HSx12 : Hid (WS v w s12x (L ++ [(⟨11, 0, v.time, false, false, 0, []⟩ : Wd)] ++ [(⟨13, 0, 0, false, false, 0, []⟩ : Wd)]) x12) := HU.out.app own (by simp; rfl) g
        clear own g HU hzU
        have CJ' := CJ s12x (L ++ [(⟨11, 0, v.time, false, false, 0, []⟩ : Wd)] ++ [(⟨13, 0, 0, false, false, 0, []⟩ : Wd)]) x12 HSx12.out (by rw [HL.out]; unfold allW; rw [HT.out, HR.out, HF.out]; simp)
        go_wp2_with fail
        refine CJ'.mono ?_
        rintro e z9 ⟨rfl, bz⟩
        have HZ : Hid (Below w.heap.size w z9) := HSx12.out.2.2.trans (bz.mono HSx12.out.2.2.size)
        clear bz CJ'
        go_wp2_with fail
        go_ret
        exact ⟨rfl, HZ.out⟩
      | false =>
        rw [hfa] at cf
        have HF : Hid (faultW v = []) := (show faultW v = _ by unfold faultW; rw [hfa]; rfl)
        clear hfa
        have CJ' := CJ s9x (L ++ [(⟨11, 0, v.time, false, false, 0, []⟩ : Wd)]) x9 HSx9.out (by rw [HL.out]; unfold allW; rw [HT.out, HR.out, HF.out]; simp)
        go_wp2_with fail
        refine CJ'.mono ?_
        rintro e z9 ⟨rfl, bz⟩
        have HZ : Hid (Below w.heap.size w z9) := HSx9.out.2.2.trans (bz.mono HSx9.out.2.2.size)
        clear bz CJ'
        go_wp2_with fail
        go_ret
        exact ⟨rfl, HZ.out⟩

end Go.Proofs.YtdhoimjkgicneaaDoor

/- How long the text of a real number is. -/
namespace Go.Proofs.YtdhoimjkgicneaaDoor
open Go

theorem odd_parts {m k n c : Nat} (e : m * 2 ^ k = n * 2 ^ c) (ho : n % 2 = 1) : ∃ d, c = k + d ∧ m = n * 2 ^ d := by
  by_cases h : k ≤ c
  · obtain ⟨d, rfl⟩ := Nat.exists_eq_add_of_le h
    refine ⟨d, rfl, ?_⟩
    rw [Nat.pow_add, Nat.mul_comm (2 ^ k), ← Nat.mul_assoc] at e
    exact Nat.eq_of_mul_eq_mul_right (Nat.two_pow_pos k) e
  · exfalso
    obtain ⟨d, rfl⟩ : ∃ d, k = c + (d + 1) := ⟨k - c - 1, by omega⟩
    rw [Nat.pow_add, Nat.mul_comm (2 ^ c), ← Nat.mul_assoc] at e
    have e2 := Nat.eq_of_mul_eq_mul_right (Nat.two_pow_pos c) e
    rw [Nat.pow_succ, ← Nat.mul_assoc] at e2
    omega

theorem txt_len {x : Nat} {l : List UInt8} (h : Txt x l) : l.length ≤ 50 := by
  rcases h with ⟨-, rfl⟩ | ⟨s, -, rfl⟩ | ⟨s, k, -, rfl⟩ | ⟨s, m, k, n, c, h, h0, ho, e, rfl⟩
  · decide
  · have := sgn_len s
    simp
    omega
  · have := sgn_len s
    simp
    omega
  · obtain ⟨d, rfl, hm⟩ := odd_parts e ho
    have h1 := h.m53
    have h2 := h.k45
    have hn : n ≤ m := by rw [hm]; exact Nat.le_mul_of_pos_right _ (Nat.two_pow_pos _)
    have hd := odd_bound hm.symm (by omega) h1
    have l1 := dd_len 15 n (by omega)
    have l2 := itoa_len5 (n := ((k + d : Nat) : Int) - 1074) (by omega) (by omega)
    have l3 := sgn_len s
    unfold finL
    simp only [List.length_append, List.length_cons, List.length_nil]
    omega

end Go.Proofs.YtdhoimjkgicneaaDoor
