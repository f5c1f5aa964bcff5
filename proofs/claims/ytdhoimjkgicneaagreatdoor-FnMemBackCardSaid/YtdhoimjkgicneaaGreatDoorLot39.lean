/- Texts of this proof laid together: MyF, MtL, MrR. -/
import Derived.Test.YtdhoimjkgicneaaGreatDoorLot37
import Derived.Test.YtdhoimjkgicneaaGreatDoorLot38
import Derived.Test.YtdhoimjkgicneaaGreatDoorLot19
import Derived.Test.YtdhoimjkgicneaaGreatDoorLot12
import Derived.Test.YtdhoimjkgicneaaGreatDoorLot30
import Derived.Lib.SplitLaws
/- The program's text of a memory. -/
namespace Go.Proofs.YtdhoimjkgicneaaGreatDoor
open Go Go.RowKit

theorem impl_join (base : Nat) (s : Value) (ss : List (List UInt8)) (w : World) (h : OwnS base s ss w) (hn : ss.length ≤ 100000) (hl : (Lib.join ss [32]).length ≤ 140737488355328) :
    Calls Tryz.prog 16 #[s, .string ⟨#[32]⟩] w fun e w' => e = .returned (.string ⟨(Lib.join ss [32]).toArray⟩) ∧ Below w.heap.size w w' := by
  rcases ownS_cases h with ⟨rfl, rfl⟩ | ⟨g, cap, rfl, hb, hg, hc, he⟩
  · exact (Tryz.strings_Join_none none 0 ⟨#[32]⟩ w).mono fun e w' ⟨h1, h2⟩ => ⟨h1, by rw [h2]; exact Below.refl _ _⟩
  · have e1 : (ss.map fun s => (⟨s.toArray⟩ : ByteArray)).map (·.data.toList) = ss := by
      rw [List.map_map]
      exact (List.map_congr_left fun s _ => rfl).trans (List.map_id ss)
    have := Tryz.strings_Join g 0 cap (ss.map fun s => (⟨s.toArray⟩ : ByteArray)) ⟨#[32]⟩ w (fun j x hx => by
      rw [List.getElem?_map] at hx
      cases hy : ss[j]? with
      | none => rw [hy] at hx; simp at hx
      | some y =>
        rw [hy] at hx
        simp at hx
        rw [Nat.zero_add, he j y hy, hx]) hg (by rw [List.length_map]; omega) (by rw [List.length_map]; omega) (by rw [e1]; exact hl)
    rw [e1, List.length_map] at this
    exact this

theorem WS.appL {v : MemV} {w wr wr' : World} {s s' : Value} {L M : List Wd} {ss : List (List UInt8)} (h : WS v w s L wr) (ho : OwnS (w.heap.size + 1) s' ss wr') (e : ss = L.map Wd.text ++ M.map Wd.text) (hg : wr.grownBy wr' s.ownBlock) : WS v w s' (L ++ M) wr' := by
  have hz := h.2.1.z
  have b1 : Below (w.heap.size + 1) wr wr' := grownS_below hg (by omega) (fun g hg => (h.1.lt hg).1)
  exact ⟨by rw [List.map_append, ← e]; exact ho, h.2.1.below b1 (by omega), h.2.2.trans (b1.mono (by omega))⟩

theorem ownS_at {base : Nat} {s : Value} {ss : List (List UInt8)} {w : World} (h : OwnS base s ss w) : (∃ b cap, s = .slice (some ⟨b, 0, none⟩) ss.length cap ∧ ∀ (i : Nat) (x : List UInt8), ss[i]? = some x → w.cell? ⟨b, i, none⟩ = some (.string ⟨x.toArray⟩)) ∨ (ss = [] ∧ s = .slice none 0 0) := by
  rcases ownS_cases h with ⟨rfl, rfl⟩ | ⟨g, cap, rfl, -, -, -, he⟩
  · exact Or.inr ⟨rfl, rfl⟩
  · exact Or.inl ⟨g, cap, rfl, he⟩

theorem all_count (v : MemV) (tx : Nat → List UInt8) : (bitsW v).length ≤ 320 ∧ (timerW v ++ counterW v).length ≤ 32 ∧ (intW v ++ realW tx).length ≤ 48 ∧ (timeW v).length ≤ 1 ∧ (ranW v).length ≤ 1 ∧ (faultW v).length ≤ 1 := by
  have h1 := kinds_count v 5 (by omega)
  rw [kindsP_all] at h1
  have h2 : (timerW v).length ≤ 16 := seg_count _ _ _
  have h3 : (counterW v).length ≤ 16 := seg_count _ _ _
  have h4 : (intW v).length ≤ 32 := seg_count _ _ _
  have h5 : (realW tx).length ≤ 16 := seg_count _ _ _
  refine ⟨by omega, by rw [List.length_append]; omega, by rw [List.length_append]; omega, ?_, ?_, ?_⟩
  · unfold timeW; split <;> simp
  · unfold ranW; split <;> simp
  · unfold faultW; split <;> simp

set_option maxRecDepth 100000 in
set_option maxHeartbeats 6400000 in
theorem impl_mtext (v : MemV) (tx : Nat → List UInt8) (w : World) (hv : v.Ok) (ht : ∀ i, i < 16 → Txt (v.r i) (tx i)) (hl : ∀ i, i < 16 → (tx i).length ≤ 50) (T : Tabs w) :
    Calls Tryz.prog 5 #[.agg v.row] w fun e w' => e = .returned (.string ⟨(textV v tx).toArray⟩) ∧ Below w.heap.size w w' := by
  have H0 : Hid (WS v w (.slice none 0 0) [] (w.alloc (.cells v.row 37))) := WS.first v w 37
  have TT : ∀ w', Below w.heap.size w w' → Tabs w' := fun w' hw' => T.below hw' (Nat.le_refl _)
  have CB : ∀ w, Tabs w → Calls Tryz.prog 12 #[.agg v.row] w fun e w' => ∃ o, e = .returned o ∧ OwnS (w.heap.size + 1) o ((bitsW v).map Wd.text) w' ∧ Below w.heap.size w w' := fun w T => impl_bits v w hv T
  have CC : ∀ w, Tabs w → Calls Tryz.prog 13 #[.agg v.row] w fun e w' => ∃ o, e = .returned o ∧ OwnS (w.heap.size + 1) o ((timerW v ++ counterW v).map Wd.text) w' ∧ Below w.heap.size w w' := fun w T => impl_counts v w hv T
  have CN : ∀ w, Tabs w → Calls Tryz.prog 14 #[.agg v.row] w fun e w' => ∃ o, e = .returned o ∧ OwnS (w.heap.size + 1) o ((intW v ++ realW tx).map Wd.text) w' ∧ Below w.heap.size w w' := fun w T => impl_numbers v tx w hv ht hl T
  obtain ⟨n1, n2, n3, n4, n5, n6⟩ := all_count v tx
  have CF : ∀ w, Tabs w → Calls Tryz.prog 15 #[.int .u64 v.time, .int .i64 10] w fun e w' => e = .returned (.string ⟨(Lib.decDigits v.time).toArray⟩) ∧ Below w.heap.size w w' := fun w T => impl_fmtu v.time (by have := hv.time; omega) w T
  have htm := hv.time
  have hdl := dd_len10 htm
  have CJ : ∀ (s : Value) (L : List Wd) (wr : World), WS v w s L wr → L = allW v tx → Calls Tryz.prog 16 #[s, .string ⟨#[32]⟩] wr fun e w' => e = .returned (.string ⟨(textV v tx).toArray⟩) ∧ Below wr.heap.size wr w' := fun s L wr h e => by
    subst e
    have hlen := textV_len hv hl
    refine impl_join (w.heap.size + 1) s _ wr h.1 ?_ ?_
    · rw [List.length_map]
      unfold allW
      simp only [List.length_append] at n2 n3 ⊢
      omega
    · exact Nat.le_trans hlen (by omega)
  clear T hv ht hl
  go_enter Tryz.func5, Tryz.ntmps5
  go_upto_region 1 with fail
  have hw1 : (w.alloc (.cells v.row 37)).heap.size = w.heap.size + 1 := by simp
  generalize w.alloc (.cells v.row 37) = w1 at H0 hw1 ⊢
  have LM := load_mem H0.out.2.1
  have C1 := CB w1 (TT w1 H0.out.2.2)
  go_wp2_with (refine list_load (t := 37) rfl rfl rfl LM ?_)
  refine C1.mono ?_
  rintro e w2 ⟨o1, rfl, own1, b1⟩
  have h2 : WS v w o1 (bitsW v) w2 := ⟨own1.mono (by omega), H0.out.2.1.below b1 H0.out.2.1.z, H0.out.2.2.trans (b1.mono H0.out.2.2.size)⟩
  have H2 : Hid (WS v w o1 (bitsW v) w2) := h2
  have C2 := CC w2 (TT w2 h2.2.2)
  have LM2 := load_mem h2.2.1
  clear own1 b1 C1 LM h2 H0 CB hw1
  go_wp2_with (refine list_load (t := 37) rfl rfl rfl LM2 ?_)
  refine C2.mono ?_
  rintro e w3 ⟨o2, rfl, own2, b2⟩
  have H3 : Hid (WS v w o1 (bitsW v) w3 ∧ OwnS (w2.heap.size + 1) o2 ((timerW v ++ counterW v).map Wd.text) w3) := ⟨H2.out.below b2, own2⟩
  clear own2 b2 C2 LM2 H2 CC
  go_wp2_with (at_builtin; refine list_appS (w.heap.size + 1) (v := o1) (s := o2) (xs := (bitsW v).map Wd.text) (ys := (timerW v ++ counterW v).map Wd.text) rfl (.tmp 6) (.tmp 8) rfl rfl rfl H3.out.1.1 (ownS_at H3.out.2) (by simp only [List.length_map]; omega) (by have := H3.out.1.2.1.z; omega) ?_)
  intro o3 w4 own4 g4
  have h4 : WS v w o3 (bitsW v ++ (timerW v ++ counterW v)) w4 := H3.out.1.appL own4 (by simp) g4
  have H4 : Hid (WS v w o3 (bitsW v ++ (timerW v ++ counterW v)) w4) := h4
  have C4 := CN w4 (TT w4 h4.2.2)
  have LM4 := load_mem h4.2.1
  clear own4 g4 h4 H3
  go_wp2_with (refine list_load (t := 37) rfl rfl rfl LM4 ?_)
  refine C4.mono ?_
  rintro e w5 ⟨o4, rfl, own5, b5⟩
  have H5 : Hid (WS v w o3 (bitsW v ++ (timerW v ++ counterW v)) w5 ∧ OwnS (w4.heap.size + 1) o4 ((intW v ++ realW tx).map Wd.text) w5) := ⟨H4.out.below b5, own5⟩
  clear own5 b5 C4 LM4 H4 CN
  go_wp2_with (at_builtin; refine list_appS (w.heap.size + 1) (v := o3) (s := o4) (xs := (bitsW v ++ (timerW v ++ counterW v)).map Wd.text) (ys := (intW v ++ realW tx).map Wd.text) rfl (.tmp 10) (.tmp 12) rfl rfl rfl H5.out.1.1 (ownS_at H5.out.2) (by simp only [List.length_map, List.length_append] at n1 n2 n3 ⊢; omega) (by have := H5.out.1.2.1.z; omega) ?_)
  intro s6 w6 own6 g6
  obtain ⟨L, hL⟩ : ∃ L, L = (bitsW v ++ (timerW v ++ counterW v)) ++ (intW v ++ realW tx) := ⟨_, rfl⟩
  have H6 : Hid (WS v w s6 L w6) := by
    show WS v w s6 L w6
    rw [hL]
    exact H5.out.1.appL own6 (by simp) g6
  have hLn : L.length ≤ 400 := by
    rw [hL]
    simp only [List.length_append] at n1 n2 n3 ⊢
    omega
  have HL : Hid (L = (bitsW v ++ (timerW v ++ counterW v)) ++ (intW v ++ realW tx)) := hL
  clear own6 g6 H5 hL n1 n2 n3 n4 n5 n6
  have ct : w6.cell? ⟨w.heap.size, 133, none⟩ = some (.int .u32 v.time) := H6.out.2.1.c 133 (by omega)
  have HSw6 : Hid (WS v w s6 (L) w6) := H6.out
  clear H6
  by_cases htz : v.time = 0
  · have hte : timeW v = [] := by unfold timeW; rw [htz]; rfl
    have HT : Hid (timeW v = []) := hte
    have ct0 := ct
    rw [htz] at ct0
    clear hte ct CF htz
    have cr : w6.cell? ⟨w.heap.size, 134, none⟩ = some (.bool v.ran) := HSw6.out.2.1.c 134 (by omega)
    cases hran : v.ran with
    | true =>
      rw [hran] at cr
      have HR : Hid (ranW v = [⟨12, 0, 0, false, false, 0, []⟩]) := (show ranW v = _ by unfold ranW; rw [hran]; rfl)
      clear hran
      have hU := HSw6.out.below ((Below.refl w6.heap.size w6).alloc (Nat.le_refl _) (.cells #[.string (⟨([114, 97, 110]).toArray⟩)] 9))
      have HU : Hid (WS v w s6 (L) (w6.alloc (.cells #[.string (⟨([114, 97, 110]).toArray⟩)] 9))) := hU
      have hzU : w.heap.size + 1 ≤ w6.heap.size := by have := HSw6.out.2.1.z; omega
      clear hU
      go_wp2_with (at_builtin; refine list_appS (w.heap.size + 1) (v := s6) (s := .slice (some ⟨w6.heap.size, 0, none⟩) 1 1) (xs := (L).map Wd.text) (ys := [[114, 97, 110]]) rfl (.tmp 27) (.tmp 28) rfl rfl rfl HU.out.1 ?c1 (by simp <;> omega) (by simp; omega) ?_)
      case c1 => exact one_str ([114, 97, 110]) w6 9
      intro s6x x6 own g
      have HSx6 : Hid (WS v w s6x (L ++ [(⟨12, 0, 0, false, false, 0, []⟩ : Wd)]) x6) := HU.out.app own (by simp; rfl) g
      clear own g HU hzU
      have cf : x6.cell? ⟨w.heap.size, 135, none⟩ = some (.bool v.fault) := HSx6.out.2.1.c 135 (by omega)
      cases hfa : v.fault with
      | true =>
        rw [hfa] at cf
        have HF : Hid (faultW v = [⟨13, 0, 0, false, false, 0, []⟩]) := (show faultW v = _ by unfold faultW; rw [hfa]; rfl)
        clear hfa
        have hU := HSx6.out.below ((Below.refl x6.heap.size x6).alloc (Nat.le_refl _) (.cells #[.string (⟨([102, 97, 117, 108, 116]).toArray⟩)] 9))
        have HU : Hid (WS v w s6x (L ++ [(⟨12, 0, 0, false, false, 0, []⟩ : Wd)]) (x6.alloc (.cells #[.string (⟨([102, 97, 117, 108, 116]).toArray⟩)] 9))) := hU
        have hzU : w.heap.size + 1 ≤ x6.heap.size := by have := HSx6.out.2.1.z; omega
        clear hU
        go_wp2_with (at_builtin; refine list_appS (w.heap.size + 1) (v := s6x) (s := .slice (some ⟨x6.heap.size, 0, none⟩) 1 1) (xs := (L ++ [(⟨12, 0, 0, false, false, 0, []⟩ : Wd)]).map Wd.text) (ys := [[102, 97, 117, 108, 116]]) rfl (.tmp 32) (.tmp 33) rfl rfl rfl HU.out.1 ?c1 (by simp <;> omega) (by simp; omega) ?_)
        case c1 => exact one_str ([102, 97, 117, 108, 116]) x6 9
        intro s7x x7 own g
        have HSx7 : Hid (WS v w s7x (L ++ [(⟨12, 0, 0, false, false, 0, []⟩ : Wd)] ++ [(⟨13, 0, 0, false, false, 0, []⟩ : Wd)]) x7) := HU.out.app own (by simp; rfl) g
        clear own g HU hzU
        have CJ' := CJ s7x (L ++ [(⟨12, 0, 0, false, false, 0, []⟩ : Wd)] ++ [(⟨13, 0, 0, false, false, 0, []⟩ : Wd)]) x7 HSx7.out (by rw [HL.out]; unfold allW; rw [HT.out, HR.out, HF.out]; simp)
        go_wp2_with fail
        refine CJ'.mono ?_
        rintro e z9 ⟨rfl, bz⟩
        have HZ : Hid (Below w.heap.size w z9) := HSx7.out.2.2.trans (bz.mono HSx7.out.2.2.size)
        clear bz CJ'
        go_wp2_with fail
        go_ret
        exact ⟨rfl, HZ.out⟩
      | false =>
        rw [hfa] at cf
        have HF : Hid (faultW v = []) := (show faultW v = _ by unfold faultW; rw [hfa]; rfl)
        clear hfa
        have CJ' := CJ s6x (L ++ [(⟨12, 0, 0, false, false, 0, []⟩ : Wd)]) x6 HSx6.out (by rw [HL.out]; unfold allW; rw [HT.out, HR.out, HF.out]; simp)
        go_wp2_with fail
        refine CJ'.mono ?_
        rintro e z9 ⟨rfl, bz⟩
        have HZ : Hid (Below w.heap.size w z9) := HSx6.out.2.2.trans (bz.mono HSx6.out.2.2.size)
        clear bz CJ'
        go_wp2_with fail
        go_ret
        exact ⟨rfl, HZ.out⟩
    | false =>
      rw [hran] at cr
      have HR : Hid (ranW v = []) := (show ranW v = _ by unfold ranW; rw [hran]; rfl)
      clear hran
      have cf : w6.cell? ⟨w.heap.size, 135, none⟩ = some (.bool v.fault) := HSw6.out.2.1.c 135 (by omega)
      cases hfa : v.fault with
      | true =>
        rw [hfa] at cf
        have HF : Hid (faultW v = [⟨13, 0, 0, false, false, 0, []⟩]) := (show faultW v = _ by unfold faultW; rw [hfa]; rfl)
        clear hfa
        have hU := HSw6.out.below ((Below.refl w6.heap.size w6).alloc (Nat.le_refl _) (.cells #[.string (⟨([102, 97, 117, 108, 116]).toArray⟩)] 9))
        have HU : Hid (WS v w s6 (L) (w6.alloc (.cells #[.string (⟨([102, 97, 117, 108, 116]).toArray⟩)] 9))) := hU
        have hzU : w.heap.size + 1 ≤ w6.heap.size := by have := HSw6.out.2.1.z; omega
        clear hU
        go_wp2_with (at_builtin; refine list_appS (w.heap.size + 1) (v := s6) (s := .slice (some ⟨w6.heap.size, 0, none⟩) 1 1) (xs := (L).map Wd.text) (ys := [[102, 97, 117, 108, 116]]) rfl (.tmp 32) (.tmp 33) rfl rfl rfl HU.out.1 ?c1 (by simp <;> omega) (by simp; omega) ?_)
        case c1 => exact one_str ([102, 97, 117, 108, 116]) w6 9
        intro s8x x8 own g
        have HSx8 : Hid (WS v w s8x (L ++ [(⟨13, 0, 0, false, false, 0, []⟩ : Wd)]) x8) := HU.out.app own (by simp; rfl) g
        clear own g HU hzU
        have CJ' := CJ s8x (L ++ [(⟨13, 0, 0, false, false, 0, []⟩ : Wd)]) x8 HSx8.out (by rw [HL.out]; unfold allW; rw [HT.out, HR.out, HF.out]; simp)
        go_wp2_with fail
        refine CJ'.mono ?_
        rintro e z9 ⟨rfl, bz⟩
        have HZ : Hid (Below w.heap.size w z9) := HSx8.out.2.2.trans (bz.mono HSx8.out.2.2.size)
        clear bz CJ'
        go_wp2_with fail
        go_ret
        exact ⟨rfl, HZ.out⟩
      | false =>
        rw [hfa] at cf
        have HF : Hid (faultW v = []) := (show faultW v = _ by unfold faultW; rw [hfa]; rfl)
        clear hfa
        have CJ' := CJ s6 (L) w6 HSw6.out (by rw [HL.out]; unfold allW; rw [HT.out, HR.out, HF.out]; simp)
        go_wp2_with fail
        refine CJ'.mono ?_
        rintro e z9 ⟨rfl, bz⟩
        have HZ : Hid (Below w.heap.size w z9) := HSw6.out.2.2.trans (bz.mono HSw6.out.2.2.size)
        clear bz CJ'
        go_wp2_with fail
        go_ret
        exact ⟨rfl, HZ.out⟩
  · have hte : timeW v = [⟨11, 0, v.time, false, false, 0, []⟩] := by unfold timeW; rw [if_pos (by simpa using htz)]
    have HT : Hid (timeW v = [⟨11, 0, v.time, false, false, 0, []⟩]) := hte
    have htz' : ((v.time : Int) == 0) = false := by simpa using htz
    have CF' := CF w6 (TT w6 HSw6.out.2.2)
    clear hte CF htz
    go_wp2_with fail
    refine CF'.mono ?_
    rintro e y1 ⟨rfl, by1⟩
    have HSy1 : Hid (WS v w s6 (L) y1) := HSw6.out.below by1
    clear by1 CF' ct
    obtain ⟨te, hte⟩ : ∃ te, te = [116, 105, 109, 101, 61] ++ Lib.decDigits v.time := ⟨_, rfl⟩
    have HE : Hid ((⟨#[116, 105, 109, 101, 61]⟩ : ByteArray) ++ ⟨(Lib.decDigits v.time).toArray⟩ = ⟨te.toArray⟩) := (show (⟨([116, 105, 109, 101, 61] : List UInt8).toArray⟩ : ByteArray) ++ ⟨(Lib.decDigits v.time).toArray⟩ = ⟨te.toArray⟩ by rw [str_cat, hte])
    have HX : Hid (te = (⟨11, 0, v.time, false, false, 0, []⟩ : Wd).text) := hte
    clear hte
    have hU := HSy1.out.below ((Below.refl y1.heap.size y1).alloc (Nat.le_refl _) (.cells #[.string ((⟨#[116, 105, 109, 101, 61]⟩ : ByteArray) ++ ⟨(Lib.decDigits v.time).toArray⟩)] 9))
    have HU : Hid (WS v w s6 (L) (y1.alloc (.cells #[.string ((⟨#[116, 105, 109, 101, 61]⟩ : ByteArray) ++ ⟨(Lib.decDigits v.time).toArray⟩)] 9))) := hU
    have hzU : w.heap.size + 1 ≤ y1.heap.size := by have := HSy1.out.2.1.z; omega
    clear hU
    go_wp2_with (at_builtin; refine list_appS (w.heap.size + 1) (v := s6) (s := .slice (some ⟨y1.heap.size, 0, none⟩) 1 1) (xs := (L).map Wd.text) (ys := [te]) rfl (.tmp 17) (.tmp 23) rfl rfl rfl HU.out.1 ?c1 (by simp <;> omega) (by simp; omega) ?_)
    case c1 => exact HE.out ▸ one_str te y1 9
    intro s9x x9 own g
    have HSx9 : Hid (WS v w s9x (L ++ [(⟨11, 0, v.time, false, false, 0, []⟩ : Wd)]) x9) := HU.out.app own (by simp; exact HX.out) g
    clear own g HU hzU
    have cr : x9.cell? ⟨w.heap.size, 134, none⟩ = some (.bool v.ran) := HSx9.out.2.1.c 134 (by omega)
    cases hran : v.ran with
    | true =>
      rw [hran] at cr
      have HR : Hid (ranW v = [⟨12, 0, 0, false, false, 0, []⟩]) := (show ranW v = _ by unfold ranW; rw [hran]; rfl)
      clear hran
      have hU := HSx9.out.below ((Below.refl x9.heap.size x9).alloc (Nat.le_refl _) (.cells #[.string (⟨([114, 97, 110]).toArray⟩)] 9))
      have HU : Hid (WS v w s9x (L ++ [(⟨11, 0, v.time, false, false, 0, []⟩ : Wd)]) (x9.alloc (.cells #[.string (⟨([114, 97, 110]).toArray⟩)] 9))) := hU
      have hzU : w.heap.size + 1 ≤ x9.heap.size := by have := HSx9.out.2.1.z; omega
      clear hU
      go_wp2_with (at_builtin; refine list_appS (w.heap.size + 1) (v := s9x) (s := .slice (some ⟨x9.heap.size, 0, none⟩) 1 1) (xs := (L ++ [(⟨11, 0, v.time, false, false, 0, []⟩ : Wd)]).map Wd.text) (ys := [[114, 97, 110]]) rfl (.tmp 27) (.tmp 28) rfl rfl rfl HU.out.1 ?c1 (by simp <;> omega) (by simp; omega) ?_)
      case c1 => exact one_str ([114, 97, 110]) x9 9
      intro s10x x10 own g
      have HSx10 : Hid (WS v w s10x (L ++ [(⟨11, 0, v.time, false, false, 0, []⟩ : Wd)] ++ [(⟨12, 0, 0, false, false, 0, []⟩ : Wd)]) x10) := HU.out.app own (by simp; rfl) g
      clear own g HU hzU
      have cf : x10.cell? ⟨w.heap.size, 135, none⟩ = some (.bool v.fault) := HSx10.out.2.1.c 135 (by omega)
      cases hfa : v.fault with
      | true =>
        rw [hfa] at cf
        have HF : Hid (faultW v = [⟨13, 0, 0, false, false, 0, []⟩]) := (show faultW v = _ by unfold faultW; rw [hfa]; rfl)
        clear hfa
        have hU := HSx10.out.below ((Below.refl x10.heap.size x10).alloc (Nat.le_refl _) (.cells #[.string (⟨([102, 97, 117, 108, 116]).toArray⟩)] 9))
        have HU : Hid (WS v w s10x (L ++ [(⟨11, 0, v.time, false, false, 0, []⟩ : Wd)] ++ [(⟨12, 0, 0, false, false, 0, []⟩ : Wd)]) (x10.alloc (.cells #[.string (⟨([102, 97, 117, 108, 116]).toArray⟩)] 9))) := hU
        have hzU : w.heap.size + 1 ≤ x10.heap.size := by have := HSx10.out.2.1.z; omega
        clear hU
        go_wp2_with (at_builtin; refine list_appS (w.heap.size + 1) (v := s10x) (s := .slice (some ⟨x10.heap.size, 0, none⟩) 1 1) (xs := (L ++ [(⟨11, 0, v.time, false, false, 0, []⟩ : Wd)] ++ [(⟨12, 0, 0, false, false, 0, []⟩ : Wd)]).map Wd.text) (ys := [[102, 97, 117, 108, 116]]) rfl (.tmp 32) (.tmp 33) rfl rfl rfl HU.out.1 ?c1 (by simp <;> omega) (by simp; omega) ?_)
        case c1 => exact one_str ([102, 97, 117, 108, 116]) x10 9
        intro s11x x11 own g
        have HSx11 : Hid (WS v w s11x (L ++ [(⟨11, 0, v.time, false, false, 0, []⟩ : Wd)] ++ [(⟨12, 0, 0, false, false, 0, []⟩ : Wd)] ++ [(⟨13, 0, 0, false, false, 0, []⟩ : Wd)]) x11) := HU.out.app own (by simp; rfl) g
        clear own g HU hzU
        have CJ' := CJ s11x (L ++ [(⟨11, 0, v.time, false, false, 0, []⟩ : Wd)] ++ [(⟨12, 0, 0, false, false, 0, []⟩ : Wd)] ++ [(⟨13, 0, 0, false, false, 0, []⟩ : Wd)]) x11 HSx11.out (by rw [HL.out]; unfold allW; rw [HT.out, HR.out, HF.out]; simp)
        go_wp2_with fail
        refine CJ'.mono ?_
        rintro e z9 ⟨rfl, bz⟩
        have HZ : Hid (Below w.heap.size w z9) := HSx11.out.2.2.trans (bz.mono HSx11.out.2.2.size)
        clear bz CJ'
        go_wp2_with fail
        go_ret
        exact ⟨rfl, HZ.out⟩
      | false =>
        rw [hfa] at cf
        have HF : Hid (faultW v = []) := (show faultW v = _ by unfold faultW; rw [hfa]; rfl)
        clear hfa
        have CJ' := CJ s10x (L ++ [(⟨11, 0, v.time, false, false, 0, []⟩ : Wd)] ++ [(⟨12, 0, 0, false, false, 0, []⟩ : Wd)]) x10 HSx10.out (by rw [HL.out]; unfold allW; rw [HT.out, HR.out, HF.out]; simp)
        go_wp2_with fail
        refine CJ'.mono ?_
        rintro e z9 ⟨rfl, bz⟩
        have HZ : Hid (Below w.heap.size w z9) := HSx10.out.2.2.trans (bz.mono HSx10.out.2.2.size)
        clear bz CJ'
        go_wp2_with fail
        go_ret
        exact ⟨rfl, HZ.out⟩
    | false =>
      rw [hran] at cr
      have HR : Hid (ranW v = []) := (show ranW v = _ by unfold ranW; rw [hran]; rfl)
      clear hran
      have cf : x9.cell? ⟨w.heap.size, 135, none⟩ = some (.bool v.fault) := HSx9.out.2.1.c 135 (by omega)
      cases hfa : v.fault with
      | true =>
        rw [hfa] at cf
        have HF : Hid (faultW v = [⟨13, 0, 0, false, false, 0, []⟩]) := (show faultW v = _ by unfold faultW; rw [hfa]; rfl)
        clear hfa
        have hU := HSx9.out.below ((Below.refl x9.heap.size x9).alloc (Nat.le_refl _) (.cells #[.string (⟨([102, 97, 117, 108, 116]).toArray⟩)] 9))
        have HU : Hid (WS v w s9x (L ++ [(⟨11, 0, v.time, false, false, 0, []⟩ : Wd)]) (x9.alloc (.cells #[.string (⟨([102, 97, 117, 108, 116]).toArray⟩)] 9))) := hU
        have hzU : w.heap.size + 1 ≤ x9.heap.size := by have := HSx9.out.2.1.z; omega
        clear hU
        go_wp2_with (at_builtin; refine list_appS (w.heap.size + 1) (v := s9x) (s := .slice (some ⟨x9.heap.size, 0, none⟩) 1 1) (xs := (L ++ [(⟨11, 0, v.time, false, false, 0, []⟩ : Wd)]).map Wd.text) (ys := [[102, 97, 117, 108, 116]]) rfl (.tmp 32) (.tmp 33) rfl rfl rfl HU.out.1 ?c1 (by simp <;> omega) (by simp; omega) ?_)
        case c1 => exact one_str ([102, 97, 117, 108, 116]) x9 9
        intro s12x x12 own g
        have HSx12 : Hid (WS v w s12x (L ++ [(⟨11, 0, v.time, false, false, 0, []⟩ : Wd)] ++ [(⟨13, 0, 0, false, false, 0, []⟩ : Wd)]) x12) := HU.out.app own (by simp; rfl) g
        clear own g HU hzU
        have CJ' := CJ s12x (L ++ [(⟨11, 0, v.time, false, false, 0, []⟩ : Wd)] ++ [(⟨13, 0, 0, false, false, 0, []⟩ : Wd)]) x12 HSx12.out (by rw [HL.out]; unfold allW; rw [HT.out, HR.out, HF.out]; simp)
        go_wp2_with fail
        refine CJ'.mono ?_
        rintro e z9 ⟨rfl, bz⟩
        have HZ : Hid (Below w.heap.size w z9) := HSx12.out.2.2.trans (bz.mono HSx12.out.2.2.size)
        clear bz CJ'
        go_wp2_with fail
        go_ret
        exact ⟨rfl, HZ.out⟩
      | false =>
        rw [hfa] at cf
        have HF : Hid (faultW v = []) := (show faultW v = _ by unfold faultW; rw [hfa]; rfl)
        clear hfa
        have CJ' := CJ s9x (L ++ [(⟨11, 0, v.time, false, false, 0, []⟩ : Wd)]) x9 HSx9.out (by rw [HL.out]; unfold allW; rw [HT.out, HR.out, HF.out]; simp)
        go_wp2_with fail
        refine CJ'.mono ?_
        rintro e z9 ⟨rfl, bz⟩
        have HZ : Hid (Below w.heap.size w z9) := HSx9.out.2.2.trans (bz.mono HSx9.out.2.2.size)
        clear bz CJ'
        go_wp2_with fail
        go_ret
        exact ⟨rfl, HZ.out⟩

end Go.Proofs.YtdhoimjkgicneaaGreatDoor

/- How long the text of a real number is. -/
namespace Go.Proofs.YtdhoimjkgicneaaGreatDoor
open Go

theorem odd_parts {m k n c : Nat} (e : m * 2 ^ k = n * 2 ^ c) (ho : n % 2 = 1) : ∃ d, c = k + d ∧ m = n * 2 ^ d := by
  by_cases h : k ≤ c
  · obtain ⟨d, rfl⟩ := Nat.exists_eq_add_of_le h
    refine ⟨d, rfl, ?_⟩
    rw [Nat.pow_add, Nat.mul_comm (2 ^ k), ← Nat.mul_assoc] at e
    exact Nat.eq_of_mul_eq_mul_right (Nat.two_pow_pos k) e
  · exfalso
    obtain ⟨d, rfl⟩ : ∃ d, k = c + (d + 1) := ⟨k - c - 1, by omega⟩
    rw [Nat.pow_add, Nat.mul_comm (2 ^ c), ← Nat.mul_assoc] at e
    have e2 := Nat.eq_of_mul_eq_mul_right (Nat.two_pow_pos c) e
    rw [Nat.pow_succ, ← Nat.mul_assoc] at e2
    omega

theorem txt_len {x : Nat} {l : List UInt8} (h : Txt x l) : l.length ≤ 50 := by
  rcases h with ⟨-, rfl⟩ | ⟨s, -, rfl⟩ | ⟨s, k, -, rfl⟩ | ⟨s, m, k, n, c, h, h0, ho, e, rfl⟩
  · decide
  · have := sgn_len s
    simp
    omega
  · have := sgn_len s
    simp
    omega
  · obtain ⟨d, rfl, hm⟩ := odd_parts e ho
    have h1 := h.m53
    have h2 := h.k45
    have hn : n ≤ m := by rw [hm]; exact Nat.le_mul_of_pos_right _ (Nat.two_pow_pos _)
    have hd := odd_bound hm.symm (by omega) h1
    have l1 := dd_len 15 n (by omega)
    have l2 := itoa_len5 (n := ((k + d : Nat) : Int) - 1074) (by omega) (by omega)
    have l3 := sgn_len s
    unfold finL
    simp only [List.length_append, List.length_cons, List.length_nil]
    omega

end Go.Proofs.YtdhoimjkgicneaaGreatDoor

/- The program's MemRead: a memory is read just of its own text. -/
namespace Go.Proofs.YtdhoimjkgicneaaGreatDoor
open Go Go.RowKit
attribute [local go_sem] zMemK

theorem ret_mbR {fn : Func} {R : Ending → World → Prop} {a : Act} {w : World} {b c c' : Nat} {v : MemV} {t : Bool} (hf : fn.results = #[.cell c 37, .tmp c']) (hc : a.tmps.getD c undef = .pointer (some ⟨b, 0, none⟩)) (hc' : a.tmps.getD c' undef = .bool t)
    (hd : a.defers = []) (h : MemAt b v w) (hR : R (.returned (.tuple #[.agg v.row, .bool t])) w) : bodyPost Tryz.prog fn R .ret a w := by
  refine ⟨hd, .tuple #[.agg v.row, .bool t], ?_, hR⟩
  have hl : (loadVar 37 ⟨b, 0, none⟩).run Tryz.prog w = .ok (.agg v.row) w := by
    have := load_mem h
    simpa only [Instr.loadAt, Instr.sureAddr, Sem.run_bind, Sem.run_pure, Result.andThen] using this
  have e1 : a.tmps[c]?.getD undef = .pointer (some ⟨b, 0, none⟩) := by simpa using hc
  have e2 : a.tmps[c']?.getD undef = .bool t := by simpa using hc'
  simp [results, hf, e1, e2, asAddr, hl]

theorem built_noneR : Tryz.prog.built 37 [] = some mem0.row := by rw [built_mem]; rfl

/-- Strings that lie in a block. -/
structure StrsAt (a : Nat) (ws : List ByteArray) (w : World) : Prop where
  z : a < w.heap.size
  c : ∀ (i : Nat) (x : ByteArray), ws[i]? = some x → w.cell? ⟨a, i, none⟩ = some (.string x)

theorem StrsAt.below {a B : Nat} {ws : List ByteArray} {w w' : World} (h : StrsAt a ws w) (hb : Below B w w') (hB : a < B) : StrsAt a ws w' :=
  ⟨Nat.lt_of_lt_of_le h.z hb.size, fun i x hx => (World.cell?_of_block (w := w) (a := ⟨a, i, none⟩) (hb.block a hB)).trans (h.c i x hx)⟩

theorem StrsAt.other {a b o : Nat} {ws : List ByteArray} {vs : List Value} {w : World} (h : StrsAt a ws w) (hn : a ≠ b) : StrsAt a ws (w.setCells b o vs) := by
  refine ⟨by rw [setCells_size]; exact h.z, fun i x hx => ?_⟩
  have hb : ∀ (vs : List Value) (o : Nat) (w : World), (w.setCells b o vs).cell? ⟨a, i, none⟩ = w.cell? ⟨a, i, none⟩ := by
    intro vs
    induction vs with
    | nil => intro o w; rfl
    | cons u r ih =>
      intro o w
      have e : w.setCells b o (u :: r) = (w.setCell ⟨b, o, none⟩ u).setCells b (o + 1) r := rfl
      rw [e, ih]
      exact World.cell?_setCell_other _ _ _ _ (by intro hh; cases hh; exact hn rfl)
  rw [hb]
  exact h.c i x hx

theorem lib_split (s : ByteArray) (w : World) (hs : s.size ≤ 6000) (T : RTab w) :
    Calls Tryz.prog 17 #[.string s, .string ⟨#[32]⟩] w fun e w' => ∃ (ws : List ByteArray) (a : Nat), e = .returned (.slice (some ⟨a, 0, none⟩) ws.length ws.length) ∧ StrsAt a ws w' ∧ w.heap.size ≤ a ∧ ws.map (·.data.toList) = splitS s.data.toList ∧ ws.length ≤ 6001 ∧ Below w.heap.size w w' := by
  obtain ⟨m, hm⟩ := T.mx
  refine (Tryz.strings_Split s ⟨#[32]⟩ m w (by omega) hm (by decide)).mono ?_
  rintro e w' ⟨rfl, rfl⟩
  have hlen := Lib.splitB_all ⟨#[32]⟩ (by decide) 0 _ s rfl
  have hcnt := Lib.countB_le ⟨#[32]⟩ (by decide) s.size s (Nat.le_refl _)
  have hdata := Lib.splitB_data ⟨#[32]⟩ 0 (Lib.countB s ⟨#[32]⟩) s
  refine ⟨Lib.splitB ⟨#[32]⟩ 0 (Lib.countB s ⟨#[32]⟩) s, w.heap.size, by rw [hlen], ⟨by simp, fun i x hx => ?_⟩, Nat.le_refl _, ?_, by omega, (Below.refl _ _).alloc (Nat.le_refl _) _⟩
  · obtain ⟨hi, hx⟩ := List.getElem?_eq_some_iff.1 hx
    simp [hi, hx]
  · rw [hdata]
    exact split_is s.data.toList

/-- What is behind some words that were read. -/
def Rdg (ws : List ByteArray) (a q : Nat) (w : World) (k : Nat) (wr : World) : Prop :=
  ∃ m : MemV, m.Ok ∧ Chain memZ ((ws.map (·.data.toList)).take k) m ∧ MemAt q m wr ∧ MemAt w.heap.size mem0 wr ∧ StrsAt a ws wr ∧ w.heap.size < q ∧ q < a ∧ Below w.heap.size w wr

set_option maxRecDepth 100000 in
set_option maxHeartbeats 4000000 in
theorem impl_mread (s : ByteArray) (w : World) (hs : s.size ≤ 100000000) (T : Tabs w) (R : RTab w) :
    Calls Tryz.prog 6 #[.string s] w fun e w' => ∃ (m : MemV) (b : Bool), e = .returned (.tuple #[.agg m.row, .bool b]) ∧ ReadsM s.data.toList m b ∧ Below w.heap.size w w' := by
  have hl : s.data.toList.length = s.size := by rw [Array.length_toList]; rfl
  have TT : Hid (∀ w', Below w.heap.size w w' → Tabs w' ∧ RTab w') := fun w' hw' => ⟨T.below hw' (Nat.le_refl _), R.below hw' (Nat.le_refl _)⟩
  have M0 := MemAt.alloc mem0 w 37
  have B0 : Below w.heap.size w (w.alloc (.cells mem0.row 37)) := (Below.refl _ _).alloc (Nat.le_refl _) _
  have H0 : Hid (MemAt w.heap.size mem0 _ ∧ Below w.heap.size w _) := ⟨M0, B0⟩
  clear M0 B0 T R
  by_cases hlong : 6000 < s.size
  · go_enter Tryz.func6, Tryz.ntmps6
    go_upto_region 1 with fail
    generalize w.alloc (.cells mem0.row 37) = w1 at H0 ⊢
    have S := store_mem mem0 H0.out.1
    have HF : Hid (MemAt w.heap.size mem0 _ ∧ Below w.heap.size w _) := ⟨H0.out.1.stored mem0, setCells_below mem0.row.toList w.heap.size 0 H0.out.2 (Nat.le_refl _)⟩
    go_wp2_with (first | refine list_build (t := 37) (cells := mem0.row) (l := []) rfl rfl (by simp) built_noneR ?_ | refine list_store (t := 37) (x := .pointer (some ⟨w.heap.size, 0, none⟩)) (u := .agg mem0.row) rfl rfl rfl rfl S ?_)
    exact ret_mbR (c := 2) (c' := 3) rfl rfl rfl rfl HF.out.1 ⟨mem0, false, rfl, reads_long (by omega), HF.out.2⟩
  · have hsz : s.size ≤ 6000 := by omega
    go_enter Tryz.func6, Tryz.ntmps6
    go_upto_region 1 with fail
    generalize w.alloc (.cells mem0.row 37) = w1 at H0 ⊢
    have M1 := MemAt.alloc mem0 w1 37
    have B1 : Below w1.heap.size w1 (w1.alloc (.cells mem0.row 37)) := (Below.refl _ _).alloc (Nat.le_refl _) _
    have H1 : Hid (MemAt w1.heap.size mem0 _ ∧ MemAt w.heap.size mem0 _ ∧ w.heap.size < w1.heap.size ∧ Below w.heap.size w _) := ⟨M1, H0.out.1.below B1 H0.out.1.z, H0.out.1.z, H0.out.2.trans (B1.mono H0.out.2.size)⟩
    clear M1 B1 H0
    go_upto_region 4 with fail
    generalize w1.alloc (.cells mem0.row 37) = w2 at H1 ⊢
    generalize w1.heap.size = q at H1 ⊢
    go_wp2_with fail
    refine (lib_split s w2 hsz (TT.out w2 H1.out.2.2.2).2).mono ?_
    rintro e w3 ⟨ws, a, rfl, st, ha, hws, hwn, hb⟩
    have H3 : Hid (Rdg ws a q w 0 w3) := ⟨mem0, memZ_ok, rfl, H1.out.1.below hb H1.out.1.z, H1.out.2.1.below hb H1.out.2.1.z, st, H1.out.2.2.1, Nat.lt_of_lt_of_le H1.out.1.z ha, H1.out.2.2.2.trans (hb.mono H1.out.2.2.2.size)⟩
    have HW : Hid (ws.map (·.data.toList) = splitS s.data.toList) := hws
    clear H1 hb st ha hws
    go_wp2_with fail
    go_loopw [14] (fun i wr => ∃ k : Nat, k ≤ ws.length ∧ i = .int .i64 k ∧ Rdg ws a q w k wr) (fun i _ => ws.length - (intOf i).toNat)
    case atStart => exact ⟨0, Nat.zero_le _, rfl, H3.out⟩
    case round =>
      clear H3
      obtain ⟨k, hk, rfl, hr⟩ := hrel
      obtain ⟨m, mok, hc, hM, hZ, hS, hq, hqa, hB⟩ := hr
      have LM := load_mem hM
      by_cases hlt : k < ws.length
      · obtain ⟨x, hx⟩ : ∃ x, ws[k]? = some x := ⟨_, List.getElem?_eq_getElem hlt⟩
        have c0 := hS.c k x hx
        have hxm : (ws.map (·.data.toList))[k]? = some x.data.toList := by rw [List.getElem?_map, hx]; rfl
        have hxs : x.size ≤ 6000 := by
          have h1 : x.data.toList ∈ splitS s.data.toList := by
            rw [← HW.out]
            exact List.mem_of_getElem? hxm
          have h2 := splitS_len _ _ h1
          have h3 : x.data.toList.length = x.size := by rw [Array.length_toList]; rfl
          omega
        have HX : Hid ((ws.map (·.data.toList)).take (k + 1) = (ws.map (·.data.toList)).take k ++ [x.data.toList]) := by
          show (ws.map (·.data.toList)).take (k + 1) = (ws.map (·.data.toList)).take k ++ [x.data.toList]
          rw [List.take_add_one, hxm]
          rfl
        have HH : Hid (m.Ok ∧ Chain memZ ((ws.map (·.data.toList)).take k) m ∧ MemAt q m wr ∧ MemAt w.heap.size mem0 wr ∧ StrsAt a ws wr ∧ w.heap.size < q ∧ q < a ∧ Below w.heap.size w wr) := ⟨mok, hc, hM, hZ, hS, hq, hqa, hB⟩
        clear mok hc hM hZ hS hq hqa hB hx hxm
        go_wp2_with (refine list_load (t := 37) rfl rfl rfl LM ?_)
        clear LM c0
        obtain ⟨mok, hc, hM, hZ, hS, hq, hqa, hB⟩ := HH.out
        refine (impl_mscan m x wr mok hxs (TT.out wr hB).1 (TT.out wr hB).2).mono ?_
        rintro e w4 ⟨m', rfl, hsc, hb⟩
        have M4 := hM.below hb hM.z
        have S4 := store_mem m' M4
        have HN : Hid (Rdg ws a q w (k + 1) (w4.setCells q 0 m'.row.toList)) :=
          ⟨m', hsc.1, by rw [HX.out]; exact hc.snoc hsc, M4.stored m', (hZ.below hb hZ.z).other (by omega), (hS.below hb hS.z).other (by omega), hq, hqa, setCells_below _ _ _ (hB.trans (hb.mono hB.size)) (by omega)⟩
        clear mok hc hM hZ hS hq hqa hB hsc hb M4 HH HX
        generalize w4.setCells q 0 m'.row.toList = w5 at S4 HN
        go_wp2_with (refine list_store (t := 37) (x := .pointer (some ⟨q, 0, none⟩)) (u := .agg m'.row) rfl rfl rfl rfl S4 ?_; simp only [Act.put])
        go_roundw
        case rel => exact ⟨k + 1, hlt, by go_num, HN.out⟩
        case measure => simp [intOf]; omega
      · obtain rfl : k = ws.length := by omega
        have hc2 : Chain memZ ((splitS s.data.toList).filter fullB) m := by
          have := hc
          rw [show (ws.map (·.data.toList)).take ws.length = ws.map (·.data.toList) from List.take_of_length_le (by simp), HW.out] at this
          exact this.full
        obtain ⟨tx, ht⟩ := txts_ex m.r
        have CT := impl_mtext m tx wr mok (fun i _ => ht i) (fun i _ => txt_len (ht i)) (TT.out wr hB).1
        have HT : Hid (TextOf m (textV m tx)) := ⟨tx, fun i _ => ht i, rfl⟩
        generalize textV m tx = l at CT HT
        have HH : Hid (m.Ok ∧ Chain memZ ((splitS s.data.toList).filter fullB) m ∧ MemAt q m wr ∧ MemAt w.heap.size mem0 wr ∧ w.heap.size < q ∧ Below w.heap.size w wr) := ⟨mok, hc2, hM, hZ, hq, hB⟩
        clear mok hc hc2 hM hZ hS hq hqa hB ht hk hlt
        go_wp2_with (refine list_load (t := 37) rfl rfl rfl LM ?_)
        clear LM
        refine CT.mono ?_
        rintro e w4 ⟨rfl, hb⟩
        clear CT
        obtain ⟨mok, hc, hM, hZ, hq, hB⟩ := HH.out
        have M4 := hM.below hb hM.z
        have Z4 := hZ.below hb hZ.z
        have B4 := hB.trans (hb.mono hB.size)
        by_cases he : l = s.data.toList
        · have e2 : (l == s.toList) = true := by rw [ByteArray.toList_eq, he]; simp
          have e3 : (l != s.toList) = false := by rw [ByteArray.toList_eq, he]; simp
          have LM := load_mem M4
          have S := store_mem m Z4
          have HF : Hid (MemAt w.heap.size m _ ∧ Below w.heap.size w _) := ⟨Z4.stored m, setCells_below m.row.toList w.heap.size 0 B4 (Nat.le_refl _)⟩
          have HE : Hid (ReadsM s.data.toList m true) := ⟨mok, Or.inl ⟨rfl, by omega, he ▸ HT.out⟩⟩
          clear mok hc hM hZ hq hB hb M4 Z4 B4 HH he HT
          go_wp2_with (first | refine list_load (t := 37) rfl rfl rfl LM ?_ | refine list_store (t := 37) (x := .pointer (some ⟨w.heap.size, 0, none⟩)) (u := .agg m.row) rfl rfl rfl rfl S ?_)
          exact ret_mbR (c := 2) (c' := 3) rfl rfl rfl rfl HF.out.1 ⟨m, true, rfl, HE.out, HF.out.2⟩
        · have e2 : (l == s.toList) = false := by rw [ByteArray.toList_eq]; simpa using he
          have e3 : (l != s.toList) = true := by rw [ByteArray.toList_eq]; simpa using he
          have S := store_mem mem0 Z4
          have HF : Hid (MemAt w.heap.size mem0 _ ∧ Below w.heap.size w _) := ⟨Z4.stored mem0, setCells_below mem0.row.toList w.heap.size 0 B4 (Nat.le_refl _)⟩
          have HE : Hid (ReadsM s.data.toList mem0 false) := ⟨memZ_ok, Or.inr ⟨rfl, rfl, fun _ v hv hvt => he (text_fun HT.out (reads_fin hc hv hvt))⟩⟩
          clear mok hc hM hZ hq hB hb M4 Z4 B4 HH he HT
          go_wp2_with (first | refine list_build (t := 37) (cells := mem0.row) (l := []) rfl rfl (by simp) built_noneR ?_ | refine list_store (t := 37) (x := .pointer (some ⟨w.heap.size, 0, none⟩)) (u := .agg mem0.row) rfl rfl rfl rfl S ?_)
          exact ret_mbR (c := 2) (c' := 3) rfl rfl rfl rfl HF.out.1 ⟨mem0, false, rfl, HE.out, HF.out.2⟩

end Go.Proofs.YtdhoimjkgicneaaGreatDoor
