/- Texts of this proof laid together: MxD, MrS, MbD. -/
import Derived.Test.YtdhoimjkgicneaaGreatDoorLot40
import Derived.Test.YtdhoimjkgicneaaGreatDoorLot34
import Derived.Test.YtdhoimjkgicneaaGreatDoorLot36
import Derived.Test.YtdhoimjkgicneaaGreatDoorLot39
import Derived.Test.YtdhoimjkgicneaaGreatDoorLot10
import Derived.Test.YtdhoimjkgicneaaGreatDoorLot4
/- The specification's text of a memory, walked. -/
namespace Go.Proofs.YtdhoimjkgicneaaGreatDoor
open Go Go.RowKit

set_option maxRecDepth 100000 in
set_option maxHeartbeats 12800000 in
theorem spec_mtext (v : MemV) (tx : Nat → List UInt8) (w : World) (hv : v.Ok) (ht : ∀ i, i < 16 → Txt (v.r i) (tx i)) (hl : ∀ i, i < 16 → (tx i).length ≤ 50) :
    Calls Tryz.prog 20 #[.agg v.row] w fun e w' => e = .returned (.string ⟨(textV v tx).toArray⟩) ∧ Below w.heap.size w w' := by
  have H0 : Hid (SX v w (.string ⟨#[]⟩) (kindsP v 0) (w.alloc (.cells v.row 37))) := (show SX v w (.string ⟨#[]⟩) (kindsP v 0) (w.alloc (.cells v.row 37)) from ⟨rfl, MemAt.alloc v w 37, (Below.refl _ _).alloc (Nat.le_refl _) _⟩)
  have CR : ∀ i w, i < 16 → Calls Tryz.prog 48 #[.float .f64 (v.r i)] w fun e w' => e = .returned (.string ⟨(tx i).toArray⟩) ∧ Below w.heap.size w w' := fun i w hi => (specX_rtext (v.r i) w).mono fun _ _ h => by
    obtain ⟨l, h1, h2, h3, h4⟩ := h
    exact ⟨by rw [h1, txt_fun h2 (ht i hi)], h4⟩
  have PL : ∀ {L M : List Wd}, L ++ M = allW v tx → (spL L).length ≤ 2400 := fun h => pre_len hv hl h
  have CK : ∀ (k : Nat) w, k < 5 → Calls Tryz.prog 49 #[.agg v.row, .int .i64 ((k : Int) + 1)] w fun e w' => e = .returned (.string ⟨(spL (bitW v (k + 1))).toArray⟩) ∧ Below w.heap.size w w' := fun k w hk => spec_bits v (k + 1) w (by omega) (by omega) hv
  have BL : ∀ k, k < 5 → (spL (bitW v (k + 1))).length ≤ 300 := fun k hk => by
    have := bit_len (v := v) (k + 1)
    have := (size_kind (k := k + 1) (by omega) (by omega)).2.2
    omega
  have KP : ∀ k, k ≤ 5 → ∃ M, kindsP v k ++ M = allW v tx := fun k hk => by
    have h5 : kindsP v 5 = bitsW v := kindsP_all v
    have : ∀ j, k ≤ j → j ≤ 5 → ∃ M, kindsP v k ++ M = kindsP v j := fun j => by
      induction j with
      | zero => intro h1 _; exact ⟨[], by rw [show k = 0 by omega]; simp⟩
      | succ j ih =>
        intro h1 h2
        by_cases e : k = j + 1
        · exact ⟨[], by rw [e]; simp⟩
        · obtain ⟨M, hM⟩ := ih (by omega) (by omega)
          exact ⟨M ++ bitW v (j + 1), by rw [← List.append_assoc, hM]; rfl⟩
    obtain ⟨M, hM⟩ := this 5 hk (Nat.le_refl _)
    exact ⟨M ++ _, by rw [← List.append_assoc, hM, h5]; rfl⟩
  have hcT := hv.tC
  have hcC := hv.cC
  have hd : ∀ i, -32768 ≤ v.d i ∧ v.d i ≤ 32767 := fun i => ⟨hv.d1 i, hv.d2 i⟩
  have htm := hv.time
  have HV : Hid (v.Ok ∧ ∀ i, i < 16 → (tx i).length ≤ 50) := ⟨hv, hl⟩
  clear hv ht hl
  go_enter Tryz.func20, Tryz.ntmps20
  go_upto_region 1 with fail
  generalize w.alloc (.cells v.row 37) = w1 at H0 ⊢
  go_wp2_with fail
  go_loopw [3, 4] (fun s kv wr => ∃ k : Nat, k ≤ 5 ∧ kv = .int .i64 ((k : Int) + 1) ∧ SX v w s (kindsP v k) wr) (fun _ kv _ => 6 - (intOf kv).toNat)
  case atStart => exact ⟨0, by omega, rfl, H0.out⟩
  case round =>
    clear H0
    obtain ⟨k, hk, rfl, hS⟩ := hrel
    by_cases hk5 : k < 5
    · have hk5' : (k : Int) + 1 ≤ 5 := by omega
      obtain ⟨M, hM⟩ := KP k hk
      have p1 := PL hM
      obtain ⟨so, hso, zso⟩ := ba_of (spL (kindsP v k))
      obtain ⟨bo, hbo, zbo⟩ := ba_of (spL (bitW v (k + 1)))
      have p2 := BL k hk5
      rw [← zso] at p1
      rw [← zbo] at p2
      have e3 := hS.1
      rw [← hso] at e3
      subst e3
      have C1 := CK k wr hk5
      rw [← hbo] at C1
      have LM := load_mem hS.2.1
      have H1 : Hid (SX v w (.string so) (kindsP v k) wr ∧ so = ⟨(spL (kindsP v k)).toArray⟩ ∧ bo = ⟨(spL (bitW v (k + 1))).toArray⟩) := ⟨hS, hso, hbo⟩
      clear hS hM hso hbo zso zbo
      go_wp2_with (refine list_load (t := 37) rfl rfl rfl LM ?_)
      refine C1.mono ?_
      rintro e w2 ⟨rfl, b2⟩
      have HN : Hid (SX v w (.string (so ++ bo)) (kindsP v (k + 1)) w2) := by
        have h' := H1.out.1.below b2
        refine ⟨?_, h'.2.1, h'.2.2⟩
        show Value.string (so ++ bo) = .string ⟨(spL (kindsP v k ++ bitW v (k + 1))).toArray⟩
        rw [H1.out.2.1, H1.out.2.2, str_cat, spL_append]
      clear b2 C1 LM H1
      go_wp2_with fail
      go_roundw
      case rel => exact ⟨k + 1, by omega, by go_num, HN.out⟩
      case measure => simp [intOf]; omega
    · obtain rfl : k = 5 := by omega
      have H0 : Hid (SX v w u3 (bitsW v ++ timerP v 0) wr) := (show SX v w u3 (bitsW v ++ []) wr by rw [List.append_nil, ← kindsP_all]; exact hS)
      clear hS CK BL KP hk5 hk
      rw [show ((5 : Nat) : Int) + 1 = 6 from rfl]
      go_wp2_with fail
      go_loopw [3, 5] (fun s iv wr => ∃ i : Nat, i ≤ 16 ∧ iv = .int .i64 i ∧ SX v w s (bitsW v ++ timerP v i) wr) (fun _ iv _ => 16 - (intOf iv).toNat)
      case atStart => exact ⟨0, by omega, rfl, H0.out⟩
      case round =>
        clear H0
        obtain ⟨i, hi, rfl, hS⟩ := hrel
        by_cases hin : i < 16
        · have hin' : (0 : Int) ≤ (i : Int) ∧ (i : Int) < 16 := by omega
          obtain ⟨M, hM⟩ : ∃ M, (bitsW v ++ timerP v i) ++ M = allW v tx := by
            exact pre_timer v tx hi
          have p1 := PL hM
          obtain ⟨so, hso, zso⟩ := ba_of (spL (bitsW v ++ timerP v i))
          rw [← zso] at p1
          have e3 := hS.1
          rw [← hso] at e3
          subst e3
          clear hM hso zso
          have c0 : wr.cell? ⟨w.heap.size, 5 + i * 2, none⟩ = some (.bool (v.tD i)) := (hS.2.1.c _ (by omega)).trans (congrArg some (MemV.cell_tD v i hin))
          have c1 : wr.cell? ⟨w.heap.size, 5 + i * 2 + 1, none⟩ = some (.int .u16 (v.tC i : Nat)) := (hS.2.1.c _ (by omega)).trans (congrArg some (MemV.cell_tC v i hin))
          obtain ⟨de, hde, zde, CDe⟩ := dec_ba (v.tC i) (Nat.lt_trans (hcT i) (by omega))
          obtain ⟨mk, hmk, zmk, CMk⟩ := mark_ba (v.tD i) ⟨#[33]⟩
          obtain ⟨tw, htw, ztw, CTw⟩ := dev_ba 7 i (61 :: countL (v.tC i) (v.tD i) false) ⟨7, i, v.tC i, v.tD i, false, 0, []⟩ ((⟨#[61]⟩ : ByteArray) ++ de ++ mk) (by omega) (by have := count_len (v.tD i) false (hcT i); simp only [List.length_cons]; omega) (count_ba _ _ _ _ hde hmk) rfl
          have zmk : mk.size ≤ 1 := zmk
          have HX : Hid (tw = ⟨((⟨7, i, v.tC i, v.tD i, false, 0, []⟩ : Wd).text ++ [32]).toArray⟩) := htw
          have H1 : Hid (SX v w (.string so) (bitsW v ++ timerP v i) wr) := hS
          have hcb := hcT i
          clear hS hde hmk htw 
          cases hf0 : v.tD i with
          | true =>
            have HB : Hid (timerP v (i + 1) = timerP v i ++ [⟨7, i, v.tC i, v.tD i, false, 0, []⟩]) := seg_yes (by simp only [hf0]; simp)
            rw [hf0] at c0 CMk
            obtain ⟨C, hC⟩ : ∃ C, C = v.tC i := ⟨_, rfl⟩
            rw [← hC] at c1 CDe hcb
            clear hC hf0
            have hwC : IntKind.i64.wrap ((C : Nat) : Int) = ((C : Nat) : Int) := wrapM (by omega)
            obtain ⟨W9, hW9⟩ : ∃ W9, W9 = wr.alloc (.cells #[.bool true, .int .u16 (C : Nat)] 27) := ⟨_, rfl⟩
            have b9 : Below wr.heap.size wr W9 := by rw [hW9]; exact (Below.refl _ _).alloc (Nat.le_refl _) _
            have k9 : ∀ (j : Nat) (u : Value), #[.bool true, .int .u16 (C : Nat)][j]? = some u → W9.cell? ⟨wr.heap.size, j, none⟩ = some u := fun j u hu => by rw [hW9]; simp [hu]
            have z9 : wr.heap.size < W9.heap.size := by rw [hW9]; simp
            have KB : ∀ w', Below W9.heap.size W9 w' → ∀ (j : Nat) (u : Value), #[.bool true, .int .u16 (C : Nat)][j]? = some u → w'.cell? ⟨wr.heap.size, j, none⟩ = some u := fun w' hw' j u hu => (hw'.cell (p := ⟨wr.heap.size, j, none⟩) z9).trans (k9 j u hu)
            have H9 : Hid (SX v w (.string so) (bitsW v ++ timerP v i) W9) := H1.out.below b9
            have hS : Below W9.heap.size W9 W9.drew := (Below.refl _ _).drew
            clear H1 b9 k9 z9
            go_wp2_with fail
            rw [← hW9]
            clear hW9
            refine wp_region_held (S := Below W9.heap.size W9) (by kernel_rfl) ?_
            refine held_any (fuel := 13) (i := 0) (v := .string so) rfl (by kernel_rfl) (by kernel_rfl) (by kernel_rfl) rfl (fun _ _ _ h => h) (fun _ _ => rfl) hS ?_
            go_simp
            refine held_any (fuel := 12) (i := 1) (v := .int .i64 i) rfl (by kernel_rfl) (by kernel_rfl) (by kernel_rfl) rfl (fun _ _ _ h => h) (fun _ _ => rfl) hS ?_
            go_simp
            refine held_any (fuel := 11) (i := 2) (v := .pointer (some ⟨wr.heap.size, 1, none⟩)) rfl (by kernel_rfl) (by kernel_rfl) (by kernel_rfl) rfl (fun _ _ _ h => h) (fun _ _ => by simp [go_sem]) hS ?_
            go_simp
            refine held_load (fuel := 10) (i := 3) (t := 25) (v := .int .u16 (C : Nat)) rfl rfl rfl (by kernel_rfl) (by kernel_rfl) (by kernel_rfl) rfl (fun _ _ _ h => h) (fun w' hw' => load_u16M (KB w' hw' 1 _ rfl)) hS ?_
            go_simp
            refine held_any (fuel := 9) (i := 4) (v := .int .i64 (C : Nat)) rfl (by kernel_rfl) (by kernel_rfl) (by kernel_rfl) rfl (fun _ _ _ h => h) (fun _ _ => by go_simp) hS ?_
            go_simp
            refine held_any (fuel := 8) (i := 7) (v := .pointer (some ⟨wr.heap.size, 0, none⟩)) rfl (by kernel_rfl) (by kernel_rfl) (by kernel_rfl) rfl (fun _ _ _ h => h) (fun _ _ => by simp [go_sem]) hS ?_
            go_simp
            refine held_load (fuel := 7) (i := 8) (t := 4) (v := .bool true) rfl rfl rfl (by kernel_rfl) (by kernel_rfl) (by kernel_rfl) rfl (fun _ _ _ h => h) (fun w' hw' => load_boolM (KB w' hw' 0 _ rfl)) hS ?_
            go_simp
            refine wpAnyH_ready (rs := [5]) (by kernel_rfl) (by simp) ?_
            refine AllReadyH.cons rfl (fun K hK => ?_) AllReadyH.nil
            go_simp
            refine (CDe _).mono ?_
            rintro e y0 ⟨rfl, by0⟩
            have hT0 := hS.trans (by0.mono hS.size)
            refine hK.out _ _ hT0 (fun _ => ?_)
            clear hK K by0
            go_simp
            refine held_add (fuel := 5) (i := 6) (x := (⟨#[61]⟩ : ByteArray)) (y := de) rfl rfl rfl rfl (by kernel_rfl) (by kernel_rfl) (by kernel_rfl) rfl (fun _ _ _ h => h) (by show 1 + de.size ≤ _; omega) hT0 ?_
            go_simp
            refine wpAnyH_ready (rs := [9]) (by kernel_rfl) (by simp) ?_
            refine AllReadyH.cons rfl (fun K hK => ?_) AllReadyH.nil
            go_simp
            refine (CMk _).mono ?_
            rintro e y1 ⟨rfl, by1⟩
            have hT1 := hT0.trans (by1.mono hT0.size)
            refine hK.out _ _ hT1 (fun _ => ?_)
            clear hK K by1
            go_simp
            refine held_add (fuel := 3) (i := 10) (x := (⟨#[61]⟩ : ByteArray) ++ de) (y := mk) rfl rfl rfl rfl (by kernel_rfl) (by kernel_rfl) (by kernel_rfl) rfl (fun _ _ _ h => h) (by rw [ByteArray.size_append]; show 1 + de.size + mk.size ≤ _; omega) hT1 ?_
            go_simp
            refine wpAnyH_ready (rs := [11]) (by kernel_rfl) (by simp) ?_
            refine AllReadyH.cons rfl (fun K hK => ?_) AllReadyH.nil
            go_simp
            refine (CTw _).mono ?_
            rintro e y2 ⟨rfl, by2⟩
            have hT2 := hT1.trans (by2.mono hT1.size)
            refine hK.out _ _ hT2 (fun _ => ?_)
            clear hK K by2
            go_simp
            refine held_add (fuel := 1) (i := 12) (x := so) (y := tw) rfl rfl rfl rfl (by kernel_rfl) (by kernel_rfl) (by kernel_rfl) rfl (fun _ _ _ h => h) (by omega) hT2 ?_
            go_simp
            refine held_any (fuel := 0) (i := 13) (v := .string (so ++ tw)) rfl (by kernel_rfl) (by kernel_rfl) (by kernel_rfl) rfl (fun _ _ _ h => h) (fun _ _ => rfl) hT2 ?_
            go_simp
            refine wpAnyH_done (by kernel_rfl) ?_ _
            have HN : Hid (SX v w (.string (so ++ tw)) (bitsW v ++ timerP v (i + 1)) _) := (show SX v w (.string (so ++ tw)) (bitsW v ++ timerP v (i + 1)) _ by rw [HB.out, ← List.append_assoc]; exact H9.out.more hT2 HX.out)
            clear hS hT0 hT1 hT2 H9 KB
            go_wp2_with fail
            go_roundw
            case rel => exact ⟨i + 1, by omega, by go_num, HN.out⟩
            case measure => simp [intOf]; omega
          | false =>
            rw [hf0] at c0 CMk
            obtain ⟨C, hC⟩ : ∃ C, C = v.tC i := ⟨_, rfl⟩
            rw [← hC] at c1 CDe hcb
            by_cases hC0 : C = 0
            · have HB : Hid (timerP v (i + 1) = timerP v i) := seg_no (by simp only [hf0, ← hC, hC0]; rfl)
              subst hC0
              clear hC hf0
              have H9 : Hid (SX v w (.string so) (bitsW v ++ timerP v i) (wr.alloc (.cells #[.bool false, .int .u16 0] 27))) := H1.out.below ((Below.refl _ _).alloc (Nat.le_refl _) _)
              clear H1
              go_wp2_with fail
              go_roundw
              case rel => exact ⟨i + 1, by omega, by go_num, by rw [HB.out]; exact H9.out⟩
              case measure => simp [intOf]; omega
            · have HB : Hid (timerP v (i + 1) = timerP v i ++ [⟨7, i, v.tC i, v.tD i, false, 0, []⟩]) := seg_yes (by simp only [hf0, ← hC]; simp [hC0])
              have hC1 : (0 : Int) < (C : Int) := by omega
              clear hC hf0
              have hwC : IntKind.i64.wrap ((C : Nat) : Int) = ((C : Nat) : Int) := wrapM (by omega)
              obtain ⟨W9, hW9⟩ : ∃ W9, W9 = wr.alloc (.cells #[.bool false, .int .u16 (C : Nat)] 27) := ⟨_, rfl⟩
              have b9 : Below wr.heap.size wr W9 := by rw [hW9]; exact (Below.refl _ _).alloc (Nat.le_refl _) _
              have k9 : ∀ (j : Nat) (u : Value), #[.bool false, .int .u16 (C : Nat)][j]? = some u → W9.cell? ⟨wr.heap.size, j, none⟩ = some u := fun j u hu => by rw [hW9]; simp [hu]
              have z9 : wr.heap.size < W9.heap.size := by rw [hW9]; simp
              have KB : ∀ w', Below W9.heap.size W9 w' → ∀ (j : Nat) (u : Value), #[.bool false, .int .u16 (C : Nat)][j]? = some u → w'.cell? ⟨wr.heap.size, j, none⟩ = some u := fun w' hw' j u hu => (hw'.cell (p := ⟨wr.heap.size, j, none⟩) z9).trans (k9 j u hu)
              have H9 : Hid (SX v w (.string so) (bitsW v ++ timerP v i) W9) := H1.out.below b9
              have hS : Below W9.heap.size W9 W9.drew := (Below.refl _ _).drew
              clear H1 b9 k9 z9
              go_wp2_with fail
              rw [← hW9]
              clear hW9
              refine wp_region_held (S := Below W9.heap.size W9) (by kernel_rfl) ?_
              refine held_any (fuel := 13) (i := 0) (v := .string so) rfl (by kernel_rfl) (by kernel_rfl) (by kernel_rfl) rfl (fun _ _ _ h => h) (fun _ _ => rfl) hS ?_
              go_simp
              refine held_any (fuel := 12) (i := 1) (v := .int .i64 i) rfl (by kernel_rfl) (by kernel_rfl) (by kernel_rfl) rfl (fun _ _ _ h => h) (fun _ _ => rfl) hS ?_
              go_simp
              refine held_any (fuel := 11) (i := 2) (v := .pointer (some ⟨wr.heap.size, 1, none⟩)) rfl (by kernel_rfl) (by kernel_rfl) (by kernel_rfl) rfl (fun _ _ _ h => h) (fun _ _ => by simp [go_sem]) hS ?_
              go_simp
              refine held_load (fuel := 10) (i := 3) (t := 25) (v := .int .u16 (C : Nat)) rfl rfl rfl (by kernel_rfl) (by kernel_rfl) (by kernel_rfl) rfl (fun _ _ _ h => h) (fun w' hw' => load_u16M (KB w' hw' 1 _ rfl)) hS ?_
              go_simp
              refine held_any (fuel := 9) (i := 4) (v := .int .i64 (C : Nat)) rfl (by kernel_rfl) (by kernel_rfl) (by kernel_rfl) rfl (fun _ _ _ h => h) (fun _ _ => by go_simp) hS ?_
              go_simp
              refine held_any (fuel := 8) (i := 7) (v := .pointer (some ⟨wr.heap.size, 0, none⟩)) rfl (by kernel_rfl) (by kernel_rfl) (by kernel_rfl) rfl (fun _ _ _ h => h) (fun _ _ => by simp [go_sem]) hS ?_
              go_simp
              refine held_load (fuel := 7) (i := 8) (t := 4) (v := .bool false) rfl rfl rfl (by kernel_rfl) (by kernel_rfl) (by kernel_rfl) rfl (fun _ _ _ h => h) (fun w' hw' => load_boolM (KB w' hw' 0 _ rfl)) hS ?_
              go_simp
              refine wpAnyH_ready (rs := [5]) (by kernel_rfl) (by simp) ?_
              refine AllReadyH.cons rfl (fun K hK => ?_) AllReadyH.nil
              go_simp
              refine (CDe _).mono ?_
              rintro e y0 ⟨rfl, by0⟩
              have hT0 := hS.trans (by0.mono hS.size)
              refine hK.out _ _ hT0 (fun _ => ?_)
              clear hK K by0
              go_simp
              refine held_add (fuel := 5) (i := 6) (x := (⟨#[61]⟩ : ByteArray)) (y := de) rfl rfl rfl rfl (by kernel_rfl) (by kernel_rfl) (by kernel_rfl) rfl (fun _ _ _ h => h) (by show 1 + de.size ≤ _; omega) hT0 ?_
              go_simp
              refine wpAnyH_ready (rs := [9]) (by kernel_rfl) (by simp) ?_
              refine AllReadyH.cons rfl (fun K hK => ?_) AllReadyH.nil
              go_simp
              refine (CMk _).mono ?_
              rintro e y1 ⟨rfl, by1⟩
              have hT1 := hT0.trans (by1.mono hT0.size)
              refine hK.out _ _ hT1 (fun _ => ?_)
              clear hK K by1
              go_simp
              refine held_add (fuel := 3) (i := 10) (x := (⟨#[61]⟩ : ByteArray) ++ de) (y := mk) rfl rfl rfl rfl (by kernel_rfl) (by kernel_rfl) (by kernel_rfl) rfl (fun _ _ _ h => h) (by rw [ByteArray.size_append]; show 1 + de.size + mk.size ≤ _; omega) hT1 ?_
              go_simp
              refine wpAnyH_ready (rs := [11]) (by kernel_rfl) (by simp) ?_
              refine AllReadyH.cons rfl (fun K hK => ?_) AllReadyH.nil
              go_simp
              refine (CTw _).mono ?_
              rintro e y2 ⟨rfl, by2⟩
              have hT2 := hT1.trans (by2.mono hT1.size)
              refine hK.out _ _ hT2 (fun _ => ?_)
              clear hK K by2
              go_simp
              refine held_add (fuel := 1) (i := 12) (x := so) (y := tw) rfl rfl rfl rfl (by kernel_rfl) (by kernel_rfl) (by kernel_rfl) rfl (fun _ _ _ h => h) (by omega) hT2 ?_
              go_simp
              refine held_any (fuel := 0) (i := 13) (v := .string (so ++ tw)) rfl (by kernel_rfl) (by kernel_rfl) (by kernel_rfl) rfl (fun _ _ _ h => h) (fun _ _ => rfl) hT2 ?_
              go_simp
              refine wpAnyH_done (by kernel_rfl) ?_ _
              have HN : Hid (SX v w (.string (so ++ tw)) (bitsW v ++ timerP v (i + 1)) _) := (show SX v w (.string (so ++ tw)) (bitsW v ++ timerP v (i + 1)) _ by rw [HB.out, ← List.append_assoc]; exact H9.out.more hT2 HX.out)
              clear hS hT0 hT1 hT2 H9 KB
              go_wp2_with fail
              go_roundw
              case rel => exact ⟨i + 1, by omega, by go_num, HN.out⟩
              case measure => simp [intOf]; omega
        · obtain rfl : i = 16 := by omega
          have H0 : Hid (SX v w u3 (bitsW v ++ timerW v ++ counterP v 0) wr) := (show SX v w u3 (bitsW v ++ timerW v ++ []) wr by rw [List.append_nil]; exact hS)
          clear hS hin hi hcT
          rw [show ((16 : Nat) : Int) = 16 from rfl]
          go_wp2_with fail
          go_loopw [3, 7] (fun s iv wr => ∃ i : Nat, i ≤ 16 ∧ iv = .int .i64 i ∧ SX v w s (bitsW v ++ timerW v ++ counterP v i) wr) (fun _ iv _ => 16 - (intOf iv).toNat)
          case atStart => exact ⟨0, by omega, rfl, H0.out⟩
          case round =>
            clear H0
            obtain ⟨i, hi, rfl, hS⟩ := hrel
            by_cases hin : i < 16
            · have hin' : (0 : Int) ≤ (i : Int) ∧ (i : Int) < 16 := by omega
              obtain ⟨M, hM⟩ : ∃ M, (bitsW v ++ timerW v ++ counterP v i) ++ M = allW v tx := by
                exact pre_counter v tx hi
              have p1 := PL hM
              obtain ⟨so, hso, zso⟩ := ba_of (spL (bitsW v ++ timerW v ++ counterP v i))
              rw [← zso] at p1
              have e3 := hS.1
              rw [← hso] at e3
              subst e3
              clear hM hso zso
              have c0 : wr.cell? ⟨w.heap.size, 37 + i * 3, none⟩ = some (.bool (v.cD i)) := (hS.2.1.c _ (by omega)).trans (congrArg some (MemV.cell_cD v i hin))
              have c1 : wr.cell? ⟨w.heap.size, 37 + i * 3 + 1, none⟩ = some (.bool (v.cL i)) := (hS.2.1.c _ (by omega)).trans (congrArg some (MemV.cell_cL v i hin))
              have c2 : wr.cell? ⟨w.heap.size, 37 + i * 3 + 2, none⟩ = some (.int .u16 (v.cC i : Nat)) := (hS.2.1.c _ (by omega)).trans (congrArg some (MemV.cell_cC v i hin))
              obtain ⟨de, hde, zde, CDe⟩ := dec_ba (v.cC i) (Nat.lt_trans (hcC i) (by omega))
              obtain ⟨mk, hmk, zmk, CMk⟩ := mark_ba (v.cD i) ⟨#[33]⟩
              obtain ⟨ml, hml, zml, CMl⟩ := mark_ba (v.cL i) ⟨#[43]⟩
              obtain ⟨tw, htw, ztw, CTw⟩ := dev_ba 8 i (61 :: countL (v.cC i) (v.cD i) (v.cL i)) ⟨8, i, v.cC i, v.cD i, v.cL i, 0, []⟩ ((⟨#[61]⟩ : ByteArray) ++ de ++ mk ++ ml) (by omega) (by have := count_len (v.cD i) (v.cL i) (hcC i); simp only [List.length_cons]; omega) (count_ba2 _ _ _ _ _ _ hde hmk hml) rfl
              have zmk : mk.size ≤ 1 := zmk
              have zml : ml.size ≤ 1 := zml
              have HX : Hid (tw = ⟨((⟨8, i, v.cC i, v.cD i, v.cL i, 0, []⟩ : Wd).text ++ [32]).toArray⟩) := htw
              have H1 : Hid (SX v w (.string so) (bitsW v ++ timerW v ++ counterP v i) wr) := hS
              have hcb := hcC i
              clear hS hde hmk htw hml
              cases hf0 : v.cD i with
              | true =>
                have HB : Hid (counterP v (i + 1) = counterP v i ++ [⟨8, i, v.cC i, v.cD i, v.cL i, 0, []⟩]) := seg_yes (by simp only [hf0]; simp)
                rw [hf0] at c0 CMk
                obtain ⟨b2, hb2⟩ : ∃ b2, b2 = v.cL i := ⟨_, rfl⟩
                rw [← hb2] at c1 CMl
                obtain ⟨C, hC⟩ : ∃ C, C = v.cC i := ⟨_, rfl⟩
                rw [← hC] at c2 CDe hcb
                clear hC hb2 hf0
                cases b2
                · skip
                  have hwC : IntKind.i64.wrap ((C : Nat) : Int) = ((C : Nat) : Int) := wrapM (by omega)
                  obtain ⟨W9, hW9⟩ : ∃ W9, W9 = wr.alloc (.cells #[.bool true, .bool false, .int .u16 (C : Nat)] 30) := ⟨_, rfl⟩
                  have b9 : Below wr.heap.size wr W9 := by rw [hW9]; exact (Below.refl _ _).alloc (Nat.le_refl _) _
                  have k9 : ∀ (j : Nat) (u : Value), #[.bool true, .bool false, .int .u16 (C : Nat)][j]? = some u → W9.cell? ⟨wr.heap.size, j, none⟩ = some u := fun j u hu => by rw [hW9]; simp [hu]
                  have z9 : wr.heap.size < W9.heap.size := by rw [hW9]; simp
                  have KB : ∀ w', Below W9.heap.size W9 w' → ∀ (j : Nat) (u : Value), #[.bool true, .bool false, .int .u16 (C : Nat)][j]? = some u → w'.cell? ⟨wr.heap.size, j, none⟩ = some u := fun w' hw' j u hu => (hw'.cell (p := ⟨wr.heap.size, j, none⟩) z9).trans (k9 j u hu)
                  have H9 : Hid (SX v w (.string so) (bitsW v ++ timerW v ++ counterP v i) W9) := H1.out.below b9
                  have hS : Below W9.heap.size W9 W9.drew := (Below.refl _ _).drew
                  clear H1 b9 k9 z9
                  go_wp2_with fail
                  rw [← hW9]
                  clear hW9
                  refine wp_region_held (S := Below W9.heap.size W9) (by kernel_rfl) ?_
                  refine held_any (fuel := 17) (i := 0) (v := .string so) rfl (by kernel_rfl) (by kernel_rfl) (by kernel_rfl) rfl (fun _ _ _ h => h) (fun _ _ => rfl) hS ?_
                  go_simp
                  refine held_any (fuel := 16) (i := 1) (v := .int .i64 i) rfl (by kernel_rfl) (by kernel_rfl) (by kernel_rfl) rfl (fun _ _ _ h => h) (fun _ _ => rfl) hS ?_
                  go_simp
                  refine held_any (fuel := 15) (i := 2) (v := .pointer (some ⟨wr.heap.size, 2, none⟩)) rfl (by kernel_rfl) (by kernel_rfl) (by kernel_rfl) rfl (fun _ _ _ h => h) (fun _ _ => by simp [go_sem]) hS ?_
                  go_simp
                  refine held_load (fuel := 14) (i := 3) (t := 25) (v := .int .u16 (C : Nat)) rfl rfl rfl (by kernel_rfl) (by kernel_rfl) (by kernel_rfl) rfl (fun _ _ _ h => h) (fun w' hw' => load_u16M (KB w' hw' 2 _ rfl)) hS ?_
                  go_simp
                  refine held_any (fuel := 13) (i := 4) (v := .int .i64 (C : Nat)) rfl (by kernel_rfl) (by kernel_rfl) (by kernel_rfl) rfl (fun _ _ _ h => h) (fun _ _ => by go_simp) hS ?_
                  go_simp
                  refine held_any (fuel := 12) (i := 7) (v := .pointer (some ⟨wr.heap.size, 0, none⟩)) rfl (by kernel_rfl) (by kernel_rfl) (by kernel_rfl) rfl (fun _ _ _ h => h) (fun _ _ => by simp [go_sem]) hS ?_
                  go_simp
                  refine held_load (fuel := 11) (i := 8) (t := 4) (v := .bool true) rfl rfl rfl (by kernel_rfl) (by kernel_rfl) (by kernel_rfl) rfl (fun _ _ _ h => h) (fun w' hw' => load_boolM (KB w' hw' 0 _ rfl)) hS ?_
                  go_simp
                  refine held_any (fuel := 10) (i := 11) (v := .pointer (some ⟨wr.heap.size, 1, none⟩)) rfl (by kernel_rfl) (by kernel_rfl) (by kernel_rfl) rfl (fun _ _ _ h => h) (fun _ _ => by simp [go_sem]) hS ?_
                  go_simp
                  refine held_load (fuel := 9) (i := 12) (t := 4) (v := .bool false) rfl rfl rfl (by kernel_rfl) (by kernel_rfl) (by kernel_rfl) rfl (fun _ _ _ h => h) (fun w' hw' => load_boolM (KB w' hw' 1 _ rfl)) hS ?_
                  go_simp
                  refine wpAnyH_ready (rs := [5]) (by kernel_rfl) (by simp) ?_
                  refine AllReadyH.cons rfl (fun K hK => ?_) AllReadyH.nil
                  go_simp
                  refine (CDe _).mono ?_
                  rintro e y0 ⟨rfl, by0⟩
                  have hT0 := hS.trans (by0.mono hS.size)
                  refine hK.out _ _ hT0 (fun _ => ?_)
                  clear hK K by0
                  go_simp
                  refine held_add (fuel := 7) (i := 6) (x := (⟨#[61]⟩ : ByteArray)) (y := de) rfl rfl rfl rfl (by kernel_rfl) (by kernel_rfl) (by kernel_rfl) rfl (fun _ _ _ h => h) (by show 1 + de.size ≤ _; omega) hT0 ?_
                  go_simp
                  refine wpAnyH_ready (rs := [9]) (by kernel_rfl) (by simp) ?_
                  refine AllReadyH.cons rfl (fun K hK => ?_) AllReadyH.nil
                  go_simp
                  refine (CMk _).mono ?_
                  rintro e y1 ⟨rfl, by1⟩
                  have hT1 := hT0.trans (by1.mono hT0.size)
                  refine hK.out _ _ hT1 (fun _ => ?_)
                  clear hK K by1
                  go_simp
                  refine held_add (fuel := 5) (i := 10) (x := (⟨#[61]⟩ : ByteArray) ++ de) (y := mk) rfl rfl rfl rfl (by kernel_rfl) (by kernel_rfl) (by kernel_rfl) rfl (fun _ _ _ h => h) (by rw [ByteArray.size_append]; show 1 + de.size + mk.size ≤ _; omega) hT1 ?_
                  go_simp
                  refine wpAnyH_ready (rs := [13]) (by kernel_rfl) (by simp) ?_
                  refine AllReadyH.cons rfl (fun K hK => ?_) AllReadyH.nil
                  go_simp
                  refine (CMl _).mono ?_
                  rintro e y2 ⟨rfl, by2⟩
                  have hT2 := hT1.trans (by2.mono hT1.size)
                  refine hK.out _ _ hT2 (fun _ => ?_)
                  clear hK K by2
                  go_simp
                  refine held_add (fuel := 3) (i := 14) (x := (⟨#[61]⟩ : ByteArray) ++ de ++ mk) (y := ml) rfl rfl rfl rfl (by kernel_rfl) (by kernel_rfl) (by kernel_rfl) rfl (fun _ _ _ h => h) (by rw [ByteArray.size_append, ByteArray.size_append]; show 1 + de.size + mk.size + ml.size ≤ _; omega) hT2 ?_
                  go_simp
                  refine wpAnyH_ready (rs := [15]) (by kernel_rfl) (by simp) ?_
                  refine AllReadyH.cons rfl (fun K hK => ?_) AllReadyH.nil
                  go_simp
                  refine (CTw _).mono ?_
                  rintro e y3 ⟨rfl, by3⟩
                  have hT3 := hT2.trans (by3.mono hT2.size)
                  refine hK.out _ _ hT3 (fun _ => ?_)
                  clear hK K by3
                  go_simp
                  refine held_add (fuel := 1) (i := 16) (x := so) (y := tw) rfl rfl rfl rfl (by kernel_rfl) (by kernel_rfl) (by kernel_rfl) rfl (fun _ _ _ h => h) (by omega) hT3 ?_
                  go_simp
                  refine held_any (fuel := 0) (i := 17) (v := .string (so ++ tw)) rfl (by kernel_rfl) (by kernel_rfl) (by kernel_rfl) rfl (fun _ _ _ h => h) (fun _ _ => rfl) hT3 ?_
                  go_simp
                  refine wpAnyH_done (by kernel_rfl) ?_ _
                  have HN : Hid (SX v w (.string (so ++ tw)) (bitsW v ++ timerW v ++ counterP v (i + 1)) _) := (show SX v w (.string (so ++ tw)) (bitsW v ++ timerW v ++ counterP v (i + 1)) _ by rw [HB.out, ← List.append_assoc]; exact H9.out.more hT3 HX.out)
                  clear hS hT0 hT1 hT2 hT3 H9 KB
                  go_wp2_with fail
                  go_roundw
                  case rel => exact ⟨i + 1, by omega, by go_num, HN.out⟩
                  case measure => simp [intOf]; omega
                · skip
                  have hwC : IntKind.i64.wrap ((C : Nat) : Int) = ((C : Nat) : Int) := wrapM (by omega)
                  obtain ⟨W9, hW9⟩ : ∃ W9, W9 = wr.alloc (.cells #[.bool true, .bool true, .int .u16 (C : Nat)] 30) := ⟨_, rfl⟩
                  have b9 : Below wr.heap.size wr W9 := by rw [hW9]; exact (Below.refl _ _).alloc (Nat.le_refl _) _
                  have k9 : ∀ (j : Nat) (u : Value), #[.bool true, .bool true, .int .u16 (C : Nat)][j]? = some u → W9.cell? ⟨wr.heap.size, j, none⟩ = some u := fun j u hu => by rw [hW9]; simp [hu]
                  have z9 : wr.heap.size < W9.heap.size := by rw [hW9]; simp
                  have KB : ∀ w', Below W9.heap.size W9 w' → ∀ (j : Nat) (u : Value), #[.bool true, .bool true, .int .u16 (C : Nat)][j]? = some u → w'.cell? ⟨wr.heap.size, j, none⟩ = some u := fun w' hw' j u hu => (hw'.cell (p := ⟨wr.heap.size, j, none⟩) z9).trans (k9 j u hu)
                  have H9 : Hid (SX v w (.string so) (bitsW v ++ timerW v ++ counterP v i) W9) := H1.out.below b9
                  have hS : Below W9.heap.size W9 W9.drew := (Below.refl _ _).drew
                  clear H1 b9 k9 z9
                  go_wp2_with fail
                  rw [← hW9]
                  clear hW9
                  refine wp_region_held (S := Below W9.heap.size W9) (by kernel_rfl) ?_
                  refine held_any (fuel := 17) (i := 0) (v := .string so) rfl (by kernel_rfl) (by kernel_rfl) (by kernel_rfl) rfl (fun _ _ _ h => h) (fun _ _ => rfl) hS ?_
                  go_simp
                  refine held_any (fuel := 16) (i := 1) (v := .int .i64 i) rfl (by kernel_rfl) (by kernel_rfl) (by kernel_rfl) rfl (fun _ _ _ h => h) (fun _ _ => rfl) hS ?_
                  go_simp
                  refine held_any (fuel := 15) (i := 2) (v := .pointer (some ⟨wr.heap.size, 2, none⟩)) rfl (by kernel_rfl) (by kernel_rfl) (by kernel_rfl) rfl (fun _ _ _ h => h) (fun _ _ => by simp [go_sem]) hS ?_
                  go_simp
                  refine held_load (fuel := 14) (i := 3) (t := 25) (v := .int .u16 (C : Nat)) rfl rfl rfl (by kernel_rfl) (by kernel_rfl) (by kernel_rfl) rfl (fun _ _ _ h => h) (fun w' hw' => load_u16M (KB w' hw' 2 _ rfl)) hS ?_
                  go_simp
                  refine held_any (fuel := 13) (i := 4) (v := .int .i64 (C : Nat)) rfl (by kernel_rfl) (by kernel_rfl) (by kernel_rfl) rfl (fun _ _ _ h => h) (fun _ _ => by go_simp) hS ?_
                  go_simp
                  refine held_any (fuel := 12) (i := 7) (v := .pointer (some ⟨wr.heap.size, 0, none⟩)) rfl (by kernel_rfl) (by kernel_rfl) (by kernel_rfl) rfl (fun _ _ _ h => h) (fun _ _ => by simp [go_sem]) hS ?_
                  go_simp
                  refine held_load (fuel := 11) (i := 8) (t := 4) (v := .bool true) rfl rfl rfl (by kernel_rfl) (by kernel_rfl) (by kernel_rfl) rfl (fun _ _ _ h => h) (fun w' hw' => load_boolM (KB w' hw' 0 _ rfl)) hS ?_
                  go_simp
                  refine held_any (fuel := 10) (i := 11) (v := .pointer (some ⟨wr.heap.size, 1, none⟩)) rfl (by kernel_rfl) (by kernel_rfl) (by kernel_rfl) rfl (fun _ _ _ h => h) (fun _ _ => by simp [go_sem]) hS ?_
                  go_simp
                  refine held_load (fuel := 9) (i := 12) (t := 4) (v := .bool true) rfl rfl rfl (by kernel_rfl) (by kernel_rfl) (by kernel_rfl) rfl (fun _ _ _ h => h) (fun w' hw' => load_boolM (KB w' hw' 1 _ rfl)) hS ?_
                  go_simp
                  refine wpAnyH_ready (rs := [5]) (by kernel_rfl) (by simp) ?_
                  refine AllReadyH.cons rfl (fun K hK => ?_) AllReadyH.nil
                  go_simp
                  refine (CDe _).mono ?_
                  rintro e y0 ⟨rfl, by0⟩
                  have hT0 := hS.trans (by0.mono hS.size)
                  refine hK.out _ _ hT0 (fun _ => ?_)
                  clear hK K by0
                  go_simp
                  refine held_add (fuel := 7) (i := 6) (x := (⟨#[61]⟩ : ByteArray)) (y := de) rfl rfl rfl rfl (by kernel_rfl) (by kernel_rfl) (by kernel_rfl) rfl (fun _ _ _ h => h) (by show 1 + de.size ≤ _; omega) hT0 ?_
                  go_simp
                  refine wpAnyH_ready (rs := [9]) (by kernel_rfl) (by simp) ?_
                  refine AllReadyH.cons rfl (fun K hK => ?_) AllReadyH.nil
                  go_simp
                  refine (CMk _).mono ?_
                  rintro e y1 ⟨rfl, by1⟩
                  have hT1 := hT0.trans (by1.mono hT0.size)
                  refine hK.out _ _ hT1 (fun _ => ?_)
                  clear hK K by1
                  go_simp
                  refine held_add (fuel := 5) (i := 10) (x := (⟨#[61]⟩ : ByteArray) ++ de) (y := mk) rfl rfl rfl rfl (by kernel_rfl) (by kernel_rfl) (by kernel_rfl) rfl (fun _ _ _ h => h) (by rw [ByteArray.size_append]; show 1 + de.size + mk.size ≤ _; omega) hT1 ?_
                  go_simp
                  refine wpAnyH_ready (rs := [13]) (by kernel_rfl) (by simp) ?_
                  refine AllReadyH.cons rfl (fun K hK => ?_) AllReadyH.nil
                  go_simp
                  refine (CMl _).mono ?_
                  rintro e y2 ⟨rfl, by2⟩
                  have hT2 := hT1.trans (by2.mono hT1.size)
                  refine hK.out _ _ hT2 (fun _ => ?_)
                  clear hK K by2
                  go_simp
                  refine held_add (fuel := 3) (i := 14) (x := (⟨#[61]⟩ : ByteArray) ++ de ++ mk) (y := ml) rfl rfl rfl rfl (by kernel_rfl) (by kernel_rfl) (by kernel_rfl) rfl (fun _ _ _ h => h) (by rw [ByteArray.size_append, ByteArray.size_append]; show 1 + de.size + mk.size + ml.size ≤ _; omega) hT2 ?_
                  go_simp
                  refine wpAnyH_ready (rs := [15]) (by kernel_rfl) (by simp) ?_
                  refine AllReadyH.cons rfl (fun K hK => ?_) AllReadyH.nil
                  go_simp
                  refine (CTw _).mono ?_
                  rintro e y3 ⟨rfl, by3⟩
                  have hT3 := hT2.trans (by3.mono hT2.size)
                  refine hK.out _ _ hT3 (fun _ => ?_)
                  clear hK K by3
                  go_simp
                  refine held_add (fuel := 1) (i := 16) (x := so) (y := tw) rfl rfl rfl rfl (by kernel_rfl) (by kernel_rfl) (by kernel_rfl) rfl (fun _ _ _ h => h) (by omega) hT3 ?_
                  go_simp
                  refine held_any (fuel := 0) (i := 17) (v := .string (so ++ tw)) rfl (by kernel_rfl) (by kernel_rfl) (by kernel_rfl) rfl (fun _ _ _ h => h) (fun _ _ => rfl) hT3 ?_
                  go_simp
                  refine wpAnyH_done (by kernel_rfl) ?_ _
                  have HN : Hid (SX v w (.string (so ++ tw)) (bitsW v ++ timerW v ++ counterP v (i + 1)) _) := (show SX v w (.string (so ++ tw)) (bitsW v ++ timerW v ++ counterP v (i + 1)) _ by rw [HB.out, ← List.append_assoc]; exact H9.out.more hT3 HX.out)
                  clear hS hT0 hT1 hT2 hT3 H9 KB
                  go_wp2_with fail
                  go_roundw
                  case rel => exact ⟨i + 1, by omega, by go_num, HN.out⟩
                  case measure => simp [intOf]; omega
              | false =>
                rw [hf0] at c0 CMk
                cases hf1 : v.cL i with
                | true =>
                  have HB : Hid (counterP v (i + 1) = counterP v i ++ [⟨8, i, v.cC i, v.cD i, v.cL i, 0, []⟩]) := seg_yes (by simp only [hf0, hf1]; simp)
                  rw [hf1] at c1 CMl
                  obtain ⟨C, hC⟩ : ∃ C, C = v.cC i := ⟨_, rfl⟩
                  rw [← hC] at c2 CDe hcb
                  clear hC hf0 hf1
                  have hwC : IntKind.i64.wrap ((C : Nat) : Int) = ((C : Nat) : Int) := wrapM (by omega)
                  obtain ⟨W9, hW9⟩ : ∃ W9, W9 = wr.alloc (.cells #[.bool false, .bool true, .int .u16 (C : Nat)] 30) := ⟨_, rfl⟩
                  have b9 : Below wr.heap.size wr W9 := by rw [hW9]; exact (Below.refl _ _).alloc (Nat.le_refl _) _
                  have k9 : ∀ (j : Nat) (u : Value), #[.bool false, .bool true, .int .u16 (C : Nat)][j]? = some u → W9.cell? ⟨wr.heap.size, j, none⟩ = some u := fun j u hu => by rw [hW9]; simp [hu]
                  have z9 : wr.heap.size < W9.heap.size := by rw [hW9]; simp
                  have KB : ∀ w', Below W9.heap.size W9 w' → ∀ (j : Nat) (u : Value), #[.bool false, .bool true, .int .u16 (C : Nat)][j]? = some u → w'.cell? ⟨wr.heap.size, j, none⟩ = some u := fun w' hw' j u hu => (hw'.cell (p := ⟨wr.heap.size, j, none⟩) z9).trans (k9 j u hu)
                  have H9 : Hid (SX v w (.string so) (bitsW v ++ timerW v ++ counterP v i) W9) := H1.out.below b9
                  have hS : Below W9.heap.size W9 W9.drew := (Below.refl _ _).drew
                  clear H1 b9 k9 z9
                  go_wp2_with fail
                  rw [← hW9]
                  clear hW9
                  refine wp_region_held (S := Below W9.heap.size W9) (by kernel_rfl) ?_
                  refine held_any (fuel := 17) (i := 0) (v := .string so) rfl (by kernel_rfl) (by kernel_rfl) (by kernel_rfl) rfl (fun _ _ _ h => h) (fun _ _ => rfl) hS ?_
                  go_simp
                  refine held_any (fuel := 16) (i := 1) (v := .int .i64 i) rfl (by kernel_rfl) (by kernel_rfl) (by kernel_rfl) rfl (fun _ _ _ h => h) (fun _ _ => rfl) hS ?_
                  go_simp
                  refine held_any (fuel := 15) (i := 2) (v := .pointer (some ⟨wr.heap.size, 2, none⟩)) rfl (by kernel_rfl) (by kernel_rfl) (by kernel_rfl) rfl (fun _ _ _ h => h) (fun _ _ => by simp [go_sem]) hS ?_
                  go_simp
                  refine held_load (fuel := 14) (i := 3) (t := 25) (v := .int .u16 (C : Nat)) rfl rfl rfl (by kernel_rfl) (by kernel_rfl) (by kernel_rfl) rfl (fun _ _ _ h => h) (fun w' hw' => load_u16M (KB w' hw' 2 _ rfl)) hS ?_
                  go_simp
                  refine held_any (fuel := 13) (i := 4) (v := .int .i64 (C : Nat)) rfl (by kernel_rfl) (by kernel_rfl) (by kernel_rfl) rfl (fun _ _ _ h => h) (fun _ _ => by go_simp) hS ?_
                  go_simp
                  refine held_any (fuel := 12) (i := 7) (v := .pointer (some ⟨wr.heap.size, 0, none⟩)) rfl (by kernel_rfl) (by kernel_rfl) (by kernel_rfl) rfl (fun _ _ _ h => h) (fun _ _ => by simp [go_sem]) hS ?_
                  go_simp
                  refine held_load (fuel := 11) (i := 8) (t := 4) (v := .bool false) rfl rfl rfl (by kernel_rfl) (by kernel_rfl) (by kernel_rfl) rfl (fun _ _ _ h => h) (fun w' hw' => load_boolM (KB w' hw' 0 _ rfl)) hS ?_
                  go_simp
                  refine held_any (fuel := 10) (i := 11) (v := .pointer (some ⟨wr.heap.size, 1, none⟩)) rfl (by kernel_rfl) (by kernel_rfl) (by kernel_rfl) rfl (fun _ _ _ h => h) (fun _ _ => by simp [go_sem]) hS ?_
                  go_simp
                  refine held_load (fuel := 9) (i := 12) (t := 4) (v := .bool true) rfl rfl rfl (by kernel_rfl) (by kernel_rfl) (by kernel_rfl) rfl (fun _ _ _ h => h) (fun w' hw' => load_boolM (KB w' hw' 1 _ rfl)) hS ?_
                  go_simp
                  refine wpAnyH_ready (rs := [5]) (by kernel_rfl) (by simp) ?_
                  refine AllReadyH.cons rfl (fun K hK => ?_) AllReadyH.nil
                  go_simp
                  refine (CDe _).mono ?_
                  rintro e y0 ⟨rfl, by0⟩
                  have hT0 := hS.trans (by0.mono hS.size)
                  refine hK.out _ _ hT0 (fun _ => ?_)
                  clear hK K by0
                  go_simp
                  refine held_add (fuel := 7) (i := 6) (x := (⟨#[61]⟩ : ByteArray)) (y := de) rfl rfl rfl rfl (by kernel_rfl) (by kernel_rfl) (by kernel_rfl) rfl (fun _ _ _ h => h) (by show 1 + de.size ≤ _; omega) hT0 ?_
                  go_simp
                  refine wpAnyH_ready (rs := [9]) (by kernel_rfl) (by simp) ?_
                  refine AllReadyH.cons rfl (fun K hK => ?_) AllReadyH.nil
                  go_simp
                  refine (CMk _).mono ?_
                  rintro e y1 ⟨rfl, by1⟩
                  have hT1 := hT0.trans (by1.mono hT0.size)
                  refine hK.out _ _ hT1 (fun _ => ?_)
                  clear hK K by1
                  go_simp
                  refine held_add (fuel := 5) (i := 10) (x := (⟨#[61]⟩ : ByteArray) ++ de) (y := mk) rfl rfl rfl rfl (by kernel_rfl) (by kernel_rfl) (by kernel_rfl) rfl (fun _ _ _ h => h) (by rw [ByteArray.size_append]; show 1 + de.size + mk.size ≤ _; omega) hT1 ?_
                  go_simp
                  refine wpAnyH_ready (rs := [13]) (by kernel_rfl) (by simp) ?_
                  refine AllReadyH.cons rfl (fun K hK => ?_) AllReadyH.nil
                  go_simp
                  refine (CMl _).mono ?_
                  rintro e y2 ⟨rfl, by2⟩
                  have hT2 := hT1.trans (by2.mono hT1.size)
                  refine hK.out _ _ hT2 (fun _ => ?_)
                  clear hK K by2
                  go_simp
                  refine held_add (fuel := 3) (i := 14) (x := (⟨#[61]⟩ : ByteArray) ++ de ++ mk) (y := ml) rfl rfl rfl rfl (by kernel_rfl) (by kernel_rfl) (by kernel_rfl) rfl (fun _ _ _ h => h) (by rw [ByteArray.size_append, ByteArray.size_append]; show 1 + de.size + mk.size + ml.size ≤ _; omega) hT2 ?_
                  go_simp
                  refine wpAnyH_ready (rs := [15]) (by kernel_rfl) (by simp) ?_
                  refine AllReadyH.cons rfl (fun K hK => ?_) AllReadyH.nil
                  go_simp
                  refine (CTw _).mono ?_
                  rintro e y3 ⟨rfl, by3⟩
                  have hT3 := hT2.trans (by3.mono hT2.size)
                  refine hK.out _ _ hT3 (fun _ => ?_)
                  clear hK K by3
                  go_simp
                  refine held_add (fuel := 1) (i := 16) (x := so) (y := tw) rfl rfl rfl rfl (by kernel_rfl) (by kernel_rfl) (by kernel_rfl) rfl (fun _ _ _ h => h) (by omega) hT3 ?_
                  go_simp
                  refine held_any (fuel := 0) (i := 17) (v := .string (so ++ tw)) rfl (by kernel_rfl) (by kernel_rfl) (by kernel_rfl) rfl (fun _ _ _ h => h) (fun _ _ => rfl) hT3 ?_
                  go_simp
                  refine wpAnyH_done (by kernel_rfl) ?_ _
                  have HN : Hid (SX v w (.string (so ++ tw)) (bitsW v ++ timerW v ++ counterP v (i + 1)) _) := (show SX v w (.string (so ++ tw)) (bitsW v ++ timerW v ++ counterP v (i + 1)) _ by rw [HB.out, ← List.append_assoc]; exact H9.out.more hT3 HX.out)
                  clear hS hT0 hT1 hT2 hT3 H9 KB
                  go_wp2_with fail
                  go_roundw
                  case rel => exact ⟨i + 1, by omega, by go_num, HN.out⟩
                  case measure => simp [intOf]; omega
                | false =>
                  rw [hf1] at c1 CMl
                  obtain ⟨C, hC⟩ : ∃ C, C = v.cC i := ⟨_, rfl⟩
                  rw [← hC] at c2 CDe hcb
                  by_cases hC0 : C = 0
                  · have HB : Hid (counterP v (i + 1) = counterP v i) := seg_no (by simp only [hf0, hf1, ← hC, hC0]; rfl)
                    subst hC0
                    clear hC hf0 hf1
                    have H9 : Hid (SX v w (.string so) (bitsW v ++ timerW v ++ counterP v i) (wr.alloc (.cells #[.bool false, .bool false, .int .u16 0] 30))) := H1.out.below ((Below.refl _ _).alloc (Nat.le_refl _) _)
                    clear H1
                    go_wp2_with fail
                    go_roundw
                    case rel => exact ⟨i + 1, by omega, by go_num, by rw [HB.out]; exact H9.out⟩
                    case measure => simp [intOf]; omega
                  · have HB : Hid (counterP v (i + 1) = counterP v i ++ [⟨8, i, v.cC i, v.cD i, v.cL i, 0, []⟩]) := seg_yes (by simp only [hf0, hf1, ← hC]; simp [hC0])
                    have hC1 : (0 : Int) < (C : Int) := by omega
                    clear hC hf0 hf1
                    have hwC : IntKind.i64.wrap ((C : Nat) : Int) = ((C : Nat) : Int) := wrapM (by omega)
                    obtain ⟨W9, hW9⟩ : ∃ W9, W9 = wr.alloc (.cells #[.bool false, .bool false, .int .u16 (C : Nat)] 30) := ⟨_, rfl⟩
                    have b9 : Below wr.heap.size wr W9 := by rw [hW9]; exact (Below.refl _ _).alloc (Nat.le_refl _) _
                    have k9 : ∀ (j : Nat) (u : Value), #[.bool false, .bool false, .int .u16 (C : Nat)][j]? = some u → W9.cell? ⟨wr.heap.size, j, none⟩ = some u := fun j u hu => by rw [hW9]; simp [hu]
                    have z9 : wr.heap.size < W9.heap.size := by rw [hW9]; simp
                    have KB : ∀ w', Below W9.heap.size W9 w' → ∀ (j : Nat) (u : Value), #[.bool false, .bool false, .int .u16 (C : Nat)][j]? = some u → w'.cell? ⟨wr.heap.size, j, none⟩ = some u := fun w' hw' j u hu => (hw'.cell (p := ⟨wr.heap.size, j, none⟩) z9).trans (k9 j u hu)
                    have H9 : Hid (SX v w (.string so) (bitsW v ++ timerW v ++ counterP v i) W9) := H1.out.below b9
                    have hS : Below W9.heap.size W9 W9.drew := (Below.refl _ _).drew
                    clear H1 b9 k9 z9
                    go_wp2_with fail
                    rw [← hW9]
                    clear hW9
                    refine wp_region_held (S := Below W9.heap.size W9) (by kernel_rfl) ?_
                    refine held_any (fuel := 17) (i := 0) (v := .string so) rfl (by kernel_rfl) (by kernel_rfl) (by kernel_rfl) rfl (fun _ _ _ h => h) (fun _ _ => rfl) hS ?_
                    go_simp
                    refine held_any (fuel := 16) (i := 1) (v := .int .i64 i) rfl (by kernel_rfl) (by kernel_rfl) (by kernel_rfl) rfl (fun _ _ _ h => h) (fun _ _ => rfl) hS ?_
                    go_simp
                    refine held_any (fuel := 15) (i := 2) (v := .pointer (some ⟨wr.heap.size, 2, none⟩)) rfl (by kernel_rfl) (by kernel_rfl) (by kernel_rfl) rfl (fun _ _ _ h => h) (fun _ _ => by simp [go_sem]) hS ?_
                    go_simp
                    refine held_load (fuel := 14) (i := 3) (t := 25) (v := .int .u16 (C : Nat)) rfl rfl rfl (by kernel_rfl) (by kernel_rfl) (by kernel_rfl) rfl (fun _ _ _ h => h) (fun w' hw' => load_u16M (KB w' hw' 2 _ rfl)) hS ?_
                    go_simp
                    refine held_any (fuel := 13) (i := 4) (v := .int .i64 (C : Nat)) rfl (by kernel_rfl) (by kernel_rfl) (by kernel_rfl) rfl (fun _ _ _ h => h) (fun _ _ => by go_simp) hS ?_
                    go_simp
                    refine held_any (fuel := 12) (i := 7) (v := .pointer (some ⟨wr.heap.size, 0, none⟩)) rfl (by kernel_rfl) (by kernel_rfl) (by kernel_rfl) rfl (fun _ _ _ h => h) (fun _ _ => by simp [go_sem]) hS ?_
                    go_simp
                    refine held_load (fuel := 11) (i := 8) (t := 4) (v := .bool false) rfl rfl rfl (by kernel_rfl) (by kernel_rfl) (by kernel_rfl) rfl (fun _ _ _ h => h) (fun w' hw' => load_boolM (KB w' hw' 0 _ rfl)) hS ?_
                    go_simp
                    refine held_any (fuel := 10) (i := 11) (v := .pointer (some ⟨wr.heap.size, 1, none⟩)) rfl (by kernel_rfl) (by kernel_rfl) (by kernel_rfl) rfl (fun _ _ _ h => h) (fun _ _ => by simp [go_sem]) hS ?_
                    go_simp
                    refine held_load (fuel := 9) (i := 12) (t := 4) (v := .bool false) rfl rfl rfl (by kernel_rfl) (by kernel_rfl) (by kernel_rfl) rfl (fun _ _ _ h => h) (fun w' hw' => load_boolM (KB w' hw' 1 _ rfl)) hS ?_
                    go_simp
                    refine wpAnyH_ready (rs := [5]) (by kernel_rfl) (by simp) ?_
                    refine AllReadyH.cons rfl (fun K hK => ?_) AllReadyH.nil
                    go_simp
                    refine (CDe _).mono ?_
                    rintro e y0 ⟨rfl, by0⟩
                    have hT0 := hS.trans (by0.mono hS.size)
                    refine hK.out _ _ hT0 (fun _ => ?_)
                    clear hK K by0
                    go_simp
                    refine held_add (fuel := 7) (i := 6) (x := (⟨#[61]⟩ : ByteArray)) (y := de) rfl rfl rfl rfl (by kernel_rfl) (by kernel_rfl) (by kernel_rfl) rfl (fun _ _ _ h => h) (by show 1 + de.size ≤ _; omega) hT0 ?_
                    go_simp
                    refine wpAnyH_ready (rs := [9]) (by kernel_rfl) (by simp) ?_
                    refine AllReadyH.cons rfl (fun K hK => ?_) AllReadyH.nil
                    go_simp
                    refine (CMk _).mono ?_
                    rintro e y1 ⟨rfl, by1⟩
                    have hT1 := hT0.trans (by1.mono hT0.size)
                    refine hK.out _ _ hT1 (fun _ => ?_)
                    clear hK K by1
                    go_simp
                    refine held_add (fuel := 5) (i := 10) (x := (⟨#[61]⟩ : ByteArray) ++ de) (y := mk) rfl rfl rfl rfl (by kernel_rfl) (by kernel_rfl) (by kernel_rfl) rfl (fun _ _ _ h => h) (by rw [ByteArray.size_append]; show 1 + de.size + mk.size ≤ _; omega) hT1 ?_
                    go_simp
                    refine wpAnyH_ready (rs := [13]) (by kernel_rfl) (by simp) ?_
                    refine AllReadyH.cons rfl (fun K hK => ?_) AllReadyH.nil
                    go_simp
                    refine (CMl _).mono ?_
                    rintro e y2 ⟨rfl, by2⟩
                    have hT2 := hT1.trans (by2.mono hT1.size)
                    refine hK.out _ _ hT2 (fun _ => ?_)
                    clear hK K by2
                    go_simp
                    refine held_add (fuel := 3) (i := 14) (x := (⟨#[61]⟩ : ByteArray) ++ de ++ mk) (y := ml) rfl rfl rfl rfl (by kernel_rfl) (by kernel_rfl) (by kernel_rfl) rfl (fun _ _ _ h => h) (by rw [ByteArray.size_append, ByteArray.size_append]; show 1 + de.size + mk.size + ml.size ≤ _; omega) hT2 ?_
                    go_simp
                    refine wpAnyH_ready (rs := [15]) (by kernel_rfl) (by simp) ?_
                    refine AllReadyH.cons rfl (fun K hK => ?_) AllReadyH.nil
                    go_simp
                    refine (CTw _).mono ?_
                    rintro e y3 ⟨rfl, by3⟩
                    have hT3 := hT2.trans (by3.mono hT2.size)
                    refine hK.out _ _ hT3 (fun _ => ?_)
                    clear hK K by3
                    go_simp
                    refine held_add (fuel := 1) (i := 16) (x := so) (y := tw) rfl rfl rfl rfl (by kernel_rfl) (by kernel_rfl) (by kernel_rfl) rfl (fun _ _ _ h => h) (by omega) hT3 ?_
                    go_simp
                    refine held_any (fuel := 0) (i := 17) (v := .string (so ++ tw)) rfl (by kernel_rfl) (by kernel_rfl) (by kernel_rfl) rfl (fun _ _ _ h => h) (fun _ _ => rfl) hT3 ?_
                    go_simp
                    refine wpAnyH_done (by kernel_rfl) ?_ _
                    have HN : Hid (SX v w (.string (so ++ tw)) (bitsW v ++ timerW v ++ counterP v (i + 1)) _) := (show SX v w (.string (so ++ tw)) (bitsW v ++ timerW v ++ counterP v (i + 1)) _ by rw [HB.out, ← List.append_assoc]; exact H9.out.more hT3 HX.out)
                    clear hS hT0 hT1 hT2 hT3 H9 KB
                    go_wp2_with fail
                    go_roundw
                    case rel => exact ⟨i + 1, by omega, by go_num, HN.out⟩
                    case measure => simp [intOf]; omega
            · obtain rfl : i = 16 := by omega
              have H0 : Hid (SX v w u3 (bitsW v ++ timerW v ++ counterW v ++ intP v 0) wr) := (show SX v w u3 (bitsW v ++ timerW v ++ counterW v ++ []) wr by rw [List.append_nil]; exact hS)
              clear hS hin hi hcC
              rw [show ((16 : Nat) : Int) = 16 from rfl]
              go_wp2_with fail
              go_loopw [3, 9] (fun s iv wr => ∃ i : Nat, i ≤ 32 ∧ iv = .int .i64 i ∧ SX v w s (bitsW v ++ timerW v ++ counterW v ++ intP v i) wr) (fun _ iv _ => 32 - (intOf iv).toNat)
              case atStart => exact ⟨0, by omega, rfl, H0.out⟩
              case round =>
                clear H0
                obtain ⟨i, hi, rfl, hS⟩ := hrel
                by_cases hin : i < 32
                · have hin' : (0 : Int) ≤ (i : Int) ∧ (i : Int) < 32 := by omega
                  obtain ⟨M, hM⟩ : ∃ M, (bitsW v ++ timerW v ++ counterW v ++ intP v i) ++ M = allW v tx := by
                    exact pre_int v tx hi
                  have p1 := PL hM
                  obtain ⟨so, hso, zso⟩ := ba_of (spL (bitsW v ++ timerW v ++ counterW v ++ intP v i))
                  rw [← zso] at p1
                  have e3 := hS.1
                  rw [← hso] at e3
                  subst e3
                  clear hM hso zso
                  have c0 : wr.cell? ⟨w.heap.size, 85 + i, none⟩ = some (.int .i16 (v.d i)) := (hS.2.1.c _ (by omega)).trans (congrArg some (MemV.cell_d v i hin))
                  obtain ⟨de, hde, zde⟩ := ba_of (Lib.itoa (v.d i))
                  have zd6 := itoa_len6 (hd i).1 (hd i).2
                  rw [← zde] at zd6
                  have CDe : ∀ w, Calls Tryz.prog 51 #[.int .i64 (v.d i)] w fun e w' => e = .returned (.string de) ∧ Below w.heap.size w w' := fun w => by rw [hde]; exact spec_dec (v.d i) w (by have := (hd i).1; omega) (by have := (hd i).2; omega)
                  obtain ⟨tw, htw, ztw, CTw⟩ := dev_ba 9 i (61 :: Lib.itoa (v.d i)) ⟨9, i, 0, false, false, v.d i, []⟩ ((⟨#[61]⟩ : ByteArray) ++ de) (by omega) (by have := itoa_len6 (hd i).1 (hd i).2; simp only [List.length_cons]; omega) (by rw [hde, show (⟨#[61]⟩ : ByteArray) = ⟨([61] : List UInt8).toArray⟩ from rfl, str_cat]; rfl) rfl
                  have HX : Hid (tw = ⟨((⟨9, i, 0, false, false, v.d i, []⟩ : Wd).text ++ [32]).toArray⟩) := htw
                  have H1 : Hid (SX v w (.string so) (bitsW v ++ timerW v ++ counterW v ++ intP v i) wr) := hS
                  obtain ⟨z, hz⟩ : ∃ z, z = v.d i := ⟨_, rfl⟩
                  have hz1 := hd i
                  rw [← hz] at c0 CDe hz1
                  clear hS hde htw zde
                  by_cases hb : z = 0
                  · have HB : Hid (intP v (i + 1) = intP v i) := seg_no (by rw [← hz, hb]; rfl)
                    subst hb
                    clear hz CDe CTw
                    go_wp2_with fail
                    go_roundw
                    case rel => exact ⟨i + 1, by omega, by go_num, by rw [HB.out]; exact H1.out⟩
                    case measure => simp [intOf]; omega
                  · have hb' : (z == 0) = false := by simpa using hb
                    have HB : Hid (intP v (i + 1) = intP v i ++ [⟨9, i, 0, false, false, v.d i, []⟩]) := seg_yes (by rw [← hz]; simpa using hb)
                    clear hz
                    go_wp2_with fail
                    refine (CDe _).mono ?_
                    rintro e w3 ⟨rfl, b3⟩
                    have H3 : Hid (SX v w (.string so) (bitsW v ++ timerW v ++ counterW v ++ intP v i) w3) := H1.out.below b3
                    clear b3 H1
                    go_wp2_with fail
                    refine (CTw _).mono ?_
                    rintro e w4 ⟨rfl, b4⟩
                    have HN : Hid (SX v w (.string (so ++ tw)) (bitsW v ++ timerW v ++ counterW v ++ intP v (i + 1)) w4) := (show SX v w (.string (so ++ tw)) (bitsW v ++ timerW v ++ counterW v ++ intP v (i + 1)) w4 by rw [HB.out, ← List.append_assoc]; exact H3.out.more b4 HX.out)
                    clear b4 H3
                    go_wp2_with fail
                    go_roundw
                    case rel => exact ⟨i + 1, by omega, by go_num, HN.out⟩
                    case measure => simp [intOf]; omega
                · obtain rfl : i = 32 := by omega
                  have H0 : Hid (SX v w u3 (bitsW v ++ timerW v ++ counterW v ++ intW v ++ realP tx 0) wr) := (show SX v w u3 (bitsW v ++ timerW v ++ counterW v ++ intW v ++ []) wr by rw [List.append_nil]; exact hS)
                  clear hS hin hi 
                  rw [show ((32 : Nat) : Int) = 32 from rfl]
                  go_wp2_with fail
                  go_loopw [3, 10] (fun s iv wr => ∃ i : Nat, i ≤ 16 ∧ iv = .int .i64 i ∧ SX v w s (bitsW v ++ timerW v ++ counterW v ++ intW v ++ realP tx i) wr) (fun _ iv _ => 16 - (intOf iv).toNat)
                  case atStart => exact ⟨0, by omega, rfl, H0.out⟩
                  case round =>
                    clear H0
                    obtain ⟨i, hi, rfl, hS⟩ := hrel
                    by_cases hin : i < 16
                    · have hin' : (0 : Int) ≤ (i : Int) ∧ (i : Int) < 16 := by omega
                      obtain ⟨M, hM⟩ : ∃ M, (bitsW v ++ timerW v ++ counterW v ++ intW v ++ realP tx i) ++ M = allW v tx := by
                        exact pre_real v tx hi
                      have p1 := PL hM
                      obtain ⟨so, hso, zso⟩ := ba_of (spL (bitsW v ++ timerW v ++ counterW v ++ intW v ++ realP tx i))
                      rw [← zso] at p1
                      have e3 := hS.1
                      rw [← hso] at e3
                      subst e3
                      clear hM hso zso
                      have c0 : wr.cell? ⟨w.heap.size, 117 + i, none⟩ = some (.float .f64 (v.r i)) := (hS.2.1.c _ (by omega)).trans (congrArg some (MemV.cell_r v i hin))
                      obtain ⟨tw, htw, ztw, CTw⟩ := dev_ba 10 i (61 :: tx i) ⟨10, i, 0, false, false, 0, tx i⟩ ((⟨#[61]⟩ : ByteArray) ++ ⟨(tx i).toArray⟩) (by omega) (by have := HV.out.2 i hin; simp only [List.length_cons]; omega) (by rw [show (⟨#[61]⟩ : ByteArray) = ⟨([61] : List UInt8).toArray⟩ from rfl, str_cat]; rfl) rfl
                      have HX : Hid (tw = ⟨((⟨10, i, 0, false, false, 0, tx i⟩ : Wd).text ++ [32]).toArray⟩) := htw
                      have H1 : Hid (SX v w (.string so) (bitsW v ++ timerW v ++ counterW v ++ intW v ++ realP tx i) wr) := hS
                      have zt := HV.out.2 i hin
                      have CI := CR i wr hin
                      clear hS htw
                      by_cases hb : tx i = [48]
                      · have HB : Hid (realP tx (i + 1) = realP tx i) := seg_no (by rw [hb]; rfl)
                        rw [hb] at CI
                        clear hb CTw
                        go_wp2_with fail
                        refine CI.mono ?_
                        rintro e w3 ⟨rfl, b3⟩
                        have H3 : Hid (SX v w (.string so) (bitsW v ++ timerW v ++ counterW v ++ intW v ++ realP tx i) w3) := H1.out.below b3
                        clear b3 CI H1 c0
                        go_wp2_with fail
                        go_roundw
                        case rel => exact ⟨i + 1, by omega, by go_num, by rw [HB.out]; exact H3.out⟩
                        case measure => simp [intOf]; omega
                      · have hq : (tx i == [48]) = false := beq_eq_false_iff_ne.2 hb
                        have HB : Hid (realP tx (i + 1) = realP tx i ++ [⟨10, i, 0, false, false, 0, tx i⟩]) := seg_yes (by simpa using hb)
                        clear hb
                        go_wp2_with fail
                        refine CI.mono ?_
                        rintro e w2 ⟨rfl, b2⟩
                        have H2 : Hid (SX v w (.string so) (bitsW v ++ timerW v ++ counterW v ++ intW v ++ realP tx i) w2) := H1.out.below b2
                        have c2 : w2.cell? ⟨w.heap.size, 117 + i, none⟩ = some (.float .f64 (v.r i)) := (H2.out.2.1.c _ (by omega)).trans (congrArg some (MemV.cell_r v i hin))
                        have CI2 := CR i w2 hin
                        clear b2 CI H1 c0
                        go_wp2_with fail
                        refine CI2.mono ?_
                        rintro e w3 ⟨rfl, b3⟩
                        have H1 : Hid (SX v w (.string so) (bitsW v ++ timerW v ++ counterW v ++ intW v ++ realP tx i) w2) := H2.out
                        clear CI2 H2 c2
                        have H3 : Hid (SX v w (.string so) (bitsW v ++ timerW v ++ counterW v ++ intW v ++ realP tx i) w3) := H1.out.below b3
                        clear b3 H1
                        go_wp2_with fail
                        refine (CTw _).mono ?_
                        rintro e w4 ⟨rfl, b4⟩
                        have HN : Hid (SX v w (.string (so ++ tw)) (bitsW v ++ timerW v ++ counterW v ++ intW v ++ realP tx (i + 1)) w4) := (show SX v w (.string (so ++ tw)) (bitsW v ++ timerW v ++ counterW v ++ intW v ++ realP tx (i + 1)) w4 by rw [HB.out, ← List.append_assoc]; exact H3.out.more b4 HX.out)
                        clear b4 H3
                        go_wp2_with fail
                        go_roundw
                        case rel => exact ⟨i + 1, by omega, by go_num, HN.out⟩
                        case measure => simp [intOf]; omega
                    · obtain rfl : i = 16 := by omega
                      rw [show ((16 : Nat) : Int) = 16 from rfl]
                      have hM : (bitsW v ++ timerW v ++ counterW v ++ intW v ++ realW tx) ++ (timeW v ++ (ranW v ++ faultW v)) = allW v tx := by unfold allW; simp
                      have p1 := PL hM
                      obtain ⟨so, hso, zso⟩ := ba_of (spL (bitsW v ++ timerW v ++ counterW v ++ intW v ++ realW tx))
                      rw [← zso] at p1
                      have e3 : u3 = .string so := hS.1.trans (by rw [hso]; rfl)
                      subst e3
                      obtain ⟨de, hde, zde, CDe⟩ := dec_ba v.time htm
                      obtain ⟨tb, htb⟩ : ∃ tb, tb = decide (0 < v.time) := ⟨_, rfl⟩
                      obtain ⟨m1, hm1, zm1, CM1⟩ := mark_ba tb ((⟨#[116, 105, 109, 101, 61]⟩ : ByteArray) ++ de ++ (⟨#[32]⟩ : ByteArray))
                      obtain ⟨m2, hm2, zm2, CM2⟩ := mark_ba v.ran ⟨#[114, 97, 110, 32]⟩
                      obtain ⟨m3, hm3, zm3, CM3⟩ := mark_ba v.fault ⟨#[102, 97, 117, 108, 116, 32]⟩
                      have HF : Hid (so ++ m1 ++ m2 ++ m3 = ⟨(spL (allW v tx)).toArray⟩) := fin_ba v tx so m1 m2 m3 hso (time_ba v tb de m1 htb hde hm1) (ran_ba v m2 hm2) (fault_ba v m3 hm3)
                      have zm2 : m2.size ≤ 4 := zm2
                      have zm3 : m3.size ≤ 6 := zm3
                      have zm1 : m1.size ≤ 16 := by
                        rw [ByteArray.size_append, ByteArray.size_append] at zm1
                        have zm1' : m1.size ≤ 5 + de.size + 1 := zm1
                        omega
                      have ct : wr.cell? ⟨w.heap.size, 133, none⟩ = some (.int .u32 (v.time : Nat)) := hS.2.1.c 133 (by omega)
                      have cr : wr.cell? ⟨w.heap.size, 134, none⟩ = some (.bool v.ran) := hS.2.1.c 134 (by omega)
                      have cf : wr.cell? ⟨w.heap.size, 135, none⟩ = some (.bool v.fault) := hS.2.1.c 135 (by omega)
                      have hzw := hS.2.1.z
                      have H1 : Hid (Below w.heap.size w wr) := hS.2.2
                      have hS : Below wr.heap.size wr wr.drew := (Below.refl _ _).drew
                      obtain ⟨tm, htmE⟩ : ∃ tm, tm = v.time := ⟨_, rfl⟩
                      obtain ⟨rb, hrb⟩ : ∃ rb, rb = v.ran := ⟨_, rfl⟩
                      obtain ⟨fb, hfb⟩ : ∃ fb, fb = v.fault := ⟨_, rfl⟩
                      rw [← htmE] at ct CDe htb htm
                      rw [← hrb] at cr CM2
                      rw [← hfb] at cf CM3
                      clear hM hso zso hde hm1 hm2 hm3 htmE hrb hfb PL hin hi
                      by_cases h0 : tm = 0
                      · subst h0
                        obtain rfl : tb = false := htb
                        have hwC : IntKind.i64.wrap (0 : Int) = 0 := by decide
                        have KB : ∀ w', Below wr.heap.size wr w' → w'.cell? ⟨w.heap.size, 133, none⟩ = some (.int .u32 ((0 : Nat) : Int)) ∧ w'.cell? ⟨w.heap.size, 134, none⟩ = some (.bool rb) ∧ w'.cell? ⟨w.heap.size, 135, none⟩ = some (.bool fb) := fun w' hw' => ⟨(hw'.cell (p := ⟨w.heap.size, 133, none⟩) hzw).trans ct, (hw'.cell (p := ⟨w.heap.size, 134, none⟩) hzw).trans cr, (hw'.cell (p := ⟨w.heap.size, 135, none⟩) hzw).trans cf⟩
                        clear ct cr cf
                        go_wp2_with fail
                        refine wp_region_held (S := Below wr.heap.size wr) (by kernel_rfl) ?_
                        refine held_any (fuel := 20) (i := 0) (v := .string so) rfl (by kernel_rfl) (by kernel_rfl) (by kernel_rfl) rfl (fun _ _ _ h => h) (fun _ _ => rfl) hS ?_
                        go_simp
                        refine held_any (fuel := 19) (i := 1) (v := .pointer (some ⟨w.heap.size, 133, none⟩)) rfl (by kernel_rfl) (by kernel_rfl) (by kernel_rfl) rfl (fun _ _ _ h => h) (fun _ _ => by simp [go_sem]) hS ?_
                        go_simp
                        refine held_load (fuel := 18) (i := 2) (t := 23) (v := .int .u32 (0 : Nat)) rfl rfl rfl (by kernel_rfl) (by kernel_rfl) (by kernel_rfl) rfl (fun _ _ _ h => h) (fun w' hw' => load_u32M (KB w' hw').1) hS ?_
                        go_simp
                        refine held_any (fuel := 17) (i := 3) (v := .bool false) rfl (by kernel_rfl) (by kernel_rfl) (by kernel_rfl) rfl (fun _ _ _ h => h) (fun _ _ => by go_simp) hS ?_
                        go_simp
                        refine held_any (fuel := 16) (i := 4) (v := .pointer (some ⟨w.heap.size, 133, none⟩)) rfl (by kernel_rfl) (by kernel_rfl) (by kernel_rfl) rfl (fun _ _ _ h => h) (fun _ _ => by simp [go_sem]) hS ?_
                        go_simp
                        refine held_load (fuel := 15) (i := 5) (t := 23) (v := .int .u32 (0 : Nat)) rfl rfl rfl (by kernel_rfl) (by kernel_rfl) (by kernel_rfl) rfl (fun _ _ _ h => h) (fun w' hw' => load_u32M (KB w' hw').1) hS ?_
                        go_simp
                        refine held_any (fuel := 14) (i := 6) (v := .int .i64 (0 : Nat)) rfl (by kernel_rfl) (by kernel_rfl) (by kernel_rfl) rfl (fun _ _ _ h => h) (fun _ _ => by go_simp) hS ?_
                        go_simp
                        refine held_any (fuel := 13) (i := 12) (v := .pointer (some ⟨w.heap.size, 134, none⟩)) rfl (by kernel_rfl) (by kernel_rfl) (by kernel_rfl) rfl (fun _ _ _ h => h) (fun _ _ => by simp [go_sem]) hS ?_
                        go_simp
                        refine held_load (fuel := 12) (i := 13) (t := 4) (v := .bool rb) rfl rfl rfl (by kernel_rfl) (by kernel_rfl) (by kernel_rfl) rfl (fun _ _ _ h => h) (fun w' hw' => load_boolM (KB w' hw').2.1) hS ?_
                        go_simp
                        refine held_any (fuel := 11) (i := 16) (v := .pointer (some ⟨w.heap.size, 135, none⟩)) rfl (by kernel_rfl) (by kernel_rfl) (by kernel_rfl) rfl (fun _ _ _ h => h) (fun _ _ => by simp [go_sem]) hS ?_
                        go_simp
                        refine held_load (fuel := 10) (i := 17) (t := 4) (v := .bool fb) rfl rfl rfl (by kernel_rfl) (by kernel_rfl) (by kernel_rfl) rfl (fun _ _ _ h => h) (fun w' hw' => load_boolM (KB w' hw').2.2) hS ?_
                        go_simp
                        refine wpAnyH_ready (rs := [7]) (by kernel_rfl) (by simp) ?_
                        refine AllReadyH.cons rfl (fun K hK => ?_) AllReadyH.nil
                        go_simp
                        refine (CDe _).mono ?_
                        rintro e y0 ⟨rfl, by0⟩
                        have hT0 := hS.trans (by0.mono hS.size)
                        refine hK.out _ _ hT0 (fun _ => ?_)
                        clear hK K by0
                        go_simp
                        refine held_add (fuel := 8) (i := 8) (x := (⟨#[116, 105, 109, 101, 61]⟩ : ByteArray)) (y := de) rfl rfl rfl rfl (by kernel_rfl) (by kernel_rfl) (by kernel_rfl) rfl (fun _ _ _ h => h) (by show 5 + de.size ≤ _; omega) hT0 ?_
                        go_simp
                        refine held_add (fuel := 7) (i := 9) (x := (⟨#[116, 105, 109, 101, 61]⟩ : ByteArray) ++ de) (y := (⟨#[32]⟩ : ByteArray)) rfl rfl rfl rfl (by kernel_rfl) (by kernel_rfl) (by kernel_rfl) rfl (fun _ _ _ h => h) (by rw [ByteArray.size_append]; show 5 + de.size + 1 ≤ _; omega) hT0 ?_
                        go_simp
                        refine wpAnyH_ready (rs := [10]) (by kernel_rfl) (by simp) ?_
                        refine AllReadyH.cons rfl (fun K hK => ?_) AllReadyH.nil
                        go_simp
                        refine (CM1 _).mono ?_
                        rintro e y1 ⟨rfl, by1⟩
                        have hT1 := hT0.trans (by1.mono hT0.size)
                        refine hK.out _ _ hT1 (fun _ => ?_)
                        clear hK K by1
                        go_simp
                        refine held_add (fuel := 5) (i := 11) (x := so) (y := m1) rfl rfl rfl rfl (by kernel_rfl) (by kernel_rfl) (by kernel_rfl) rfl (fun _ _ _ h => h) (by omega) hT1 ?_
                        go_simp
                        refine wpAnyH_ready (rs := [14]) (by kernel_rfl) (by simp) ?_
                        refine AllReadyH.cons rfl (fun K hK => ?_) AllReadyH.nil
                        go_simp
                        refine (CM2 _).mono ?_
                        rintro e y2 ⟨rfl, by2⟩
                        have hT2 := hT1.trans (by2.mono hT1.size)
                        refine hK.out _ _ hT2 (fun _ => ?_)
                        clear hK K by2
                        go_simp
                        refine held_add (fuel := 3) (i := 15) (x := so ++ m1) (y := m2) rfl rfl rfl rfl (by kernel_rfl) (by kernel_rfl) (by kernel_rfl) rfl (fun _ _ _ h => h) (by rw [ByteArray.size_append]; omega) hT2 ?_
                        go_simp
                        refine wpAnyH_ready (rs := [18]) (by kernel_rfl) (by simp) ?_
                        refine AllReadyH.cons rfl (fun K hK => ?_) AllReadyH.nil
                        go_simp
                        refine (CM3 _).mono ?_
                        rintro e y3 ⟨rfl, by3⟩
                        have hT3 := hT2.trans (by3.mono hT2.size)
                        refine hK.out _ _ hT3 (fun _ => ?_)
                        clear hK K by3
                        go_simp
                        refine held_add (fuel := 1) (i := 19) (x := so ++ m1 ++ m2) (y := m3) rfl rfl rfl rfl (by kernel_rfl) (by kernel_rfl) (by kernel_rfl) rfl (fun _ _ _ h => h) (by rw [ByteArray.size_append, ByteArray.size_append]; omega) hT3 ?_
                        go_simp
                        refine held_any (fuel := 0) (i := 20) (v := .string (so ++ m1 ++ m2 ++ m3)) rfl (by kernel_rfl) (by kernel_rfl) (by kernel_rfl) rfl (fun _ _ _ h => h) (fun _ _ => rfl) hT3 ?_
                        go_simp
                        refine wpAnyH_done (by kernel_rfl) ?_ _
                        have HZ : Hid (Below w.heap.size w _) := H1.out.trans (hT3.mono H1.out.size)
                        clear hS hT0 hT1 hT2 hT3 KB CDe CM1 CM2 CM3
                        rw [HF.out]
                        obtain ⟨A, hA⟩ : ∃ A, A = spL (allW v tx) := ⟨_, rfl⟩
                        have HA : Hid (textV v tx = A.take (A.length - 1) ∧ (A = [] ↔ allW v tx = [])) := ⟨by rw [hA]; exact (spL_text _).symm, by rw [hA]; exact spL_eq_nil⟩
                        have hAl : A.length ≤ 2400 := by rw [hA]; exact all_len HV.out.1 HV.out.2
                        rw [← hA]
                        clear hA
                        by_cases hAe : A = []
                        · have HT : Hid (textV v tx = []) := HA.out.1.trans (by rw [hAe]; rfl)
                          subst hAe
                          go_wp2_with fail
                          go_ret
                          exact ⟨by rw [HT.out]; rfl, HZ.out⟩
                        · have hA1 : (A == []) = false := by simpa using hAe
                          have hA2 : A.isEmpty = false := by simpa using hAe
                          have hA3 : 0 < A.length := List.length_pos_iff.2 hAe
                          have hA4 : (0 : Int) ≤ (A.length : Int) - 1 ∧ (A.length : Int) - 1 ≤ A.length := by omega
                          have hA5 : ((A.length : Int) - 1).toNat = A.length - 1 := by omega
                          go_wp2_with fail
                          go_ret
                          exact ⟨ret_str (by rw [ext_take, HA.out.1]; simp), HZ.out⟩
                      · have htr : tb = true := by rw [htb]; simp; omega
                        subst htr
                        clear htb
                        have htp : (0 : Int) < (tm : Int) := by omega
                        have htp2 : 0 < tm := by omega
                        have hwC : IntKind.i64.wrap ((tm : Nat) : Int) = ((tm : Nat) : Int) := wrapM htm
                        have KB : ∀ w', Below wr.heap.size wr w' → w'.cell? ⟨w.heap.size, 133, none⟩ = some (.int .u32 (tm : Nat)) ∧ w'.cell? ⟨w.heap.size, 134, none⟩ = some (.bool rb) ∧ w'.cell? ⟨w.heap.size, 135, none⟩ = some (.bool fb) := fun w' hw' => ⟨(hw'.cell (p := ⟨w.heap.size, 133, none⟩) hzw).trans ct, (hw'.cell (p := ⟨w.heap.size, 134, none⟩) hzw).trans cr, (hw'.cell (p := ⟨w.heap.size, 135, none⟩) hzw).trans cf⟩
                        clear ct cr cf
                        go_wp2_with fail
                        refine wp_region_held (S := Below wr.heap.size wr) (by kernel_rfl) ?_
                        refine held_any (fuel := 20) (i := 0) (v := .string so) rfl (by kernel_rfl) (by kernel_rfl) (by kernel_rfl) rfl (fun _ _ _ h => h) (fun _ _ => rfl) hS ?_
                        go_simp
                        refine held_any (fuel := 19) (i := 1) (v := .pointer (some ⟨w.heap.size, 133, none⟩)) rfl (by kernel_rfl) (by kernel_rfl) (by kernel_rfl) rfl (fun _ _ _ h => h) (fun _ _ => by simp [go_sem]) hS ?_
                        go_simp
                        refine held_load (fuel := 18) (i := 2) (t := 23) (v := .int .u32 (tm : Nat)) rfl rfl rfl (by kernel_rfl) (by kernel_rfl) (by kernel_rfl) rfl (fun _ _ _ h => h) (fun w' hw' => load_u32M (KB w' hw').1) hS ?_
                        go_simp
                        refine held_any (fuel := 17) (i := 3) (v := .bool true) rfl (by kernel_rfl) (by kernel_rfl) (by kernel_rfl) rfl (fun _ _ _ h => h) (fun _ _ => by go_simp) hS ?_
                        go_simp
                        refine held_any (fuel := 16) (i := 4) (v := .pointer (some ⟨w.heap.size, 133, none⟩)) rfl (by kernel_rfl) (by kernel_rfl) (by kernel_rfl) rfl (fun _ _ _ h => h) (fun _ _ => by simp [go_sem]) hS ?_
                        go_simp
                        refine held_load (fuel := 15) (i := 5) (t := 23) (v := .int .u32 (tm : Nat)) rfl rfl rfl (by kernel_rfl) (by kernel_rfl) (by kernel_rfl) rfl (fun _ _ _ h => h) (fun w' hw' => load_u32M (KB w' hw').1) hS ?_
                        go_simp
                        refine held_any (fuel := 14) (i := 6) (v := .int .i64 (tm : Nat)) rfl (by kernel_rfl) (by kernel_rfl) (by kernel_rfl) rfl (fun _ _ _ h => h) (fun _ _ => by go_simp) hS ?_
                        go_simp
                        refine held_any (fuel := 13) (i := 12) (v := .pointer (some ⟨w.heap.size, 134, none⟩)) rfl (by kernel_rfl) (by kernel_rfl) (by kernel_rfl) rfl (fun _ _ _ h => h) (fun _ _ => by simp [go_sem]) hS ?_
                        go_simp
                        refine held_load (fuel := 12) (i := 13) (t := 4) (v := .bool rb) rfl rfl rfl (by kernel_rfl) (by kernel_rfl) (by kernel_rfl) rfl (fun _ _ _ h => h) (fun w' hw' => load_boolM (KB w' hw').2.1) hS ?_
                        go_simp
                        refine held_any (fuel := 11) (i := 16) (v := .pointer (some ⟨w.heap.size, 135, none⟩)) rfl (by kernel_rfl) (by kernel_rfl) (by kernel_rfl) rfl (fun _ _ _ h => h) (fun _ _ => by simp [go_sem]) hS ?_
                        go_simp
                        refine held_load (fuel := 10) (i := 17) (t := 4) (v := .bool fb) rfl rfl rfl (by kernel_rfl) (by kernel_rfl) (by kernel_rfl) rfl (fun _ _ _ h => h) (fun w' hw' => load_boolM (KB w' hw').2.2) hS ?_
                        go_simp
                        refine wpAnyH_ready (rs := [7]) (by kernel_rfl) (by simp) ?_
                        refine AllReadyH.cons rfl (fun K hK => ?_) AllReadyH.nil
                        go_simp
                        refine (CDe _).mono ?_
                        rintro e y0 ⟨rfl, by0⟩
                        have hT0 := hS.trans (by0.mono hS.size)
                        refine hK.out _ _ hT0 (fun _ => ?_)
                        clear hK K by0
                        go_simp
                        refine held_add (fuel := 8) (i := 8) (x := (⟨#[116, 105, 109, 101, 61]⟩ : ByteArray)) (y := de) rfl rfl rfl rfl (by kernel_rfl) (by kernel_rfl) (by kernel_rfl) rfl (fun _ _ _ h => h) (by show 5 + de.size ≤ _; omega) hT0 ?_
                        go_simp
                        refine held_add (fuel := 7) (i := 9) (x := (⟨#[116, 105, 109, 101, 61]⟩ : ByteArray) ++ de) (y := (⟨#[32]⟩ : ByteArray)) rfl rfl rfl rfl (by kernel_rfl) (by kernel_rfl) (by kernel_rfl) rfl (fun _ _ _ h => h) (by rw [ByteArray.size_append]; show 5 + de.size + 1 ≤ _; omega) hT0 ?_
                        go_simp
                        refine wpAnyH_ready (rs := [10]) (by kernel_rfl) (by simp) ?_
                        refine AllReadyH.cons rfl (fun K hK => ?_) AllReadyH.nil
                        go_simp
                        refine (CM1 _).mono ?_
                        rintro e y1 ⟨rfl, by1⟩
                        have hT1 := hT0.trans (by1.mono hT0.size)
                        refine hK.out _ _ hT1 (fun _ => ?_)
                        clear hK K by1
                        go_simp
                        refine held_add (fuel := 5) (i := 11) (x := so) (y := m1) rfl rfl rfl rfl (by kernel_rfl) (by kernel_rfl) (by kernel_rfl) rfl (fun _ _ _ h => h) (by omega) hT1 ?_
                        go_simp
                        refine wpAnyH_ready (rs := [14]) (by kernel_rfl) (by simp) ?_
                        refine AllReadyH.cons rfl (fun K hK => ?_) AllReadyH.nil
                        go_simp
                        refine (CM2 _).mono ?_
                        rintro e y2 ⟨rfl, by2⟩
                        have hT2 := hT1.trans (by2.mono hT1.size)
                        refine hK.out _ _ hT2 (fun _ => ?_)
                        clear hK K by2
                        go_simp
                        refine held_add (fuel := 3) (i := 15) (x := so ++ m1) (y := m2) rfl rfl rfl rfl (by kernel_rfl) (by kernel_rfl) (by kernel_rfl) rfl (fun _ _ _ h => h) (by rw [ByteArray.size_append]; omega) hT2 ?_
                        go_simp
                        refine wpAnyH_ready (rs := [18]) (by kernel_rfl) (by simp) ?_
                        refine AllReadyH.cons rfl (fun K hK => ?_) AllReadyH.nil
                        go_simp
                        refine (CM3 _).mono ?_
                        rintro e y3 ⟨rfl, by3⟩
                        have hT3 := hT2.trans (by3.mono hT2.size)
                        refine hK.out _ _ hT3 (fun _ => ?_)
                        clear hK K by3
                        go_simp
                        refine held_add (fuel := 1) (i := 19) (x := so ++ m1 ++ m2) (y := m3) rfl rfl rfl rfl (by kernel_rfl) (by kernel_rfl) (by kernel_rfl) rfl (fun _ _ _ h => h) (by rw [ByteArray.size_append, ByteArray.size_append]; omega) hT3 ?_
                        go_simp
                        refine held_any (fuel := 0) (i := 20) (v := .string (so ++ m1 ++ m2 ++ m3)) rfl (by kernel_rfl) (by kernel_rfl) (by kernel_rfl) rfl (fun _ _ _ h => h) (fun _ _ => rfl) hT3 ?_
                        go_simp
                        refine wpAnyH_done (by kernel_rfl) ?_ _
                        have HZ : Hid (Below w.heap.size w _) := H1.out.trans (hT3.mono H1.out.size)
                        clear hS hT0 hT1 hT2 hT3 KB CDe CM1 CM2 CM3
                        rw [HF.out]
                        obtain ⟨A, hA⟩ : ∃ A, A = spL (allW v tx) := ⟨_, rfl⟩
                        have HA : Hid (textV v tx = A.take (A.length - 1) ∧ (A = [] ↔ allW v tx = [])) := ⟨by rw [hA]; exact (spL_text _).symm, by rw [hA]; exact spL_eq_nil⟩
                        have hAl : A.length ≤ 2400 := by rw [hA]; exact all_len HV.out.1 HV.out.2
                        rw [← hA]
                        clear hA
                        by_cases hAe : A = []
                        · have HT : Hid (textV v tx = []) := HA.out.1.trans (by rw [hAe]; rfl)
                          subst hAe
                          go_wp2_with fail
                          go_ret
                          exact ⟨by rw [HT.out]; rfl, HZ.out⟩
                        · have hA1 : (A == []) = false := by simpa using hAe
                          have hA2 : A.isEmpty = false := by simpa using hAe
                          have hA3 : 0 < A.length := List.length_pos_iff.2 hAe
                          have hA4 : (0 : Int) ≤ (A.length : Int) - 1 ∧ (A.length : Int) - 1 ≤ A.length := by omega
                          have hA5 : ((A.length : Int) - 1).toNat = A.length - 1 := by omega
                          go_wp2_with fail
                          go_ret
                          exact ⟨ret_str (by rw [ext_take, HA.out.1]; simp), HZ.out⟩

end Go.Proofs.YtdhoimjkgicneaaGreatDoor

/- The specification's MemRead: a memory is read just of its own text. -/
namespace Go.Proofs.YtdhoimjkgicneaaGreatDoor
open Go Go.RowKit
attribute [local go_sem] zMemK

/-- Two memories of nothing, the second written. -/
theorem two_zero (w : World) (t1 t2 : TypeId) : MemAt (w.heap.size + 1) mem0 ((w.alloc (.cells mem0.row t1)).alloc (.cells mem0.row t2)) ∧
    Scn mem0 w (((w.alloc (.cells mem0.row t1)).alloc (.cells mem0.row t2)).setCells (w.heap.size + 1) 0 mem0.row.toList) := by
  obtain ⟨a, b, c⟩ := two_mems mem0 mem0 w t1 t2
  exact ⟨b, a.other (by omega), b.stored mem0, setCells_below _ _ _ c (by omega)⟩

/-- What is behind some words that were read. -/
def Rds (L : List (List UInt8)) (a : Nat) (w : World) (k : Nat) (wr : World) : Prop :=
  ∃ m : MemV, m.Ok ∧ Chain memZ (L.take k) m ∧ MemAt (w.heap.size + 1) m wr ∧ MemAt w.heap.size mem0 wr ∧ (∀ (i : Nat) (x : List UInt8), L[i]? = some x → wr.cell? ⟨a, i, none⟩ = some (.string ⟨x.toArray⟩)) ∧ (L ≠ [] → a < wr.heap.size ∧ w.heap.size + 1 < a) ∧ Below w.heap.size w wr

theorem cell_other {a b i o : Nat} {vs : List Value} {w : World} (hn : a ≠ b) : (w.setCells b o vs).cell? ⟨a, i, none⟩ = w.cell? ⟨a, i, none⟩ := by
  have hb : ∀ (vs : List Value) (o : Nat) (w : World), (w.setCells b o vs).cell? ⟨a, i, none⟩ = w.cell? ⟨a, i, none⟩ := by
    intro vs
    induction vs with
    | nil => intro o w; rfl
    | cons u r ih =>
      intro o w
      have e : w.setCells b o (u :: r) = (w.setCell ⟨b, o, none⟩ u).setCells b (o + 1) r := rfl
      rw [e, ih]
      exact World.cell?_setCell_other _ _ _ _ (by intro hh; cases hh; exact hn rfl)
  exact hb vs o w

theorem load_str {b o : Nat} {x : Value} {w : World} (h : w.cell? ⟨b, o, none⟩ = some x) : (Instr.loadAt 9 (.pointer (some ⟨b, o, none⟩))).run Tryz.prog w = .ok x w := by
  have ha : (isAgg 9).run Tryz.prog w = .ok false w := by kernel_rfl
  simp only [Instr.loadAt, Instr.sureAddr, Sem.run_bind, Sem.run_pure, Result.andThen, loadVar, ha, if_false, Bool.false_eq_true]
  simp [go_sem, h]

set_option maxRecDepth 100000 in
set_option maxHeartbeats 4000000 in
theorem spec_mread (s : ByteArray) (w : World) (hs : s.size ≤ 100000000) :
    Calls Tryz.prog 9 #[.string s] w fun e w' => ∃ (m : MemV) (b : Bool), e = .returned (.tuple #[.agg m.row, .bool b]) ∧ ReadsM s.data.toList m b ∧ Below w.heap.size w w' := by
  have hl : s.data.toList.length = s.size := by rw [Array.length_toList]; rfl
  obtain ⟨Z0, D0⟩ := two_zero w 37 37
  have S0 := store_mem mem0 Z0
  have H0 : Hid (Scn mem0 w _) := D0
  clear Z0 D0
  go_enter Tryz.func9, Tryz.ntmps9
  generalize ((w.alloc (.cells mem0.row 37)).alloc (.cells mem0.row 37)).setCells (w.heap.size + 1) 0 mem0.row.toList = w1 at H0 S0
  go_upto_region 2 with (first | refine list_build (t := 37) (cells := mem0.row) (l := []) rfl rfl (by simp) built_noneR ?_ | refine list_store (t := 37) (x := .pointer (some ⟨w.heap.size + 1, 0, none⟩)) (u := .agg mem0.row) rfl rfl rfl rfl S0 ?_)
  clear S0
  have HZ := H0.out.M
  have HM := H0.out.Z
  by_cases hlong : 6000 < s.size
  · have L := load_mem HM
    have S := store_mem mem0 HZ
    have HF : Hid (MemAt w.heap.size mem0 _ ∧ Below w.heap.size w _) := ⟨HZ.stored mem0, setCells_below mem0.row.toList w.heap.size 0 H0.out.b (Nat.le_refl _)⟩
    clear HZ HM
    go_wp2_with (first | refine list_load (t := 37) rfl rfl rfl L ?_ | refine list_store (t := 37) (x := .pointer (some ⟨w.heap.size, 0, none⟩)) (u := .agg mem0.row) rfl rfl rfl rfl S ?_)
    exact ret_mbR (c := 2) (c' := 3) rfl rfl rfl rfl HF.out.1 ⟨mem0, false, rfl, reads_long (by omega), HF.out.2⟩
  · have hsz : s.size ≤ 6000 := by omega
    clear HZ HM
    go_wp2_with fail
    refine (spec_words6 s w1 hsz).mono ?_
    rintro e w3 ⟨o, rfl, O⟩
    obtain ⟨W, hW⟩ : ∃ W, W = wordsS s.data.toList := ⟨_, rfl⟩
    have HW : Hid (W = wordsS s.data.toList) := hW
    rw [← hW] at O
    have hWn : W.length ≤ 6001 := by
      have h1 := List.length_filter_le fullB (splitS s.data.toList)
      have h2 := splitS_count s.data.toList
      rw [hW]
      unfold wordsS
      omega
    clear hW
    obtain ⟨a, cap, oa, rfl, hcap, H3⟩ : ∃ (a cap : Nat) (oa : Option Addr), o = .slice oa W.length cap ∧ (W ≠ [] → oa = some ⟨a, 0, none⟩ ∧ W.length ≤ cap) ∧ Hid (Rds W a w 0 w3) := by
      have b3 := O.2
      have m1 := H0.out.Z.below b3 H0.out.Z.z
      have m0 := H0.out.M.below b3 H0.out.M.z
      have b4 := H0.out.b.trans (b3.mono H0.out.b.size)
      have hz := H0.out.Z.z
      rcases ownS_cases O.1 with ⟨h1, h2⟩ | ⟨g, cap, h1, h2, h3, h4, h5⟩
      · refine ⟨0, 0, none, by rw [h1, h2]; rfl, fun h => absurd h2 h, ⟨mem0, memZ_ok, rfl, m1, m0, fun i x hx => ?_, fun h => absurd h2 h, b4⟩⟩
        rw [h2] at hx
        cases hx
      · exact ⟨g, cap, _, h1, fun _ => ⟨rfl, h4⟩, ⟨mem0, memZ_ok, rfl, m1, m0, h5, fun _ => ⟨h3, by omega⟩, b4⟩⟩
    clear O H0
    go_wp2_with fail
    go_loopw [6] (fun i wr => ∃ k : Nat, k ≤ W.length ∧ i = .int .i64 k ∧ Rds W a w k wr) (fun i _ => W.length - (intOf i).toNat)
    case atStart => exact ⟨0, Nat.zero_le _, rfl, H3.out⟩
    case round =>
      clear H3
      obtain ⟨k, hk, rfl, hr⟩ := hrel
      obtain ⟨m, mok, hc, hM, hZ, hS, hA, hB⟩ := hr
      by_cases hlt : k < W.length
      · have hne : W ≠ [] := by intro h; rw [h] at hlt; simp at hlt
        obtain ⟨rfl, hcp⟩ := hcap hne
        obtain ⟨ha1, ha2⟩ := hA hne
        obtain ⟨x, hx⟩ : ∃ x, W[k]? = some x := ⟨_, List.getElem?_eq_getElem hlt⟩
        have hxs : x.length ≤ 6000 := by
          have h1 : x ∈ wordsS s.data.toList := by
            rw [← HW.out]
            exact List.mem_of_getElem? hx
          have h2 := splitS_len _ _ (List.mem_filter.1 h1).1
          omega
        have HX : Hid (W.take (k + 1) = W.take k ++ [x]) := by
          show W.take (k + 1) = W.take k ++ [x]
          rw [List.take_add_one, hx]
          rfl
        have c0 := hS k x hx
        have HH : Hid (m.Ok ∧ Chain memZ (W.take k) m ∧ MemAt (w.heap.size + 1) m wr.drew ∧ MemAt w.heap.size mem0 wr.drew ∧ (∀ (i : Nat) (x : List UInt8), W[i]? = some x → wr.drew.cell? ⟨a, i, none⟩ = some (.string ⟨x.toArray⟩)) ∧ a < wr.drew.heap.size ∧ w.heap.size + 1 < a ∧ Below w.heap.size w wr.drew) :=
          ⟨mok, hc, hM.below (Below.refl _ _).drew hM.z, hZ.below (Below.refl _ _).drew hZ.z, hS, ha1, ha2, hB.drew⟩
        clear mok hc hM hZ hS hA hB hx ha1 ha2
        have CW := spec_word m ⟨x.toArray⟩ wr.drew HH.out.1 (by rw [str_size]; omega)
        rw [show (⟨x.toArray⟩ : ByteArray).data.toList = x from by simp] at CW
        go_upto_region 8 with fail
        have hS : wr.drew.cell? ⟨a, k, none⟩ = some (.string ⟨x.toArray⟩) := c0
        refine wp_region_held (S := fun w' => w'.cell? ⟨a, k, none⟩ = some (.string ⟨x.toArray⟩)) (by kernel_rfl) ?_
        refine held_any (fuel := 6) (i := 1) (v := .slice (some ⟨a, 0, none⟩) W.length cap) rfl (by kernel_rfl) (by kernel_rfl) (by kernel_rfl) rfl (fun _ _ _ h => h) (fun _ _ => rfl) hS ?_
        go_simp
        refine held_any (fuel := 5) (i := 2) (v := .int .i64 k) rfl (by kernel_rfl) (by kernel_rfl) (by kernel_rfl) rfl (fun _ _ _ h => h) (fun _ _ => rfl) hS ?_
        go_simp
        refine held_any (fuel := 4) (i := 3) (v := .pointer (some ⟨a, k, none⟩)) rfl (by kernel_rfl) (by kernel_rfl) (by kernel_rfl) rfl (fun _ _ _ h => h) (fun _ _ => by go_simp; first | done | (intro h; omega)) hS ?_
        go_simp
        refine held_load (fuel := 3) (i := 4) (t := 9) (v := .string ⟨x.toArray⟩) rfl rfl rfl (by kernel_rfl) (by kernel_rfl) (by kernel_rfl) rfl (fun _ _ _ h => h) (fun w' hw' => load_str hw') hS ?_
        go_simp
        refine wpAnyH_ready (rs := [0]) (by kernel_rfl) (by simp) ?_
        refine AllReadyH.cons rfl (fun K hK => ?_) AllReadyH.nil
        rw [if_pos (by rfl)]
        refine op_loadX rfl (load_mem HH.out.2.2.1) ?_
        refine hK.out _ _ hS (fun _ => ?_)
        clear hK K
        go_simp
        refine wpAnyH_ready (rs := [5]) (by kernel_rfl) (by simp) ?_
        refine AllReadyH.cons rfl (fun K hK => ?_) AllReadyH.nil
        go_simp
        refine CW.mono ?_
        rintro e w4 ⟨m', rfl, hsc, hb⟩
        obtain ⟨mok, hc, hM, hZ, hS4, ha1, ha2, hB⟩ := HH.out
        have hcb : ∀ i, w4.cell? ⟨a, i, none⟩ = wr.drew.cell? ⟨a, i, none⟩ := fun i => World.cell?_of_block (w := wr.drew) (a := ⟨a, i, none⟩) (hb.block a ha1)
        refine hK.out _ _ ((hcb k).trans hS) (fun _ => ?_)
        clear hK K CW
        go_simp
        refine wpAnyH_ready (rs := [6]) (by kernel_rfl) (by simp) ?_
        refine AllReadyH.cons rfl (fun K hK => ?_) AllReadyH.nil
        rw [if_pos (by rfl)]
        have M4 := hM.below hb hM.z
        have HN : Hid (Rds W a w (k + 1) (w4.setCells (w.heap.size + 1) 0 m'.row.toList)) :=
          ⟨m', hsc.1, by rw [HX.out]; exact hc.snoc hsc, M4.stored m', (hZ.below hb hZ.z).other (by omega), fun i y hy => (cell_other (by omega)).trans ((hcb i).trans (hS4 i y hy)), fun _ => ⟨by rw [setCells_size]; exact Nat.lt_of_lt_of_le ha1 hb.size, ha2⟩, setCells_below _ _ _ (hB.trans (hb.mono hB.size)) (by omega)⟩
        refine op_store rfl (store_mem m' M4) ?_
        refine hK.out _ _ ((cell_other (by omega)).trans ((hcb k).trans hS)) (fun _ => ?_)
        clear hK K mok hc hM hZ hS4 ha1 ha2 hB hsc hb M4 HH HX hcb hS c0
        go_simp
        generalize w4.setCells (w.heap.size + 1) 0 m'.row.toList = w5 at HN ⊢
        refine wpAnyH_done (by kernel_rfl) ?_ _
        go_wp2_with fail
        go_roundw
        case rel => exact ⟨k + 1, hlt, by go_num, HN.out⟩
        case measure => simp [intOf]; omega
      · obtain rfl : k = W.length := by omega
        have LM := load_mem hM
        have hc2 : Chain memZ ((splitS s.data.toList).filter fullB) m := by
          have := hc
          rw [List.take_length, HW.out] at this
          exact this
        obtain ⟨tx, ht⟩ := txts_ex m.r
        have CT := spec_mtext m tx wr mok (fun i _ => ht i) (fun i _ => txt_len (ht i))
        have HT : Hid (TextOf m (textV m tx)) := ⟨tx, fun i _ => ht i, rfl⟩
        generalize textV m tx = l at CT HT
        have HH : Hid (m.Ok ∧ Chain memZ ((splitS s.data.toList).filter fullB) m ∧ MemAt (w.heap.size + 1) m wr ∧ MemAt w.heap.size mem0 wr ∧ Below w.heap.size w wr) := ⟨mok, hc2, hM, hZ, hB⟩
        clear mok hc hc2 hM hZ hS hA hB ht hk hlt hcap
        go_wp2_with (refine list_load (t := 37) rfl rfl rfl LM ?_)
        clear LM
        refine CT.mono ?_
        rintro e w4 ⟨rfl, hb⟩
        clear CT
        obtain ⟨mok, hc, hM, hZ, hB⟩ := HH.out
        have M4 := hM.below hb hM.z
        have Z4 := hZ.below hb hZ.z
        have B4 := hB.trans (hb.mono hB.size)
        by_cases he : l = s.data.toList
        · have e2 : (l == s.toList) = true := by rw [ByteArray.toList_eq, he]; simp
          have e3 : (l != s.toList) = false := by rw [ByteArray.toList_eq, he]; simp
          have LM := load_mem M4
          have S := store_mem m Z4
          have HF : Hid (MemAt w.heap.size m _ ∧ Below w.heap.size w _) := ⟨Z4.stored m, setCells_below m.row.toList w.heap.size 0 B4 (Nat.le_refl _)⟩
          have HE : Hid (ReadsM s.data.toList m true) := ⟨mok, Or.inl ⟨rfl, by omega, he ▸ HT.out⟩⟩
          clear mok hc hM hZ hB hb M4 Z4 B4 HH he HT
          go_wp2_with (first | refine list_load (t := 37) rfl rfl rfl LM ?_ | refine list_store (t := 37) (x := .pointer (some ⟨w.heap.size, 0, none⟩)) (u := .agg m.row) rfl rfl rfl rfl S ?_)
          exact ret_mbR (c := 2) (c' := 3) rfl rfl rfl rfl HF.out.1 ⟨m, true, rfl, HE.out, HF.out.2⟩
        · have e2 : (l == s.toList) = false := by rw [ByteArray.toList_eq]; simpa using he
          have e3 : (l != s.toList) = true := by rw [ByteArray.toList_eq]; simpa using he
          have S := store_mem mem0 Z4
          have HF : Hid (MemAt w.heap.size mem0 _ ∧ Below w.heap.size w _) := ⟨Z4.stored mem0, setCells_below mem0.row.toList w.heap.size 0 B4 (Nat.le_refl _)⟩
          have HE : Hid (ReadsM s.data.toList mem0 false) := ⟨memZ_ok, Or.inr ⟨rfl, rfl, fun _ v hv hvt => he (text_fun HT.out (reads_fin hc hv hvt))⟩⟩
          clear mok hc hM hZ hB hb M4 Z4 B4 HH he HT
          go_wp2_with (first | refine list_build (t := 37) (cells := mem0.row) (l := []) rfl rfl (by simp) built_noneR ?_ | refine list_store (t := 37) (x := .pointer (some ⟨w.heap.size, 0, none⟩)) (u := .agg mem0.row) rfl rfl rfl rfl S ?_)
          exact ret_mbR (c := 2) (c' := 3) rfl rfl rfl rfl HF.out.1 ⟨mem0, false, rfl, HE.out, HF.out.2⟩

end Go.Proofs.YtdhoimjkgicneaaGreatDoor

/- The draws of a memory and of a memory's text. -/
namespace Go.Proofs.YtdhoimjkgicneaaGreatDoor
open Go Go.RowKit
attribute [local go_sem] zMemK

set_option maxRecDepth 100000 in
set_option maxHeartbeats 800000 in
theorem draw_mtext (v : Value) (w : World) (h : CodeAt v w) :
    Calls Tryz.prog 4 #[v] w fun e w' => ∃ m : MemV, m.Ok ∧ e = .returned (.agg m.row) ∧ Below w.heap.size w w' := by
  have M0 := MemAt.alloc mem0 w 37
  have B0 : Below w.heap.size w (w.alloc (.cells mem0.row 37)) := (Below.refl _ _).alloc (Nat.le_refl _) _
  have h' := h.below B0
  go_enter Tryz.func4, Tryz.ntmps4
  go_upto_region 1 with fail
  generalize w.alloc (.cells mem0.row 37) = w0 at M0 B0 h' ⊢
  go_wp2_with fail
  refine (open_any v w0 h').mono ?_
  rintro e w1 ⟨rfl, rd1, hb1⟩
  have M1 := M0.below hb1 M0.z
  have B1 := B0.trans (hb1.mono B0.size)
  have hz := M0.z
  have HH : Hid (MemAt w.heap.size mem0 w1 ∧ Below w.heap.size w w1 ∧ w.heap.size < w0.heap.size) := ⟨M1, B1, hz⟩
  have HR : Hid (Rd w0.heap.size 0 w1) := rd1
  clear M0 B0 h' h M1 B1 hb1 rd1 hz
  go_wp2_with fail
  refine (draw_mem w0.heap.size 0 w1 HR.out (by omega)).mono ?_
  rintro e w2 ⟨m, hm, rfl, rd2, mv2⟩
  obtain ⟨M1, B1, hz⟩ := HH.out
  have M2 := M1.moved mv2 (by omega)
  have B2 : Below w.heap.size w w2 := B1.trans (mv2.below B1.size (by omega))
  have S := store_mem m M2
  have HF : Hid (MemAt w.heap.size m _ ∧ Below w.heap.size w _) := ⟨M2.stored m, setCells_below m.row.toList w.heap.size 0 B2 (Nat.le_refl _)⟩
  clear M1 B1 hz M2 B2 rd2 mv2 HH HR
  go_wp2_with (refine list_store (t := 37) rfl rfl rfl rfl S ?_)
  exact ret_mem (c := 2) rfl rfl rfl HF.out.1 ⟨m, hm, rfl, HF.out.2⟩

theorem of_litD (R c : Nat) (cs : Array Value) (w : World) (q : Nat) (hq : q = w.heap.size) (h : Rd R c w) (hc : c ≤ 1000) (hcs : cs.toList.all smallStr = true) (l1 : 1 ≤ cs.size) (l2 : cs.size ≤ 1000) (n : Nat) (hn : n = cs.size) :
    Calls Tryz.prog 22 #[.pointer (some ⟨R, 0, none⟩), .slice (some ⟨q, 0, none⟩) n n] (w.alloc (.cells cs 9)).drew fun e w' => ∃ l : List UInt8, e = .returned (.string ⟨l.toArray⟩) ∧ l.length ≤ 30 ∧ Rd R (c + 1) w' ∧ Moved R w w' := by
  subst hq hn
  have hs := h.size
  have hb : Below w.heap.size w (w.alloc (.cells cs 9)).drew := ((Below.refl _ _).alloc (Nat.le_refl _) _).drew
  refine (of_any R c w.heap.size cs.size cs.size _ (h.alloc _).drew hc (by show w.heap.size < (w.alloc (.cells cs 9)).heap.size; simp) (by omega) l1 l2 (strs_of hcs)).mono ?_
  rintro e w' ⟨z, rfl, hz, rd, mv⟩
  exact ⟨z, rfl, hz, rd, (Moved.of_below hb (Nat.le_refl _)).trans mv⟩

set_option maxRecDepth 100000 in
set_option maxHeartbeats 2000000 in
theorem draw_mread (v : Value) (w : World) (h : CodeAt v w) :
    Calls Tryz.prog 8 #[v] w fun e w' => ∃ l : List UInt8, e = .returned (.string ⟨l.toArray⟩) ∧ l.length ≤ 5000 ∧ Below w.heap.size w w' := by
  go_enter Tryz.func8, Tryz.ntmps8
  go_wp2_with fail
  refine (open_any v w h).mono ?_
  rintro e w1 ⟨rfl, rd1, hb1⟩
  clear h
  go_wp2_with fail
  refine (draw_mem w.heap.size 0 w1 rd1 (by omega)).mono ?_
  rintro e w2 ⟨m, hm, rfl, rd2, mv2⟩
  have b2 : Below w.heap.size w w2 := hb1.trans (mv2.below hb1.size (Nat.le_refl _))
  clear hb1 mv2 rd1
  obtain ⟨tx, ht⟩ := txts_ex m.r
  have CT := spec_mtext m tx w2 hm (fun i _ => ht i) (fun i _ => txt_len (ht i))
  have hlen := textV_len hm (fun i _ => txt_len (ht i))
  generalize textV m tx = s at CT hlen
  have hlen : s.length ≤ 4000 := Nat.le_trans hlen (by decide)
  clear ht hm
  go_wp2_with fail
  refine CT.mono ?_
  rintro e w3 ⟨rfl, hb3⟩
  have rd3 := rd2.below hb3
  have b3 : Below w.heap.size w w3 := b2.trans (hb3.mono b2.size)
  clear hb3 b2 rd2 CT
  go_wp2_with fail
  refine (pick_any w.heap.size (0 + 200) 9 w3 rd3 (by omega) (by omega)).mono ?_
  rintro e w4 ⟨y, rfl, y0, -, -, rd4, mv4⟩
  have b4 : Below w.heap.size w w4 := b3.trans (mv4.below b3.size (Nat.le_refl _))
  clear rd3 mv4 b3
  by_cases h0 : y = 0
  · subst h0
    go_wp2_with fail
    refine (of_lit w.heap.size (0 + 200 + 1) _ _ _ (by simp) rd4 (by omega) (by decide +kernel) (by simp) (by simp) 35 rfl).mono ?_
    rintro e w5 ⟨l, rfl, hl, rd5, mv5⟩
    have B : Hid (Below w.heap.size w w5) := b4.trans (mv5.below b4.size (Nat.le_refl _))
    clear rd4 rd5 mv5 b4
    go_wp2
    go_ret
    exact ⟨l, rfl, by omega, B.out⟩
  · by_cases h1 : y = 1
    · subst h1
      go_wp2_with fail
      refine (of_lit w.heap.size (0 + 200 + 1) _ _ _ (by simp) rd4 (by omega) (by decide +kernel) (by simp) (by simp) 5 rfl).mono ?_
      rintro e w5 ⟨l, rfl, hl, rd5, mv5⟩
      have B : Hid (Below w.heap.size w w5) := b4.trans (mv5.below b4.size (Nat.le_refl _))
      clear rd4 rd5 mv5 b4
      go_wp2
      go_ret
      refine ⟨s ++ l, ret_strR (str_cat _ _), by simp; omega, B.out⟩
    · have n0 : (y == 0) = false := by simpa using h0
      have n1 : (y == 1) = false := by simpa using h1
      by_cases h2 : y = 2
      · subst h2
        have hss : (⟨s.toArray⟩ : ByteArray).size = s.length := str_size s
        have hwp : IntKind.i64.wrap ((s.length : Int) + 1) = ((s.length + 1 : Nat) : Int) := by simp [IntKind.wrap, IntKind.signed, IntKind.bits]; omega
        go_wp2_with fail
        refine (pick_any w.heap.size (0 + 200 + 1) ((s.length + 1 : Nat) : Int) w4 rd4 (by omega) (by omega)).mono ?_
        rintro e w5 ⟨z, rfl, z0, z1, -, rd5, mv5⟩
        obtain ⟨k, rfl⟩ : ∃ k : Nat, z = k := ⟨z.toNat, by omega⟩
        have hk : k ≤ s.length := by have := z1 (by omega); omega
        have b5 : Below w.heap.size w w5 := b4.trans (mv5.below b4.size (Nat.le_refl _))
        clear rd4 mv5 b4 z0 z1 hwp
        go_upto_region 10 with fail
        obtain ⟨t, ht, hts⟩ := ba_of s
        have htk : k ≤ t.size := by omega
        have ht4 : t.size ≤ 4000 := by omega
        clear hts
        have HT : Hid (t = ⟨s.toArray⟩) := ht
        rw [← ht]
        clear ht hss
        refine wp_region_held (S := fun _ => True) (by kernel_rfl) ?_
        refine held_any (fuel := 11) (i := 0) (v := .string t) rfl (by kernel_rfl) (by kernel_rfl) (by kernel_rfl) rfl (fun _ _ _ h => h) (fun _ _ => rfl) trivial ?_
        go_simp
        refine held_any (fuel := 10) (i := 1) (v := .int .i64 k) rfl (by kernel_rfl) (by kernel_rfl) (by kernel_rfl) rfl (fun _ _ _ h => h) (fun _ _ => rfl) trivial ?_
        go_simp
        refine held_any (fuel := 9) (i := 2) (v := .string (t.extract 0 k)) rfl (by kernel_rfl) (by kernel_rfl) (by kernel_rfl) rfl (fun _ _ _ h => h) (fun _ _ => by go_simp; first | done | (intro h; omega)) trivial ?_
        go_simp
        refine held_any (fuel := 8) (i := 3) (v := .pointer (some ⟨w.heap.size, 0, none⟩)) rfl (by kernel_rfl) (by kernel_rfl) (by kernel_rfl) rfl (fun _ _ _ h => h) (fun _ _ => rfl) trivial ?_
        go_simp
        refine held_any (fuel := 7) (i := 7) (v := .string t) rfl (by kernel_rfl) (by kernel_rfl) (by kernel_rfl) rfl (fun _ _ _ h => h) (fun _ _ => rfl) trivial ?_
        go_simp
        refine held_any (fuel := 6) (i := 8) (v := .int .i64 k) rfl (by kernel_rfl) (by kernel_rfl) (by kernel_rfl) rfl (fun _ _ _ h => h) (fun _ _ => rfl) trivial ?_
        go_simp
        refine held_any (fuel := 5) (i := 9) (v := .string (t.extract k t.size)) rfl (by kernel_rfl) (by kernel_rfl) (by kernel_rfl) rfl (fun _ _ _ h => h) (fun _ _ => by go_simp; first | done | (intro h; omega)) trivial ?_
        go_simp
        refine wpAnyH_ready (rs := [4]) (by kernel_rfl) (by simp) ?_
        refine AllReadyH.cons rfl (fun K hK => ?_) AllReadyH.nil
        go_simp
        refine hK.out _ _ trivial (fun _ => ?_)
        clear hK K
        go_simp
        refine wpAnyH_ready (rs := [5]) (by kernel_rfl) (by simp) ?_
        refine AllReadyH.cons rfl (fun K hK => ?_) AllReadyH.nil
        go_simp
        refine (of_litD w.heap.size (0 + 200 + 1 + 1) _ w5 _ (by rfl) rd5 (by omega) (by decide +kernel) (by simp) (by simp) 4 rfl).mono ?_
        rintro e w7 ⟨l, rfl, hl, rd7, mv7⟩
        have B : Hid (Below w.heap.size w w7) := b5.trans (mv7.below b5.size (Nat.le_refl _))
        clear rd5 rd7 mv7 b5
        obtain ⟨u, hu, hus⟩ := ba_of l
        have HU : Hid (u = ⟨l.toArray⟩) := hu
        have hu4 : u.size ≤ 30 := by omega
        clear hus
        rw [← hu]
        clear hu
        refine hK.out _ _ trivial (fun _ => ?_)
        clear hK K
        go_simp
        have z1 : (t.extract 0 k).size ≤ 4000 := by simp; omega
        have z2 : (t.extract k t.size).size ≤ 4000 := by simp; omega
        refine held_add (fuel := 2) (i := 6) (x := t.extract 0 k) (y := u) rfl rfl rfl rfl (by kernel_rfl) (by kernel_rfl) (by kernel_rfl) rfl (fun _ _ _ h => h) (by omega) trivial ?_
        go_simp
        refine held_add (fuel := 1) (i := 10) (x := t.extract 0 k ++ u) (y := t.extract k t.size) rfl rfl rfl rfl (by kernel_rfl) (by kernel_rfl) (by kernel_rfl) rfl (fun _ _ _ h => h) (by rw [ByteArray.size_append]; omega) trivial ?_
        go_simp
        refine held_any (fuel := 0) (i := 11) (v := .string (t.extract 0 k ++ u ++ t.extract k t.size)) rfl (by kernel_rfl) (by kernel_rfl) (by kernel_rfl) rfl (fun _ _ _ h => h) (fun _ _ => rfl) trivial ?_
        go_simp
        refine wpAnyH_done (by kernel_rfl) ?_ _
        have hz : (t.extract 0 k ++ u ++ t.extract k t.size).size ≤ 5000 := by
          rw [ByteArray.size_append, ByteArray.size_append]
          simp
          omega
        generalize t.extract 0 k ++ u ++ t.extract k t.size = r at hz ⊢
        clear z1 z2
        go_wp2_with fail
        go_ret
        refine ⟨r.data.toList, by simp, ?_, B.out⟩
        rw [Array.length_toList]
        exact hz
      · have n2 : (y == 2) = false := by simpa using h2
        have B : Hid (Below w.heap.size w w4) := b4
        clear rd4 b4 h0 h1 h2
        go_wp2
        go_ret
        exact ⟨s, rfl, by omega, B.out⟩

end Go.Proofs.YtdhoimjkgicneaaGreatDoor
