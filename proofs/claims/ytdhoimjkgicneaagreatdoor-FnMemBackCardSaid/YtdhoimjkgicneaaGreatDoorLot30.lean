/- Texts of this proof laid together: PutC0, MrM, TxtK. -/
import Derived.Test.YtdhoimjkgicneaaGreatDoorRows
import Derived.WalkKit
import Derived.Test.YtdhoimjkgicneaaGreatDoorLot23
import Derived.Test.YtdhoimjkgicneaaGreatDoorLot27
import Derived.Test.YtdhoimjkgicneaaGreatDoorLot28
import Derived.Test.YtdhoimjkgicneaaGreatDoorLot29
import Derived.Test.YtdhoimjkgicneaaGreatDoorLot2
import Derived.Deep.RegionHeld
import Derived.Test.YtdhoimjkgicneaaGreatDoorLot9
import Derived.WalkSpells
import Derived.WalkLawsBesides
/- A number of an operand, loaded. -/
namespace Go.Proofs.YtdhoimjkgicneaaGreatDoor
open Go Go.RowKit

theorem load_int {b o : Nat} {x : Value} {w : World} (h : w.cell? ⟨b, o, none⟩ = some x) : (Instr.loadAt 3 (.pointer (some ⟨b, o, none⟩))).run Tryz.prog w = .ok x w := by
  have ha : (isAgg 3).run Tryz.prog w = .ok false w := by kernel_rfl
  simp only [Instr.loadAt, Instr.sureAddr, Sem.run_bind, Sem.run_pure, Result.andThen, loadVar, ha, if_false, Bool.false_eq_true]
  simp [go_sem, h]

end Go.Proofs.YtdhoimjkgicneaaGreatDoor

/- The program's memScan: what one word of a text makes of a memory. -/
namespace Go.Proofs.YtdhoimjkgicneaaGreatDoor
open Go Go.RowKit
attribute [local go_sem] zMemK

/-- A memory, and one of nothing behind it for the answer. -/
structure Scn (m : MemV) (w wr : World) : Prop where
  M : MemAt w.heap.size m wr
  Z : MemAt (w.heap.size + 1) mem0 wr
  b : Below w.heap.size w wr

theorem scn_open (m : MemV) (w : World) (t1 t2 : TypeId) : Scn m w ((w.alloc (.cells m.row t1)).alloc (.cells mem0.row t2)) := by
  obtain ⟨a, b, c⟩ := two_mems m mem0 w t1 t2
  exact ⟨a, b, c⟩

theorem Scn.call {m : MemV} {w w1 w2 : World} (h : Scn m w w1) (g : Below w1.heap.size w1 w2) : Scn m w w2 :=
  ⟨h.M.below g h.M.z, h.Z.below g h.Z.z, h.b.trans (g.mono h.b.size)⟩

theorem Scn.upd {m : MemV} {w w1 : World} {k : Nat} {u : Value} (h : Scn m w w1) (hk : k < 136) (hu : fitC k u) : Scn (m.upd k u) w (w1.setCell ⟨w.heap.size, k, none⟩ u) := by
  refine ⟨h.M.upd hk hu, ?_, ?_⟩
  · have := h.Z.other (c := w.heap.size) (o := k) (vs := [u]) (by omega)
    exact this
  · have := setCells_below [u] w.heap.size k h.b (Nat.le_refl _)
    exact this

/-- The memory is handed back. -/
theorem Scn.fin {m : MemV} {w w1 : World} (h : Scn m w w1) (m' : MemV) : MemAt (w.heap.size + 1) m' (w1.setCells (w.heap.size + 1) 0 m'.row.toList) ∧ Below w.heap.size w (w1.setCells (w.heap.size + 1) 0 m'.row.toList) :=
  ⟨h.Z.stored m', setCells_below _ _ _ h.b (by omega)⟩

/-- The same, and an operand behind both. -/
structure Scd (m : MemV) (k n p : Int) (q : Nat) (w wr : World) : Prop where
  S : Scn m w wr
  A : ArgAt q (.int .i64 k) (.int .i64 n) (.int .i64 p) wr
  h : w.heap.size + 1 < q

theorem scd_open {m : MemV} {w w2 : World} (h : Scn m w w2) (k n p : Int) (t : TypeId) :
    ArgAt w2.heap.size (.int .i64 0) (.int .i64 0) (.int .i64 0) (w2.alloc (.cells #[.int .i64 0, .int .i64 0, .int .i64 0] t)) ∧
    Scd m k n p w2.heap.size w ((w2.alloc (.cells #[.int .i64 0, .int .i64 0, .int .i64 0] t)).setCells w2.heap.size 0 [.int .i64 k, .int .i64 n, .int .i64 p]) := by
  have a := ArgAt.alloc (.int .i64 0) (.int .i64 0) (.int .i64 0) w2 t
  have hz := h.Z.z
  have hs := h.b.size
  have b1 : Below w2.heap.size w2 (w2.alloc (.cells #[.int .i64 0, .int .i64 0, .int .i64 0] t)) := (Below.refl _ _).alloc (Nat.le_refl _) _
  have b2 : Below w2.heap.size w2 ((w2.alloc (.cells #[.int .i64 0, .int .i64 0, .int .i64 0] t)).setCells w2.heap.size 0 [.int .i64 k, .int .i64 n, .int .i64 p]) := setCells_below _ _ _ b1 (Nat.le_refl _)
  exact ⟨a, h.call b2, a.stored _ _ _, hz⟩

theorem Scd.call {m : MemV} {k n p : Int} {q : Nat} {w w1 w2 : World} (h : Scd m k n p q w w1) (g : Below w1.heap.size w1 w2) : Scd m k n p q w w2 :=
  ⟨h.S.call g, h.A.below g h.A.lt, h.h⟩

theorem Scd.upd {m : MemV} {k n p : Int} {q : Nat} {w w1 : World} {j : Nat} {u : Value} (h : Scd m k n p q w w1) (hk : j < 136) (hu : fitC j u) : Scd (m.upd j u) k n p q w (w1.setCell ⟨w.heap.size, j, none⟩ u) := by
  have hq := h.h
  refine ⟨h.S.upd hk hu, ?_, hq⟩
  have := h.A.other (c := w.heap.size) (o := j) (vs := [u]) (by omega)
  exact this

theorem Tabs.ktabS {w : World} (T : Tabs w) : KTab w := ⟨T.zk, T.k0, T.k1, T.k2, T.k3, T.k4⟩

/-- What DevRead answers: an operand that has the text, or none. -/
theorem reads_cases {l : List UInt8} {e : Ending} (h : Reads l e) : ∃ (k n p : Int) (b : Bool), e = .returned (.tuple #[.agg #[.int .i64 k, .int .i64 n, .int .i64 p], .bool b]) ∧
    ((b = true ∧ okB k n p = true ∧ textL k n p = l) ∨ (b = false ∧ k = 0 ∧ n = 0 ∧ p = 0 ∧ ∀ k n p : Int, okB k n p = true → textL k n p ≠ l)) := by
  rcases h with ⟨k, n, p, h1, h2, rfl⟩ | ⟨h, rfl⟩
  · exact ⟨k, n, p, true, rfl, Or.inl ⟨rfl, h1, h2⟩⟩
  · exact ⟨0, 0, 0, false, rfl, Or.inr ⟨rfl, rfl, rfl, rfl, h⟩⟩

/-- A device's number is below how many there are. -/
theorem ok_num {k n p : Int} {s : Int} (h : okB k n p = true) (hk : k ≤ 10) (hs : sizeZ k = s) : ∃ j : Nat, n = j ∧ (j : Int) < s := by
  unfold okB at h
  rw [if_neg (by omega), if_neg (by omega), if_neg (by omega)] at h
  obtain ⟨h1, h2, -⟩ := of_decide_eq_true h
  exact ⟨n.toNat, by omega, by omega⟩

set_option maxRecDepth 100000 in
set_option maxHeartbeats 4000000 in
theorem impl_mscan (m : MemV) (s : ByteArray) (w : World) (hm : m.Ok) (hs : s.size ≤ 6000) (T : Tabs w) (R : RTab w) :
    Calls Tryz.prog 18 #[.agg m.row, .string s] w fun e w' => ∃ m' : MemV, e = .returned (.agg m'.row) ∧ Scans m s.data.toList m' ∧ Below w.heap.size w w' := by
  have TT : Hid (∀ w', Below w.heap.size w w' → Tabs w' ∧ RTab w') := fun w' hw' => ⟨T.below hw' (Nat.le_refl _), R.below hw' (Nat.le_refl _)⟩
  have H0 : Hid (Scn m w _) := scn_open m w 37 37
  clear T R
  go_enter Tryz.func18, Tryz.ntmps18
  go_upto_region 1 with fail
  generalize (w.alloc (.cells m.row 37)).alloc (.cells mem0.row 37) = w0 at H0 ⊢
  go_wp2_with fail
  refine (lib_cut1 s w0 hs (TT.out w0 H0.out.b).2).mono ?_
  rintro e w1 ⟨nm, va, bb, rfl, hnv, hb⟩
  have H1 : Hid (Scn m w w1) := H0.out.call hb
  have HN : Hid (NV s.data.toList nm va) := hnv
  have hl : s.data.toList.length = s.size := by rw [Array.length_toList]; rfl
  have l1 : nm.length ≤ 6000 := by have := (nv_len hnv).1; omega
  have l2 : va.length ≤ 6000 := by have := (nv_len hnv).2; omega
  clear hb hnv H0 hl
  by_cases e1 : nm = timeL
  · subst e1
    go_wp2_with fail
    refine (lib_uint32 ⟨va.toArray⟩ w1 (by rw [str_size]; omega) (TT.out w1 H1.out.b).2).mono ?_
    rintro e w2 ⟨v, x, rfl, hv, hd, hb⟩
    have H2 : Hid (Scn m w w2) := H1.out.call hb
    have HV : Hid (v < 4294967296 ∧ ∀ c, c < 4294967296 → va = Lib.decDigits c → v = c) := ⟨hv, by simpa using hd⟩
    have hw : IntKind.u32.wrap (v : Int) = v := by
      have := hv
      simp [IntKind.wrap, IntKind.signed, IntKind.bits]
      omega
    have hu : fitC 133 (.int .u32 (v : Int)) := by
      unfold fitC
      rw [if_pos (by omega)]
      exact ⟨v, hv, rfl⟩
    have H3 : Hid (Scn (m.upd 133 (.int .u32 (v : Int))) w _) := H2.out.upd (by omega) hu
    have hok : Hid ((m.upd 133 (.int .u32 (v : Int))).Ok ∧ m.upd 133 (.int .u32 (v : Int)) = { m with time := v }) := ⟨upd_ok hm (by omega) hu, upd_time m v⟩
    have c0 := H2.out.M.c 133 (by omega)
    have f0 := H2.out.M.f 133 (by omega)
    clear hb hv hd H1 H2 hu
    go_upto_region 6 with fail
    generalize (w2.setCell ⟨w.heap.size, 133, none⟩ (.int .u32 (v : Int))) = w3 at H3 ⊢
    generalize m.upd 133 (.int .u32 (v : Int)) = m3 at H3 hok
    clear c0 f0 hw
    have L := load_mem H3.out.M
    have S := store_mem m3 H3.out.Z
    go_wp2_with (first | refine list_load (t := 37) rfl rfl rfl L ?_ | refine list_store (t := 37) rfl rfl rfl rfl S ?_)
    refine ret_mem (c := 4) rfl rfl rfl (H3.out.fin m3).1 ⟨m3, rfl, ?_, (H3.out.fin m3).2⟩
    exact scans_time HN.out rfl hok.out.1 fun c hc e => by rw [hok.out.2, HV.out.2 c hc e]
  · have e1' : (nm == [116, 105, 109, 101]) = false := by simpa [timeL] using e1
    have E1 : Hid (nm ≠ timeL) := e1
    clear e1
    by_cases e2 : nm = ranL
    · subst e2
      have hu : fitC 134 (.bool true) := fit_b (by omega) true
      have H3 : Hid (Scn (m.upd 134 (.bool true)) w _) := H1.out.upd (by omega) hu
      have hok : Hid ((m.upd 134 (.bool true)).Ok ∧ m.upd 134 (.bool true) = { m with ran := true }) := ⟨upd_ok hm (by omega) hu, upd_ran m true⟩
      have c0 := H1.out.M.c 134 (by omega)
      have f0 := H1.out.M.f 134 (by omega)
      clear H1 hu
      go_upto_region 9 with fail
      generalize (w1.setCell ⟨w.heap.size, 134, none⟩ (.bool true)) = w3 at H3 ⊢
      generalize m.upd 134 (.bool true) = m3 at H3 hok
      clear c0 f0
      have L := load_mem H3.out.M
      have S := store_mem m3 H3.out.Z
      go_wp2_with (first | refine list_load (t := 37) rfl rfl rfl L ?_ | refine list_store (t := 37) rfl rfl rfl rfl S ?_)
      refine ret_mem (c := 4) rfl rfl rfl (H3.out.fin m3).1 ⟨m3, rfl, ?_, (H3.out.fin m3).2⟩
      exact scans_ran HN.out rfl hok.out.1 fun _ => hok.out.2
    · have e2' : (nm == [114, 97, 110]) = false := by simpa [ranL] using e2
      have E2 : Hid (nm ≠ ranL) := e2
      clear e2
      by_cases e3 : nm = faultL
      · subst e3
        have hu : fitC 135 (.bool true) := fit_b (by omega) true
        have H3 : Hid (Scn (m.upd 135 (.bool true)) w _) := H1.out.upd (by omega) hu
        have hok : Hid ((m.upd 135 (.bool true)).Ok ∧ m.upd 135 (.bool true) = { m with fault := true }) := ⟨upd_ok hm (by omega) hu, upd_fault m true⟩
        have c0 := H1.out.M.c 135 (by omega)
        have f0 := H1.out.M.f 135 (by omega)
        clear H1 hu
        go_upto_region 12 with fail
        generalize (w1.setCell ⟨w.heap.size, 135, none⟩ (.bool true)) = w3 at H3 ⊢
        generalize m.upd 135 (.bool true) = m3 at H3 hok
        clear c0 f0
        have L := load_mem H3.out.M
        have S := store_mem m3 H3.out.Z
        go_wp2_with (first | refine list_load (t := 37) rfl rfl rfl L ?_ | refine list_store (t := 37) rfl rfl rfl rfl S ?_)
        refine ret_mem (c := 4) rfl rfl rfl (H3.out.fin m3).1 ⟨m3, rfl, ?_, (H3.out.fin m3).2⟩
        exact scans_fault HN.out rfl hok.out.1 fun _ => hok.out.2
      · have e3' : (nm == [102, 97, 117, 108, 116]) = false := by simpa [faultL] using e3
        have E3 : Hid (nm ≠ faultL) := e3
        clear e3
        go_wp2_with fail
        refine (impl_read ⟨nm.toArray⟩ w1 (TT.out w1 H1.out.b).1 (by rw [str_size]; omega)).mono ?_
        rintro e w2 ⟨hrd, hb⟩
        have H2 : Hid (Scn m w w2) := H1.out.call hb
        obtain ⟨k, n, p, ob, rfl, hd⟩ := reads_cases hrd
        have hd' : (ob = true ∧ okB k n p = true ∧ textL k n p = nm) ∨ (ob = false ∧ k = 0 ∧ n = 0 ∧ p = 0 ∧ ∀ k n p : Int, okB k n p = true → textL k n p ≠ nm) := by simpa using hd
        have HD : Hid ((ob = true ∧ okB k n p = true ∧ textL k n p = nm) ∨ (ob = false ∧ k = 0 ∧ n = 0 ∧ p = 0 ∧ ∀ k n p : Int, okB k n p = true → textL k n p ≠ nm)) := hd'
        clear hb hrd hd hd' H1
        obtain ⟨A0, D0⟩ := scd_open H2.out k n p 66
        have L1 := A0.store (x' := .int .i64 k) (y' := .int .i64 n) (z' := .int .i64 p) rfl rfl rfl
        have H : Hid (Scd m k n p w2.heap.size w _) := D0
        clear A0 D0 H2
        go_upto_region 14 with (refine list_store (t := 66) (x := .pointer (some ⟨w2.heap.size, 0, none⟩)) (u := .agg #[.int .i64 k, .int .i64 n, .int .i64 p]) rfl rfl rfl rfl L1 ?_; simp only [Act.put])
        generalize (w2.alloc (.cells #[.int .i64 0, .int .i64 0, .int .i64 0] 66)).setCells w2.heap.size 0 [.int .i64 k, .int .i64 n, .int .i64 p] = w3 at H L1 ⊢
        clear L1
        generalize w2.heap.size = q at H ⊢
        have g0 := H.out.A.c0
        have g1 := H.out.A.c1
        by_cases h7 : k = 7
        · subst h7
          obtain ⟨j, hj⟩ : ∃ j : Nat, n = j ∧ okB 7 n p = true ∧ textL 7 n p = nm ∧ j < 16 := by
            rcases HD.out with ⟨-, a, b⟩ | ⟨-, a, -⟩
            · obtain ⟨j, c, d⟩ := ok_num (s := 16) a (by omega) rfl
              exact ⟨j, c, a, b, by omega⟩
            · omega
          obtain ⟨rfl, o1, o2, hj⟩ := hj
          have HO : Hid (okB 7 j p = true ∧ textL 7 j p = nm) := ⟨o1, o2⟩
          clear HD o1 o2
          go_upto_region 16 with fail
          go_wp2_with fail
          refine (impl_unmark ⟨va.toArray⟩ w3 (by rw [str_size]; omega) (TT.out w3 H.out.S.b).2).mono ?_
          rintro e w4 ⟨c, d, l, rfl, hu, hb⟩
          have hu' : Unmark va c d l := by simpa using hu
          have HU : Hid (Unmark va c d l) := hu'
          clear hu'
          have H : Hid (Scd m 7 j p q w w4) := H.out.call hb
          have g1 := H.out.A.c1
          have f1 : fitC (5 + j * 2) (.bool d) := fit_tD hj d
          have f2 : fitC (5 + j * 2 + 1) (.int .u16 (c : Int)) := by
            have := fit_tC hj (c : Int)
            rwa [show IntKind.u16.wrap (c : Int) = c by have := HU.out.1; simp [IntKind.wrap, IntKind.signed, IntKind.bits]; omega] at this
          have c0 := H.out.S.M.c (5 + j * 2) (by omega)
          have c1 := H.out.S.M.c (5 + j * 2 + 1) (by omega)
          have z0 := H.out.S.M.f (5 + j * 2) (by omega)
          have z1 := H.out.S.M.f (5 + j * 2 + 1) (by omega)
          have H : Hid (Scd ((m.upd (5 + j * 2) (.bool d)).upd (5 + j * 2 + 1) (.int .u16 (c : Int))) 7 j p q w _) := (H.out.upd (by omega) f1).upd (by omega) f2
          have em := upd_tim m j c d hj
          rw [em] at H
          have hok : (timV m j c d).Ok := tim_ok hm HU.out.1
          have EM : Hid (timV m j c d = timV m j c d) := rfl
          clear hb hu em f1 f2 g0
          go_upto_region 26 with fail
          generalize ((w4.setCell ⟨w.heap.size, 5 + j * 2, none⟩ (.bool d)).setCell ⟨w.heap.size, 5 + j * 2 + 1, none⟩ (.int .u16 (c : Int))) = w6 at H ⊢
          clear c0 c1 z0 z1 g1 EM
          obtain ⟨m4, e4⟩ : ∃ m4, m4 = timV m j c d := ⟨_, rfl⟩
          rw [← e4] at H hok
          have E4 : Hid (m4 = timV m j c d) := e4
          clear e4
          have L := load_mem H.out.S.M
          have LA := H.out.A.load
          go_wp2_with (first | refine list_load (t := 37) rfl rfl rfl L ?_ | refine list_load (t := 66) rfl rfl rfl LA ?_)
          refine (impl_putbit m4 7 j p true w6 hok (TT.out w6 H.out.S.b).1.ktabS).mono ?_
          rintro e w5 ⟨rfl, hb⟩
          have H5 : Hid (Scd m4 7 j p q w w5) := H.out.call hb
          obtain ⟨m5, e5⟩ : ∃ m5, m5 = pbV m4 7 j true := ⟨_, rfl⟩
          rw [← e5]
          have E5 : Hid (m5 = pbV m4 7 j true) := e5
          clear e5 hb L LA
          have S := store_mem m5 H5.out.S.Z
          go_wp2_with (refine list_store (t := 37) rfl rfl rfl rfl S ?_)
          refine ret_mem (c := 4) rfl rfl rfl (H5.out.S.fin m5).1 ⟨m5, rfl, ?_, (H5.out.S.fin m5).2⟩
          have e5 : m5 = timV m j c d := by rw [E5.out, pb_none (by omega), E4.out]
          refine scans_dev HN.out E1.out E2.out E3.out HO.out.1 HO.out.2 (by rw [e5]; exact tim_ok hm HU.out.1) (fun _ h => absurd h (by omega)) (fun _ c' d' hc e => ?_) (fun h => absurd h (by omega)) (fun h => absurd h (by omega)) (fun h => absurd h (by omega))
          obtain ⟨rfl, rfl, -⟩ := HU.out.2 c' d' false hc e
          rw [e5]
          rfl
        have h7' : (k == 7) = false := by simpa using h7
        by_cases h8 : k = 8
        · subst h8
          obtain ⟨j, hj⟩ : ∃ j : Nat, n = j ∧ okB 8 n p = true ∧ textL 8 n p = nm ∧ j < 16 := by
            rcases HD.out with ⟨-, a, b⟩ | ⟨-, a, -⟩
            · obtain ⟨j, c, d⟩ := ok_num (s := 16) a (by omega) rfl
              exact ⟨j, c, a, b, by omega⟩
            · omega
          obtain ⟨rfl, o1, o2, hj⟩ := hj
          have HO : Hid (okB 8 j p = true ∧ textL 8 j p = nm) := ⟨o1, o2⟩
          clear HD o1 o2
          go_upto_region 19 with fail
          go_wp2_with fail
          refine (impl_unmark ⟨va.toArray⟩ w3 (by rw [str_size]; omega) (TT.out w3 H.out.S.b).2).mono ?_
          rintro e w4 ⟨c, d, l, rfl, hu, hb⟩
          have hu' : Unmark va c d l := by simpa using hu
          have HU : Hid (Unmark va c d l) := hu'
          clear hu'
          have H : Hid (Scd m 8 j p q w w4) := H.out.call hb
          have g1 := H.out.A.c1
          have f1 : fitC (37 + j * 3) (.bool d) := fit_cD hj d
          have f2 : fitC (37 + j * 3 + 1) (.bool l) := fit_cL hj l
          have f3 : fitC (37 + j * 3 + 2) (.int .u16 (c : Int)) := by
            have := fit_cC hj (c : Int)
            rwa [show IntKind.u16.wrap (c : Int) = c by have := HU.out.1; simp [IntKind.wrap, IntKind.signed, IntKind.bits]; omega] at this
          have c0 := H.out.S.M.c (37 + j * 3) (by omega)
          have c1 := H.out.S.M.c (37 + j * 3 + 1) (by omega)
          have c2 := H.out.S.M.c (37 + j * 3 + 2) (by omega)
          have z0 := H.out.S.M.f (37 + j * 3) (by omega)
          have z1 := H.out.S.M.f (37 + j * 3 + 1) (by omega)
          have z2 := H.out.S.M.f (37 + j * 3 + 2) (by omega)
          have H : Hid (Scd (((m.upd (37 + j * 3) (.bool d)).upd (37 + j * 3 + 1) (.bool l)).upd (37 + j * 3 + 2) (.int .u16 (c : Int))) 8 j p q w _) := ((H.out.upd (by omega) f1).upd (by omega) f2).upd (by omega) f3
          have em := upd_cnt m j c d l hj
          rw [em] at H
          have hok : (cntV m j c d l).Ok := cnt_ok hm HU.out.1
          clear hb hu em f1 f2 f3 g0
          go_upto_region 26 with fail
          generalize (((w4.setCell ⟨w.heap.size, 37 + j * 3, none⟩ (.bool d)).setCell ⟨w.heap.size, 37 + j * 3 + 1, none⟩ (.bool l)).setCell ⟨w.heap.size, 37 + j * 3 + 2, none⟩ (.int .u16 (c : Int))) = w6 at H ⊢
          clear c0 c1 c2 z0 z1 z2 g1
          obtain ⟨m4, e4⟩ : ∃ m4, m4 = cntV m j c d l := ⟨_, rfl⟩
          rw [← e4] at H hok
          have E4 : Hid (m4 = cntV m j c d l) := e4
          clear e4
          have L := load_mem H.out.S.M
          have LA := H.out.A.load
          go_wp2_with (first | refine list_load (t := 37) rfl rfl rfl L ?_ | refine list_load (t := 66) rfl rfl rfl LA ?_)
          refine (impl_putbit m4 8 j p true w6 hok (TT.out w6 H.out.S.b).1.ktabS).mono ?_
          rintro e w5 ⟨rfl, hb⟩
          have H5 : Hid (Scd m4 8 j p q w w5) := H.out.call hb
          obtain ⟨m5, e5⟩ : ∃ m5, m5 = pbV m4 8 j true := ⟨_, rfl⟩
          rw [← e5]
          have E5 : Hid (m5 = pbV m4 8 j true) := e5
          clear e5 hb L LA
          have S := store_mem m5 H5.out.S.Z
          go_wp2_with (refine list_store (t := 37) rfl rfl rfl rfl S ?_)
          refine ret_mem (c := 4) rfl rfl rfl (H5.out.S.fin m5).1 ⟨m5, rfl, ?_, (H5.out.S.fin m5).2⟩
          have e5 : m5 = cntV m j c d l := by rw [E5.out, pb_none (by omega), E4.out]
          refine scans_dev HN.out E1.out E2.out E3.out HO.out.1 HO.out.2 (by rw [e5]; exact cnt_ok hm HU.out.1) (fun _ h => absurd h (by omega)) (fun h => absurd h (by omega)) (fun _ c' d' l' hc e => ?_) (fun h => absurd h (by omega)) (fun h => absurd h (by omega))
          obtain ⟨rfl, rfl, rfl⟩ := HU.out.2 c' d' l' hc e
          rw [e5]
          rfl
        have h8' : (k == 8) = false := by simpa using h8
        by_cases h9 : k = 9
        · subst h9
          obtain ⟨j, hj⟩ : ∃ j : Nat, n = j ∧ okB 9 n p = true ∧ textL 9 n p = nm ∧ j < 32 := by
            rcases HD.out with ⟨-, a, b⟩ | ⟨-, a, -⟩
            · obtain ⟨j, c, d⟩ := ok_num (s := 32) a (by omega) rfl
              exact ⟨j, c, a, b, by omega⟩
            · omega
          obtain ⟨rfl, o1, o2, hj⟩ := hj
          have HO : Hid (okB 9 j p = true ∧ textL 9 j p = nm) := ⟨o1, o2⟩
          clear HD o1 o2
          go_upto_region 22 with fail
          go_wp2_with fail
          refine (lib_int16 ⟨va.toArray⟩ w3 (by rw [str_size]; omega) (TT.out w3 H.out.S.b).2).mono ?_
          rintro e w4 ⟨z, x, rfl, z1, z2, hu, hb⟩
          have HU : Hid (-32768 ≤ z ∧ z ≤ 32767 ∧ ∀ y, -32768 ≤ y → y ≤ 32767 → va = Lib.itoa y → z = y) := ⟨z1, z2, by simpa using hu⟩
          have H : Hid (Scd m 9 j p q w w4) := H.out.call hb
          have g1 := H.out.A.c1
          have hz : IntKind.i16.wrap z = z := by simp [IntKind.wrap, IntKind.signed, IntKind.bits]; omega
          have f1 : fitC (85 + j) (.int .i16 z) := fit_d hj z1 z2
          have c0 := H.out.S.M.c (85 + j) (by omega)
          have z0 := H.out.S.M.f (85 + j) (by omega)
          have H : Hid (Scd (m.upd (85 + j) (.int .i16 z)) 9 j p q w _) := H.out.upd (by omega) f1
          have em := upd_int m j z hj
          rw [em] at H
          have hok : (intV m j z).Ok := int_okV hm z1 z2
          clear hb hu em f1 z1 z2 g0
          go_upto_region 26 with fail
          generalize (w4.setCell ⟨w.heap.size, 85 + j, none⟩ (.int .i16 z)) = w6 at H ⊢
          clear c0 z0 g1 hz
          obtain ⟨m4, e4⟩ : ∃ m4, m4 = intV m j z := ⟨_, rfl⟩
          rw [← e4] at H hok
          have E4 : Hid (m4 = intV m j z) := e4
          clear e4
          have L := load_mem H.out.S.M
          have LA := H.out.A.load
          go_wp2_with (first | refine list_load (t := 37) rfl rfl rfl L ?_ | refine list_load (t := 66) rfl rfl rfl LA ?_)
          refine (impl_putbit m4 9 j p true w6 hok (TT.out w6 H.out.S.b).1.ktabS).mono ?_
          rintro e w5 ⟨rfl, hb⟩
          have H5 : Hid (Scd m4 9 j p q w w5) := H.out.call hb
          obtain ⟨m5, e5⟩ : ∃ m5, m5 = pbV m4 9 j true := ⟨_, rfl⟩
          rw [← e5]
          have E5 : Hid (m5 = pbV m4 9 j true) := e5
          clear e5 hb L LA
          have S := store_mem m5 H5.out.S.Z
          go_wp2_with (refine list_store (t := 37) rfl rfl rfl rfl S ?_)
          refine ret_mem (c := 4) rfl rfl rfl (H5.out.S.fin m5).1 ⟨m5, rfl, ?_, (H5.out.S.fin m5).2⟩
          have e5 : m5 = intV m j z := by rw [E5.out, pb_none (by omega), E4.out]
          refine scans_dev HN.out E1.out E2.out E3.out HO.out.1 HO.out.2 (by rw [e5]; exact int_okV hm HU.out.1 HU.out.2.1) (fun _ h => absurd h (by omega)) (fun h => absurd h (by omega)) (fun h => absurd h (by omega)) (fun _ y y1 y2 e => ?_) (fun h => absurd h (by omega))
          rw [e5, HU.out.2.2 y y1 y2 e]
          rfl
        have h9' : (k == 9) = false := by simpa using h9
        by_cases h10 : k = 10
        · subst h10
          obtain ⟨j, hj⟩ : ∃ j : Nat, n = j ∧ okB 10 n p = true ∧ textL 10 n p = nm ∧ j < 16 := by
            rcases HD.out with ⟨-, a, b⟩ | ⟨-, a, -⟩
            · obtain ⟨j, c, d⟩ := ok_num (s := 16) a (by omega) rfl
              exact ⟨j, c, a, b, by omega⟩
            · omega
          obtain ⟨rfl, o1, o2, hj⟩ := hj
          have HO : Hid (okB 10 j p = true ∧ textL 10 j p = nm) := ⟨o1, o2⟩
          clear HD o1 o2
          go_upto_region 25 with fail
          clear g0 g1
          have HC := impl_rread ⟨va.toArray⟩ w3.drew (by rw [str_size]; omega) (TT.out w3.drew H.out.S.b.drew).2
          have H : Hid (Scd m 10 j p q w w3.drew) := H.out.call (Below.refl _ _).drew
          refine wp_region_held (S := fun w' => ArgAt q (.int .i64 10) (.int .i64 j) (.int .i64 p) w') (by kernel_rfl) ?_
          have hS := H.out.A
          refine held_any (fuel := 9) (i := 0) (v := .pointer (some ⟨q, 1, none⟩)) rfl (by kernel_rfl) (by kernel_rfl) (by kernel_rfl) rfl (fun _ _ _ h => h) (fun _ _ => by simp [go_sem]) hS ?_
          go_simp
          refine held_load (fuel := 8) (i := 1) (t := 3) (v := .int .i64 j) rfl rfl rfl (by kernel_rfl) (by kernel_rfl) (by kernel_rfl) rfl (fun _ _ _ h => h) (fun w' hw' => load_int hw'.c1) hS ?_
          go_simp
          refine held_any (fuel := 7) (i := 2) (v := .string ⟨va.toArray⟩) rfl (by kernel_rfl) (by kernel_rfl) (by kernel_rfl) rfl (fun _ _ _ h => h) (fun _ _ => rfl) hS ?_
          go_simp
          refine held_any (fuel := 6) (i := 7) (v := .pointer (some ⟨w.heap.size, 117, none⟩)) rfl (by kernel_rfl) (by kernel_rfl) (by kernel_rfl) rfl (fun _ _ _ h => h) (fun _ _ => by simp [go_sem]) hS ?_
          go_simp
          refine wpAnyH_ready (rs := [3]) (by kernel_rfl) (by simp) ?_
          refine AllReadyH.cons rfl (fun K hK => ?_) AllReadyH.nil
          go_simp
          refine HC.mono ?_
          rintro e w4 ⟨hr, hb⟩
          have H : Hid (Scd m 10 j p q w w4) := H.out.call hb
          obtain ⟨x, ob, rfl, hx⟩ : ∃ x ob, e = .returned (.tuple #[.float .f64 x, .bool ob]) ∧ x < 2 ^ 64 ∧ ∀ y, Txt y va → Txt x va := by
            have ev : (⟨va.toArray⟩ : ByteArray).data.toList = va := by simp
            rw [ev] at hr
            rcases hr with ⟨z, rfl, h1, h2⟩ | ⟨rfl, h1⟩
            · exact ⟨z, true, rfl, h2, fun _ _ => h1⟩
            · exact ⟨0, false, rfl, Nat.two_pow_pos 64, fun y hy => absurd hy (h1 y)⟩
          have HX : Hid (x < 2 ^ 64 ∧ ∀ y, Txt y va → Txt x va) := hx
          clear hr hb hx HC
          refine hK.out _ _ H.out.A (fun _ => ?_)
          clear hK K hS
          go_simp
          have hS := H.out.A
          refine held_any (fuel := 4) (i := 4) (v := .tuple #[.float .f64 x, .bool ob]) rfl (by kernel_rfl) (by kernel_rfl) (by kernel_rfl) rfl (fun _ _ _ h => h) (fun _ _ => rfl) hS ?_
          go_simp
          refine held_any (fuel := 3) (i := 5) (v := .float .f64 x) rfl (by kernel_rfl) (by kernel_rfl) (by kernel_rfl) rfl (fun _ _ _ h => h) (fun _ _ => by go_simp) hS ?_
          go_simp
          refine held_any (fuel := 2) (i := 6) (v := .bool ob) rfl (by kernel_rfl) (by kernel_rfl) (by kernel_rfl) rfl (fun _ _ _ h => h) (fun _ _ => by go_simp) hS ?_
          go_simp
          refine held_any (fuel := 1) (i := 8) (v := .pointer (some ⟨w.heap.size, 117 + j, none⟩)) rfl (by kernel_rfl) (by kernel_rfl) (by kernel_rfl) rfl (fun _ _ _ h => h) (fun _ _ => by go_simp; intro h; omega) hS ?_
          go_simp
          refine wpAnyH_ready (rs := [9]) (by kernel_rfl) (by simp) ?_
          refine AllReadyH.cons rfl (fun K hK => ?_) AllReadyH.nil
          rw [if_pos (by rfl)]
          have f1 : fitC (117 + j) (.float .f64 x) := fit_r hj HX.out.1
          have c0 := H.out.S.M.c (117 + j) (by omega)
          have z0 := H.out.S.M.f (117 + j) (by omega)
          have H : Hid (Scd (m.upd (117 + j) (.float .f64 x)) 10 j p q w _) := H.out.upd (by omega) f1
          have em := upd_rea m j x hj
          rw [em] at H
          have hok : (reaV m j x).Ok := rea_ok hm HX.out.1
          refine op_store rfl (store_float c0 z0) ?_
          refine hK.out _ _ H.out.A (fun _ => ?_)
          clear hK K hS c0 z0 f1 em
          go_simp
          generalize (w4.setCell ⟨w.heap.size, 117 + j, none⟩ (.float .f64 x)) = w6 at H ⊢
          refine wpAnyH_done (by kernel_rfl) ?_ _
          go_upto_region 26 with fail
          obtain ⟨m4, e4⟩ : ∃ m4, m4 = reaV m j x := ⟨_, rfl⟩
          rw [← e4] at H hok
          have E4 : Hid (m4 = reaV m j x) := e4
          clear e4
          have L := load_mem H.out.S.M
          have LA := H.out.A.load
          go_wp2_with (first | refine list_load (t := 37) rfl rfl rfl L ?_ | refine list_load (t := 66) rfl rfl rfl LA ?_)
          refine (impl_putbit m4 10 j p true w6 hok (TT.out w6 H.out.S.b).1.ktabS).mono ?_
          rintro e w5 ⟨rfl, hb⟩
          have H5 : Hid (Scd m4 10 j p q w w5) := H.out.call hb
          obtain ⟨m5, e5⟩ : ∃ m5, m5 = pbV m4 10 j true := ⟨_, rfl⟩
          rw [← e5]
          have E5 : Hid (m5 = pbV m4 10 j true) := e5
          clear e5 hb L LA
          have S := store_mem m5 H5.out.S.Z
          go_wp2_with (refine list_store (t := 37) rfl rfl rfl rfl S ?_)
          refine ret_mem (c := 4) rfl rfl rfl (H5.out.S.fin m5).1 ⟨m5, rfl, ?_, (H5.out.S.fin m5).2⟩
          have e5 : m5 = reaV m j x := by rw [E5.out, pb_none (by omega), E4.out]
          refine scans_dev HN.out E1.out E2.out E3.out HO.out.1 HO.out.2 (by rw [e5]; exact rea_ok hm HX.out.1) (fun _ h => absurd h (by omega)) (fun h => absurd h (by omega)) (fun h => absurd h (by omega)) (fun h => absurd h (by omega)) (fun _ y hy => ?_)
          exact ⟨x, HX.out.2 y hy, by rw [e5]; rfl⟩
        have h10' : (k == 10) = false := by simpa using h10
        clear g1
        go_upto_region 26 with fail
        clear g0 h7' h8' h9' h10'
        have L := load_mem H.out.S.M
        have LA := H.out.A.load
        go_wp2_with (first | refine list_load (t := 37) rfl rfl rfl L ?_ | refine list_load (t := 66) rfl rfl rfl LA ?_)
        refine (impl_putbit m k n p true w3 hm (TT.out w3 H.out.S.b).1.ktabS).mono ?_
        rintro e w5 ⟨rfl, hb⟩
        have H5 : Hid (Scd m k n p q w w5) := H.out.call hb
        obtain ⟨m5, e5⟩ : ∃ m5, m5 = pbV m k n true := ⟨_, rfl⟩
        rw [← e5]
        have E5 : Hid (m5 = pbV m k n true) := e5
        clear e5 hb L LA
        have S := store_mem m5 H5.out.S.Z
        go_wp2_with (refine list_store (t := 37) rfl rfl rfl rfl S ?_)
        refine ret_mem (c := 4) rfl rfl rfl (H5.out.S.fin m5).1 ⟨m5, rfl, ?_, (H5.out.S.fin m5).2⟩
        rcases HD.out with ⟨-, o1, o2⟩ | ⟨-, rfl, rfl, rfl, hn⟩
        · refine scans_dev HN.out E1.out E2.out E3.out o1 o2 (by rw [E5.out]; exact pb_ok hm) (fun a b _ => by rw [E5.out, pb_or o1 a b]) (fun h => absurd h h7) (fun h => absurd h h8) (fun h => absurd h h9) (fun h => absurd h h10)
        · exact scans_none HN.out E1.out E2.out E3.out hn (by rw [E5.out]; exact pb_ok hm) (fun _ => by rw [E5.out, pb_none (by omega)])

end Go.Proofs.YtdhoimjkgicneaaGreatDoor

/- Reading whole numbers as they are written: the specification's. -/
namespace Go.Proofs.YtdhoimjkgicneaaGreatDoor
open Go Go.RowKit

theorem dd_head0 (n : Nat) : 1 ≤ n → (Lib.decDigits n).head? ≠ some 48 := by
  induction n using Nat.strongRecOn with
  | ind n ih =>
    intro h1
    by_cases h : 9 < n
    · rw [dd_ge h]
      have := ih (n / 10) (by omega) (by omega)
      obtain ⟨c, cs, e, -⟩ := dd_head (n / 10)
      rw [e] at this ⊢
      simpa using this
    · rw [dd_lt (by omega)]
      simp only [List.head?_cons, ne_eq, Option.some.injEq]
      intro e
      have := (dig_of n (by omega)).2
      rw [e] at this
      simp at this
      omega

theorem dd_canon : ∀ (k : Nat) (l : List UInt8), l.length = k + 1 → l.all isDig = true → (l.head? ≠ some 48 ∨ l.length = 1) → Lib.decDigits (dval l 0) = l
  | 0, l, hl, ha, _ => by
    match l, hl with
    | [c], _ =>
      simp only [List.all_cons, List.all_nil, Bool.and_true] at ha
      have hc : 48 ≤ c.toNat ∧ c.toNat ≤ 57 := by simpa [isDig] using ha
      have e : dval [c] 0 = c.toNat - 48 := by simp [dval]
      rw [e, dd_lt (by omega)]
      congr 1
      apply UInt8.toNat_inj.1
      have : (48 + UInt8.ofNat (c.toNat - 48)).toNat = 48 + (c.toNat - 48) := by simp [UInt8.toNat_add, UInt8.toNat_ofNat']; omega
      rw [this]
      omega
  | k + 1, l, hl, ha, hh => by
    have hne : l ≠ [] := by intro h; rw [h] at hl; simp at hl
    have hsplit := List.dropLast_concat_getLast hne
    obtain ⟨b, hb⟩ : ∃ b, l.dropLast = b := ⟨_, rfl⟩
    obtain ⟨c, hc⟩ : ∃ c, l.getLast hne = c := ⟨_, rfl⟩
    rw [hb, hc] at hsplit
    have hlb : b.length = k + 1 := by rw [← hb, List.length_dropLast]; omega
    have hab : b.all isDig = true ∧ isDig c = true := by
      rw [← hsplit, List.all_append] at ha
      simpa using ha
    obtain ⟨x, xs, hx⟩ : ∃ x xs, b = x :: xs := by
      cases b with
      | nil => simp at hlb
      | cons x xs => exact ⟨x, xs, rfl⟩
    have hhb : b.head? ≠ some 48 := by
      rcases hh with h | h
      · rw [← hsplit, hx] at h
        rw [hx]
        simpa using h
      · omega
    have ih := dd_canon k b hlb hab.1 (Or.inl hhb)
    have hpos : 1 ≤ dval b 0 := by
      apply Classical.byContradiction
      intro h0
      have : dval b 0 = 0 := by omega
      rw [this, dd_lt (by omega)] at ih
      rw [← ih] at hhb
      exact hhb (by decide)
    have hcd : 48 ≤ c.toNat ∧ c.toNat ≤ 57 := by simpa [isDig] using hab.2
    have e : dval l 0 = dval b 0 * 10 + (c.toNat - 48) := by rw [← hsplit, dval_append]; simp [dval]
    rw [e, dd_ge (by omega), show (dval b 0 * 10 + (c.toNat - 48)) / 10 = dval b 0 by omega, show (dval b 0 * 10 + (c.toNat - 48)) % 10 = c.toNat - 48 by omega, ih]
    rw [← hsplit]
    congr 2
    apply UInt8.toNat_inj.1
    have : (48 + UInt8.ofNat (c.toNat - 48)).toNat = 48 + (c.toNat - 48) := by simp [UInt8.toNat_add, UInt8.toNat_ofNat']; omega
    rw [this]
    omega

/-- The digits of a number as it is written, behind its sign. -/
def canonP (neg : Bool) (l : List UInt8) : Prop := 1 ≤ l.length ∧ l.length ≤ 17 ∧ l.all isDig = true ∧ ¬ (l.head? = some 48 ∧ (1 < l.length ∨ neg = true))

theorem dval_bdT : ∀ (l : List UInt8), l.all isDig = true → ∀ a, dval l a < (a + 1) * 10 ^ l.length
  | [], _, a => by simp [dval]
  | c :: cs, h, a => by
    simp only [List.all_cons, Bool.and_eq_true] at h
    have hc : 48 ≤ c.toNat ∧ c.toNat ≤ 57 := by simpa [isDig] using h.1
    have := dval_bdT cs h.2 (a * 10 + (c.toNat - 48))
    have e : dval (c :: cs) a = dval cs (a * 10 + (c.toNat - 48)) := rfl
    rw [e]
    refine Nat.lt_of_lt_of_le this ?_
    rw [List.length_cons, Nat.pow_succ', ← Nat.mul_assoc]
    exact Nat.mul_le_mul_right _ (by omega)

theorem canon_itoa {neg : Bool} {l : List UInt8} (h : canonP neg l) : sgnL neg ++ l = Lib.itoa (if neg then -(dval l 0 : Int) else dval l 0) ∧ dval l 0 < 100000000000000000 := by
  obtain ⟨h1, h2, h3, h4⟩ := h
  have hd : Lib.decDigits (dval l 0) = l := by
    refine dd_canon (l.length - 1) l (by omega) h3 ?_
    by_cases hh : l.head? = some 48
    · right
      apply Classical.byContradiction
      intro hn
      exact h4 ⟨hh, Or.inl (by omega)⟩
    · exact Or.inl hh
  have hb : dval l 0 < 100000000000000000 := by
    have := dval_bdT l h3 0
    refine Nat.lt_of_lt_of_le this ?_
    rw [Nat.zero_add, Nat.one_mul, show (100000000000000000 : Nat) = 10 ^ 17 from by decide +kernel]
    exact Nat.pow_le_pow_right (by omega) h2
  refine ⟨?_, hb⟩
  cases neg
  · simp only [sgnL, Bool.false_eq_true, if_false, List.nil_append]
    unfold Lib.itoa
    rw [if_neg (by omega)]
    simpa using hd.symm
  · have hpos : dval l 0 ≠ 0 := by
      intro h0
      rw [h0, dd_lt (by omega)] at hd
      exact h4 ⟨by rw [← hd]; decide, Or.inr rfl⟩
    simp only [sgnL, if_true]
    unfold Lib.itoa
    rw [if_pos (by omega)]
    simp [hd]

theorem itoa_sgnT (e : Int) : Lib.itoa e = sgnL (decide (e < 0)) ++ Lib.decDigits e.natAbs := by
  unfold Lib.itoa
  by_cases h : e < 0
  · simp [h, sgnL]
  · rw [if_neg h]
    simp only [h, decide_false, sgnL, Bool.false_eq_true, if_false, List.nil_append]
    congr 1
    omega

theorem canon_of_itoa {neg : Bool} {l : List UInt8} {v : Int} (h : sgnL neg ++ l = Lib.itoa v) (hn : neg = true ∨ l.head? ≠ some 45) (hv : v.natAbs < 100000000000000000) : canonP neg l := by
  rw [itoa_sgnT] at h
  have hl := dd_len 16 v.natAbs (by omega)
  have hp := dd_pos v.natAbs
  have key : decide (v < 0) = neg ∧ l = Lib.decDigits v.natAbs := by
    obtain ⟨c, cs, e, hc⟩ := dd_head v.natAbs
    by_cases hvn : v < 0
    · simp only [hvn, decide_true, sgnL, if_true] at h ⊢
      cases neg
      · simp only [Bool.false_eq_true, if_false, List.nil_append] at h
        rcases hn with h' | h'
        · cases h'
        · rw [h] at h'
          exact absurd rfl h'
      · simp only [if_true] at h
        exact ⟨rfl, (List.cons.inj h).2⟩
    · simp only [hvn, decide_false, sgnL, Bool.false_eq_true, if_false, List.nil_append] at h ⊢
      cases neg
      · exact ⟨rfl, by simpa using h⟩
      · simp only [if_true] at h
        rw [e] at h
        rw [← (List.cons.inj h).1] at hc
        exact absurd hc (by decide)
  obtain ⟨k1, rfl⟩ := key
  refine ⟨hp, hl, dd_all _, ?_⟩
  rintro ⟨hh, hor⟩
  by_cases h0 : v.natAbs = 0
  · rcases hor with h1 | h1
    · rw [h0, dd_lt (by omega)] at h1
      simp at h1
    · rw [h1] at k1
      have : v < 0 := by simpa using k1
      omega
  · exact dd_head0 _ (by omega) hh

/-- What the reading of a number leaves. -/
def NumS (l : List UInt8) (w : World) (e : Ending) (w' : World) : Prop :=
  ((∃ v : Int, e = .returned (.tuple #[.int .i64 v, .bool true]) ∧ l = Lib.itoa v ∧ v.natAbs < 100000000000000000) ∨ (e = .returned (.tuple #[.int .i64 0, .bool false]) ∧ ∀ v : Int, v.natAbs < 100000000000000000 → l ≠ Lib.itoa v)) ∧ w' = w

theorem nums_no {l : List UInt8} {neg : Bool} {w : World} (h : ¬ canonP neg l) (hn : neg = true ∨ l.head? ≠ some 45) : NumS (sgnL neg ++ l) w (.returned (.tuple #[.int .i64 0, .bool false])) w :=
  ⟨Or.inr ⟨rfl, fun _ hv e => h (canon_of_itoa e hn hv)⟩, rfl⟩
theorem nums_yes {l : List UInt8} {neg : Bool} {w : World} (h : canonP neg l) : NumS (sgnL neg ++ l) w (.returned (.tuple #[.int .i64 (if neg then -(dval l 0 : Int) else dval l 0), .bool true])) w := by
  obtain ⟨h1, h2⟩ := canon_itoa h
  exact ⟨Or.inl ⟨_, rfl, h1, by cases neg <;> simp <;> omega⟩, rfl⟩

theorem toList_lenT (s : ByteArray) : s.data.toList.length = s.size := by rw [Array.length_toList]; rfl
theorem take_snocT (s : ByteArray) (k : Nat) (h : k < s.size) : s.data.toList.take (k + 1) = s.data.toList.take k ++ [s[k]] := by
  rw [List.take_succ_eq_append_getElem (by rw [toList_lenT]; exact h)]; rfl
theorem head_getT (s : ByteArray) (h : 0 < s.size) : s.data.toList.head? = some s[0] := by
  rw [List.head?_eq_getElem?, List.getElem?_eq_getElem (by rw [toList_lenT]; exact h)]; rfl
theorem bad_dig (s : ByteArray) (k : Nat) (h : k < s.size) (hd : isDig s[k] = false) : s.data.toList.all isDig = false := by
  rw [List.all_eq_false]
  refine ⟨s[k], ?_, by simp [hd]⟩
  have : s[k] = s.data.toList[k]'(by rw [toList_lenT]; exact h) := rfl
  rw [this]; exact List.getElem_mem _

end Go.Proofs.YtdhoimjkgicneaaGreatDoor
