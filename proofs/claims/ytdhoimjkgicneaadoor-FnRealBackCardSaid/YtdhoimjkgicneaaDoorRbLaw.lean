/- A drawn real number is read back from its text to the last bit, the sign of nought included; unlike numbers have unlike texts; a drawn text is read as the specification reads it: the row and its card. No condition but that the listed package variables lie as the program's text lays them (which the card ties to the text). -/
import Derived.Test.YtdhoimjkgicneaaDoorTxtS
import Derived.Test.YtdhoimjkgicneaaDoorShelfC
import Derived.Lib.LaidTab
import Derived.Lay
import Derived.Test.YtdhoimjkgicneaaDoorCodeOf
import Derived.Test.YtdhoimjkgicneaaDoorCards
import Derived.Test.YtdhoimjkgicneaaDoorTie
import Derived.Deep.DeepHandedRow
namespace Go.Proofs.YtdhoimjkgicneaaDoor
open Go Go.ChangeShapes Go.WideShapes Go.ChangeAt Go.RowKit

theorem tPowR : (Tryd.prog.globals[4]?).map (·.type) = some 177 := by kernel_rfl
theorem cPowR : Tryd.prog.cellsOf 177 = 20 := by kernel_rfl
theorem cU64R : Tryd.prog.cellsOf 50 = 1 := by kernel_rfl
theorem gSyn : Tryd.prog.globalNamed "strconv.ErrSyntax" = some 6 := by kernel_rfl
theorem gRan : Tryd.prog.globalNamed "strconv.ErrRange" = some 7 := by kernel_rfl
theorem tSyn : (Tryd.prog.globals[6]?).map (·.type) = some 137 := by kernel_rfl
theorem tRan : (Tryd.prog.globals[7]?).map (·.type) = some 137 := by kernel_rfl

theorem trod_ifaceR {P : Program} {H : Type} {enc : TypeId × Value → H} {w : World} {base : Nat} {spare : Nat → Bool} {held : Bool} {fuel : Nat} {t : TypeId} {ms : Array (String × TypeId)} {cs : List Value} {nm : String} {d : DataW H} {p : List MemPlace}
    (ht : P.underlying t = some (.interface ms)) (h : DataW.trod enc P w base spare held fuel t cs = some (.iface nm d, p)) : ∃ u v, cs = [.iface u v] := by
  cases fuel with
  | zero => simp [DataW.trod] at h
  | succ n =>
    unfold DataW.trod at h
    rw [ht] at h
    split at h <;> simp_all

theorem size_ofR {W : World} {n : String} {g : Nat} {cs : Array Value} (hg : Tryd.prog.globalNamed n = some g) (hv : W.var? Tryd.prog n = some cs) : g < W.heap.size := by
  unfold World.var? at hv
  simp only [hg, Option.bind_some] at hv
  cases hh : W.heap[g]? with
  | none => rw [hh] at hv; cases hv
  | some o => exact (Array.getElem?_eq_some_iff.1 hh).1

theorem iface_cell {W : World} {n : String} {g : Nat} {cs : Array Value} (hg : Tryd.prog.globalNamed n = some g) (hv : W.var? Tryd.prog n = some cs) (h : ∃ u v, cs.toList = [.iface u v]) : ∃ te pe, W.cell? ⟨g, 0, none⟩ = some (.iface te pe) := by
  obtain ⟨u, v, e⟩ := h
  refine ⟨u, v, ?_⟩
  have := World.var?_cell hg hv 0
  rw [this, ← Array.getElem?_toList, e]
  rfl

theorem iface_var {W : World} {n : String} {cs : Array Value} (hv : W.var? Tryd.prog n = some cs) (h : ∃ u v, cs.toList = [.iface u v]) : ∃ te pe, W.var? Tryd.prog n = some #[.iface te pe] := by
  obtain ⟨u, v, e⟩ := h
  refine ⟨u, v, ?_⟩
  rw [hv]
  congr 1
  cases cs
  simp_all

set_option maxRecDepth 100000 in
theorem rtab {W : World} (h : laidMetH Tryd.prog [("math/bits.deBruijn32tab", Rows.laid_math_bits_deBruijn32tab), ("math/bits.deBruijn64tab", Rows.laid_math_bits_deBruijn64tab), ("internal/strconv.uint64pow10", Rows.laid_internal_strconv_uint64pow10), ("strconv.ErrRange", Rows.laid_strconv_ErrRange), ("strconv.ErrSyntax", Rows.laid_strconv_ErrSyntax)] W) (hsh : W.ShapedOpen Tryd.prog) : RTab W := by
  have h' : laidMet Tryd.prog [("math/bits.deBruijn32tab", Rows.laid_math_bits_deBruijn32tab), ("math/bits.deBruijn64tab", Rows.laid_math_bits_deBruijn64tab), ("internal/strconv.uint64pow10", Rows.laid_internal_strconv_uint64pow10), ("strconv.ErrRange", Rows.laid_strconv_ErrRange), ("strconv.ErrSyntax", Rows.laid_strconv_ErrSyntax)] W := h
  obtain ⟨ps, hV, -, -⟩ := h'
  obtain ⟨ga, ta, ca, fa, pa, qa, hga, hta, hva, hda, hV, -⟩ := hV
  obtain ⟨gb, tb, cb, fb, pb, qb, hgb, htb, hvb, hdb, hV, -⟩ := hV
  obtain ⟨gc, tc, cc, fc, pc, qc, hgc, htc, hvc, hdc, hV, -⟩ := hV
  obtain ⟨gd, td, cd, fd, pd, qd, hgd, htd, hvd, hdd, hV, -⟩ := hV
  obtain ⟨ge, te, ce, fe, pe, qe, hge, hte, hve, hde, hV, -⟩ := hV
  clear hV hda hdb hva hvb hta htb hga hgb
  obtain rfl := Option.some.inj (gPowR.symm.trans hgc)
  obtain rfl := Option.some.inj (tPowR.symm.trans htc)
  obtain rfl := Option.some.inj (gRan.symm.trans hgd)
  obtain rfl := Option.some.inj (tRan.symm.trans htd)
  obtain rfl := Option.some.inj (gSyn.symm.trans hge)
  obtain rfl := Option.some.inj (tSyn.symm.trans hte)
  have hpow : Lib.TabIs Tryd.prog W "internal/strconv.uint64pow10" .u64 Lib.pow10Tab := by
    have e := Lib.cells_of_tab (k := .u64) (zs := Lib.pow10Tab) Tryd.underlying177 Tryd.underlying50 cU64R cPowR hdc
    unfold Lib.TabIs
    rw [hvc, ← e]
  have hm : ∃ m, W.cell? ⟨5, 0, none⟩ = some (.int .i64 m) := Tryd.laysM145.s1_3 W hsh
  have hz : 5 < W.heap.size := by
    obtain ⟨m, hm⟩ := hm
    unfold World.cell? at hm
    cases hh : W.heap[5]? with
    | none => simp [hh] at hm
    | some o => exact (Array.getElem?_eq_some_iff.1 hh).1
  exact ⟨size_ofR gPowR hvc, size_ofR gSyn hve, size_ofR gRan hvd, hz, hpow, iface_var hve (trod_ifaceR Tryd.underlying137 hde), iface_cell gRan hvd (trod_ifaceR Tryd.underlying137 hdd), hm⟩

set_option maxRecDepth 100000 in
theorem contract (H : Type) (enc : TypeId × Value → H) (W : World) (base : Nat) (args : Array Value) (ds gs : List (DataW H)) (before : List MemPlace)
    (hval : ∀ (j : Nat) t v, Tryd.f6.params[j]? = some t → args[j]? = some v → Value.okWide Tryd.prog W .any base t v)
    (hW : DataW.Whole enc Tryd.prog Tryd.f6.params.toList Rows.fnRealBackSpec.vars false W args.toList ds gs before) (hL : laidMetH Tryd.prog Rows.fnRealBackRow.laid W) (hsh : W.ShapedOpen Tryd.prog) :
    Calls Tryd.prog 6 args W fun e W' => ∃ v, e = .returned v ∧ Rows.fnRealBackSpec.post enc Tryd.prog Tryd.f6 false true false false W args v W' := by
  have hW' := hW
  obtain ⟨p, q, hA0, hV, rfl, hfz, hnd⟩ := hW
  have hA : DataW.TrodAll enc Tryd.prog W 0 (fun _ => true) true Tryd.f6.params.toList args.toList ds p := hA0
  rw [Tryd.params6] at hA hval
  obtain ⟨v0, vs0, d0, ds0, p0, q0, hargs, rfl, rfl, h0, r0⟩ := trodAll_cons hA
  obtain ⟨v1, vs1, d1, ds1, p1, q1, rfl, rfl, rfl, h1, r1⟩ := trodAll_cons r0
  obtain ⟨rfl, rfl, rfl⟩ := trodAll_nil r1
  obtain rfl : args = #[v0, v1] := by cases args; simp_all
  obtain ⟨rfl, rfl⟩ := trodVars_none hV
  obtain ⟨a0, l0, c0, rfl⟩ := okWide_slice Tryd.underlying22 (hval 0 22 v0 rfl rfl)
  obtain ⟨a1, l1, c1, rfl⟩ := okWide_slice Tryd.underlying22 (hval 1 22 v1 rfl rfl)
  obtain ⟨C0, m0⟩ := code_of h0
  obtain ⟨C1, m1⟩ := code_of h1
  have walk : Calls Tryd.prog 6 #[.slice a0 l0 c0, .slice a1 l1 c1] W fun e w' => e = .returned (.bool true) ∧ Below W.heap.size W w' := by
    by_cases hs : 1048576 < l0 ∨ 1048576 < l1
    · exact law_longB a0 a1 l0 c0 l1 c1 W hs m0 m1
    · exact law_shortB a0 a1 l0 c0 l1 c1 W (rtab hL hsh) (by omega) (by omega) C0 C1
  refine walk.mono fun e W' ⟨he, hb⟩ => ?_
  subst he
  exact ⟨_, rfl, close_true laidOut (by kernel_rfl) (by kernel_rfl) (by kernel_rfl) Tryd.underlying4 hW' rfl hb⟩

set_option maxRecDepth 100000 in
/-- A world in which the listed variables lie as the program's text lays them, and one operand that fits. -/
theorem fits (os : Os) {H : Type} (enc : TypeId × Value → H) : ∃ w0 : World, w0.os = os ∧ (w0.forCall (fun _ _ => 0) ⟨#[], #[.slice none 0 0, .slice none 0 0], []⟩).variablesB Tryd.checked.prog = true ∧
    (((w0.forCall (fun _ _ => 0) ⟨#[], #[.slice none 0 0, .slice none 0 0], []⟩).heap.toList.drop Tryd.checked.prog.globals.size).take ((begin Tryd.checked.prog (fun _ _ => 0) default).world.heap.size - Tryd.checked.prog.globals.size) =
      (begin Tryd.checked.prog (fun _ _ => 0) default).world.heap.toList.drop Tryd.checked.prog.globals.size) ∧
    Input.okWideB Tryd.checked.prog (w0.forCall (fun _ _ => 0) ⟨#[], #[.slice none 0 0, .slice none 0 0], []⟩) 6 ⟨#[], #[.slice none 0 0, .slice none 0 0], []⟩ = true ∧
    (OpenSpec.ofChange Rows.fnRealBackSpec).preRow enc Tryd.prog Tryd.f6 Rows.fnRealBackRow.domain false Rows.fnRealBackRow.laid (w0.forCall (fun _ _ => 0) ⟨#[], #[.slice none 0 0, .slice none 0 0], []⟩).memory #[.slice none 0 0, .slice none 0 0] := by
  refine ⟨(World.laidAll Tryd.prog os [("math/bits.deBruijn32tab", Rows.laid_math_bits_deBruijn32tab), ("math/bits.deBruijn64tab", Rows.laid_math_bits_deBruijn64tab), ("internal/strconv.uint64pow10", Rows.laid_internal_strconv_uint64pow10), ("strconv.ErrRange", Rows.laid_strconv_ErrRange), ("strconv.ErrSyntax", Rows.laid_strconv_ErrSyntax)]), World.laidAll_os _ _ _, by kernel_rfl, by kernel_rfl, by kernel_rfl, ?_⟩
  obtain ⟨x, hx⟩ := Option.isSome_iff_exists.1 (show (DataW.whole enc Tryd.prog (((World.laidAll Tryd.prog os [("math/bits.deBruijn32tab", Rows.laid_math_bits_deBruijn32tab), ("math/bits.deBruijn64tab", Rows.laid_math_bits_deBruijn64tab), ("internal/strconv.uint64pow10", Rows.laid_internal_strconv_uint64pow10), ("strconv.ErrRange", Rows.laid_strconv_ErrRange), ("strconv.ErrSyntax", Rows.laid_strconv_ErrSyntax)]) : World).forCall (fun _ _ => 0) ⟨#[], #[.slice none 0 0, .slice none 0 0], []⟩).memory Tryd.f6.params.toList Rows.fnRealBackSpec.vars false #[.slice none 0 0, .slice none 0 0].toList 8).isSome = true from by kernel_rfl)
  exact OpenSpec.preRow_of_cond 8 hx rfl (fun k hk => by cases hk) (by kernel_rfl) (laidMet_laidAll _ (by kernel_rfl) (by kernel_rfl))

set_option maxRecDepth 100000 in
theorem lifted (os : Os) (started : os.Started) (H : Type) (enc : TypeId × Value → H) (F : Stop.Interp) :
    ReturnsInHanded {} Tryd.checked os 6 .any ((OpenSpec.ofChange Rows.fnRealBackSpec).preRow enc Tryd.prog Tryd.f6 Rows.fnRealBackRow.domain false Rows.fnRealBackRow.laid) (((OpenSpec.ofChange Rows.fnRealBackSpec).at F).post enc Tryd.prog Tryd.f6 false true false false) := by
  obtain ⟨w0, h1, h2, h3, h4, h5⟩ := fits os enc
  refine returnsInHanded_of_row (C := Tryd.checked) (s := OpenSpec.ofChange Rows.fnRealBackSpec) own started (by kernel_rfl) Tryd.func6
    (witness_row_at (enc := enc) (C := Tryd.checked) false w0 #[.slice none 0 0, .slice none 0 0] h1 h2 h3 h4 h5) ?_
  intro W base args ds gs before hval hW _ _ _ hL hsh _
  exact contract H enc W base args ds gs before hval hW hL hsh

theorem said : Rows.FnRealBackSaid :=
  OpenClaim.holds_of_cond 6 Tryd.f6 rfl rfl rfl rfl rfl rfl rfl ⟨rfl, rfl, rfl, rfl, rfl⟩ rfl rfl rfl rfl rfl (by kernel_rfl) Tryd.func6 (by kernel_rfl)
    (of_decide_eq_true (by kernel_rfl)) (by unfold Func.isWrapper; first | (rw [if_pos (by decide +kernel)]; kernel_rfl) | (rw [if_neg (by decide +kernel)]; exact ⟨rfl, rfl⟩))
    (fun os started H enc _ F => by rw [OpenClaim.pre_eq_preRow]; exact lifted os started H enc F)

theorem plain (f : FuncId) (fn : Func) (hf : Tryd.pinned.checked.prog.funcNamed "loop.example/stilhold/laws.FnRealBack" = some f) (hfn : Tryd.pinned.checked.prog.funcs[f]? = some fn) :
    true = Tryd.pinned.checked.prog.looks [] ∧ ∀ (j : Nat) t, fn.params[j]? = some t → Tryd.pinned.checked.prog.wantsStandIn t = false := by
  obtain rfl : f = 6 := Option.some.inj ((show Tryd.prog.funcNamed "loop.example/stilhold/laws.FnRealBack" = some 6 by kernel_rfl).symm.trans hf) |>.symm
  obtain rfl : fn = Tryd.f6 := (Option.some.inj (Tryd.func6.symm.trans hfn)).symm
  refine ⟨by kernel_rfl, fun j t ht => ?_⟩
  rw [Tryd.params6] at ht
  have ht2 : t = 22 := by
    have hm := Array.mem_of_getElem? ht
    simpa using hm
  subst ht2
  exact (show Tryd.prog.wantsStandIn 22 = false by kernel_rfl)

theorem card : Rows.FnRealBackCardSaid :=
  Claim7.holds_tied_plain_at .later [] _ _ _ _ said (fun _ h => by cases h) (by kernel_rfl) (fun _ h => by cases h) fnRealBack_row_tie rfl ⟨rfl, rfl⟩ (by kernel_rfl) rfl plain (by kernel_rfl)

end Go.Proofs.YtdhoimjkgicneaaDoor
