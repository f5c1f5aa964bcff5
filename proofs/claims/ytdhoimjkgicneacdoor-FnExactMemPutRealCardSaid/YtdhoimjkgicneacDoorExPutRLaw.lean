/- At every memory, operand and real number the program's MemPutReal answers as the specification's, in every cell: the row and its card. No condition but that the listed package variable lies as the program's text lays it (which the card ties to the text). -/
import Derived.Test.YtdhoimjkgicneacDoorExPutR
import Derived.Test.YtdhoimjkgicneacDoorDevKT
import Derived.Test.YtdhoimjkgicneacDoorClose
import Derived.Deep.DeepHandedRow
import Derived.Laws.Cover2
import Derived.Test.YtdhoimjkgicneacDoorCards
import Derived.Test.YtdhoimjkgicneacDoorTie
namespace Go.Proofs.YtdhoimjkgicneacDoor
open Go Go.ChangeShapes Go.WideShapes Go.ChangeAt Go.RowKit

theorem own : ownKnob Tryd.prog.godebug = none := by kernel_rfl
theorem laidOut : laidOutB Tryd.prog = true := by kernel_rfl

set_option maxRecDepth 100000 in
theorem ktabL {W : World} (h : laidMetH Tryd.prog [("loop.example/stilhold/impl.devKinds", Rows.laid_loop_example_stilhold_impl_devKinds)] W) : KTab W := by
  have h' : laidMet Tryd.prog [("loop.example/stilhold/impl.devKinds", Rows.laid_loop_example_stilhold_impl_devKinds)] W := h
  obtain ⟨ps, hV, -, -⟩ := h'
  obtain ⟨gd, td, cd, fd, pd, qd, hgd, htd, hvd, hdd, hV, -⟩ := hV
  obtain rfl := Option.some.inj (gKinds.symm.trans hgd)
  obtain rfl := Option.some.inj (tKinds.symm.trans htd)
  exact ktab_of hvd hdd

set_option maxRecDepth 100000 in
theorem val_f64 {W : World} {r : Reach} {base : Nat} {v : Value} (h : Value.okWide Tryd.prog W r base 33 v) : ∃ x : Nat, v = .float .f64 x ∧ x < 2 ^ 64 := by
  unfold Value.okWide at h
  rw [Tryd.underlying33] at h
  obtain ⟨z, hz, h1⟩ := cell_float Tryd.underlying33 h
  exact ⟨z, hz, h1⟩

set_option maxRecDepth 100000 in
theorem contract (H : Type) (enc : TypeId × Value → H) (W : World) (base : Nat) (args : Array Value) (ds gs : List (DataW H)) (before : List MemPlace)
    (hval : ∀ (j : Nat) t v, Tryd.f4.params[j]? = some t → args[j]? = some v → Value.okWide Tryd.prog W .any base t v)
    (hW : DataW.Whole enc Tryd.prog Tryd.f4.params.toList Rows.fnExactMemPutRealSpec.vars false W args.toList ds gs before) (hL : laidMetH Tryd.prog Rows.fnExactMemPutRealRow.laid W) :
    Calls Tryd.prog 4 args W fun e W' => ∃ v, e = .returned v ∧ Rows.fnExactMemPutRealSpec.post enc Tryd.prog Tryd.f4 false true false false W args v W' := by
  have hW' := hW
  obtain ⟨p, q, hA0, hV, rfl, hfz, hnd⟩ := hW
  have hA : DataW.TrodAll enc Tryd.prog W 0 (fun _ => true) true Tryd.f4.params.toList args.toList ds p := hA0
  rw [Tryd.params4] at hA hval
  obtain ⟨v0, vs0, d0, ds0, p0, q0, hargs, rfl, rfl, h0, r0⟩ := trodAll_cons hA
  obtain ⟨v1, vs1, d1, ds1, p1, q1, rfl, rfl, rfl, h1, r1⟩ := trodAll_cons r0
  obtain ⟨v2, vs2, d2, ds2, p2, q2, rfl, rfl, rfl, h2, r2⟩ := trodAll_cons r1
  obtain ⟨rfl, rfl, rfl⟩ := trodAll_nil r2
  obtain rfl : args = #[v0, v1, v2] := by cases args; simp_all
  obtain ⟨ga, ta, ca, fa, da, pa, rfl, -⟩ := trodVars_one hV
  obtain ⟨m0, k0, rfl⟩ := open_mem (hval 0 36 v0 rfl rfl)
  obtain ⟨x1, y1, z1, rfl⟩ := open_arg (hval 1 38 v1 rfl rfl)
  obtain ⟨b2, rfl, k2⟩ := val_f64 (hval 2 33 v2 rfl rfl)
  refine (law m0 x1 y1 z1 b2 W k0 k2 (ktabL hL)).mono fun e W' ⟨he, hb⟩ => ?_
  subst he
  exact ⟨_, rfl, close_true laidOut (by kernel_rfl) (by kernel_rfl) (by kernel_rfl) Tryd.underlying4 hW' rfl hb⟩

set_option maxRecDepth 100000 in
/-- A world in which the listed variables lie as the program's text lays them, and arguments that fit. -/
theorem fits (os : Os) {H : Type} (enc : TypeId × Value → H) : ∃ w0 : World, w0.os = os ∧ (w0.forCall (fun _ _ => 0) ⟨#[], #[.agg mem0.row, .agg #[.int .i64 0, .int .i64 0, .int .i64 0], .float .f64 0], []⟩).variablesB Tryd.checked.prog = true ∧
    (((w0.forCall (fun _ _ => 0) ⟨#[], #[.agg mem0.row, .agg #[.int .i64 0, .int .i64 0, .int .i64 0], .float .f64 0], []⟩).heap.toList.drop Tryd.checked.prog.globals.size).take ((begin Tryd.checked.prog (fun _ _ => 0) default).world.heap.size - Tryd.checked.prog.globals.size) =
      (begin Tryd.checked.prog (fun _ _ => 0) default).world.heap.toList.drop Tryd.checked.prog.globals.size) ∧
    Input.okWideB Tryd.checked.prog (w0.forCall (fun _ _ => 0) ⟨#[], #[.agg mem0.row, .agg #[.int .i64 0, .int .i64 0, .int .i64 0], .float .f64 0], []⟩) 4 ⟨#[], #[.agg mem0.row, .agg #[.int .i64 0, .int .i64 0, .int .i64 0], .float .f64 0], []⟩ = true ∧
    (OpenSpec.ofChange Rows.fnExactMemPutRealSpec).preRow enc Tryd.prog Tryd.f4 Rows.fnExactMemPutRealRow.domain false Rows.fnExactMemPutRealRow.laid (w0.forCall (fun _ _ => 0) ⟨#[], #[.agg mem0.row, .agg #[.int .i64 0, .int .i64 0, .int .i64 0], .float .f64 0], []⟩).memory #[.agg mem0.row, .agg #[.int .i64 0, .int .i64 0, .int .i64 0], .float .f64 0] := by
  refine ⟨{ (World.holding Tryd.prog os ⟨#[], #[], []⟩) with heap := ((World.holding Tryd.prog os ⟨#[], #[], []⟩).heap.modify 2 fun | .cells _ t fr => .cells #[.string ⟨#[]⟩, .int .i64 0, .bool false, .bool false, .bool false, .string ⟨#[88]⟩, .int .i64 32, .bool true, .bool false, .bool false, .string ⟨#[89]⟩, .int .i64 32, .bool true, .bool false, .bool false, .string ⟨#[77]⟩, .int .i64 64, .bool true, .bool false, .bool false, .string ⟨#[83]⟩, .int .i64 16, .bool true, .bool false, .bool false, .string ⟨#[69]⟩, .int .i64 32, .bool false, .bool false, .bool false, .string ⟨#[71]⟩, .int .i64 5, .bool true, .bool false, .bool false, .string ⟨#[84]⟩, .int .i64 16, .bool true, .bool true, .bool false, .string ⟨#[67]⟩, .int .i64 16, .bool true, .bool true, .bool false, .string ⟨#[68]⟩, .int .i64 32, .bool false, .bool true, .bool false, .string ⟨#[82]⟩, .int .i64 16, .bool false, .bool false, .bool true, .string ⟨#[]⟩, .int .i64 0, .bool false, .bool true, .bool false, .string ⟨#[]⟩, .int .i64 0, .bool false, .bool false, .bool true, .string ⟨#[]⟩, .int .i64 0, .bool false, .bool false, .bool true] t fr | o => o) }, rfl, by kernel_rfl, by kernel_rfl, by kernel_rfl, ?_⟩
  obtain ⟨x, hx⟩ := Option.isSome_iff_exists.1 (show (DataW.whole enc Tryd.prog (({ (World.holding Tryd.prog os ⟨#[], #[], []⟩) with heap := ((World.holding Tryd.prog os ⟨#[], #[], []⟩).heap.modify 2 fun | .cells _ t fr => .cells #[.string ⟨#[]⟩, .int .i64 0, .bool false, .bool false, .bool false, .string ⟨#[88]⟩, .int .i64 32, .bool true, .bool false, .bool false, .string ⟨#[89]⟩, .int .i64 32, .bool true, .bool false, .bool false, .string ⟨#[77]⟩, .int .i64 64, .bool true, .bool false, .bool false, .string ⟨#[83]⟩, .int .i64 16, .bool true, .bool false, .bool false, .string ⟨#[69]⟩, .int .i64 32, .bool false, .bool false, .bool false, .string ⟨#[71]⟩, .int .i64 5, .bool true, .bool false, .bool false, .string ⟨#[84]⟩, .int .i64 16, .bool true, .bool true, .bool false, .string ⟨#[67]⟩, .int .i64 16, .bool true, .bool true, .bool false, .string ⟨#[68]⟩, .int .i64 32, .bool false, .bool true, .bool false, .string ⟨#[82]⟩, .int .i64 16, .bool false, .bool false, .bool true, .string ⟨#[]⟩, .int .i64 0, .bool false, .bool true, .bool false, .string ⟨#[]⟩, .int .i64 0, .bool false, .bool false, .bool true, .string ⟨#[]⟩, .int .i64 0, .bool false, .bool false, .bool true] t fr | o => o) } : World).forCall (fun _ _ => 0) ⟨#[], #[.agg mem0.row, .agg #[.int .i64 0, .int .i64 0, .int .i64 0], .float .f64 0], []⟩).memory Tryd.f4.params.toList Rows.fnExactMemPutRealSpec.vars false #[.agg mem0.row, .agg #[.int .i64 0, .int .i64 0, .int .i64 0], .float .f64 0].toList 8).isSome = true from by kernel_rfl)
  exact OpenSpec.preRow_of_cond 8 hx rfl (fun k hk => by cases hk) (by kernel_rfl) (laidMet_of_run' 8 (by kernel_rfl) (by kernel_rfl))

set_option maxRecDepth 100000 in
theorem lifted (os : Os) (started : os.Started) (H : Type) (enc : TypeId × Value → H) (F : Stop.Interp) :
    ReturnsInHanded {} Tryd.checked os 4 .any ((OpenSpec.ofChange Rows.fnExactMemPutRealSpec).preRow enc Tryd.prog Tryd.f4 Rows.fnExactMemPutRealRow.domain false Rows.fnExactMemPutRealRow.laid) (((OpenSpec.ofChange Rows.fnExactMemPutRealSpec).at F).post enc Tryd.prog Tryd.f4 false true false false) := by
  obtain ⟨w0, h1, h2, h3, h4, h5⟩ := fits os enc
  refine returnsInHanded_of_row (C := Tryd.checked) (s := OpenSpec.ofChange Rows.fnExactMemPutRealSpec) own started (by kernel_rfl) Tryd.func4
    (witness_row_at (enc := enc) (C := Tryd.checked) false w0 #[.agg mem0.row, .agg #[.int .i64 0, .int .i64 0, .int .i64 0], .float .f64 0] h1 h2 h3 h4 h5) ?_
  intro W base args ds gs before hval hW _ _ _ hL _ _
  exact contract H enc W base args ds gs before hval hW hL

theorem said : Rows.FnExactMemPutRealSaid :=
  OpenClaim.holds_of_cond 4 Tryd.f4 rfl rfl rfl rfl rfl rfl rfl ⟨rfl, rfl, rfl, rfl, rfl⟩ rfl rfl rfl rfl rfl (by kernel_rfl) Tryd.func4 (by kernel_rfl)
    (of_decide_eq_true (by kernel_rfl)) (by unfold Func.isWrapper; first | (rw [if_pos (by decide +kernel)]; kernel_rfl) | (rw [if_neg (by decide +kernel)]; exact ⟨rfl, rfl⟩))
    (fun os started H enc _ F => by rw [OpenClaim.pre_eq_preRow]; exact lifted os started H enc F)

theorem plain (f : FuncId) (fn : Func) (hf : Tryd.pinned.checked.prog.funcNamed "loop.example/stilhold/laws.FnExactMemPutReal" = some f) (hfn : Tryd.pinned.checked.prog.funcs[f]? = some fn) :
    false = Tryd.pinned.checked.prog.looks [] ∧ ∀ (j : Nat) t, fn.params[j]? = some t → Tryd.pinned.checked.prog.wantsStandIn t = false := by
  obtain rfl : f = 4 := Option.some.inj ((show Tryd.prog.funcNamed "loop.example/stilhold/laws.FnExactMemPutReal" = some 4 by kernel_rfl).symm.trans hf) |>.symm
  obtain rfl : fn = Tryd.f4 := (Option.some.inj (Tryd.func4.symm.trans hfn)).symm
  refine ⟨by kernel_rfl, fun j t ht => ?_⟩
  rw [Tryd.params4] at ht
  have ht2 : t = 36 ∨ t = 38 ∨ t = 33 := by
    have hm := Array.mem_of_getElem? ht
    simpa using hm
  rcases ht2 with rfl | rfl | rfl
  · exact (show Tryd.prog.wantsStandIn 36 = false by kernel_rfl)
  · exact (show Tryd.prog.wantsStandIn 38 = false by kernel_rfl)
  · exact (show Tryd.prog.wantsStandIn 33 = false by kernel_rfl)

theorem card : Rows.FnExactMemPutRealCardSaid :=
  Claim7.holds_tied_plain_at .later [] _ _ _ _ said (fun _ h => by cases h) (by kernel_rfl) (fun _ h => by cases h) fnExactMemPutReal_row_tie rfl ⟨rfl, rfl⟩ (by kernel_rfl) rfl plain (by kernel_rfl)

end Go.Proofs.YtdhoimjkgicneacDoor
