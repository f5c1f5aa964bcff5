/- A number that is put into a drawn memory is there, can be put back, and changes nothing else -/
import Derived.Test.YtdhoimjkgicneaaDoorLot45
import Derived.Test.YtdhoimjkgicneaaDoorLot35
import Derived.Deep.DeepHandedRow
import Derived.Laws.Cover2
import Derived.Test.YtdhoimjkgicneaaDoorCards
import Derived.Test.YtdhoimjkgicneaaDoorTie
namespace Go.Proofs.YtdhoimjkgicneaaDoor
open Go Go.ChangeShapes Go.WideShapes Go.ChangeAt Go.RowKit

set_option maxRecDepth 100000 in
theorem ktabL {W : World} (h : laidMetH Tryd.prog [("loop.example/stilhold/impl.devKinds", Rows.laid_loop_example_stilhold_impl_devKinds)] W) : KTab W := by
  have h' : laidMet Tryd.prog [("loop.example/stilhold/impl.devKinds", Rows.laid_loop_example_stilhold_impl_devKinds)] W := h
  obtain ⟨ps, hV, -, -⟩ := h'
  obtain ⟨gd, td, cd, fd, pd, qd, hgd, htd, hvd, hdd, hV, -⟩ := hV
  obtain rfl := Option.some.inj (gKinds.symm.trans hgd)
  obtain rfl := Option.some.inj (tKinds.symm.trans htd)
  exact ktab_of hvd hdd

set_option maxRecDepth 100000 in
theorem contract (H : Type) (enc : TypeId × Value → H) (W : World) (base : Nat) (args : Array Value) (ds gs : List (DataW H)) (before : List MemPlace)
    (hval : ∀ (j : Nat) t v, Tryd.f9.params[j]? = some t → args[j]? = some v → Value.okWide Tryd.prog W .any base t v)
    (hW : DataW.Whole enc Tryd.prog Tryd.f9.params.toList Rows.fnMemPutNumberSpec.vars false W args.toList ds gs before) (hL : laidMetH Tryd.prog Rows.fnMemPutNumberRow.laid W) :
    Calls Tryd.prog 9 args W fun e W' => ∃ v, e = .returned v ∧ Rows.fnMemPutNumberSpec.post enc Tryd.prog Tryd.f9 false true false false W args v W' := by
  have hW' := hW
  obtain ⟨p, q, hA0, hV, rfl, hfz, hnd⟩ := hW
  have hA : DataW.TrodAll enc Tryd.prog W 0 (fun _ => true) true Tryd.f9.params.toList args.toList ds p := hA0
  rw [Tryd.params9] at hA hval
  obtain ⟨v0, vs0, d0, ds0, p0, q0, hargs, rfl, rfl, h0, r0⟩ := trodAll_cons hA
  obtain ⟨v1, vs1, d1, ds1, p1, q1, rfl, rfl, rfl, h1, r1⟩ := trodAll_cons r0
  obtain ⟨rfl, rfl, rfl⟩ := trodAll_nil r1
  obtain rfl : args = #[v0, v1] := by cases args; simp_all
  obtain ⟨ga, ta, ca, fa, da, pa, rfl, -⟩ := trodVars_one hV
  obtain ⟨a0, l0, c0, rfl⟩ := okWide_slice Tryd.underlying22 (hval 0 22 v0 rfl rfl)
  obtain ⟨C0, -⟩ := code_of h0
  obtain ⟨a1, l1, c1, rfl⟩ := okWide_slice Tryd.underlying22 (hval 1 22 v1 rfl rfl)
  obtain ⟨C1, -⟩ := code_of h1
  refine (PutD.law a0 a1 l0 c0 l1 c1 W C0 C1 (ktabL hL)).mono fun e W' ⟨he, hb⟩ => ?_
  subst he
  exact ⟨_, rfl, close_true laidOut (by kernel_rfl) (by kernel_rfl) (by kernel_rfl) Tryd.underlying4 hW' rfl hb⟩

set_option maxRecDepth 100000 in
/-- A world in which the listed variables lie as the program's text lays them, and arguments that fit. -/
theorem fits (os : Os) {H : Type} (enc : TypeId × Value → H) : ∃ w0 : World, w0.os = os ∧ (w0.forCall (fun _ _ => 0) ⟨#[], #[.slice none 0 0, .slice none 0 0], []⟩).variablesB Tryd.checked.prog = true ∧
    (((w0.forCall (fun _ _ => 0) ⟨#[], #[.slice none 0 0, .slice none 0 0], []⟩).heap.toList.drop Tryd.checked.prog.globals.size).take ((begin Tryd.checked.prog (fun _ _ => 0) default).world.heap.size - Tryd.checked.prog.globals.size) =
      (begin Tryd.checked.prog (fun _ _ => 0) default).world.heap.toList.drop Tryd.checked.prog.globals.size) ∧
    Input.okWideB Tryd.checked.prog (w0.forCall (fun _ _ => 0) ⟨#[], #[.slice none 0 0, .slice none 0 0], []⟩) 9 ⟨#[], #[.slice none 0 0, .slice none 0 0], []⟩ = true ∧
    (OpenSpec.ofChange Rows.fnMemPutNumberSpec).preRow enc Tryd.prog Tryd.f9 Rows.fnMemPutNumberRow.domain false Rows.fnMemPutNumberRow.laid (w0.forCall (fun _ _ => 0) ⟨#[], #[.slice none 0 0, .slice none 0 0], []⟩).memory #[.slice none 0 0, .slice none 0 0] := by
  refine ⟨{ (World.holding Tryd.prog os ⟨#[], #[], []⟩) with heap := ((World.holding Tryd.prog os ⟨#[], #[], []⟩).heap.modify 3 fun | .cells _ t fr => .cells #[.string ⟨#[]⟩, .int .i64 0, .bool false, .bool false, .bool false, .string ⟨#[88]⟩, .int .i64 32, .bool true, .bool false, .bool false, .string ⟨#[89]⟩, .int .i64 32, .bool true, .bool false, .bool false, .string ⟨#[77]⟩, .int .i64 64, .bool true, .bool false, .bool false, .string ⟨#[83]⟩, .int .i64 16, .bool true, .bool false, .bool false, .string ⟨#[69]⟩, .int .i64 32, .bool false, .bool false, .bool false, .string ⟨#[71]⟩, .int .i64 5, .bool true, .bool false, .bool false, .string ⟨#[84]⟩, .int .i64 16, .bool true, .bool true, .bool false, .string ⟨#[67]⟩, .int .i64 16, .bool true, .bool true, .bool false, .string ⟨#[68]⟩, .int .i64 32, .bool false, .bool true, .bool false, .string ⟨#[82]⟩, .int .i64 16, .bool false, .bool false, .bool true, .string ⟨#[]⟩, .int .i64 0, .bool false, .bool true, .bool false, .string ⟨#[]⟩, .int .i64 0, .bool false, .bool false, .bool true, .string ⟨#[]⟩, .int .i64 0, .bool false, .bool false, .bool true] t fr | o => o) }, rfl, by kernel_rfl, by kernel_rfl, by kernel_rfl, ?_⟩
  obtain ⟨x, hx⟩ := Option.isSome_iff_exists.1 (show (DataW.whole enc Tryd.prog (({ (World.holding Tryd.prog os ⟨#[], #[], []⟩) with heap := ((World.holding Tryd.prog os ⟨#[], #[], []⟩).heap.modify 3 fun | .cells _ t fr => .cells #[.string ⟨#[]⟩, .int .i64 0, .bool false, .bool false, .bool false, .string ⟨#[88]⟩, .int .i64 32, .bool true, .bool false, .bool false, .string ⟨#[89]⟩, .int .i64 32, .bool true, .bool false, .bool false, .string ⟨#[77]⟩, .int .i64 64, .bool true, .bool false, .bool false, .string ⟨#[83]⟩, .int .i64 16, .bool true, .bool false, .bool false, .string ⟨#[69]⟩, .int .i64 32, .bool false, .bool false, .bool false, .string ⟨#[71]⟩, .int .i64 5, .bool true, .bool false, .bool false, .string ⟨#[84]⟩, .int .i64 16, .bool true, .bool true, .bool false, .string ⟨#[67]⟩, .int .i64 16, .bool true, .bool true, .bool false, .string ⟨#[68]⟩, .int .i64 32, .bool false, .bool true, .bool false, .string ⟨#[82]⟩, .int .i64 16, .bool false, .bool false, .bool true, .string ⟨#[]⟩, .int .i64 0, .bool false, .bool true, .bool false, .string ⟨#[]⟩, .int .i64 0, .bool false, .bool false, .bool true, .string ⟨#[]⟩, .int .i64 0, .bool false, .bool false, .bool true] t fr | o => o) } : World).forCall (fun _ _ => 0) ⟨#[], #[.slice none 0 0, .slice none 0 0], []⟩).memory Tryd.f9.params.toList Rows.fnMemPutNumberSpec.vars false #[.slice none 0 0, .slice none 0 0].toList 8).isSome = true from by kernel_rfl)
  exact OpenSpec.preRow_of_cond 8 hx rfl (fun k hk => by cases hk) (by kernel_rfl) (laidMet_of_run' 8 (by kernel_rfl) (by kernel_rfl))

set_option maxRecDepth 100000 in
theorem lifted (os : Os) (started : os.Started) (H : Type) (enc : TypeId × Value → H) (F : Stop.Interp) :
    ReturnsInHanded {} Tryd.checked os 9 .any ((OpenSpec.ofChange Rows.fnMemPutNumberSpec).preRow enc Tryd.prog Tryd.f9 Rows.fnMemPutNumberRow.domain false Rows.fnMemPutNumberRow.laid) (((OpenSpec.ofChange Rows.fnMemPutNumberSpec).at F).post enc Tryd.prog Tryd.f9 false true false false) := by
  obtain ⟨w0, h1, h2, h3, h4, h5⟩ := fits os enc
  refine returnsInHanded_of_row (C := Tryd.checked) (s := OpenSpec.ofChange Rows.fnMemPutNumberSpec) own started (by kernel_rfl) Tryd.func9
    (witness_row_at (enc := enc) (C := Tryd.checked) false w0 #[.slice none 0 0, .slice none 0 0] h1 h2 h3 h4 h5) ?_
  intro W base args ds gs before hval hW _ _ _ hL _ _
  exact contract H enc W base args ds gs before hval hW hL

theorem said : Rows.FnMemPutNumberSaid :=
  OpenClaim.holds_of_cond 9 Tryd.f9 rfl rfl rfl rfl rfl rfl rfl ⟨rfl, rfl, rfl, rfl, rfl⟩ rfl rfl rfl rfl rfl (by kernel_rfl) Tryd.func9 (by kernel_rfl)
    (of_decide_eq_true (by kernel_rfl)) (by unfold Func.isWrapper; first | (rw [if_pos (by decide +kernel)]; kernel_rfl) | (rw [if_neg (by decide +kernel)]; exact ⟨rfl, rfl⟩))
    (fun os started H enc _ F => by rw [OpenClaim.pre_eq_preRow]; exact lifted os started H enc F)

theorem plain (f : FuncId) (fn : Func) (hf : Tryd.pinned.checked.prog.funcNamed "loop.example/stilhold/laws.FnMemPutNumber" = some f) (hfn : Tryd.pinned.checked.prog.funcs[f]? = some fn) :
    true = Tryd.pinned.checked.prog.looks [] ∧ ∀ (j : Nat) t, fn.params[j]? = some t → Tryd.pinned.checked.prog.wantsStandIn t = false := by
  obtain rfl : f = 9 := Option.some.inj ((show Tryd.prog.funcNamed "loop.example/stilhold/laws.FnMemPutNumber" = some 9 by kernel_rfl).symm.trans hf) |>.symm
  obtain rfl : fn = Tryd.f9 := (Option.some.inj (Tryd.func9.symm.trans hfn)).symm
  refine ⟨by kernel_rfl, fun j t ht => ?_⟩
  rw [Tryd.params9] at ht
  have ht2 : t = 22 := by
    have hm := Array.mem_of_getElem? ht
    simpa using hm
  subst ht2
  exact (show Tryd.prog.wantsStandIn 22 = false by kernel_rfl)

theorem card : Rows.FnMemPutNumberCardSaid :=
  Claim7.holds_tied_plain_at .later [] _ _ _ _ said (fun _ h => by cases h) (by kernel_rfl) (fun _ h => by cases h) fnMemPutNumber_row_tie rfl ⟨rfl, rfl⟩ (by kernel_rfl) rfl plain (by kernel_rfl)

end Go.Proofs.YtdhoimjkgicneaaDoor
