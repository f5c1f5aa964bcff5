/- The numbers under which the program holds the lock of package sync, and that it holds it. -/
import Derived.Test.YtelgefchnjiggabRows
import Derived.Conc.MuLone
import Derived.KernelRfl
namespace Go.Proofs.Ytelgefchnjiggab
open Go
abbrev muLink : Go.Conc.Locks.MuLink := { lock := 46, unlock := 47, ilock := 55, iunlock := 56, lockSlow := 69, unlockSlow := 72, disable := 65, enable := 67, acquire := 68, relMerge := 70, cas32 := 66, add32 := 71, tMutex := 83, tIMutex := 81, tPMutex := 111, tPIMutex := 114, tPI32 := 116, tUP := 118, tNoCopy := 79, tU32 := 43 }
set_option maxRecDepth 100000 in
theorem muLib : Go.Conc.Locks.MuLib Try.prog muLink :=
  ⟨Try.func46, Try.func47, Try.func55, Try.func56, Try.func65, Try.func67, Try.func68, Try.func70, Try.func66, Try.func71,
    Try.underlying81, Try.runUnderlying81, Try.sizeOf81, Try.isAgg81, Try.zeroValue81,
    Try.underlying83, Try.runUnderlying83, Try.sizeOf83, Try.isAgg83, Try.zeroValue83,
    Try.underlying111, Try.runUnderlying111, Try.sizeOf111, Try.isAgg111, Try.zeroValue111,
    Try.underlying114, Try.runUnderlying114, Try.sizeOf114, Try.isAgg114, Try.zeroValue114,
    Try.underlying116, Try.runUnderlying116, Try.sizeOf116, Try.isAgg116, Try.zeroValue116,
    Try.underlying118, Try.runUnderlying118, Try.sizeOf118, Try.isAgg118, Try.zeroValue118,
    Try.underlying79, Try.runUnderlying79, Try.sizeOf79, Try.isAgg79, Try.zeroValue79,
    Try.underlying21, Try.runUnderlying21, Try.sizeOf21, Try.isAgg21, Try.zeroValue21, (by kernel_rfl)⟩
end Go.Proofs.Ytelgefchnjiggab
