/- The numbers under which the program holds the lock of package sync, and that it holds it. -/
import Derived.Test.YtdhoimjkgicneabRows
import Derived.Conc.MuLone
import Derived.KernelRfl
namespace Go.Proofs.Ytdhoimjkgicneab
open Go
abbrev muLink : Go.Conc.Locks.MuLink := { lock := 63, unlock := 64, ilock := 81, iunlock := 82, lockSlow := 96, unlockSlow := 99, disable := 92, enable := 94, acquire := 95, relMerge := 97, cas32 := 93, add32 := 98, tMutex := 89, tIMutex := 87, tPMutex := 136, tPIMutex := 140, tPI32 := 142, tUP := 144, tNoCopy := 85, tU32 := 43 }
set_option maxRecDepth 100000 in
theorem muLib : Go.Conc.Locks.MuLib Try.prog muLink :=
  ⟨Try.func63, Try.func64, Try.func81, Try.func82, Try.func92, Try.func94, Try.func95, Try.func97, Try.func93, Try.func98,
    Try.underlying87, Try.runUnderlying87, Try.sizeOf87, Try.isAgg87, Try.zeroValue87,
    Try.underlying89, Try.runUnderlying89, Try.sizeOf89, Try.isAgg89, Try.zeroValue89,
    Try.underlying136, Try.runUnderlying136, Try.sizeOf136, Try.isAgg136, Try.zeroValue136,
    Try.underlying140, Try.runUnderlying140, Try.sizeOf140, Try.isAgg140, Try.zeroValue140,
    Try.underlying142, Try.runUnderlying142, Try.sizeOf142, Try.isAgg142, Try.zeroValue142,
    Try.underlying144, Try.runUnderlying144, Try.sizeOf144, Try.isAgg144, Try.zeroValue144,
    Try.underlying85, Try.runUnderlying85, Try.sizeOf85, Try.isAgg85, Try.zeroValue85,
    Try.underlying21, Try.runUnderlying21, Try.sizeOf21, Try.isAgg21, Try.zeroValue21, (by kernel_rfl)⟩
end Go.Proofs.Ytdhoimjkgicneab
