/- The numbers under which the program holds the lock of package sync, and that it holds it. -/
import Derived.Test.YtdhoimjkgicneacRows
import Derived.Conc.MuLone
import Derived.KernelRfl
namespace Go.Proofs.Ytdhoimjkgicneac
open Go
abbrev muLink : Go.Conc.Locks.MuLink := { lock := 79, unlock := 80, ilock := 91, iunlock := 92, lockSlow := 103, unlockSlow := 106, disable := 99, enable := 101, acquire := 102, relMerge := 104, cas32 := 100, add32 := 105, tMutex := 101, tIMutex := 99, tPMutex := 142, tPIMutex := 144, tPI32 := 146, tUP := 148, tNoCopy := 97, tU32 := 58 }
set_option maxRecDepth 100000 in
theorem muLib : Go.Conc.Locks.MuLib Try.prog muLink :=
  ⟨Try.func79, Try.func80, Try.func91, Try.func92, Try.func99, Try.func101, Try.func102, Try.func104, Try.func100, Try.func105,
    Try.underlying99, Try.runUnderlying99, Try.sizeOf99, Try.isAgg99, Try.zeroValue99,
    Try.underlying101, Try.runUnderlying101, Try.sizeOf101, Try.isAgg101, Try.zeroValue101,
    Try.underlying142, Try.runUnderlying142, Try.sizeOf142, Try.isAgg142, Try.zeroValue142,
    Try.underlying144, Try.runUnderlying144, Try.sizeOf144, Try.isAgg144, Try.zeroValue144,
    Try.underlying146, Try.runUnderlying146, Try.sizeOf146, Try.isAgg146, Try.zeroValue146,
    Try.underlying148, Try.runUnderlying148, Try.sizeOf148, Try.isAgg148, Try.zeroValue148,
    Try.underlying97, Try.runUnderlying97, Try.sizeOf97, Try.isAgg97, Try.zeroValue97,
    Try.underlying21, Try.runUnderlying21, Try.sizeOf21, Try.isAgg21, Try.zeroValue21, (by kernel_rfl)⟩
end Go.Proofs.Ytdhoimjkgicneac
