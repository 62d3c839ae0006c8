/-
  The numbers under which this program holds the library's sync.Mutex, and that it holds it.
-/
import Derived.Test.YtoebfpdalkpkdaaDoorProg
import Derived.Conc.RwLib
import Derived.Conc.MuData
import Derived.KernelRfl
namespace Go.Proofs
abbrev Tryd.muLink : Go.Conc.Locks.MuLink := { lock := 54, unlock := 55, ilock := 68, iunlock := 69, lockSlow := 84, unlockSlow := 87, disable := 80, enable := 82, acquire := 83, relMerge := 85, cas32 := 81, add32 := 86, tMutex := 87, tIMutex := 85, tPMutex := 109, tPIMutex := 127, tPI32 := 129, tUP := 131, tNoCopy := 82, tU32 := 83 }
set_option maxRecDepth 100000 in
theorem Tryd.muLib : Go.Conc.Locks.MuLib Tryd.prog Tryd.muLink :=
  ⟨Tryd.func54, Tryd.func55, Tryd.func68, Tryd.func69, Tryd.func80, Tryd.func82, Tryd.func83, Tryd.func85, Tryd.func81, Tryd.func86, Tryd.underlying85, Tryd.runUnderlying85, Tryd.sizeOf85, Tryd.isAgg85, Tryd.zeroValue85, Tryd.underlying87, Tryd.runUnderlying87, Tryd.sizeOf87, Tryd.isAgg87, Tryd.zeroValue87, Tryd.underlying109, Tryd.runUnderlying109, Tryd.sizeOf109, Tryd.isAgg109, Tryd.zeroValue109, Tryd.underlying127, Tryd.runUnderlying127, Tryd.sizeOf127, Tryd.isAgg127, Tryd.zeroValue127, Tryd.underlying129, Tryd.runUnderlying129, Tryd.sizeOf129, Tryd.isAgg129, Tryd.zeroValue129, Tryd.underlying131, Tryd.runUnderlying131, Tryd.sizeOf131, Tryd.isAgg131, Tryd.zeroValue131, Tryd.underlying82, Tryd.runUnderlying82, Tryd.sizeOf82, Tryd.isAgg82, Tryd.zeroValue82, Tryd.underlying21, Tryd.runUnderlying21, Tryd.sizeOf21, Tryd.isAgg21, Tryd.zeroValue21, (by kernel_rfl)⟩
end Go.Proofs
