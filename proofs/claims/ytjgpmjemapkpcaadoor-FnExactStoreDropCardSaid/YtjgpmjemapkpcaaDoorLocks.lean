/-
  The numbers under which this program holds the library's sync.Mutex, and that it holds it.
-/
import Derived.Test.YtjgpmjemapkpcaaDoorProg
import Derived.Conc.RwLib
import Derived.Conc.MuData
import Derived.KernelRfl
namespace Go.Proofs
abbrev Tryd.muLink : Go.Conc.Locks.MuLink := { lock := 34, unlock := 35, ilock := 43, iunlock := 44, lockSlow := 56, unlockSlow := 59, disable := 52, enable := 54, acquire := 55, relMerge := 57, cas32 := 53, add32 := 58, tMutex := 63, tIMutex := 61, tPMutex := 73, tPIMutex := 90, tPI32 := 92, tUP := 94, tNoCopy := 58, tU32 := 59 }
set_option maxRecDepth 100000 in
theorem Tryd.muLib : Go.Conc.Locks.MuLib Tryd.prog Tryd.muLink :=
  ⟨Tryd.func34, Tryd.func35, Tryd.func43, Tryd.func44, Tryd.func52, Tryd.func54, Tryd.func55, Tryd.func57, Tryd.func53, Tryd.func58, Tryd.underlying61, Tryd.runUnderlying61, Tryd.sizeOf61, Tryd.isAgg61, Tryd.zeroValue61, Tryd.underlying63, Tryd.runUnderlying63, Tryd.sizeOf63, Tryd.isAgg63, Tryd.zeroValue63, Tryd.underlying73, Tryd.runUnderlying73, Tryd.sizeOf73, Tryd.isAgg73, Tryd.zeroValue73, Tryd.underlying90, Tryd.runUnderlying90, Tryd.sizeOf90, Tryd.isAgg90, Tryd.zeroValue90, Tryd.underlying92, Tryd.runUnderlying92, Tryd.sizeOf92, Tryd.isAgg92, Tryd.zeroValue92, Tryd.underlying94, Tryd.runUnderlying94, Tryd.sizeOf94, Tryd.isAgg94, Tryd.zeroValue94, Tryd.underlying58, Tryd.runUnderlying58, Tryd.sizeOf58, Tryd.isAgg58, Tryd.zeroValue58, Tryd.underlying21, Tryd.runUnderlying21, Tryd.sizeOf21, Tryd.isAgg21, Tryd.zeroValue21, (by kernel_rfl)⟩
end Go.Proofs
