/-
  errors.Is where the target is an error of errors.New's make: of the same error, and of none.
-/
import Derived.Test.YtikoacgfnojoeaaGreatDoorRows
import Derived.WalkKit
import Derived.LaidEql
import Derived.Stop.Asserts
import Derived.RowKitTokens
namespace Go.Proofs.YtikoacgfnojoeaaGreatDoor
open Go.RowKit Go.Extern.Stop Go.Stop Go.Extern

theorem Tryz.esTypeOf (v : Value) (w : World) : (Extern.ReflectliteType.typeOf #[.iface 207 v]).run Tryz.prog w = .ok (.iface 148 (.agg #[.pointer (some ⟨5, 207, none⟩)])) w := by kernel_rfl
theorem Tryz.esComparable (w : World) : ((Extern.ReflectliteType.method fun t => do Rtype.noPackHeld "Comparable" t; (fun a => Value.bool a.comparable) <$> typeInfo t) #[.agg #[.pointer (some ⟨5, 207, none⟩)]]).run Tryz.prog w = .ok (.bool true) w := by kernel_rfl
theorem Tryz.esComp : (Tryz.prog.info? 207).map (·.comparable) = some true := by kernel_rfl
theorem Tryz.esSize : (Tryz.prog.info? 230).map (·.size) = some 1 := by kernel_rfl

theorem Tryz.esMethod (v : Value) (w : World) : (Go.method 341 148 v "Comparable").run Tryz.prog w = .ok (123, v) w := by kernel_rfl

set_option maxHeartbeats 800000 in
set_option maxRecDepth 100000 in
/-- errors.Is of an error and itself, made by errors.New -/
theorem esSame (a : Addr) (w : World) :
    Calls Tryz.prog 24 #[.iface 207 (.pointer (some a)), .iface 207 (.pointer (some a))] w fun e w' => e = .returned (.bool true) ∧ w' = w := by
  obtain ⟨i, hi, hcmp⟩ := Option.map_eq_some_iff.1 Tryz.esComp
  obtain ⟨j, hj, hjs⟩ := Option.map_eq_some_iff.1 Tryz.esSize
  have hT := @run_callFunc_extern Tryz.prog 47 _ Extern.ReflectliteType.typeOf Tryz.func47 (by kernel_rfl) (by kernel_rfl) (by kernel_rfl) (by kernel_rfl)
  have hC := @run_callFunc_extern Tryz.prog 123 _ (Extern.ReflectliteType.method fun t => do Rtype.noPackHeld "Comparable" t; pure (.bool (← typeInfo t).comparable)) Tryz.func123 (by kernel_rfl) (by kernel_rfl) (by kernel_rfl) (by kernel_rfl)
  have tT := Tryz.esTypeOf
  have cT := Tryz.esComparable
  have mR := Tryz.esMethod
  have heq := run_eql_iface_ptr_same (P := Tryz.prog) w a Tryz.underlying71 Tryz.underlying207 hi hcmp hj
  go_enter Tryz.func24, Tryz.ntmps24
  go_wp2
  refine wp_loop_rounds 1 ?_
  rw [rounds_succ]
  go_wp2
  go_ret
  exact ⟨rfl, rfl⟩

/-- errors.Is of none -/
theorem esNil (b : Addr) (w : World) :
    Calls Tryz.prog 24 #[.nilIface, .iface 207 (.pointer (some b))] w fun e w' => e = .returned (.bool false) ∧ w' = w := by
  have hn := run_eql_iface_nil_left (P := Tryz.prog) w 207 (.pointer (some b)) Tryz.underlying71
  go_enter Tryz.func24, Tryz.ntmps24
  go_wp2
  go_ret
  exact ⟨rfl, rfl⟩

end Go.Proofs.YtikoacgfnojoeaaGreatDoor
