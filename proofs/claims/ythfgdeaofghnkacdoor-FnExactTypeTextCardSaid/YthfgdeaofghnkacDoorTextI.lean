/-
  The walk of impl.textOf at kinds without parts.
-/
import Derived.Test.YthfgdeaofghnkacDoorFormsI
import Derived.Test.YthfgdeaofghnkacDoorCloneLib
namespace Go.Proofs.YthfgdeaofghnkacDoor
open Go.RowKit

set_option maxHeartbeats 1600000 in
set_option maxRecDepth 100000 in
theorem implTextInt (a : Option Addr) (l c : Nat) (w : World) :
    Calls Tryd.prog 44 #[.iface 84 (.agg #[.slice a l c])] w fun e w' => e = .returned (.string ⟨#[105, 110, 116]⟩) ∧ Below w.heap.size w w' := by
  have hB1 : Below w.heap.size w (w.alloc (.cells #[.slice a l c] 84)) := (Below.refl _ _).alloc (Nat.le_refl _) _
  have t0 : ∀ w : World, (Instr.typeAssert (.iface 84 (.agg #[.slice a l c])) 61 84 true).run Tryd.prog w = .ok (.tuple #[.agg #[.slice a l c], .bool true]) w := fun w => by kernel_rfl
  go_enter Tryd.func44, Tryd.ntmps44
  go_wp2
  go_ret
  exact ⟨rfl, hB1⟩

set_option maxHeartbeats 1600000 in
set_option maxRecDepth 100000 in
theorem implTextName (a : Option Addr) (l c : Nat) (nm : ByteArray) (w : World) (hs : nm.size ≤ 281474976710656) :
    Calls Tryd.prog 44 #[.iface 89 (.agg #[.slice a l c, .string nm])] w fun e w' => e = .returned (.string nm) ∧ Below w.heap.size w w' := by
  have hB1 : Below w.heap.size w (w.alloc (.cells #[.slice a l c, .string nm] 89)) := (Below.refl _ _).alloc (Nat.le_refl _) _
  have HC : Hid (∀ wx : World, Calls Tryd.prog 57 #[.string nm] wx fun e w' => e = .returned (.string nm) ∧ Below wx.heap.size wx w') := fun wx => stringsClone nm wx hs
  have t0 : ∀ w : World, (Instr.typeAssert (.iface 89 (.agg #[.slice a l c, .string nm])) 61 84 true).run Tryd.prog w = .ok (.tuple #[.agg #[.slice none 0 0], .bool false]) w := fun w => by kernel_rfl
  have t1 : ∀ w : World, (Instr.typeAssert (.iface 89 (.agg #[.slice a l c, .string nm])) 61 85 true).run Tryd.prog w = .ok (.tuple #[.agg #[.slice none 0 0], .bool false]) w := fun w => by kernel_rfl
  have t2 : ∀ w : World, (Instr.typeAssert (.iface 89 (.agg #[.slice a l c, .string nm])) 61 86 true).run Tryd.prog w = .ok (.tuple #[.agg #[.slice none 0 0], .bool false]) w := fun w => by kernel_rfl
  have t3 : ∀ w : World, (Instr.typeAssert (.iface 89 (.agg #[.slice a l c, .string nm])) 61 87 true).run Tryd.prog w = .ok (.tuple #[.agg #[.slice none 0 0], .bool false]) w := fun w => by kernel_rfl
  have t4 : ∀ w : World, (Instr.typeAssert (.iface 89 (.agg #[.slice a l c, .string nm])) 61 89 true).run Tryd.prog w = .ok (.tuple #[.agg #[.slice a l c, .string nm], .bool true]) w := fun w => by kernel_rfl
  go_enter Tryd.func44, Tryd.ntmps44
  go_wp2_with fail
  refine (HC.out _).mono ?_
  rintro e w2 ⟨rfl, hb2⟩
  go_wp2_with fail
  go_ret
  exact ⟨rfl, hB1.trans (hb2.mono (by simp))⟩

end Go.Proofs.YthfgdeaofghnkacDoor
