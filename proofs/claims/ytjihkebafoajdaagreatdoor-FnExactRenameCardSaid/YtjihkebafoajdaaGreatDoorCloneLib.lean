/-
  The contract of strings.Clone, laid at this translation: the same bytes, and nothing that was there has turned.
  The walk of impl.textOf at kinds without parts.
-/
import Derived.Shelf.Strconv.Clone
import Derived.Test.YtjihkebafoajdaaGreatDoorProg
import Derived.WalkKit
import Derived.Test.YtjihkebafoajdaaGreatDoorFormD
namespace Go.Proofs.YtjihkebafoajdaaGreatDoor
open Go.Shelf Go.RowKit

def Tryz.cloneRen : Go.Shelf.Ren := ⟨fun | 316 => 69 | n => n, fun | 0 => 0 | 3 => 3 | 4 => 4 | 5 => 5 | 9 => 9 | 37 => 87 | 127 => 141 | n => n, fun | n => n⟩

theorem Tryz.laysClone : Go.Proofs.LaysM.n316 Tryz.prog Tryz.cloneRen := {
  mixed := by kernel_rfl
  f316 := Tryz.func69.trans (congrArg some (by kernel_rfl))
  t0 := Tryz.underlying0
  a0 := Tryz.isAgg0
  z0 := Tryz.sizeOf0
  v0 := Tryz.zeroValue0
  t3 := Tryz.underlying3
  a3 := Tryz.isAgg3
  z3 := Tryz.sizeOf3
  v3 := Tryz.zeroValue3
  t4 := Tryz.underlying4
  a4 := Tryz.isAgg4
  z4 := Tryz.sizeOf4
  v4 := Tryz.zeroValue4
  t9 := Tryz.underlying9
  a9 := Tryz.isAgg9
  z9 := Tryz.sizeOf9
  v9 := Tryz.zeroValue9
  t37 := Tryz.underlying87
  a37 := Tryz.isAgg87
  z37 := Tryz.sizeOf87
  v37 := Tryz.zeroValue87
  t127 := Tryz.underlying141
  a127 := Tryz.isAgg141
  z127 := Tryz.sizeOf141
  v127 := Tryz.zeroValue141
  t5 := Tryz.underlying5
  a5 := Tryz.isAgg5
  z5 := Tryz.sizeOf5
  v5 := Tryz.zeroValue5
  i0 := by kernel_rfl
  i3 := by kernel_rfl
  i4 := by kernel_rfl
  i5 := by kernel_rfl
  i9 := by kernel_rfl
  i37 := by kernel_rfl
  i127 := by kernel_rfl }

theorem innerClone (s : ByteArray) (w : World) (hlim : s.size ≤ 281474976710656) :
    Calls Tryz.prog 69 #[.string s] w fun e w' => e = .returned (.string s) ∧ Below w.heap.size w w' :=
  Any.stringslite_Clone Tryz.laysClone s w hlim

theorem stringsClone (s : ByteArray) (w : World) (hlim : s.size ≤ 281474976710656) :
    Calls Tryz.prog 46 #[.string s] w fun e w' => e = .returned (.string s) ∧ Below w.heap.size w w' := by
  go_enter Tryz.func46, Tryz.ntmps46
  go_wp2_with (go_at_call 69; refine (innerClone s _ hlim).mono ?_; rintro e w1 ⟨rfl, hb⟩)
  go_ret
  exact ⟨rfl, hb⟩

end Go.Proofs.YtjihkebafoajdaaGreatDoor

namespace Go.Proofs.YtjihkebafoajdaaGreatDoor
open Go.RowKit

set_option maxHeartbeats 1600000 in
set_option maxRecDepth 100000 in
theorem implTextInt (a : Option Addr) (l c : Nat) (w : World) :
    Calls Tryz.prog 65 #[.iface 78 (.agg #[.slice a l c])] w fun e w' => e = .returned (.string ⟨#[105, 110, 116]⟩) ∧ Below w.heap.size w w' := by
  have hB1 : Below w.heap.size w (w.alloc (.cells #[.slice a l c] 78)) := (Below.refl _ _).alloc (Nat.le_refl _) _
  have t0 : ∀ w : World, (Instr.typeAssert (.iface 78 (.agg #[.slice a l c])) 48 78 true).run Tryz.prog w = .ok (.tuple #[.agg #[.slice a l c], .bool true]) w := fun w => by kernel_rfl
  go_enter Tryz.func65, Tryz.ntmps65
  go_wp2
  go_ret
  exact ⟨rfl, hB1⟩

set_option maxHeartbeats 1600000 in
set_option maxRecDepth 100000 in
theorem implTextName (a : Option Addr) (l c : Nat) (nm : ByteArray) (w : World) (hs : nm.size ≤ 281474976710656) :
    Calls Tryz.prog 65 #[.iface 82 (.agg #[.slice a l c, .string nm])] w fun e w' => e = .returned (.string nm) ∧ Below w.heap.size w w' := by
  have hB1 : Below w.heap.size w (w.alloc (.cells #[.slice a l c, .string nm] 82)) := (Below.refl _ _).alloc (Nat.le_refl _) _
  have HC : Hid (∀ wx : World, Calls Tryz.prog 46 #[.string nm] wx fun e w' => e = .returned (.string nm) ∧ Below wx.heap.size wx w') := fun wx => stringsClone nm wx hs
  have t0 : ∀ w : World, (Instr.typeAssert (.iface 82 (.agg #[.slice a l c, .string nm])) 48 78 true).run Tryz.prog w = .ok (.tuple #[.agg #[.slice none 0 0], .bool false]) w := fun w => by kernel_rfl
  have t1 : ∀ w : World, (Instr.typeAssert (.iface 82 (.agg #[.slice a l c, .string nm])) 48 79 true).run Tryz.prog w = .ok (.tuple #[.agg #[.slice none 0 0], .bool false]) w := fun w => by kernel_rfl
  have t2 : ∀ w : World, (Instr.typeAssert (.iface 82 (.agg #[.slice a l c, .string nm])) 48 80 true).run Tryz.prog w = .ok (.tuple #[.agg #[.slice none 0 0], .bool false]) w := fun w => by kernel_rfl
  have t3 : ∀ w : World, (Instr.typeAssert (.iface 82 (.agg #[.slice a l c, .string nm])) 48 67 true).run Tryz.prog w = .ok (.tuple #[.agg #[.slice none 0 0], .bool false]) w := fun w => by kernel_rfl
  have t4 : ∀ w : World, (Instr.typeAssert (.iface 82 (.agg #[.slice a l c, .string nm])) 48 82 true).run Tryz.prog w = .ok (.tuple #[.agg #[.slice a l c, .string nm], .bool true]) w := fun w => by kernel_rfl
  go_enter Tryz.func65, Tryz.ntmps65
  go_wp2_with fail
  refine (HC.out _).mono ?_
  rintro e w2 ⟨rfl, hb2⟩
  go_wp2_with fail
  go_ret
  exact ⟨rfl, hB1.trans (hb2.mono (by simp))⟩

end Go.Proofs.YtjihkebafoajdaaGreatDoor
