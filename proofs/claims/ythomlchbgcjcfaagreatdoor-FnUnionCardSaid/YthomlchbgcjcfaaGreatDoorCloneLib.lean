/-
  The contract of strings.Clone, laid at this translation: the same bytes, and nothing that was there has turned.
  The walks of slices.Clone at texts, and of impl.copyTexts.
  The walk of impl.textOf at kinds without parts.
  The walk of impl.typeOf at forms without kids.
-/
import Derived.Shelf.Strconv.Clone
import Derived.Test.YthomlchbgcjcfaaGreatDoorProg
import Derived.WalkKit
import Derived.Test.YthomlchbgcjcfaaGreatDoorStepA
import Derived.Test.YthomlchbgcjcfaaGreatDoorLayD
import Derived.Test.YthomlchbgcjcfaaGreatDoorFormsI
import Derived.Test.YthomlchbgcjcfaaGreatDoorFormT
import Derived.Test.YthomlchbgcjcfaaGreatDoorTypeH
namespace Go.Proofs.YthomlchbgcjcfaaGreatDoor
open Go.Shelf Go.RowKit

def Tryz.cloneRen : Go.Shelf.Ren := ⟨fun | 316 => 47 | n => n, fun | 0 => 0 | 3 => 3 | 4 => 4 | 5 => 5 | 9 => 9 | 37 => 22 | 127 => 114 | n => n, fun | n => n⟩

theorem Tryz.laysClone : Go.Proofs.LaysM.n316 Tryz.prog Tryz.cloneRen := {
  mixed := by kernel_rfl
  f316 := Tryz.func47.trans (congrArg some (by kernel_rfl))
  t0 := Tryz.underlying0
  a0 := Tryz.isAgg0
  z0 := Tryz.sizeOf0
  v0 := Tryz.zeroValue0
  t3 := Tryz.underlying3
  a3 := Tryz.isAgg3
  z3 := Tryz.sizeOf3
  v3 := Tryz.zeroValue3
  t4 := Tryz.underlying4
  a4 := Tryz.isAgg4
  z4 := Tryz.sizeOf4
  v4 := Tryz.zeroValue4
  t9 := Tryz.underlying9
  a9 := Tryz.isAgg9
  z9 := Tryz.sizeOf9
  v9 := Tryz.zeroValue9
  t37 := Tryz.underlying22
  a37 := Tryz.isAgg22
  z37 := Tryz.sizeOf22
  v37 := Tryz.zeroValue22
  t127 := Tryz.underlying114
  a127 := Tryz.isAgg114
  z127 := Tryz.sizeOf114
  v127 := Tryz.zeroValue114
  t5 := Tryz.underlying5
  a5 := Tryz.isAgg5
  z5 := Tryz.sizeOf5
  v5 := Tryz.zeroValue5
  i0 := by kernel_rfl
  i3 := by kernel_rfl
  i4 := by kernel_rfl
  i5 := by kernel_rfl
  i9 := by kernel_rfl
  i37 := by kernel_rfl
  i127 := by kernel_rfl }

theorem innerClone (s : ByteArray) (w : World) (hlim : s.size ≤ 281474976710656) :
    Calls Tryz.prog 47 #[.string s] w fun e w' => e = .returned (.string s) ∧ Below w.heap.size w w' :=
  Any.stringslite_Clone Tryz.laysClone s w hlim

theorem stringsClone (s : ByteArray) (w : World) (hlim : s.size ≤ 281474976710656) :
    Calls Tryz.prog 31 #[.string s] w fun e w' => e = .returned (.string s) ∧ Below w.heap.size w w' := by
  go_enter Tryz.func31, Tryz.ntmps31
  go_wp2_with (go_at_call 47; refine (innerClone s _ hlim).mono ?_; rintro e w1 ⟨rfl, hb⟩)
  go_ret
  exact ⟨rfl, hb⟩

end Go.Proofs.YthomlchbgcjcfaaGreatDoor

namespace Go.Proofs.YthomlchbgcjcfaaGreatDoor
open Go.RowKit

set_option maxHeartbeats 800000 in
set_option maxRecDepth 100000 in
theorem slClone (v : Value) (ts : List ByteArray) (w : World) (hT : Texts w v ts) (hl : ts.length ≤ 1048577) :
    Calls Tryz.prog 48 #[v] w fun e w' => ∃ (a : Option Addr) (c : Nat), e = .returned (.slice a ts.length c) ∧ w'.ownsRow w.heap.size 9 1 (.slice a ts.length c) ts.length (strV ts) ∧ Below w.heap.size w w' := by
  obtain ⟨i0, hi0, hz0, hz1, hz2⟩ := info_parts Tryz.infoString
  obtain ⟨a, cap, rfl, hc⟩ := textsOpen hT
  clear hT
  cases a with
  | none =>
    have h0 : ts.length = 0 := by
      cases hh : ts.length with
      | zero => rfl
      | succ m => obtain ⟨b, off, e, _⟩ := hc 0 (by omega); cases e
    have ht : ts = [] := List.length_eq_zero_iff.1 h0
    subst ht
    clear hc hl h0
    have hq : ∀ w : World, Sem.run Tryz.prog (binOp BinOp.eql 26 (.slice none 0 cap) (.slice none 0 0)) w = .ok (.bool true) w := fun w => by kernel_rfl
    go_enter Tryz.func48, Tryz.ntmps48
    go_wp2
    go_ret
    exact ⟨none, 0, rfl, World.ownsRow_nil _ _ _ _, Below.refl _ _⟩
  | some ad =>
    have HC : Hid (∀ X : World, Below w.heap.size w X → ∀ j u, (strV ts)[j]? = some u → X.cell? (ad.add j) = some u) := fun X hX j u hu => by
      have hj : j < ts.length := by
        have := (List.getElem?_eq_some_iff.1 hu).1
        rwa [strV_length] at this
      obtain ⟨b, off, e, h⟩ := hc j hj
      simp only [Option.some.injEq] at e
      subst e
      rw [strV_get ts j hj] at hu
      rw [← hu, ← h, Addr.add_lit]
      exact hX.cell (p := ⟨b, off + j, none⟩) (World.block_lt_of_cell? w ⟨b, off + j, none⟩ h)
    have hB1 : Below w.heap.size w (w.alloc (.cells #[] 9)) := (Below.refl _ _).alloc (Nat.le_refl _) _
    have hE : (w.alloc (.cells #[] 9)).ownsRow w.heap.size 9 1 (.slice (some ⟨w.heap.size, 0, none⟩) 0 0) 0 [] := own_empty (MapKept.heap_alloc w _).1 (Nat.le_refl _)
    clear hc
    have hq : ∀ w : World, Sem.run Tryz.prog (binOp BinOp.eql 26 (.slice (some ad) ts.length cap) (.slice none 0 0)) w = .ok (.bool false) w := fun w => by kernel_rfl
    go_enter Tryz.func48, Tryz.ntmps48
    go_wp2_with (at_builtin; refine wpList_append_own _ rfl _ _ 26 rfl w.heap.size 9 i0 (.string ⟨#[]⟩) 1 16 Tryz.underlying26 hi0 hz0 hz1 hz2 rfl (by decide) _ _ _ rfl hE ad ts.length cap (strV ts) rfl (by rw [strV_length]; omega) (HC.out _ hB1) (strV_one ts) ?c3 ?c4 ?c5 ?_)
    case c3 => unfold maxLen; omega
    case c4 => omega
    case c5 => simp
    intro v' w3 hown' hgrow _
    have R1 : w3.ownsRow w.heap.size 9 1 v' ts.length (strV ts) := by simpa using hown'
    have R2 : Below w.heap.size w w3 := hB1.grown hgrow (by simp) (fun j hj => by simp [Value.ownBlock] at hj; omega)
    obtain ⟨a', c', hv⟩ := slice_ownM R1
    subst hv
    have HO : Hid (type_of% R1) := R1
    clear hown' hgrow R1 HC hE hB1
    go_wp2_with fail
    go_ret
    exact ⟨a', c', rfl, HO.out, R2⟩

theorem strV_set (ts : List ByteArray) (k : Nat) (h : k < ts.length) : (strV ts).set k (.string ts[k]) = strV ts := by
  apply List.ext_getElem?
  intro i
  by_cases c : k = i
  · subst c
    rw [List.getElem?_set_self (by rw [strV_length]; exact h), strV_get ts k h]
  · rw [List.getElem?_set_ne c]

set_option maxHeartbeats 800000 in
set_option maxRecDepth 100000 in
theorem implCopyTexts (v : Value) (ts : List ByteArray) (w : World) (hT : Texts w v ts) (hl : ts.length ≤ 1048577) (hs : ∀ x ∈ ts, x.size ≤ 1048576) :
    Calls Tryz.prog 32 #[v] w fun e w' => ∃ (a : Option Addr) (c : Nat), e = .returned (.slice a ts.length c) ∧ w'.ownsRow w.heap.size 9 1 (.slice a ts.length c) ts.length (strV ts) ∧ Below w.heap.size w w' := by
  have HCL := slClone v ts w hT hl
  obtain ⟨av, cv, rfl, _⟩ := textsOpen hT
  have HC : Hid (type_of% HCL) := HCL
  have HSZ : Hid (type_of% hs) := hs
  clear HCL hT hs
  go_enter Tryz.func32, Tryz.ntmps32
  go_wp2_with fail
  refine HC.out.mono ?_
  rintro e w1 ⟨a, c, rfl, ho1, hb1⟩
  clear HC
  go_wp2_with fail
  go_loopw [10] (fun i wr => ∃ k : Nat, k ≤ ts.length ∧ i = .int .i64 k ∧ wr.ownsRow w.heap.size 9 1 (.slice a ts.length c) ts.length (strV ts) ∧ Below w.heap.size w wr) (fun i _ => ts.length - (intOf i).toNat)
  case atStart => exact ⟨0, Nat.zero_le _, rfl, ho1, hb1⟩
  case round =>
    obtain ⟨k, hk, rfl, ho, hbe⟩ := hrel
    clear ho1 hb1
    have hz : w.heap.size ≤ wr.heap.size := hbe.size
    by_cases hlt : k < ts.length
    · obtain ⟨g, rfl, hgl, hgr⟩ : ∃ g, a = some ⟨g, 0, none⟩ ∧ w.heap.size ≤ g ∧ g < wr.heap.size := by
        rcases ho.2 with ⟨_, h0⟩ | ⟨g, cap, cur, hv, hg, hh, _⟩
        · omega
        · simp only [Value.slice.injEq, true_and] at hv
          exact ⟨g, hv.1, hg, (Array.getElem?_eq_some_iff.1 hh).1⟩
      have C1 : wr.cell? ⟨g, k, none⟩ = some (.string ts[k]) := by rw [ho.cellAt k (by omega), strV_get ts k hlt]
      have HS : Hid ((strV ts).set k (.string ts[k]) = strV ts) := strV_set ts k hlt
      have HCc : Hid (∀ wx : World, Calls Tryz.prog 31 #[.string ts[k]] wx fun e w' => e = .returned (.string ts[k]) ∧ Below wx.heap.size wx w') := fun wx => stringsClone ts[k] wx (by have := HSZ.out _ (List.getElem_mem hlt); omega)
      clear HSZ
      generalize ts[k] = x at *
      go_wp2_with fail
      refine (HCc.out _).mono ?_
      rintro e w2 ⟨rfl, hb2⟩
      have ho2 := kept_belowT ho hb2
      have C2 := (hb2.cell (p := ⟨g, k, none⟩) hgr).trans C1
      have F2 := ho2.frozenAt k
      obtain ⟨R1, _⟩ := ho2.stored k (.string x)
      rw [HS.out] at R1
      have R2 : Below w.heap.size w (w2.setCell ⟨g, k, none⟩ (.string x)) := (hbe.trans (hb2.mono hz)).setCell hgl _
      clear ho ho2 C1 HCc hb2
      go_wp2_with fail
      go_roundw
      case rel => exact ⟨k + 1, by omega, by go_num, R1, R2⟩
      case measure => simp [intOf]; omega
    · have HO : Hid (type_of% ho) := ho
      clear ho
      go_wp2_with fail
      go_ret
      exact ⟨a, c, rfl, HO.out, hbe⟩

end Go.Proofs.YthomlchbgcjcfaaGreatDoor

namespace Go.Proofs.YthomlchbgcjcfaaGreatDoor
open Go.RowKit

set_option maxHeartbeats 1600000 in
set_option maxRecDepth 100000 in
theorem implTextInt (a : Option Addr) (l c : Nat) (w : World) :
    Calls Tryz.prog 43 #[.iface 69 (.agg #[.slice a l c])] w fun e w' => e = .returned (.string ⟨#[105, 110, 116]⟩) ∧ Below w.heap.size w w' := by
  have hB1 : Below w.heap.size w (w.alloc (.cells #[.slice a l c] 69)) := (Below.refl _ _).alloc (Nat.le_refl _) _
  have t0 : ∀ w : World, (Instr.typeAssert (.iface 69 (.agg #[.slice a l c])) 41 69 true).run Tryz.prog w = .ok (.tuple #[.agg #[.slice a l c], .bool true]) w := fun w => by kernel_rfl
  go_enter Tryz.func43, Tryz.ntmps43
  go_wp2
  go_ret
  exact ⟨rfl, hB1⟩

set_option maxHeartbeats 1600000 in
set_option maxRecDepth 100000 in
theorem implTextName (a : Option Addr) (l c : Nat) (nm : ByteArray) (w : World) (hs : nm.size ≤ 281474976710656) :
    Calls Tryz.prog 43 #[.iface 73 (.agg #[.slice a l c, .string nm])] w fun e w' => e = .returned (.string nm) ∧ Below w.heap.size w w' := by
  have hB1 : Below w.heap.size w (w.alloc (.cells #[.slice a l c, .string nm] 73)) := (Below.refl _ _).alloc (Nat.le_refl _) _
  have HC : Hid (∀ wx : World, Calls Tryz.prog 31 #[.string nm] wx fun e w' => e = .returned (.string nm) ∧ Below wx.heap.size wx w') := fun wx => stringsClone nm wx hs
  have t0 : ∀ w : World, (Instr.typeAssert (.iface 73 (.agg #[.slice a l c, .string nm])) 41 69 true).run Tryz.prog w = .ok (.tuple #[.agg #[.slice none 0 0], .bool false]) w := fun w => by kernel_rfl
  have t1 : ∀ w : World, (Instr.typeAssert (.iface 73 (.agg #[.slice a l c, .string nm])) 41 70 true).run Tryz.prog w = .ok (.tuple #[.agg #[.slice none 0 0], .bool false]) w := fun w => by kernel_rfl
  have t2 : ∀ w : World, (Instr.typeAssert (.iface 73 (.agg #[.slice a l c, .string nm])) 41 71 true).run Tryz.prog w = .ok (.tuple #[.agg #[.slice none 0 0], .bool false]) w := fun w => by kernel_rfl
  have t3 : ∀ w : World, (Instr.typeAssert (.iface 73 (.agg #[.slice a l c, .string nm])) 41 58 true).run Tryz.prog w = .ok (.tuple #[.agg #[.slice none 0 0], .bool false]) w := fun w => by kernel_rfl
  have t4 : ∀ w : World, (Instr.typeAssert (.iface 73 (.agg #[.slice a l c, .string nm])) 41 73 true).run Tryz.prog w = .ok (.tuple #[.agg #[.slice a l c, .string nm], .bool true]) w := fun w => by kernel_rfl
  go_enter Tryz.func43, Tryz.ntmps43
  go_wp2_with fail
  refine (HC.out _).mono ?_
  rintro e w2 ⟨rfl, hb2⟩
  go_wp2_with fail
  go_ret
  exact ⟨rfl, hB1.trans (hb2.mono (by simp))⟩

end Go.Proofs.YthomlchbgcjcfaaGreatDoor

namespace Go.Proofs.YthomlchbgcjcfaaGreatDoor
open Go.RowKit

theorem ret_cells {R : Ending → World → Prop} {W : World} {tmps : Array Value} {b : Nat} {x0 x1 x2 x3 : Value} (hp : tmps[2]?.getD undef = .pointer (some ⟨b, 0, none⟩))
    (h : W.cell? ⟨b, 0, none⟩ = some x0 ∧ W.cell? ⟨b, 1, none⟩ = some x1 ∧ W.cell? ⟨b, 2, none⟩ = some x2 ∧ W.cell? ⟨b, 3, none⟩ = some x3) (hR : R (.returned (.agg #[x0, x1, x2, x3])) W) :
    bodyPost Tryz.prog Tryz.f15 R .ret { tmps := tmps, defers := [] } W := by
  obtain ⟨h0, h1, h2, h3⟩ := h
  refine bodyPost_ret (v := .agg #[x0, x1, x2, x3]) ?_ rfl hR
  simp [results, Tryz.results15, go_sem, hp, h0, h1, h2, h3]
theorem ret_done {R : Ending → World → Prop} {w W : World} {tmps : Array Value} {x0 x1 x2 x3 : Value} (hp : tmps[2]?.getD undef = .pointer (some ⟨w.heap.size, 0, none⟩))
    (hb : Below (w.heap.size + 1) (w.alloc (.cells #[x0, x1, x2, x3] 28)) W) (hR : Below w.heap.size w W → R (.returned (.agg #[x0, x1, x2, x3])) W) :
    bodyPost Tryz.prog Tryz.f15 R .ret { tmps := tmps, defers := [] } W := by
  obtain ⟨h, h2, _⟩ := boxedR hb
  exact ret_cells hp h (hR h2)
theorem ret_put {R : Ending → World → Prop} {w0 : World} {tmps : Array Value} {b : Nat} {x0 x1 x2 x3 : Value} (hp : tmps[2]?.getD undef = .pointer (some ⟨b, 0, none⟩))
    (h : ∀ j, j < 4 → (w0.cell? ⟨b, j, none⟩).isSome = true) (hR : R (.returned (.agg #[x0, x1, x2, x3])) ((((w0.setCell ⟨b, 0, none⟩ x0).setCell ⟨b, 1, none⟩ x1).setCell ⟨b, 2, none⟩ x2).setCell ⟨b, 3, none⟩ x3)) :
    bodyPost Tryz.prog Tryz.f15 R .ret { tmps := tmps, defers := [] } ((((w0.setCell ⟨b, 0, none⟩ x0).setCell ⟨b, 1, none⟩ x1).setCell ⟨b, 2, none⟩ x2).setCell ⟨b, 3, none⟩ x3) := ret_cells hp (put4T h) hR
set_option maxHeartbeats 1600000 in
set_option maxRecDepth 100000 in
/-- the cells of a block of four -/
theorem implTypeOf0 (a : Option Addr) (c : Nat) (w : World) :
    Calls Tryz.prog 15 #[.iface 69 (.agg #[.slice a 0 c])] w fun e w' => e = .returned (.agg #[.int .i64 0, .string ⟨#[]⟩, .slice none 0 0, .slice none 0 0]) ∧ Below w.heap.size w w' := by
  have t0 : ∀ w : World, (Instr.typeAssert (.iface 69 (.agg #[.slice a 0 c])) 41 69 true).run Tryz.prog w = .ok (.tuple #[.agg #[.slice a 0 c], .bool true]) w := fun w => by kernel_rfl
  have hm : ∀ w : World, Sem.run Tryz.prog (method 261 69 (.agg #[.slice a 0 c]) "loop.example/g00276/impl.kids") w = .ok (25, .agg #[.slice a 0 c]) w := fun w => by kernel_rfl
  have HK1 : Hid (∀ wx : World, Calls Tryz.prog 25 #[.agg #[.slice a 0 c]] wx fun e w' => e = .returned (.slice a 0 c) ∧ w' = wx.alloc (.cells #[.slice a 0 c] 56)) := fun wx => implKids a 0 c wx
  go_enter Tryz.func15, Tryz.ntmps15
  go_wp2_with fail
  refine (HK1.out _).mono ?_
  rintro e w1 ⟨rfl, rfl⟩
  clear HK1 hm
  go_wp2_with fail
  refine wp_loop_rounds 1 ?_
  rw [rounds_succ]
  go_wp2
  exact ret_done rfl (below3 _ _ _ _) fun h => ⟨rfl, h⟩

set_option maxHeartbeats 1600000 in
set_option maxRecDepth 100000 in
theorem implTypeOf1 (a : Option Addr) (c : Nat) (w : World) :
    Calls Tryz.prog 15 #[.iface 70 (.agg #[.slice a 0 c])] w fun e w' => e = .returned (.agg #[.int .i64 1, .string ⟨#[]⟩, .slice none 0 0, .slice none 0 0]) ∧ Below w.heap.size w w' := by
  have t0 : ∀ w : World, (Instr.typeAssert (.iface 70 (.agg #[.slice a 0 c])) 41 69 true).run Tryz.prog w = .ok (.tuple #[.agg #[.slice none 0 0], .bool false]) w := fun w => by kernel_rfl
  have t1 : ∀ w : World, (Instr.typeAssert (.iface 70 (.agg #[.slice a 0 c])) 41 70 true).run Tryz.prog w = .ok (.tuple #[.agg #[.slice a 0 c], .bool true]) w := fun w => by kernel_rfl
  have hm : ∀ w : World, Sem.run Tryz.prog (method 261 70 (.agg #[.slice a 0 c]) "loop.example/g00276/impl.kids") w = .ok (25, .agg #[.slice a 0 c]) w := fun w => by kernel_rfl
  have HK1 : Hid (∀ wx : World, Calls Tryz.prog 25 #[.agg #[.slice a 0 c]] wx fun e w' => e = .returned (.slice a 0 c) ∧ w' = wx.alloc (.cells #[.slice a 0 c] 56)) := fun wx => implKids a 0 c wx
  go_enter Tryz.func15, Tryz.ntmps15
  go_wp2_with fail
  refine (HK1.out _).mono ?_
  rintro e w1 ⟨rfl, rfl⟩
  clear HK1 hm
  go_wp2_with fail
  refine wp_loop_rounds 1 ?_
  rw [rounds_succ]
  go_wp2
  exact ret_done rfl (below3 _ _ _ _) fun h => ⟨rfl, h⟩

set_option maxHeartbeats 1600000 in
set_option maxRecDepth 100000 in
theorem implTypeOf2 (a : Option Addr) (c : Nat) (w : World) :
    Calls Tryz.prog 15 #[.iface 71 (.agg #[.slice a 0 c])] w fun e w' => e = .returned (.agg #[.int .i64 2, .string ⟨#[]⟩, .slice none 0 0, .slice none 0 0]) ∧ Below w.heap.size w w' := by
  have t0 : ∀ w : World, (Instr.typeAssert (.iface 71 (.agg #[.slice a 0 c])) 41 69 true).run Tryz.prog w = .ok (.tuple #[.agg #[.slice none 0 0], .bool false]) w := fun w => by kernel_rfl
  have t1 : ∀ w : World, (Instr.typeAssert (.iface 71 (.agg #[.slice a 0 c])) 41 70 true).run Tryz.prog w = .ok (.tuple #[.agg #[.slice none 0 0], .bool false]) w := fun w => by kernel_rfl
  have t2 : ∀ w : World, (Instr.typeAssert (.iface 71 (.agg #[.slice a 0 c])) 41 71 true).run Tryz.prog w = .ok (.tuple #[.agg #[.slice a 0 c], .bool true]) w := fun w => by kernel_rfl
  have hm : ∀ w : World, Sem.run Tryz.prog (method 261 71 (.agg #[.slice a 0 c]) "loop.example/g00276/impl.kids") w = .ok (25, .agg #[.slice a 0 c]) w := fun w => by kernel_rfl
  have HK1 : Hid (∀ wx : World, Calls Tryz.prog 25 #[.agg #[.slice a 0 c]] wx fun e w' => e = .returned (.slice a 0 c) ∧ w' = wx.alloc (.cells #[.slice a 0 c] 56)) := fun wx => implKids a 0 c wx
  go_enter Tryz.func15, Tryz.ntmps15
  go_wp2_with fail
  refine (HK1.out _).mono ?_
  rintro e w1 ⟨rfl, rfl⟩
  clear HK1 hm
  go_wp2_with fail
  refine wp_loop_rounds 1 ?_
  rw [rounds_succ]
  go_wp2
  exact ret_done rfl (below3 _ _ _ _) fun h => ⟨rfl, h⟩

set_option maxHeartbeats 1600000 in
set_option maxRecDepth 100000 in
theorem implTypeOf3 (a : Option Addr) (c : Nat) (w : World) :
    Calls Tryz.prog 15 #[.iface 58 (.agg #[.slice a 0 c])] w fun e w' => e = .returned (.agg #[.int .i64 3, .string ⟨#[]⟩, .slice none 0 0, .slice none 0 0]) ∧ Below w.heap.size w w' := by
  have t0 : ∀ w : World, (Instr.typeAssert (.iface 58 (.agg #[.slice a 0 c])) 41 69 true).run Tryz.prog w = .ok (.tuple #[.agg #[.slice none 0 0], .bool false]) w := fun w => by kernel_rfl
  have t1 : ∀ w : World, (Instr.typeAssert (.iface 58 (.agg #[.slice a 0 c])) 41 70 true).run Tryz.prog w = .ok (.tuple #[.agg #[.slice none 0 0], .bool false]) w := fun w => by kernel_rfl
  have t2 : ∀ w : World, (Instr.typeAssert (.iface 58 (.agg #[.slice a 0 c])) 41 71 true).run Tryz.prog w = .ok (.tuple #[.agg #[.slice none 0 0], .bool false]) w := fun w => by kernel_rfl
  have t3 : ∀ w : World, (Instr.typeAssert (.iface 58 (.agg #[.slice a 0 c])) 41 58 true).run Tryz.prog w = .ok (.tuple #[.agg #[.slice a 0 c], .bool true]) w := fun w => by kernel_rfl
  have hm : ∀ w : World, Sem.run Tryz.prog (method 261 58 (.agg #[.slice a 0 c]) "loop.example/g00276/impl.kids") w = .ok (25, .agg #[.slice a 0 c]) w := fun w => by kernel_rfl
  have HK1 : Hid (∀ wx : World, Calls Tryz.prog 25 #[.agg #[.slice a 0 c]] wx fun e w' => e = .returned (.slice a 0 c) ∧ w' = wx.alloc (.cells #[.slice a 0 c] 56)) := fun wx => implKids a 0 c wx
  go_enter Tryz.func15, Tryz.ntmps15
  go_wp2_with fail
  refine (HK1.out _).mono ?_
  rintro e w1 ⟨rfl, rfl⟩
  clear HK1 hm
  go_wp2_with fail
  refine wp_loop_rounds 1 ?_
  rw [rounds_succ]
  go_wp2
  exact ret_done rfl (below3 _ _ _ _) fun h => ⟨rfl, h⟩

set_option maxHeartbeats 1600000 in
set_option maxRecDepth 100000 in
theorem implTypeOf4 (a : Option Addr) (c : Nat) (nm : ByteArray) (w : World) (hs : nm.size ≤ 281474976710656) :
    Calls Tryz.prog 15 #[.iface 73 (.agg #[.slice a 0 c, .string nm])] w fun e w' => e = .returned (.agg #[.int .i64 4, .string nm, .slice none 0 0, .slice none 0 0]) ∧ Below w.heap.size w w' := by
  have t0 : ∀ w : World, (Instr.typeAssert (.iface 73 (.agg #[.slice a 0 c, .string nm])) 41 69 true).run Tryz.prog w = .ok (.tuple #[.agg #[.slice none 0 0], .bool false]) w := fun w => by kernel_rfl
  have t1 : ∀ w : World, (Instr.typeAssert (.iface 73 (.agg #[.slice a 0 c, .string nm])) 41 70 true).run Tryz.prog w = .ok (.tuple #[.agg #[.slice none 0 0], .bool false]) w := fun w => by kernel_rfl
  have t2 : ∀ w : World, (Instr.typeAssert (.iface 73 (.agg #[.slice a 0 c, .string nm])) 41 71 true).run Tryz.prog w = .ok (.tuple #[.agg #[.slice none 0 0], .bool false]) w := fun w => by kernel_rfl
  have t3 : ∀ w : World, (Instr.typeAssert (.iface 73 (.agg #[.slice a 0 c, .string nm])) 41 58 true).run Tryz.prog w = .ok (.tuple #[.agg #[.slice none 0 0], .bool false]) w := fun w => by kernel_rfl
  have t4 : ∀ w : World, (Instr.typeAssert (.iface 73 (.agg #[.slice a 0 c, .string nm])) 41 73 true).run Tryz.prog w = .ok (.tuple #[.agg #[.slice a 0 c, .string nm], .bool true]) w := fun w => by kernel_rfl
  have hm : ∀ w : World, Sem.run Tryz.prog (method 261 73 (.agg #[.slice a 0 c, .string nm]) "loop.example/g00276/impl.kids") w = .ok (25, .agg #[.slice a 0 c]) w := fun w => by kernel_rfl
  have HK1 : Hid (∀ wx : World, Calls Tryz.prog 25 #[.agg #[.slice a 0 c]] wx fun e w' => e = .returned (.slice a 0 c) ∧ w' = wx.alloc (.cells #[.slice a 0 c] 56)) := fun wx => implKids a 0 c wx
  have HC : Hid (∀ wx : World, Calls Tryz.prog 31 #[.string nm] wx fun e w' => e = .returned (.string nm) ∧ Below wx.heap.size wx w') := fun wx => stringsClone nm wx hs
  go_enter Tryz.func15, Tryz.ntmps15
  go_wp2_with fail
  refine (HC.out _).mono ?_
  rintro e w1 ⟨rfl, hb1⟩
  have hz1 : w.heap.size + 1 + 1 + 1 ≤ w1.heap.size := by have := hb1.size; simpa using this
  have hbw : Below w.heap.size w w1 := ((((Below.refl _ _).alloc (Nat.le_refl _) _).alloc (by simp) _).alloc (by simp; omega) _).trans (hb1.mono (by simp; omega))
  obtain ⟨r1, t1⟩ := boxes (hb1.mono (by simp))
  obtain ⟨⟨tc0, tc1, tc2, tc3⟩, tf⟩ := block4 t1
  have tf1 := tf 1
  have t2 := heap_setCell_same w1 (w.heap.size + 1) 1 _ _ (.string nm) t1
  have r2 := (Below.heap_setCell w1 ⟨w.heap.size + 1, 1, none⟩ (.string nm) w.heap.size (by simp)).trans r1
  have hbw2 : Below w.heap.size w (w1.setCell ⟨w.heap.size + 1, 1, none⟩ (.string nm)) := hbw.setCell (by simp) _
  clear hb1 HC r1
  go_wp2_with fail
  refine (HK1.out _).mono ?_
  rintro e w4 ⟨rfl, rfl⟩
  have hbw3 := hbw2.alloc (by simp; omega) (.cells #[.slice a 0 c] 56)
  have r3 := ((MapKept.heap_alloc (w1.setCell ⟨w.heap.size + 1, 1, none⟩ (.string nm)) (.cells #[.slice a 0 c] 56)).2 w.heap.size (by simp; omega)).trans r2
  have t3 := ((MapKept.heap_alloc (w1.setCell ⟨w.heap.size + 1, 1, none⟩ (.string nm)) (.cells #[.slice a 0 c] 56)).2 (w.heap.size + 1) (by simp; omega)).trans t2
  clear r2 t2 t1 hbw2 hbw tc0 tc1 tc2 tc3 tf tf1 HK1 hm
  generalize ((w1.setCell ⟨w.heap.size + 1, 1, none⟩ (.string nm)).alloc (.cells #[.slice a 0 c] 56)) = W at *
  obtain ⟨⟨tc0, tc1, tc2, tc3⟩, tf⟩ := block4 t3
  obtain ⟨⟨rc0, rc1, rc2, rc3⟩, rf⟩ := block4 r3
  have rf0 := rf 0
  have rf1 := rf 1
  have rf2 := rf 2
  have rf3 := rf 3
  clear tf rf
  go_wp2_with fail
  refine wp_loop_rounds 1 ?_
  rw [rounds_succ]
  go_wp2_with fail
  refine ret_put rfl (fun j hj => ?_) ⟨rfl, put_below hbw3 (Nat.le_refl _)⟩
  match j, hj with
  | 0, _ => rw [rc0]; rfl
  | 1, _ => rw [rc1]; rfl
  | 2, _ => rw [rc2]; rfl
  | 3, _ => rw [rc3]; rfl

end Go.Proofs.YthomlchbgcjcfaaGreatDoor
