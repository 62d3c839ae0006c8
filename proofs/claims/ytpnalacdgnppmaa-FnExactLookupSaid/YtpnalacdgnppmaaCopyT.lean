/-
  The walks of slices.Clone at texts, and of impl.copyTexts.
-/
import Derived.Test.YtpnalacdgnppmaaStepA
import Derived.Test.YtpnalacdgnppmaaCloneLib
import Derived.Test.YtpnalacdgnppmaaLayD
namespace Go.Proofs.Ytpnalacdgnppmaa
open Go.RowKit

set_option maxHeartbeats 800000 in
set_option maxRecDepth 100000 in
theorem slClone (v : Value) (ts : List ByteArray) (w : World) (hT : Texts w v ts) (hl : ts.length ≤ 1048577) :
    Calls Try.prog 48 #[v] w fun e w' => ∃ (a : Option Addr) (c : Nat), e = .returned (.slice a ts.length c) ∧ w'.ownsRow w.heap.size 9 1 (.slice a ts.length c) ts.length (strV ts) ∧ Below w.heap.size w w' := by
  obtain ⟨i0, hi0, hz0, hz1, hz2⟩ := info_parts Try.infoString
  obtain ⟨a, cap, rfl, hc⟩ := textsOpen hT
  clear hT
  cases a with
  | none =>
    have h0 : ts.length = 0 := by
      cases hh : ts.length with
      | zero => rfl
      | succ m => obtain ⟨b, off, e, _⟩ := hc 0 (by omega); cases e
    have ht : ts = [] := List.length_eq_zero_iff.1 h0
    subst ht
    clear hc hl h0
    have hq : ∀ w : World, Sem.run Try.prog (binOp BinOp.eql 24 (.slice none 0 cap) (.slice none 0 0)) w = .ok (.bool true) w := fun w => by kernel_rfl
    go_enter Try.func48, Try.ntmps48
    go_wp2
    go_ret
    exact ⟨none, 0, rfl, World.ownsRow_nil _ _ _ _, Below.refl _ _⟩
  | some ad =>
    have HC : Hid (∀ X : World, Below w.heap.size w X → ∀ j u, (strV ts)[j]? = some u → X.cell? (ad.add j) = some u) := fun X hX j u hu => by
      have hj : j < ts.length := by
        have := (List.getElem?_eq_some_iff.1 hu).1
        rwa [strV_length] at this
      obtain ⟨b, off, e, h⟩ := hc j hj
      simp only [Option.some.injEq] at e
      subst e
      rw [strV_get ts j hj] at hu
      rw [← hu, ← h, Addr.add_lit]
      exact hX.cell (p := ⟨b, off + j, none⟩) (World.block_lt_of_cell? w ⟨b, off + j, none⟩ h)
    have hB1 : Below w.heap.size w (w.alloc (.cells #[] 9)) := (Below.refl _ _).alloc (Nat.le_refl _) _
    have hE : (w.alloc (.cells #[] 9)).ownsRow w.heap.size 9 1 (.slice (some ⟨w.heap.size, 0, none⟩) 0 0) 0 [] := own_empty (MapKept.heap_alloc w _).1 (Nat.le_refl _)
    clear hc
    have hq : ∀ w : World, Sem.run Try.prog (binOp BinOp.eql 24 (.slice (some ad) ts.length cap) (.slice none 0 0)) w = .ok (.bool false) w := fun w => by kernel_rfl
    go_enter Try.func48, Try.ntmps48
    go_wp2_with (at_builtin; refine wpList_append_own _ rfl _ _ 24 rfl w.heap.size 9 i0 (.string ⟨#[]⟩) 1 16 Try.underlying24 hi0 hz0 hz1 hz2 rfl (by decide) _ _ _ rfl hE ad ts.length cap (strV ts) rfl (by rw [strV_length]; omega) (HC.out _ hB1) (strV_one ts) ?c3 ?c4 ?c5 ?_)
    case c3 => unfold maxLen; omega
    case c4 => omega
    case c5 => simp
    intro v' w3 hown' hgrow _
    have R1 : w3.ownsRow w.heap.size 9 1 v' ts.length (strV ts) := by simpa using hown'
    have R2 : Below w.heap.size w w3 := hB1.grown hgrow (by simp) (fun j hj => by simp [Value.ownBlock] at hj; omega)
    obtain ⟨a', c', hv⟩ := slice_ownM R1
    subst hv
    have HO : Hid (type_of% R1) := R1
    clear hown' hgrow R1 HC hE hB1
    go_wp2_with fail
    go_ret
    exact ⟨a', c', rfl, HO.out, R2⟩

theorem strV_set (ts : List ByteArray) (k : Nat) (h : k < ts.length) : (strV ts).set k (.string ts[k]) = strV ts := by
  apply List.ext_getElem?
  intro i
  by_cases c : k = i
  · subst c
    rw [List.getElem?_set_self (by rw [strV_length]; exact h), strV_get ts k h]
  · rw [List.getElem?_set_ne c]

set_option maxHeartbeats 800000 in
set_option maxRecDepth 100000 in
theorem implCopyTexts (v : Value) (ts : List ByteArray) (w : World) (hT : Texts w v ts) (hl : ts.length ≤ 1048577) (hs : ∀ x ∈ ts, x.size ≤ 1048576) :
    Calls Try.prog 42 #[v] w fun e w' => ∃ (a : Option Addr) (c : Nat), e = .returned (.slice a ts.length c) ∧ w'.ownsRow w.heap.size 9 1 (.slice a ts.length c) ts.length (strV ts) ∧ Below w.heap.size w w' := by
  have HCL := slClone v ts w hT hl
  obtain ⟨av, cv, rfl, _⟩ := textsOpen hT
  have HC : Hid (type_of% HCL) := HCL
  have HSZ : Hid (type_of% hs) := hs
  clear HCL hT hs
  go_enter Try.func42, Try.ntmps42
  go_wp2_with fail
  refine HC.out.mono ?_
  rintro e w1 ⟨a, c, rfl, ho1, hb1⟩
  clear HC
  go_wp2_with fail
  go_loopw [10] (fun i wr => ∃ k : Nat, k ≤ ts.length ∧ i = .int .i64 k ∧ wr.ownsRow w.heap.size 9 1 (.slice a ts.length c) ts.length (strV ts) ∧ Below w.heap.size w wr) (fun i _ => ts.length - (intOf i).toNat)
  case atStart => exact ⟨0, Nat.zero_le _, rfl, ho1, hb1⟩
  case round =>
    obtain ⟨k, hk, rfl, ho, hbe⟩ := hrel
    clear ho1 hb1
    have hz : w.heap.size ≤ wr.heap.size := hbe.size
    by_cases hlt : k < ts.length
    · obtain ⟨g, rfl, hgl, hgr⟩ : ∃ g, a = some ⟨g, 0, none⟩ ∧ w.heap.size ≤ g ∧ g < wr.heap.size := by
        rcases ho.2 with ⟨_, h0⟩ | ⟨g, cap, cur, hv, hg, hh, _⟩
        · omega
        · simp only [Value.slice.injEq, true_and] at hv
          exact ⟨g, hv.1, hg, (Array.getElem?_eq_some_iff.1 hh).1⟩
      have C1 : wr.cell? ⟨g, k, none⟩ = some (.string ts[k]) := by rw [ho.cellAt k (by omega), strV_get ts k hlt]
      have HS : Hid ((strV ts).set k (.string ts[k]) = strV ts) := strV_set ts k hlt
      have HCc : Hid (∀ wx : World, Calls Try.prog 41 #[.string ts[k]] wx fun e w' => e = .returned (.string ts[k]) ∧ Below wx.heap.size wx w') := fun wx => stringsClone ts[k] wx (by have := HSZ.out _ (List.getElem_mem hlt); omega)
      clear HSZ
      generalize ts[k] = x at *
      go_wp2_with fail
      refine (HCc.out _).mono ?_
      rintro e w2 ⟨rfl, hb2⟩
      have ho2 := kept_belowT ho hb2
      have C2 := (hb2.cell (p := ⟨g, k, none⟩) hgr).trans C1
      have F2 := ho2.frozenAt k
      obtain ⟨R1, _⟩ := ho2.stored k (.string x)
      rw [HS.out] at R1
      have R2 : Below w.heap.size w (w2.setCell ⟨g, k, none⟩ (.string x)) := (hbe.trans (hb2.mono hz)).setCell hgl _
      clear ho ho2 C1 HCc hb2
      go_wp2_with fail
      go_roundw
      case rel => exact ⟨k + 1, by omega, by go_num, R1, R2⟩
      case measure => simp [intOf]; omega
    · have HO : Hid (type_of% ho) := ho
      clear ho
      go_wp2_with fail
      go_ret
      exact ⟨a, c, rfl, HO.out, hbe⟩

end Go.Proofs.Ytpnalacdgnppmaa
