/-
  What a slice of sources (a name and a text each) is; the walks of the laws' own helpers szSource, szSourceS, eqSource, eqSourceS.
-/
import Derived.Test.YtikoacgfnojoeaaGreatDoorTextsD
import Derived.Lib.QuietBelow
import Derived.BigQuiet
import Derived.Deep.RegionWith
import Derived.Deep.Slices
import Derived.Lib.SmallJoins
import Derived.Sort.Walk0
import Derived.ChangeArms
namespace Go.Proofs.YtikoacgfnojoeaaGreatDoor
open Go.RowKit

abbrev Src := ByteArray × ByteArray

/-- the value is a slice of sources -/
def SrcAt (w : World) (v : Value) (es : List Src) : Prop :=
  (es = [] ∧ ∃ a cap, v = .slice a 0 cap) ∨ ∃ b off cap, v = .slice (some ⟨b, off, none⟩) es.length cap ∧ ∀ j (h : j < es.length), w.cell? ⟨b, off + j * 2, none⟩ = some (.string es[j].1) ∧ w.cell? ⟨b, off + j * 2 + 1, none⟩ = some (.string es[j].2)

theorem SrcAt.below {w w' : World} {v : Value} {es : List Src} (h : SrcAt w v es) (hb : Below w.heap.size w w') : SrcAt w' v es := by
  rcases h with h | ⟨b, off, cap, rfl, hc⟩
  · exact .inl h
  · refine .inr ⟨b, off, cap, rfl, fun j hj => ?_⟩
    obtain ⟨h1, h2⟩ := hc j hj
    exact ⟨(hb.cell (p := ⟨b, off + j * 2, none⟩) (World.block_lt_of_cell? w ⟨b, off + j * 2, none⟩ h1)).trans h1, (hb.cell (p := ⟨b, off + j * 2 + 1, none⟩) (World.block_lt_of_cell? w ⟨b, off + j * 2 + 1, none⟩ h2)).trans h2⟩

theorem srcOpen {w : World} {v : Value} {es : List Src} (h : SrcAt w v es) : ∃ av capv, v = .slice av es.length capv ∧ ∀ j (h : j < es.length), ∃ b off, av = some ⟨b, off, none⟩ ∧ b < w.heap.size ∧ w.cell? ⟨b, off + j * 2, none⟩ = some (.string es[j].1) ∧ w.cell? ⟨b, off + j * 2 + 1, none⟩ = some (.string es[j].2) := by
  rcases h with ⟨h, a, cap, e⟩ | ⟨b, off, cap, e, hc⟩
  · exact ⟨a, cap, by rw [h]; exact e, fun j hj => by rw [h] at hj; simp at hj⟩
  · refine ⟨_, cap, e, fun j hj => ?_⟩
    obtain ⟨h1, h2⟩ := hc j hj
    exact ⟨b, off, rfl, World.block_lt_of_cell? w ⟨b, off + j * 2, none⟩ h1, h1, h2⟩

/-- how much is left -/
def leftS (b : Nat) (left : Int) : Int := if (b : Int) ≤ left then left - b else -1
/-- how much sources hold -/
def srBulk (e : Src) : Nat := e.1.size + e.2.size
def srsBulk (es : List Src) : Nat := es.length + (es.map srBulk).sum
theorem srSum_more (es : List Src) (k : Nat) (h : k < es.length) : ((es.take (k + 1)).map srBulk).sum = ((es.take k).map srBulk).sum + srBulk es[k] := by
  rw [List.take_succ_eq_append_getElem h, List.map_append, List.sum_append]
  simp
theorem srSum_le (es : List Src) (k : Nat) : ((es.take k).map srBulk).sum ≤ (es.map srBulk).sum := by
  have : es.map srBulk = (es.take k).map srBulk ++ (es.drop k).map srBulk := by rw [← List.map_append, List.take_append_drop]
  rw [this, List.sum_append]
  omega
theorem sr_bulk (es : List Src) (k : Nat) (h : k < es.length) : es[k].1.size + es[k].2.size ≤ srsBulk es := by
  have h1 := srSum_more es k h
  have h2 := srSum_le es (k + 1)
  unfold srBulk at h1
  unfold srsBulk srBulk
  unfold srBulk at h2
  omega

set_option maxHeartbeats 800000 in
set_option maxRecDepth 100000 in
theorem lawsSzSr (nm tx : ByteArray) (left : Int) (w : World) (hs : nm.size ≤ maxLen) (ht : tx.size ≤ maxLen) (h0 : 0 ≤ left) (h1 : left ≤ 1048576) :
    Calls Tryz.prog 31 #[.agg #[.string nm, .string tx], .int .i64 left] w fun e w' => e = .returned (.int .i64 (leftS (nm.size + tx.size) left)) ∧ Below w.heap.size w w' := by
  have hB1 : Below w.heap.size w (w.alloc (.cells #[.string nm, .string tx] 82)) := (Below.refl _ _).alloc (Nat.le_refl _) _
  unfold maxLen at hs ht
  by_cases d1 : left - (nm.size : Int) < 0
  · have HR : Hid (leftS (nm.size + tx.size) left = -1) := if_neg (by omega)
    go_enter Tryz.func31, Tryz.ntmps31
    go_wp2_with fail
    go_ret
    exact ⟨by rw [HR.out]; rfl, hB1⟩
  · by_cases d2 : left - (nm.size : Int) - (tx.size : Int) < 0
    · have HR : Hid (leftS (nm.size + tx.size) left = -1) := if_neg (by omega)
      go_enter Tryz.func31, Tryz.ntmps31
      go_wp2_with fail
      go_ret
      exact ⟨by rw [HR.out]; rfl, hB1⟩
    · have HR : Hid (leftS (nm.size + tx.size) left = left - nm.size - tx.size) := by
        show _ = _
        unfold leftS
        rw [if_pos (by omega)]
        omega
      go_enter Tryz.func31, Tryz.ntmps31
      go_wp2_with fail
      go_ret
      exact ⟨by rw [HR.out]; rfl, hB1⟩

set_option maxHeartbeats 800000 in
set_option maxRecDepth 100000 in
theorem lawsSzSrs (v : Value) (es : List Src) (left : Int) (w : World) (hrow : SrcAt w v es) (hkl : es.length ≤ maxLen) (hsz : ∀ e ∈ es, e.1.size ≤ maxLen ∧ e.2.size ≤ maxLen) (h0 : 0 ≤ left) (h1 : left ≤ 1048576) :
    Calls Tryz.prog 9 #[v, .int .i64 left] w fun e w' => e = .returned (.int .i64 (leftS (srsBulk es) left)) ∧ Below w.heap.size w w' := by
  unfold maxLen at hkl
  obtain ⟨av, capv, rfl, hel⟩ := srcOpen hrow
  have HEL : Hid (type_of% hel) := hel
  have HSZ : Hid (type_of% hsz) := hsz
  clear hrow hel hsz
  by_cases hneg : left - (es.length : Int) < 0
  · have HR : Hid (leftS (srsBulk es) left = -1) := if_neg (by unfold srsBulk; omega)
    clear HEL HSZ
    go_enter Tryz.func9, Tryz.ntmps9
    go_wp2_with fail
    go_ret
    exact ⟨by rw [HR.out]; rfl, Below.refl _ _⟩
  · go_enter Tryz.func9, Tryz.ntmps9
    go_wp2_with fail
    go_loopw [1, 5] (fun l i wr => ∃ k : Nat, k ≤ es.length ∧ i = .int .i64 k ∧ l = .int .i64 (left - es.length - (((es.take k).map srBulk).sum : Nat)) ∧ ((((es.take k).map srBulk).sum : Nat) : Int) ≤ left - es.length ∧ Below w.heap.size w wr) (fun _ i _ => es.length - (intOf i).toNat)
    case atStart => exact ⟨0, Nat.zero_le _, rfl, by simp, by simp; omega, Below.refl _ _⟩
    case round =>
      obtain ⟨k, hk, rfl, rfl, hle, hbe⟩ := hrel
      by_cases hlt : k < es.length
      · obtain ⟨b, off, rfl, hbl, q0, q1⟩ := HEL.out k hlt
        have HM : Hid (((es.take (k + 1)).map srBulk).sum = ((es.take k).map srBulk).sum + srBulk es[k]) := srSum_more es k hlt
        have HL : Hid (((es.take (k + 1)).map srBulk).sum ≤ (es.map srBulk).sum) := srSum_le es (k + 1)
        have c0 := (hbe.cell (p := ⟨b, off + k * 2, none⟩) hbl).trans q0
        have c1 := (hbe.cell (p := ⟨b, off + k * 2 + 1, none⟩) hbl).trans q1
        generalize hS : ((es.take k).map srBulk).sum = S at *
        have hz := HSZ.out es[k] (List.getElem_mem hlt)
        have HC : Hid (Calls Tryz.prog 31 #[.agg #[.string es[k].1, .string es[k].2], .int .i64 (left - es.length - (S : Nat))] wr fun e w' => e = .returned (.int .i64 (leftS (srBulk es[k]) (left - es.length - (S : Nat)))) ∧ Below wr.heap.size wr w') := lawsSzSr _ _ _ wr hz.1 hz.2 (by omega) (by omega)
        clear hS q0 q1 HEL HSZ hz
        generalize srBulk es[k] = bk at *
        generalize es[k].1 = nm at *
        generalize es[k].2 = tx at *
        by_cases hbk : ((S + bk : Nat) : Int) ≤ left - es.length
        · have e1 : leftS bk (left - es.length - (S : Nat)) = left - es.length - ((S + bk : Nat) : Int) := by
            unfold leftS
            rw [if_pos (by omega)]
            omega
          rw [e1] at HC
          have hnn : ¬ left - (es.length : Int) - ((S + bk : Nat) : Int) < 0 := by omega
          clear e1
          generalize hq : S + bk = Q at *
          have HQ : Hid (((es.take (k + 1)).map srBulk).sum = Q) := HM.out.trans rfl
          clear hq HM HL
          go_wp2_with fail
          refine HC.out.mono ?_
          rintro e w2 ⟨rfl, hb2⟩
          have hbe2 : Below w.heap.size w w2 := hbe.trans (hb2.mono hbe.size)
          go_wp2_with fail
          go_roundw
          case rel => exact ⟨k + 1, by omega, by go_num, by rw [HQ.out], by rw [HQ.out]; exact hbk, hbe2⟩
          case measure => simp [intOf]; omega
        · have e1 : leftS bk (left - es.length - (S : Nat)) = -1 := if_neg (by omega)
          rw [e1] at HC
          have HR : Hid (leftS (srsBulk es) left = -1) := if_neg (by
            have h1 := HM.out
            have h2 := HL.out
            unfold srsBulk
            omega)
          clear e1 HM HL
          go_wp2_with fail
          refine HC.out.mono ?_
          rintro e w2 ⟨rfl, hb2⟩
          have hbe2 : Below w.heap.size w w2 := hbe.trans (hb2.mono hbe.size)
          go_wp2_with fail
          go_ret
          exact ⟨by rw [HR.out]; rfl, hbe2⟩
      · have hke : k = es.length := by omega
        subst hke
        rw [List.take_of_length_le (Nat.le_refl _)] at hle ⊢
        have HR : Hid (leftS (srsBulk es) left = left - es.length - ((es.map srBulk).sum : Nat)) := by
          show _ = _
          unfold leftS srsBulk
          rw [if_pos (by omega)]
          omega
        generalize (es.map srBulk).sum = S at *
        clear HEL HSZ
        go_wp2_with fail
        go_ret
        exact ⟨by rw [HR.out]; rfl, hbe⟩

set_option maxHeartbeats 800000 in
set_option maxRecDepth 100000 in
theorem lawsEqSr (nm tx : ByteArray) (w : World) :
    Calls Tryz.prog 49 #[.agg #[.string nm, .string tx], .agg #[.string nm, .string tx]] w fun e w' => e = .returned (.bool true) ∧ Below w.heap.size w w' := by
  have hB2 : Below w.heap.size w ((w.alloc (.cells #[.string nm, .string tx] 59)).alloc (.cells #[.string nm, .string tx] 59)) := ((Below.refl _ _).alloc (Nat.le_refl _) _).alloc (by simp) _
  go_enter Tryz.func49, Tryz.ntmps49
  go_wp2_with fail
  go_ret
  exact ⟨rfl, hB2⟩

set_option maxHeartbeats 800000 in
set_option maxRecDepth 100000 in
theorem lawsEqSrs (va vb : Value) (es : List Src) (w : World) (hA : SrcAt w va es) (hB : SrcAt w vb es) (hkl : es.length ≤ 1048576) :
    Calls Tryz.prog 25 #[va, vb] w fun e w' => e = .returned (.bool true) ∧ Below w.heap.size w w' := by
  obtain ⟨a, capa, rfl, ha⟩ := srcOpen hA
  obtain ⟨b, capb, rfl, hb⟩ := srcOpen hB
  have HEA : Hid (type_of% ha) := ha
  have HEB : Hid (type_of% hb) := hb
  clear hA hB ha hb
  go_enter Tryz.func25, Tryz.ntmps25
  go_wp2_with fail
  go_loopw [5] (fun i wr => ∃ k : Nat, k ≤ es.length ∧ i = .int .i64 k ∧ Below w.heap.size w wr) (fun i _ => es.length - (intOf i).toNat)
  case atStart => exact ⟨0, Nat.zero_le _, rfl, Below.refl _ _⟩
  case round =>
    obtain ⟨k, hk, rfl, hbe⟩ := hrel
    by_cases hlt : k < es.length
    · obtain ⟨ba, oa, rfl, hba, a0, a1⟩ := HEA.out k hlt
      obtain ⟨bb, ob, rfl, hbb, b0, b1⟩ := HEB.out k hlt
      have A0 := (hbe.cell (p := ⟨ba, oa + k * 2, none⟩) hba).trans a0
      have A1 := (hbe.cell (p := ⟨ba, oa + k * 2 + 1, none⟩) hba).trans a1
      have B0 := (hbe.cell (p := ⟨bb, ob + k * 2, none⟩) hbb).trans b0
      have B1 := (hbe.cell (p := ⟨bb, ob + k * 2 + 1, none⟩) hbb).trans b1
      have HC : Hid (∀ wx : World, Calls Tryz.prog 49 #[.agg #[.string es[k].1, .string es[k].2], .agg #[.string es[k].1, .string es[k].2]] wx fun e w' => e = .returned (.bool true) ∧ Below wx.heap.size wx w') := fun wx => lawsEqSr _ _ wx
      clear a0 a1 b0 b1 HEA HEB
      generalize es[k].1 = nm at *
      generalize es[k].2 = tx at *
      have hk0 : (0 : Int) ≤ k := by omega
      have hk1 : (k : Int) < es.length := by omega
      go_wp2_with fail
      go_region_with (go_at_call 49; refine (HC.out _).mono ?_; rintro e w2 ⟨rfl, hb2⟩)
      all_goals
        go_wp2_with fail
        go_roundw
        case rel => exact ⟨k + 1, by omega, by go_num, hbe.trans ((((Below.refl _ _).drew).trans hb2).mono hbe.size)⟩
        case measure => simp [intOf]; omega
    · clear HEA HEB
      go_wp2_with fail
      go_ret
      exact ⟨rfl, hbe⟩

end Go.Proofs.YtikoacgfnojoeaaGreatDoor
