/-
  What a slice of items (a key, an input and an output each) is; the walks of the laws' own helpers szItem, szItemS, szStore, eqItem, eqItemS, eqStore.
-/
import Derived.Test.YtikoacgfnojoeaaGreatDoorTextsD
import Derived.Lib.QuietBelow
import Derived.BigQuiet
import Derived.Deep.RegionWith
import Derived.Deep.Slices
import Derived.Lib.SmallJoins
import Derived.Sort.Walk0
import Derived.ChangeArms
namespace Go.Proofs.YtikoacgfnojoeaaGreatDoor
open Go.RowKit

/-- an item: key, input, output -/
abbrev Itm := ByteArray × ByteArray × ByteArray

/-- the value is a slice of items -/
def ItAt (w : World) (v : Value) (es : List Itm) : Prop :=
  (es = [] ∧ ∃ a cap, v = .slice a 0 cap) ∨ ∃ b off cap, v = .slice (some ⟨b, off, none⟩) es.length cap ∧ ∀ j (h : j < es.length), w.cell? ⟨b, off + j * 3, none⟩ = some (.string es[j].1) ∧ w.cell? ⟨b, off + j * 3 + 1, none⟩ = some (.string es[j].2.1) ∧ w.cell? ⟨b, off + j * 3 + 2, none⟩ = some (.string es[j].2.2)

theorem ItAt.below {w w' : World} {v : Value} {es : List Itm} (h : ItAt w v es) (hb : Below w.heap.size w w') : ItAt w' v es := by
  rcases h with h | ⟨b, off, cap, rfl, hc⟩
  · exact .inl h
  · refine .inr ⟨b, off, cap, rfl, fun j hj => ?_⟩
    obtain ⟨h1, h2, h3⟩ := hc j hj
    exact ⟨(hb.cell (p := ⟨b, off + j * 3, none⟩) (World.block_lt_of_cell? w ⟨b, off + j * 3, none⟩ h1)).trans h1, (hb.cell (p := ⟨b, off + j * 3 + 1, none⟩) (World.block_lt_of_cell? w ⟨b, off + j * 3 + 1, none⟩ h2)).trans h2, (hb.cell (p := ⟨b, off + j * 3 + 2, none⟩) (World.block_lt_of_cell? w ⟨b, off + j * 3 + 2, none⟩ h3)).trans h3⟩

theorem itOpen {w : World} {v : Value} {es : List Itm} (h : ItAt w v es) : ∃ av capv, v = .slice av es.length capv ∧ ∀ j (h : j < es.length), ∃ b off, av = some ⟨b, off, none⟩ ∧ b < w.heap.size ∧ w.cell? ⟨b, off + j * 3, none⟩ = some (.string es[j].1) ∧ w.cell? ⟨b, off + j * 3 + 1, none⟩ = some (.string es[j].2.1) ∧ w.cell? ⟨b, off + j * 3 + 2, none⟩ = some (.string es[j].2.2) := by
  rcases h with ⟨h, a, cap, e⟩ | ⟨b, off, cap, e, hc⟩
  · exact ⟨a, cap, by rw [h]; exact e, fun j hj => by rw [h] at hj; simp at hj⟩
  · refine ⟨_, cap, e, fun j hj => ?_⟩
    obtain ⟨h1, h2, h3⟩ := hc j hj
    exact ⟨b, off, rfl, World.block_lt_of_cell? w ⟨b, off + j * 3, none⟩ h1, h1, h2, h3⟩

/-- how much is left -/
def leftI (b : Nat) (left : Int) : Int := if (b : Int) ≤ left then left - b else -1
/-- how much items hold -/
def itBulk (e : Itm) : Nat := e.1.size + e.2.1.size + e.2.2.size
def itsBulk (es : List Itm) : Nat := es.length + (es.map itBulk).sum
theorem itSum_more (es : List Itm) (k : Nat) (h : k < es.length) : ((es.take (k + 1)).map itBulk).sum = ((es.take k).map itBulk).sum + itBulk es[k] := by
  rw [List.take_succ_eq_append_getElem h, List.map_append, List.sum_append]
  simp
theorem itSum_le (es : List Itm) (k : Nat) : ((es.take k).map itBulk).sum ≤ (es.map itBulk).sum := by
  have : es.map itBulk = (es.take k).map itBulk ++ (es.drop k).map itBulk := by rw [← List.map_append, List.take_append_drop]
  rw [this, List.sum_append]
  omega
theorem it_bulk (es : List Itm) (k : Nat) (h : k < es.length) : es[k].1.size + es[k].2.1.size + es[k].2.2.size ≤ itsBulk es := by
  have h1 := itSum_more es k h
  have h2 := itSum_le es (k + 1)
  unfold itBulk at h1
  unfold itsBulk itBulk
  unfold itBulk at h2
  omega

set_option maxHeartbeats 800000 in
set_option maxRecDepth 100000 in
theorem lawsSzIt (ky inp out : ByteArray) (left : Int) (w : World) (hs : ky.size ≤ maxLen) (ht : inp.size ≤ maxLen) (hu : out.size ≤ maxLen) (h0 : 0 ≤ left) (h1 : left ≤ 1048576) :
    Calls Tryz.prog 56 #[.agg #[.string ky, .string inp, .string out], .int .i64 left] w fun e w' => e = .returned (.int .i64 (leftI (ky.size + inp.size + out.size) left)) ∧ Below w.heap.size w w' := by
  have hB1 : Below w.heap.size w (w.alloc (.cells #[.string ky, .string inp, .string out] 128)) := (Below.refl _ _).alloc (Nat.le_refl _) _
  unfold maxLen at hs ht hu
  by_cases d1 : left - (ky.size : Int) < 0
  · have HR : Hid (leftI (ky.size + inp.size + out.size) left = -1) := if_neg (by omega)
    go_enter Tryz.func56, Tryz.ntmps56
    go_wp2_with fail
    go_ret
    exact ⟨by rw [HR.out]; rfl, hB1⟩
  · by_cases d2 : left - (ky.size : Int) - (inp.size : Int) < 0
    · have HR : Hid (leftI (ky.size + inp.size + out.size) left = -1) := if_neg (by omega)
      go_enter Tryz.func56, Tryz.ntmps56
      go_wp2_with fail
      go_ret
      exact ⟨by rw [HR.out]; rfl, hB1⟩
    · by_cases d3 : left - (ky.size : Int) - (inp.size : Int) - (out.size : Int) < 0
      · have HR : Hid (leftI (ky.size + inp.size + out.size) left = -1) := if_neg (by omega)
        go_enter Tryz.func56, Tryz.ntmps56
        go_wp2_with fail
        go_ret
        exact ⟨by rw [HR.out]; rfl, hB1⟩
      · have HR : Hid (leftI (ky.size + inp.size + out.size) left = left - ky.size - inp.size - out.size) := by
          show _ = _
          unfold leftI
          rw [if_pos (by omega)]
          omega
        go_enter Tryz.func56, Tryz.ntmps56
        go_wp2_with fail
        go_ret
        exact ⟨by rw [HR.out]; rfl, hB1⟩

set_option maxHeartbeats 800000 in
set_option maxRecDepth 100000 in
theorem lawsSzIts (v : Value) (es : List Itm) (left : Int) (w : World) (hrow : ItAt w v es) (hkl : es.length ≤ maxLen) (hsz : ∀ e ∈ es, e.1.size ≤ maxLen ∧ e.2.1.size ≤ maxLen ∧ e.2.2.size ≤ maxLen) (h0 : 0 ≤ left) (h1 : left ≤ 1048576) :
    Calls Tryz.prog 35 #[v, .int .i64 left] w fun e w' => e = .returned (.int .i64 (leftI (itsBulk es) left)) ∧ Below w.heap.size w w' := by
  unfold maxLen at hkl
  obtain ⟨av, capv, rfl, hel⟩ := itOpen hrow
  have HEL : Hid (type_of% hel) := hel
  have HSZ : Hid (type_of% hsz) := hsz
  clear hrow hel hsz
  by_cases hneg : left - (es.length : Int) < 0
  · have HR : Hid (leftI (itsBulk es) left = -1) := if_neg (by unfold itsBulk; omega)
    clear HEL HSZ
    go_enter Tryz.func35, Tryz.ntmps35
    go_wp2_with fail
    go_ret
    exact ⟨by rw [HR.out]; rfl, Below.refl _ _⟩
  · go_enter Tryz.func35, Tryz.ntmps35
    go_wp2_with fail
    go_loopw [1, 5] (fun l i wr => ∃ k : Nat, k ≤ es.length ∧ i = .int .i64 k ∧ l = .int .i64 (left - es.length - (((es.take k).map itBulk).sum : Nat)) ∧ ((((es.take k).map itBulk).sum : Nat) : Int) ≤ left - es.length ∧ Below w.heap.size w wr) (fun _ i _ => es.length - (intOf i).toNat)
    case atStart => exact ⟨0, Nat.zero_le _, rfl, by simp, by simp; omega, Below.refl _ _⟩
    case round =>
      obtain ⟨k, hk, rfl, rfl, hle, hbe⟩ := hrel
      by_cases hlt : k < es.length
      · obtain ⟨b, off, rfl, hbl, q0, q1, q2⟩ := HEL.out k hlt
        have HM : Hid (((es.take (k + 1)).map itBulk).sum = ((es.take k).map itBulk).sum + itBulk es[k]) := itSum_more es k hlt
        have HL : Hid (((es.take (k + 1)).map itBulk).sum ≤ (es.map itBulk).sum) := itSum_le es (k + 1)
        have c0 := (hbe.cell (p := ⟨b, off + k * 3, none⟩) hbl).trans q0
        have c1 := (hbe.cell (p := ⟨b, off + k * 3 + 1, none⟩) hbl).trans q1
        have c2 := (hbe.cell (p := ⟨b, off + k * 3 + 2, none⟩) hbl).trans q2
        generalize hS : ((es.take k).map itBulk).sum = S at *
        have hz := HSZ.out es[k] (List.getElem_mem hlt)
        have HC : Hid (Calls Tryz.prog 56 #[.agg #[.string es[k].1, .string es[k].2.1, .string es[k].2.2], .int .i64 (left - es.length - (S : Nat))] wr fun e w' => e = .returned (.int .i64 (leftI (itBulk es[k]) (left - es.length - (S : Nat)))) ∧ Below wr.heap.size wr w') := lawsSzIt _ _ _ _ wr hz.1 hz.2.1 hz.2.2 (by omega) (by omega)
        clear hS q0 q1 q2 HEL HSZ hz
        generalize itBulk es[k] = bk at *
        generalize es[k].1 = ky at *
        generalize es[k].2.1 = inp at *
        generalize es[k].2.2 = out at *
        by_cases hbk : ((S + bk : Nat) : Int) ≤ left - es.length
        · have e1 : leftI bk (left - es.length - (S : Nat)) = left - es.length - ((S + bk : Nat) : Int) := by
            unfold leftI
            rw [if_pos (by omega)]
            omega
          rw [e1] at HC
          have hnn : ¬ left - (es.length : Int) - ((S + bk : Nat) : Int) < 0 := by omega
          clear e1
          generalize hq : S + bk = Q at *
          have HQ : Hid (((es.take (k + 1)).map itBulk).sum = Q) := HM.out.trans rfl
          clear hq HM HL
          go_wp2_with fail
          refine HC.out.mono ?_
          rintro e w2 ⟨rfl, hb2⟩
          have hbe2 : Below w.heap.size w w2 := hbe.trans (hb2.mono hbe.size)
          go_wp2_with fail
          go_roundw
          case rel => exact ⟨k + 1, by omega, by go_num, by rw [HQ.out], by rw [HQ.out]; exact hbk, hbe2⟩
          case measure => simp [intOf]; omega
        · have e1 : leftI bk (left - es.length - (S : Nat)) = -1 := if_neg (by omega)
          rw [e1] at HC
          have HR : Hid (leftI (itsBulk es) left = -1) := if_neg (by
            have h1 := HM.out
            have h2 := HL.out
            unfold itsBulk
            omega)
          clear e1 HM HL
          go_wp2_with fail
          refine HC.out.mono ?_
          rintro e w2 ⟨rfl, hb2⟩
          have hbe2 : Below w.heap.size w w2 := hbe.trans (hb2.mono hbe.size)
          go_wp2_with fail
          go_ret
          exact ⟨by rw [HR.out]; rfl, hbe2⟩
      · have hke : k = es.length := by omega
        subst hke
        rw [List.take_of_length_le (Nat.le_refl _)] at hle ⊢
        have HR : Hid (leftI (itsBulk es) left = left - es.length - ((es.map itBulk).sum : Nat)) := by
          show _ = _
          unfold leftI itsBulk
          rw [if_pos (by omega)]
          omega
        generalize (es.map itBulk).sum = S at *
        clear HEL HSZ
        go_wp2_with fail
        go_ret
        exact ⟨by rw [HR.out]; rfl, hbe⟩

set_option maxHeartbeats 800000 in
set_option maxRecDepth 100000 in
theorem lawsSzStore (room : Int) (v : Value) (es : List Itm) (w : World) (hrow : ItAt w v es) (hkl : es.length ≤ maxLen) (hsz : ∀ e ∈ es, e.1.size ≤ maxLen ∧ e.2.1.size ≤ maxLen ∧ e.2.2.size ≤ maxLen) :
    Calls Tryz.prog 14 #[.agg #[.int .i64 room, v], .int .i64 1048576] w fun e w' => e = .returned (.int .i64 (leftI (itsBulk es) 1048576)) ∧ Below w.heap.size w w' := by
  obtain ⟨av, capv, rfl, _⟩ := itOpen hrow
  have hB1 : Below w.heap.size w (w.alloc (.cells #[.int .i64 room, .slice av es.length capv] 29)) := (Below.refl _ _).alloc (Nat.le_refl _) _
  have HC : Hid (∀ wx, Below w.heap.size w wx → Calls Tryz.prog 35 #[.slice av es.length capv, .int .i64 1048576] wx fun e w' => e = .returned (.int .i64 (leftI (itsBulk es) 1048576)) ∧ Below wx.heap.size wx w') := fun wx hx => lawsSzIts _ es _ wx (hrow.below hx) hkl hsz (by omega) (by omega)
  clear hrow hsz
  by_cases hbk : itsBulk es ≤ 1048576
  · have e1 : leftI (itsBulk es) 1048576 = 1048576 - (itsBulk es : Nat) := if_pos (by omega)
    rw [e1] at HC ⊢
    clear e1
    generalize itsBulk es = B at *
    have hn : ¬ (1048576 - (B : Int) < 0) := by omega
    go_enter Tryz.func14, Tryz.ntmps14
    go_wp2_with fail
    refine (HC.out _ hB1).mono ?_
    rintro e w2 ⟨rfl, hb2⟩
    have hw2 := hB1.trans (hb2.mono hB1.size)
    go_wp2_with fail
    go_ret
    exact ⟨rfl, hw2⟩
  · have e1 : leftI (itsBulk es) 1048576 = -1 := if_neg (by omega)
    rw [e1] at HC ⊢
    clear e1
    go_enter Tryz.func14, Tryz.ntmps14
    go_wp2_with fail
    refine (HC.out _ hB1).mono ?_
    rintro e w2 ⟨rfl, hb2⟩
    have hw2 := hB1.trans (hb2.mono hB1.size)
    go_wp2_with fail
    go_ret
    exact ⟨rfl, hw2⟩

set_option maxHeartbeats 800000 in
set_option maxRecDepth 100000 in
theorem lawsEqIt (ky inp out : ByteArray) (w : World) :
    Calls Tryz.prog 67 #[.agg #[.string ky, .string inp, .string out], .agg #[.string ky, .string inp, .string out]] w fun e w' => e = .returned (.bool true) ∧ Below w.heap.size w w' := by
  have hB2 : Below w.heap.size w ((w.alloc (.cells #[.string ky, .string inp, .string out] 137)).alloc (.cells #[.string ky, .string inp, .string out] 137)) := ((Below.refl _ _).alloc (Nat.le_refl _) _).alloc (by simp) _
  go_enter Tryz.func67, Tryz.ntmps67
  go_wp2_with fail
  go_ret
  exact ⟨rfl, hB2⟩

set_option maxHeartbeats 800000 in
set_option maxRecDepth 100000 in
theorem lawsEqIts (va vb : Value) (es : List Itm) (w : World) (hA : ItAt w va es) (hB : ItAt w vb es) (hkl : es.length ≤ 1048577) :
    Calls Tryz.prog 53 #[va, vb] w fun e w' => e = .returned (.bool true) ∧ Below w.heap.size w w' := by
  obtain ⟨a, capa, rfl, ha⟩ := itOpen hA
  obtain ⟨b, capb, rfl, hb⟩ := itOpen hB
  have HEA : Hid (type_of% ha) := ha
  have HEB : Hid (type_of% hb) := hb
  clear hA hB ha hb
  go_enter Tryz.func53, Tryz.ntmps53
  go_wp2_with fail
  go_loopw [5] (fun i wr => ∃ k : Nat, k ≤ es.length ∧ i = .int .i64 k ∧ Below w.heap.size w wr) (fun i _ => es.length - (intOf i).toNat)
  case atStart => exact ⟨0, Nat.zero_le _, rfl, Below.refl _ _⟩
  case round =>
    obtain ⟨k, hk, rfl, hbe⟩ := hrel
    by_cases hlt : k < es.length
    · obtain ⟨ba, oa, rfl, hba, a0, a1, a2⟩ := HEA.out k hlt
      obtain ⟨bb, ob, rfl, hbb, b0, b1, b2⟩ := HEB.out k hlt
      have A0 := (hbe.cell (p := ⟨ba, oa + k * 3, none⟩) hba).trans a0
      have A1 := (hbe.cell (p := ⟨ba, oa + k * 3 + 1, none⟩) hba).trans a1
      have A2 := (hbe.cell (p := ⟨ba, oa + k * 3 + 2, none⟩) hba).trans a2
      have B0 := (hbe.cell (p := ⟨bb, ob + k * 3, none⟩) hbb).trans b0
      have B1 := (hbe.cell (p := ⟨bb, ob + k * 3 + 1, none⟩) hbb).trans b1
      have B2 := (hbe.cell (p := ⟨bb, ob + k * 3 + 2, none⟩) hbb).trans b2
      have HC : Hid (∀ wx : World, Calls Tryz.prog 67 #[.agg #[.string es[k].1, .string es[k].2.1, .string es[k].2.2], .agg #[.string es[k].1, .string es[k].2.1, .string es[k].2.2]] wx fun e w' => e = .returned (.bool true) ∧ Below wx.heap.size wx w') := fun wx => lawsEqIt _ _ _ wx
      clear a0 a1 a2 b0 b1 b2 HEA HEB
      generalize es[k].1 = ky at *
      generalize es[k].2.1 = inp at *
      generalize es[k].2.2 = out at *
      have hk0 : (0 : Int) ≤ k := by omega
      have hk1 : (k : Int) < es.length := by omega
      go_wp2_with fail
      go_region_with (go_at_call 67; refine (HC.out _).mono ?_; rintro e w2 ⟨rfl, hb2⟩)
      all_goals
        go_wp2_with fail
        go_roundw
        case rel => exact ⟨k + 1, by omega, by go_num, hbe.trans ((((Below.refl _ _).drew).trans hb2).mono hbe.size)⟩
        case measure => simp [intOf]; omega
    · clear HEA HEB
      go_wp2_with fail
      go_ret
      exact ⟨rfl, hbe⟩

set_option maxHeartbeats 800000 in
set_option maxRecDepth 100000 in
theorem lawsEqStore (room : Int) (va vb : Value) (es : List Itm) (w : World) (hA : ItAt w va es) (hB : ItAt w vb es) (hkl : es.length ≤ 1048577) :
    Calls Tryz.prog 30 #[.agg #[.int .i64 room, va], .agg #[.int .i64 room, vb]] w fun e w' => e = .returned (.bool true) ∧ Below w.heap.size w w' := by
  obtain ⟨a, capa, rfl, _⟩ := itOpen hA
  obtain ⟨b, capb, rfl, _⟩ := itOpen hB
  have hB2 : Below w.heap.size w ((w.alloc (.cells #[.int .i64 room, .slice a es.length capa] 41)).alloc (.cells #[.int .i64 room, .slice b es.length capb] 41)) := ((Below.refl _ _).alloc (Nat.le_refl _) _).alloc (by simp) _
  have HC : Hid (∀ wx, Below w.heap.size w wx → Calls Tryz.prog 53 #[.slice a es.length capa, .slice b es.length capb] wx fun e w' => e = .returned (.bool true) ∧ Below wx.heap.size wx w') := fun wx hx => lawsEqIts _ _ es wx (hA.below hx) (hB.below hx) hkl
  clear hA hB
  go_enter Tryz.func30, Tryz.ntmps30
  go_wp2_with fail
  refine (HC.out _ hB2).mono ?_
  rintro e w2 ⟨rfl, hb2⟩
  have hw2 := hB2.trans (hb2.mono hB2.size)
  go_wp2_with fail
  go_ret
  exact ⟨rfl, hw2⟩

end Go.Proofs.YtikoacgfnojoeaaGreatDoor
