/-
  What a slice of items (a key, an input and an output each) is; the walks of the laws' own helpers szItem, szItemS, szStore, eqItem, eqItemS, eqStore.
  A store that is handed in, opened.
-/
import Derived.Test.YtllbfbllkefjeaaGreatDoorTextsD
import Derived.Lib.QuietBelow
import Derived.BigQuiet
import Derived.Deep.RegionWith
import Derived.Deep.Slices
import Derived.Lib.SmallJoins
import Derived.Sort.Walk0
import Derived.ChangeArms
import Derived.ProofKit
import Derived.OpenShut
namespace Go.Proofs.YtllbfbllkefjeaaGreatDoor
open Go.RowKit

/-- an item: key, input, output -/
abbrev Itm := ByteArray × ByteArray × ByteArray

/-- the value is a slice of items -/
def ItAt (w : World) (v : Value) (es : List Itm) : Prop :=
  (es = [] ∧ ∃ a cap, v = .slice a 0 cap) ∨ ∃ b off cap, v = .slice (some ⟨b, off, none⟩) es.length cap ∧ ∀ j (h : j < es.length), w.cell? ⟨b, off + j * 3, none⟩ = some (.string es[j].1) ∧ w.cell? ⟨b, off + j * 3 + 1, none⟩ = some (.string es[j].2.1) ∧ w.cell? ⟨b, off + j * 3 + 2, none⟩ = some (.string es[j].2.2)

theorem ItAt.below {w w' : World} {v : Value} {es : List Itm} (h : ItAt w v es) (hb : Below w.heap.size w w') : ItAt w' v es := by
  rcases h with h | ⟨b, off, cap, rfl, hc⟩
  · exact .inl h
  · refine .inr ⟨b, off, cap, rfl, fun j hj => ?_⟩
    obtain ⟨h1, h2, h3⟩ := hc j hj
    exact ⟨(hb.cell (p := ⟨b, off + j * 3, none⟩) (World.block_lt_of_cell? w ⟨b, off + j * 3, none⟩ h1)).trans h1, (hb.cell (p := ⟨b, off + j * 3 + 1, none⟩) (World.block_lt_of_cell? w ⟨b, off + j * 3 + 1, none⟩ h2)).trans h2, (hb.cell (p := ⟨b, off + j * 3 + 2, none⟩) (World.block_lt_of_cell? w ⟨b, off + j * 3 + 2, none⟩ h3)).trans h3⟩

theorem itOpen {w : World} {v : Value} {es : List Itm} (h : ItAt w v es) : ∃ av capv, v = .slice av es.length capv ∧ ∀ j (h : j < es.length), ∃ b off, av = some ⟨b, off, none⟩ ∧ b < w.heap.size ∧ w.cell? ⟨b, off + j * 3, none⟩ = some (.string es[j].1) ∧ w.cell? ⟨b, off + j * 3 + 1, none⟩ = some (.string es[j].2.1) ∧ w.cell? ⟨b, off + j * 3 + 2, none⟩ = some (.string es[j].2.2) := by
  rcases h with ⟨h, a, cap, e⟩ | ⟨b, off, cap, e, hc⟩
  · exact ⟨a, cap, by rw [h]; exact e, fun j hj => by rw [h] at hj; simp at hj⟩
  · refine ⟨_, cap, e, fun j hj => ?_⟩
    obtain ⟨h1, h2, h3⟩ := hc j hj
    exact ⟨b, off, rfl, World.block_lt_of_cell? w ⟨b, off + j * 3, none⟩ h1, h1, h2, h3⟩

/-- how much is left -/
def leftI (b : Nat) (left : Int) : Int := if (b : Int) ≤ left then left - b else -1
/-- how much items hold -/
def itBulk (e : Itm) : Nat := e.1.size + e.2.1.size + e.2.2.size
def itsBulk (es : List Itm) : Nat := es.length + (es.map itBulk).sum
theorem itSum_more (es : List Itm) (k : Nat) (h : k < es.length) : ((es.take (k + 1)).map itBulk).sum = ((es.take k).map itBulk).sum + itBulk es[k] := by
  rw [List.take_succ_eq_append_getElem h, List.map_append, List.sum_append]
  simp
theorem itSum_le (es : List Itm) (k : Nat) : ((es.take k).map itBulk).sum ≤ (es.map itBulk).sum := by
  have : es.map itBulk = (es.take k).map itBulk ++ (es.drop k).map itBulk := by rw [← List.map_append, List.take_append_drop]
  rw [this, List.sum_append]
  omega
theorem it_bulk (es : List Itm) (k : Nat) (h : k < es.length) : es[k].1.size + es[k].2.1.size + es[k].2.2.size ≤ itsBulk es := by
  have h1 := itSum_more es k h
  have h2 := itSum_le es (k + 1)
  unfold itBulk at h1
  unfold itsBulk itBulk
  unfold itBulk at h2
  omega

set_option maxHeartbeats 800000 in
set_option maxRecDepth 100000 in
theorem lawsSzIt (ky inp out : ByteArray) (left : Int) (w : World) (hs : ky.size ≤ maxLen) (ht : inp.size ≤ maxLen) (hu : out.size ≤ maxLen) (h0 : 0 ≤ left) (h1 : left ≤ 1048576) :
    Calls Tryz.prog 46 #[.agg #[.string ky, .string inp, .string out], .int .i64 left] w fun e w' => e = .returned (.int .i64 (leftI (ky.size + inp.size + out.size) left)) ∧ Below w.heap.size w w' := by
  have hB1 : Below w.heap.size w (w.alloc (.cells #[.string ky, .string inp, .string out] 81)) := (Below.refl _ _).alloc (Nat.le_refl _) _
  unfold maxLen at hs ht hu
  by_cases d1 : left - (ky.size : Int) < 0
  · have HR : Hid (leftI (ky.size + inp.size + out.size) left = -1) := if_neg (by omega)
    go_enter Tryz.func46, Tryz.ntmps46
    go_wp2_with fail
    go_ret
    exact ⟨by rw [HR.out]; rfl, hB1⟩
  · by_cases d2 : left - (ky.size : Int) - (inp.size : Int) < 0
    · have HR : Hid (leftI (ky.size + inp.size + out.size) left = -1) := if_neg (by omega)
      go_enter Tryz.func46, Tryz.ntmps46
      go_wp2_with fail
      go_ret
      exact ⟨by rw [HR.out]; rfl, hB1⟩
    · by_cases d3 : left - (ky.size : Int) - (inp.size : Int) - (out.size : Int) < 0
      · have HR : Hid (leftI (ky.size + inp.size + out.size) left = -1) := if_neg (by omega)
        go_enter Tryz.func46, Tryz.ntmps46
        go_wp2_with fail
        go_ret
        exact ⟨by rw [HR.out]; rfl, hB1⟩
      · have HR : Hid (leftI (ky.size + inp.size + out.size) left = left - ky.size - inp.size - out.size) := by
          show _ = _
          unfold leftI
          rw [if_pos (by omega)]
          omega
        go_enter Tryz.func46, Tryz.ntmps46
        go_wp2_with fail
        go_ret
        exact ⟨by rw [HR.out]; rfl, hB1⟩

set_option maxHeartbeats 800000 in
set_option maxRecDepth 100000 in
theorem lawsSzIts (v : Value) (es : List Itm) (left : Int) (w : World) (hrow : ItAt w v es) (hkl : es.length ≤ maxLen) (hsz : ∀ e ∈ es, e.1.size ≤ maxLen ∧ e.2.1.size ≤ maxLen ∧ e.2.2.size ≤ maxLen) (h0 : 0 ≤ left) (h1 : left ≤ 1048576) :
    Calls Tryz.prog 18 #[v, .int .i64 left] w fun e w' => e = .returned (.int .i64 (leftI (itsBulk es) left)) ∧ Below w.heap.size w w' := by
  unfold maxLen at hkl
  obtain ⟨av, capv, rfl, hel⟩ := itOpen hrow
  have HEL : Hid (type_of% hel) := hel
  have HSZ : Hid (type_of% hsz) := hsz
  clear hrow hel hsz
  by_cases hneg : left - (es.length : Int) < 0
  · have HR : Hid (leftI (itsBulk es) left = -1) := if_neg (by unfold itsBulk; omega)
    clear HEL HSZ
    go_enter Tryz.func18, Tryz.ntmps18
    go_wp2_with fail
    go_ret
    exact ⟨by rw [HR.out]; rfl, Below.refl _ _⟩
  · go_enter Tryz.func18, Tryz.ntmps18
    go_wp2_with fail
    go_loopw [1, 5] (fun l i wr => ∃ k : Nat, k ≤ es.length ∧ i = .int .i64 k ∧ l = .int .i64 (left - es.length - (((es.take k).map itBulk).sum : Nat)) ∧ ((((es.take k).map itBulk).sum : Nat) : Int) ≤ left - es.length ∧ Below w.heap.size w wr) (fun _ i _ => es.length - (intOf i).toNat)
    case atStart => exact ⟨0, Nat.zero_le _, rfl, by simp, by simp; omega, Below.refl _ _⟩
    case round =>
      obtain ⟨k, hk, rfl, rfl, hle, hbe⟩ := hrel
      by_cases hlt : k < es.length
      · obtain ⟨b, off, rfl, hbl, q0, q1, q2⟩ := HEL.out k hlt
        have HM : Hid (((es.take (k + 1)).map itBulk).sum = ((es.take k).map itBulk).sum + itBulk es[k]) := itSum_more es k hlt
        have HL : Hid (((es.take (k + 1)).map itBulk).sum ≤ (es.map itBulk).sum) := itSum_le es (k + 1)
        have c0 := (hbe.cell (p := ⟨b, off + k * 3, none⟩) hbl).trans q0
        have c1 := (hbe.cell (p := ⟨b, off + k * 3 + 1, none⟩) hbl).trans q1
        have c2 := (hbe.cell (p := ⟨b, off + k * 3 + 2, none⟩) hbl).trans q2
        generalize hS : ((es.take k).map itBulk).sum = S at *
        have hz := HSZ.out es[k] (List.getElem_mem hlt)
        have HC : Hid (Calls Tryz.prog 46 #[.agg #[.string es[k].1, .string es[k].2.1, .string es[k].2.2], .int .i64 (left - es.length - (S : Nat))] wr fun e w' => e = .returned (.int .i64 (leftI (itBulk es[k]) (left - es.length - (S : Nat)))) ∧ Below wr.heap.size wr w') := lawsSzIt _ _ _ _ wr hz.1 hz.2.1 hz.2.2 (by omega) (by omega)
        clear hS q0 q1 q2 HEL HSZ hz
        generalize itBulk es[k] = bk at *
        generalize es[k].1 = ky at *
        generalize es[k].2.1 = inp at *
        generalize es[k].2.2 = out at *
        by_cases hbk : ((S + bk : Nat) : Int) ≤ left - es.length
        · have e1 : leftI bk (left - es.length - (S : Nat)) = left - es.length - ((S + bk : Nat) : Int) := by
            unfold leftI
            rw [if_pos (by omega)]
            omega
          rw [e1] at HC
          have hnn : ¬ left - (es.length : Int) - ((S + bk : Nat) : Int) < 0 := by omega
          clear e1
          generalize hq : S + bk = Q at *
          have HQ : Hid (((es.take (k + 1)).map itBulk).sum = Q) := HM.out.trans rfl
          clear hq HM HL
          go_wp2_with fail
          refine HC.out.mono ?_
          rintro e w2 ⟨rfl, hb2⟩
          have hbe2 : Below w.heap.size w w2 := hbe.trans (hb2.mono hbe.size)
          go_wp2_with fail
          go_roundw
          case rel => exact ⟨k + 1, by omega, by go_num, by rw [HQ.out], by rw [HQ.out]; exact hbk, hbe2⟩
          case measure => simp [intOf]; omega
        · have e1 : leftI bk (left - es.length - (S : Nat)) = -1 := if_neg (by omega)
          rw [e1] at HC
          have HR : Hid (leftI (itsBulk es) left = -1) := if_neg (by
            have h1 := HM.out
            have h2 := HL.out
            unfold itsBulk
            omega)
          clear e1 HM HL
          go_wp2_with fail
          refine HC.out.mono ?_
          rintro e w2 ⟨rfl, hb2⟩
          have hbe2 : Below w.heap.size w w2 := hbe.trans (hb2.mono hbe.size)
          go_wp2_with fail
          go_ret
          exact ⟨by rw [HR.out]; rfl, hbe2⟩
      · have hke : k = es.length := by omega
        subst hke
        rw [List.take_of_length_le (Nat.le_refl _)] at hle ⊢
        have HR : Hid (leftI (itsBulk es) left = left - es.length - ((es.map itBulk).sum : Nat)) := by
          show _ = _
          unfold leftI itsBulk
          rw [if_pos (by omega)]
          omega
        generalize (es.map itBulk).sum = S at *
        clear HEL HSZ
        go_wp2_with fail
        go_ret
        exact ⟨by rw [HR.out]; rfl, hbe⟩

set_option maxHeartbeats 800000 in
set_option maxRecDepth 100000 in
theorem lawsSzStore (room : Int) (v : Value) (es : List Itm) (w : World) (hrow : ItAt w v es) (hkl : es.length ≤ maxLen) (hsz : ∀ e ∈ es, e.1.size ≤ maxLen ∧ e.2.1.size ≤ maxLen ∧ e.2.2.size ≤ maxLen) :
    Calls Tryz.prog 5 #[.agg #[.int .i64 room, v], .int .i64 1048576] w fun e w' => e = .returned (.int .i64 (leftI (itsBulk es) 1048576)) ∧ Below w.heap.size w w' := by
  obtain ⟨av, capv, rfl, _⟩ := itOpen hrow
  have hB1 : Below w.heap.size w (w.alloc (.cells #[.int .i64 room, .slice av es.length capv] 25)) := (Below.refl _ _).alloc (Nat.le_refl _) _
  have HC : Hid (∀ wx, Below w.heap.size w wx → Calls Tryz.prog 18 #[.slice av es.length capv, .int .i64 1048576] wx fun e w' => e = .returned (.int .i64 (leftI (itsBulk es) 1048576)) ∧ Below wx.heap.size wx w') := fun wx hx => lawsSzIts _ es _ wx (hrow.below hx) hkl hsz (by omega) (by omega)
  clear hrow hsz
  by_cases hbk : itsBulk es ≤ 1048576
  · have e1 : leftI (itsBulk es) 1048576 = 1048576 - (itsBulk es : Nat) := if_pos (by omega)
    rw [e1] at HC ⊢
    clear e1
    generalize itsBulk es = B at *
    have hn : ¬ (1048576 - (B : Int) < 0) := by omega
    go_enter Tryz.func5, Tryz.ntmps5
    go_wp2_with fail
    refine (HC.out _ hB1).mono ?_
    rintro e w2 ⟨rfl, hb2⟩
    have hw2 := hB1.trans (hb2.mono hB1.size)
    go_wp2_with fail
    go_ret
    exact ⟨rfl, hw2⟩
  · have e1 : leftI (itsBulk es) 1048576 = -1 := if_neg (by omega)
    rw [e1] at HC ⊢
    clear e1
    go_enter Tryz.func5, Tryz.ntmps5
    go_wp2_with fail
    refine (HC.out _ hB1).mono ?_
    rintro e w2 ⟨rfl, hb2⟩
    have hw2 := hB1.trans (hb2.mono hB1.size)
    go_wp2_with fail
    go_ret
    exact ⟨rfl, hw2⟩

set_option maxHeartbeats 800000 in
set_option maxRecDepth 100000 in
theorem lawsEqIt (ky inp out : ByteArray) (w : World) :
    Calls Tryz.prog 63 #[.agg #[.string ky, .string inp, .string out], .agg #[.string ky, .string inp, .string out]] w fun e w' => e = .returned (.bool true) ∧ Below w.heap.size w w' := by
  have hB2 : Below w.heap.size w ((w.alloc (.cells #[.string ky, .string inp, .string out] 83)).alloc (.cells #[.string ky, .string inp, .string out] 83)) := ((Below.refl _ _).alloc (Nat.le_refl _) _).alloc (by simp) _
  go_enter Tryz.func63, Tryz.ntmps63
  go_wp2_with fail
  go_ret
  exact ⟨rfl, hB2⟩

set_option maxHeartbeats 800000 in
set_option maxRecDepth 100000 in
theorem lawsEqIts (va vb : Value) (es : List Itm) (w : World) (hA : ItAt w va es) (hB : ItAt w vb es) (hkl : es.length ≤ 1048577) :
    Calls Tryz.prog 33 #[va, vb] w fun e w' => e = .returned (.bool true) ∧ Below w.heap.size w w' := by
  obtain ⟨a, capa, rfl, ha⟩ := itOpen hA
  obtain ⟨b, capb, rfl, hb⟩ := itOpen hB
  have HEA : Hid (type_of% ha) := ha
  have HEB : Hid (type_of% hb) := hb
  clear hA hB ha hb
  go_enter Tryz.func33, Tryz.ntmps33
  go_wp2_with fail
  go_loopw [5] (fun i wr => ∃ k : Nat, k ≤ es.length ∧ i = .int .i64 k ∧ Below w.heap.size w wr) (fun i _ => es.length - (intOf i).toNat)
  case atStart => exact ⟨0, Nat.zero_le _, rfl, Below.refl _ _⟩
  case round =>
    obtain ⟨k, hk, rfl, hbe⟩ := hrel
    by_cases hlt : k < es.length
    · obtain ⟨ba, oa, rfl, hba, a0, a1, a2⟩ := HEA.out k hlt
      obtain ⟨bb, ob, rfl, hbb, b0, b1, b2⟩ := HEB.out k hlt
      have A0 := (hbe.cell (p := ⟨ba, oa + k * 3, none⟩) hba).trans a0
      have A1 := (hbe.cell (p := ⟨ba, oa + k * 3 + 1, none⟩) hba).trans a1
      have A2 := (hbe.cell (p := ⟨ba, oa + k * 3 + 2, none⟩) hba).trans a2
      have B0 := (hbe.cell (p := ⟨bb, ob + k * 3, none⟩) hbb).trans b0
      have B1 := (hbe.cell (p := ⟨bb, ob + k * 3 + 1, none⟩) hbb).trans b1
      have B2 := (hbe.cell (p := ⟨bb, ob + k * 3 + 2, none⟩) hbb).trans b2
      have HC : Hid (∀ wx : World, Calls Tryz.prog 63 #[.agg #[.string es[k].1, .string es[k].2.1, .string es[k].2.2], .agg #[.string es[k].1, .string es[k].2.1, .string es[k].2.2]] wx fun e w' => e = .returned (.bool true) ∧ Below wx.heap.size wx w') := fun wx => lawsEqIt _ _ _ wx
      clear a0 a1 a2 b0 b1 b2 HEA HEB
      generalize es[k].1 = ky at *
      generalize es[k].2.1 = inp at *
      generalize es[k].2.2 = out at *
      have hk0 : (0 : Int) ≤ k := by omega
      have hk1 : (k : Int) < es.length := by omega
      go_wp2_with fail
      go_region_with (go_at_call 63; refine (HC.out _).mono ?_; rintro e w2 ⟨rfl, hb2⟩)
      all_goals
        go_wp2_with fail
        go_roundw
        case rel => exact ⟨k + 1, by omega, by go_num, hbe.trans ((((Below.refl _ _).drew).trans hb2).mono hbe.size)⟩
        case measure => simp [intOf]; omega
    · clear HEA HEB
      go_wp2_with fail
      go_ret
      exact ⟨rfl, hbe⟩

set_option maxHeartbeats 800000 in
set_option maxRecDepth 100000 in
theorem lawsEqStore (room : Int) (va vb : Value) (es : List Itm) (w : World) (hA : ItAt w va es) (hB : ItAt w vb es) (hkl : es.length ≤ 1048577) :
    Calls Tryz.prog 12 #[.agg #[.int .i64 room, va], .agg #[.int .i64 room, vb]] w fun e w' => e = .returned (.bool true) ∧ Below w.heap.size w w' := by
  obtain ⟨a, capa, rfl, _⟩ := itOpen hA
  obtain ⟨b, capb, rfl, _⟩ := itOpen hB
  have hB2 : Below w.heap.size w ((w.alloc (.cells #[.int .i64 room, .slice a es.length capa] 35)).alloc (.cells #[.int .i64 room, .slice b es.length capb] 35)) := ((Below.refl _ _).alloc (Nat.le_refl _) _).alloc (by simp) _
  have HC : Hid (∀ wx, Below w.heap.size w wx → Calls Tryz.prog 33 #[.slice a es.length capa, .slice b es.length capb] wx fun e w' => e = .returned (.bool true) ∧ Below wx.heap.size wx w') := fun wx hx => lawsEqIts _ _ es wx (hA.below hx) (hB.below hx) hkl
  clear hA hB
  go_enter Tryz.func12, Tryz.ntmps12
  go_wp2_with fail
  refine (HC.out _ hB2).mono ?_
  rintro e w2 ⟨rfl, hb2⟩
  have hw2 := hB2.trans (hb2.mono hB2.size)
  go_wp2_with fail
  go_ret
  exact ⟨rfl, hw2⟩

end Go.Proofs.YtllbfbllkefjeaaGreatDoor

namespace Go.Proofs.YtllbfbllkefjeaaGreatDoor
open Go.ChangeShapes Go.WideShapes Go.ChangeAt Go.RowKit

set_option maxRecDepth 100000 in
theorem opened_it {H : Type} {enc : TypeId × Value → H} {W : World} {base : Nat} {sp : Nat → Bool} {held : Bool} (n : Nat) (cs : List Value) (x : DataW H × List MemPlace) (h : DataW.trod enc Tryz.prog W base sp held n 81 cs = some x) : ∃ e : Itm, cs = [.string e.1, .string e.2.1, .string e.2.2] ∧ e.1.size ≤ maxLen ∧ e.2.1.size ≤ maxLen ∧ e.2.2.size ≤ maxLen := by
  have c3 : Tryz.prog.cellsOf 81 = 3 := by kernel_rfl
  have cst : Tryz.prog.cellsOf 9 = 1 := by kernel_rfl
  obtain ⟨xs, m, rfl, rfl, hl, hxl, hf⟩ := DataW.trod_struct Tryz.underlying81 h
  rw [c3] at hl
  have hxl3 : xs.length = 3 := hxl
  match cs, hl, xs, hxl3 with
  | [v0, v1, v2], _, [y0, y1, y2], _ =>
    have e0 : DataW.trod enc Tryz.prog W base sp held m 9 (List.take (Tryz.prog.cellsOf 9) [v0, v1, v2]) = some y0 := hf 0 _ rfl
    rw [cst] at e0
    have f0 : DataW.trod enc Tryz.prog W base sp held m 9 [v0] = some y0 := e0
    have e1 : DataW.trod enc Tryz.prog W base sp held m 9 (List.take (Tryz.prog.cellsOf 9) [v1, v2]) = some y1 := hf 1 _ rfl
    rw [cst] at e1
    have f1 : DataW.trod enc Tryz.prog W base sp held m 9 [v1] = some y1 := e1
    have e2 : DataW.trod enc Tryz.prog W base sp held m 9 (List.take (Tryz.prog.cellsOf 9) [v2]) = some y2 := hf 2 _ rfl
    rw [cst] at e2
    have f2 : DataW.trod enc Tryz.prog W base sp held m 9 [v2] = some y2 := e2
    obtain ⟨a, ha, _, hsa⟩ := DataW.trod_string Tryz.underlying9 f0
    obtain ⟨b, hb, _, hsb⟩ := DataW.trod_string Tryz.underlying9 f1
    obtain ⟨c, hc, _, hsc⟩ := DataW.trod_string Tryz.underlying9 f2
    obtain rfl : v0 = .string a := by simpa using ha
    obtain rfl : v1 = .string b := by simpa using hb
    obtain rfl : v2 = .string c := by simpa using hc
    exact ⟨(a, b, c), rfl, hsa, hsb, hsc⟩

set_option maxRecDepth 100000 in
theorem opened_its {H : Type} {enc : TypeId × Value → H} {W : World} {base : Nat} {sp : Nat → Bool} {held : Bool} (n : Nat) (v : Value) (x : DataW H × List MemPlace) (h : DataW.trod enc Tryz.prog W base sp held n 23 [v] = some x) : ∃ es : List Itm, ItAt W v es ∧ es.length ≤ maxLen ∧ ∀ e ∈ es, e.1.size ≤ maxLen ∧ e.2.1.size ≤ maxLen ∧ e.2.2.size ≤ maxLen := by
  have c3 : Tryz.prog.cellsOf 81 = 3 := by kernel_rfl
  rcases DataW.trod_slice Tryz.underlying23 h with ⟨hcs, _⟩ | ⟨a, len, cap, elems, rest, m2, rfl, hcs, _, hb, hlc, hcm, hel, heach, _, _⟩
  · obtain rfl : v = .slice none 0 0 := by simpa using hcs
    exact ⟨[], .inl ⟨rfl, _, _, rfl⟩, by simp, by simp⟩
  · obtain rfl : v = .slice (some a) len cap := by simpa using hcs
    rw [c3] at heach
    have each : ∀ i, i < len → ∃ q : Itm, (q.1.size ≤ maxLen ∧ q.2.1.size ≤ maxLen ∧ q.2.2.size ≤ maxLen) ∧ ∀ c u, [Value.string q.1, Value.string q.2.1, Value.string q.2.2][c]? = some u → W.cell? ((a.add (i * 3)).add c) = some u := fun i hi => by
      have hi2 := heach i hi
      rw [List.getElem?_eq_getElem (by omega)] at hi2
      obtain ⟨cs', h1, h2⟩ := Option.bind_eq_some_iff.1 hi2
      obtain ⟨t, rfl, ht1, ht2, ht3⟩ := opened_it m2 cs' _ h2
      obtain ⟨_, hlen, hcell⟩ := World.cells?_some h1
      refine ⟨t, ⟨ht1, ht2, ht3⟩, fun c u hu => ?_⟩
      have hc : c < 3 := by
        have : c < [Value.string t.1, Value.string t.2.1, Value.string t.2.2].length := (List.getElem?_eq_some_iff.1 hu).1
        simpa using this
      rw [hcell c hc]
      exact hu
    haveI : Inhabited Itm := ⟨(ByteArray.empty, ByteArray.empty, ByteArray.empty)⟩
    obtain ⟨q, hq⟩ := Go.Deep.choose_lt each
    refine ⟨(List.range len).map fun i => q i, ?_, by simp; omega, fun e he => ?_⟩
    · by_cases h0 : len = 0
      · subst h0
        exact .inl ⟨rfl, _, _, rfl⟩
      · obtain ⟨b, off, spot⟩ := a
        have hspot : spot = none := by
          obtain ⟨h1, h2⟩ := hq 0 (by omega)
          have hc := h2 0 _ rfl
          simpa [Addr.add] using World.cell?_spot hc
        subst hspot
        refine .inr ⟨b, off, cap, by simp, fun j hj => ?_⟩
        have hj2 : j < len := by simpa using hj
        obtain ⟨h1, h2⟩ := hq j hj2
        simp only [List.getElem_map, List.getElem_range]
        have g0 := h2 0 _ rfl
        have g1 := h2 1 _ rfl
        have g2 := h2 2 _ rfl
        rw [Addr.add_lit, Addr.add_lit] at g0 g1 g2
        exact ⟨g0, g1, g2⟩
    · obtain ⟨i, hi, rfl⟩ := List.mem_map.1 he
      exact (hq i (by simpa using hi)).1

set_option maxRecDepth 100000 in
theorem opened_store {H : Type} {enc : TypeId × Value → H} {W : World} {base : Nat} {sp : Nat → Bool} {held : Bool} (n : Nat) (cs : List Value) (x : DataW H × List MemPlace) (h : DataW.trod enc Tryz.prog W base sp held n 25 cs = some x) : ∃ (room : Int) (v : Value) (es : List Itm), cs = [.int .i64 room, v] ∧ (-9223372036854775808 ≤ room ∧ room ≤ 9223372036854775807) ∧ ItAt W v es ∧ es.length ≤ maxLen ∧ ∀ e ∈ es, e.1.size ≤ maxLen ∧ e.2.1.size ≤ maxLen ∧ e.2.2.size ≤ maxLen := by
  have c2 : Tryz.prog.cellsOf 25 = 2 := by kernel_rfl
  have ci : Tryz.prog.cellsOf 3 = 1 := by kernel_rfl
  have cs1 : Tryz.prog.cellsOf 23 = 1 := by kernel_rfl
  obtain ⟨xs, m, rfl, rfl, hl, hxl, hf⟩ := DataW.trod_struct Tryz.underlying25 h
  rw [c2] at hl
  have hxl2 : xs.length = 2 := hxl
  match cs, hl, xs, hxl2 with
  | [v0, v1], _, [y0, y1], _ =>
    have e0 : DataW.trod enc Tryz.prog W base sp held m 3 (List.take (Tryz.prog.cellsOf 3) [v0, v1]) = some y0 := hf 0 _ rfl
    rw [ci] at e0
    have f0 : DataW.trod enc Tryz.prog W base sp held m 3 [v0] = some y0 := e0
    have e1 : DataW.trod enc Tryz.prog W base sp held m 23 (List.take (Tryz.prog.cellsOf 23) [v1]) = some y1 := hf 1 _ rfl
    rw [cs1] at e1
    have f1 : DataW.trod enc Tryz.prog W base sp held m 23 [v1] = some y1 := e1
    obtain ⟨k, hk, _, hwf⟩ := DataW.trod_int Tryz.underlying3 f0
    obtain rfl : v0 = .int .i64 k := by simpa using hk
    have hx : -9223372036854775808 ≤ k ∧ k ≤ 9223372036854775807 := by simpa [Lit.wf, IntKind.min, IntKind.max, IntKind.signed, IntKind.bits] using hwf
    obtain ⟨es, h1, h2, h3⟩ := opened_its m _ _ f1
    exact ⟨k, v1, es, rfl, hx, h1, h2, h3⟩

end Go.Proofs.YtllbfbllkefjeaaGreatDoor
