/-
  Lists of leases, of packets and of bools: the walks of the laws' own helpers szLease, szLeaseS, eqLease, eqLeaseS, toLease, toLeaseS, and those of packets and of bools.
-/
import Derived.Test.YtikoacgfnojoeaaGreatDoorFmD
import Derived.Lib.QuietBelow
import Derived.BigQuiet
import Derived.Deep.RegionWith
import Derived.Deep.Slices
import Derived.Lib.SmallJoins
import Derived.Sort.Walk0
import Derived.ChangeArms
namespace Go.Proofs.YtikoacgfnojoeaaGreatDoor
open Go.ChangeShapes Go.WideShapes Go.ChangeAt Go.RowKit

/-- leases -/
abbrev LeR := ByteArray × Int × Int
def LeF (e : LeR) : List Value := [.string e.1, .int .i64 e.2.1, .int .i64 e.2.2]
def LeS (e : LeR) : Nat := e.1.size

set_option maxHeartbeats 800000 in
set_option maxRecDepth 100000 in
theorem lawsSzLe (xa : ByteArray) (xb : Int) (xc : Int) (left : Int) (w : World) (hs : xa.size ≤ maxLen) (h0 : 0 ≤ left) (h1 : left ≤ 1048576) :
    Calls Tryz.prog 32 #[.agg #[.string xa, .int .i64 xb, .int .i64 xc], .int .i64 left] w fun e w' => e = .returned (.int .i64 (leftA xa.size left)) ∧ Below w.heap.size w w' := by
  have hB1 : Below w.heap.size w (w.alloc (.cells #[.string xa, .int .i64 xb, .int .i64 xc] 85)) := (Below.refl _ _).alloc (Nat.le_refl _) _
  unfold maxLen at hs
  by_cases d1 : left - (xa.size : Int) < 0
  · have HR : Hid (leftA xa.size left = -1) := if_neg (by omega)
    go_enter Tryz.func32, Tryz.ntmps32
    go_wp2_with fail
    go_ret
    exact ⟨by rw [HR.out]; rfl, hB1⟩
  · have HR : Hid (leftA xa.size left = left - xa.size) := if_pos (by omega)
    go_enter Tryz.func32, Tryz.ntmps32
    go_wp2_with fail
    go_ret
    exact ⟨by rw [HR.out]; rfl, hB1⟩

set_option maxHeartbeats 800000 in
set_option maxRecDepth 100000 in
theorem lawsSzLes (v : Value) (es : List LeR) (left : Int) (w : World) (hrow : RowA 3 LeF w v es) (hkl : es.length ≤ maxLen) (hsz : ∀ e ∈ es, LeS e ≤ maxLen) (h0 : 0 ≤ left) (h1 : left ≤ 1048576) :
    Calls Tryz.prog 11 #[v, .int .i64 left] w fun e w' => e = .returned (.int .i64 (leftA (bulkA LeS es) left)) ∧ Below w.heap.size w w' := by
  unfold maxLen at hkl
  obtain ⟨av, capv, rfl, hel⟩ := rowA_open hrow
  have HEL : Hid (type_of% hel) := hel
  have HSZ : Hid (type_of% hsz) := hsz
  clear hrow hel hsz
  by_cases hneg : left - (es.length : Int) < 0
  · have HR : Hid (leftA (bulkA LeS es) left = -1) := if_neg (by unfold bulkA; omega)
    clear HEL HSZ
    go_enter Tryz.func11, Tryz.ntmps11
    go_wp2_with fail
    go_ret
    exact ⟨by rw [HR.out]; rfl, Below.refl _ _⟩
  · go_enter Tryz.func11, Tryz.ntmps11
    go_wp2_with fail
    go_loopw [1, 5] (fun l i wr => ∃ k : Nat, k ≤ es.length ∧ i = .int .i64 k ∧ l = .int .i64 (left - es.length - (sumA LeS (es.take k) : Nat)) ∧ ((sumA LeS (es.take k) : Nat) : Int) ≤ left - es.length ∧ Below w.heap.size w wr) (fun _ i _ => es.length - (intOf i).toNat)
    case atStart => exact ⟨0, Nat.zero_le _, rfl, by simp [sumA], by simp [sumA]; omega, Below.refl _ _⟩
    case round =>
      obtain ⟨k, hk, rfl, rfl, hle, hbe⟩ := hrel
      by_cases hlt : k < es.length
      · obtain ⟨b, off, rfl, hbl, q⟩ := HEL.out k hlt
        have HM : Hid (sumA LeS (es.take (k + 1)) = sumA LeS (es.take k) + LeS es[k]) := sumA_more _ es k hlt
        have HL : Hid (sumA LeS (es.take (k + 1)) ≤ sumA LeS es) := sumA_le _ es (k + 1)
        have c0 := (hbe.cell (p := ⟨b, off + k * 3 + 0, none⟩) hbl).trans (q 0 _ rfl)
        have c1 := (hbe.cell (p := ⟨b, off + k * 3 + 1, none⟩) hbl).trans (q 1 _ rfl)
        have c2 := (hbe.cell (p := ⟨b, off + k * 3 + 2, none⟩) hbl).trans (q 2 _ rfl)
        rw [Nat.add_zero] at c0
        generalize hS : sumA LeS (es.take k) = S at *
        have hz := HSZ.out es[k] (List.getElem_mem hlt)
        have HC : Hid (Calls Tryz.prog 32 #[.agg #[.string es[k].1, .int .i64 es[k].2.1, .int .i64 es[k].2.2], .int .i64 (left - es.length - (S : Nat))] wr fun e w' => e = .returned (.int .i64 (leftA (LeS es[k]) (left - es.length - (S : Nat)))) ∧ Below wr.heap.size wr w') := lawsSzLe _ _ _ _ wr hz (by omega) (by omega)
        clear hS q HEL HSZ hz
        generalize LeS es[k] = bk at *
        generalize es[k].1 = xa at *
        generalize es[k].2.1 = xb at *
        generalize es[k].2.2 = xc at *
        by_cases hbk : ((S + bk : Nat) : Int) ≤ left - es.length
        · have e1 : leftA bk (left - es.length - (S : Nat)) = left - es.length - ((S + bk : Nat) : Int) := by
            unfold leftA
            rw [if_pos (by omega)]
            omega
          rw [e1] at HC
          have hnn : ¬ left - (es.length : Int) - ((S + bk : Nat) : Int) < 0 := by omega
          clear e1
          generalize hq : S + bk = Q at *
          have HQ : Hid (sumA LeS (es.take (k + 1)) = Q) := HM.out.trans rfl
          clear hq HM HL
          go_wp2_with fail
          refine HC.out.mono ?_
          rintro e w2 ⟨rfl, hb2⟩
          have hbe2 : Below w.heap.size w w2 := hbe.trans (hb2.mono hbe.size)
          go_wp2_with fail
          go_roundw
          case rel => exact ⟨k + 1, by omega, by go_num, by rw [HQ.out], by rw [HQ.out]; exact hbk, hbe2⟩
          case measure => simp [intOf]; omega
        · have e1 : leftA bk (left - es.length - (S : Nat)) = -1 := if_neg (by omega)
          rw [e1] at HC
          have HR : Hid (leftA (bulkA LeS es) left = -1) := if_neg (by
            have h1 := HM.out
            have h2 := HL.out
            unfold bulkA
            omega)
          clear e1 HM HL
          go_wp2_with fail
          refine HC.out.mono ?_
          rintro e w2 ⟨rfl, hb2⟩
          have hbe2 : Below w.heap.size w w2 := hbe.trans (hb2.mono hbe.size)
          go_wp2_with fail
          go_ret
          exact ⟨by rw [HR.out]; rfl, hbe2⟩
      · have hke : k = es.length := by omega
        subst hke
        rw [List.take_of_length_le (Nat.le_refl _)] at hle ⊢
        have HR : Hid (leftA (bulkA LeS es) left = left - es.length - (sumA LeS es : Nat)) := by
          show _ = _
          unfold leftA bulkA
          rw [if_pos (by omega)]
          omega
        generalize sumA LeS es = S at *
        clear HEL HSZ
        go_wp2_with fail
        go_ret
        exact ⟨by rw [HR.out]; rfl, hbe⟩

set_option maxHeartbeats 800000 in
set_option maxRecDepth 100000 in
theorem lawsEqLe (xa : ByteArray) (xb : Int) (xc : Int) (w : World) :
    Calls Tryz.prog 50 #[.agg #[.string xa, .int .i64 xb, .int .i64 xc], .agg #[.string xa, .int .i64 xb, .int .i64 xc]] w fun e w' => e = .returned (.bool true) ∧ Below w.heap.size w w' := by
  have hB2 : Below w.heap.size w ((w.alloc (.cells #[.string xa, .int .i64 xb, .int .i64 xc] 102)).alloc (.cells #[.string xa, .int .i64 xb, .int .i64 xc] 102)) := ((Below.refl _ _).alloc (Nat.le_refl _) _).alloc (by simp) _
  go_enter Tryz.func50, Tryz.ntmps50
  go_wp2_with fail
  go_ret
  exact ⟨rfl, hB2⟩

set_option maxHeartbeats 800000 in
set_option maxRecDepth 100000 in
theorem lawsEqLes (va vb : Value) (es : List LeR) (w : World) (hA : RowA 3 LeF w va es) (hB : RowA 3 LeF w vb es) (hkl : es.length ≤ 1048577) :
    Calls Tryz.prog 27 #[va, vb] w fun e w' => e = .returned (.bool true) ∧ Below w.heap.size w w' := by
  obtain ⟨a, capa, rfl, ha⟩ := rowA_open hA
  obtain ⟨b, capb, rfl, hb⟩ := rowA_open hB
  have HEA : Hid (type_of% ha) := ha
  have HEB : Hid (type_of% hb) := hb
  clear hA hB ha hb
  go_enter Tryz.func27, Tryz.ntmps27
  go_wp2_with fail
  go_loopw [5] (fun i wr => ∃ k : Nat, k ≤ es.length ∧ i = .int .i64 k ∧ Below w.heap.size w wr) (fun i _ => es.length - (intOf i).toNat)
  case atStart => exact ⟨0, Nat.zero_le _, rfl, Below.refl _ _⟩
  case round =>
    obtain ⟨k, hk, rfl, hbe⟩ := hrel
    by_cases hlt : k < es.length
    · obtain ⟨ba, oa, rfl, hba, p⟩ := HEA.out k hlt
      obtain ⟨bb, ob, rfl, hbb, q⟩ := HEB.out k hlt
      have A0 := (hbe.cell (p := ⟨ba, oa + k * 3 + 0, none⟩) hba).trans (p 0 _ rfl)
      have A1 := (hbe.cell (p := ⟨ba, oa + k * 3 + 1, none⟩) hba).trans (p 1 _ rfl)
      have A2 := (hbe.cell (p := ⟨ba, oa + k * 3 + 2, none⟩) hba).trans (p 2 _ rfl)
      have B0 := (hbe.cell (p := ⟨bb, ob + k * 3 + 0, none⟩) hbb).trans (q 0 _ rfl)
      have B1 := (hbe.cell (p := ⟨bb, ob + k * 3 + 1, none⟩) hbb).trans (q 1 _ rfl)
      have B2 := (hbe.cell (p := ⟨bb, ob + k * 3 + 2, none⟩) hbb).trans (q 2 _ rfl)
      rw [Nat.add_zero] at A0 B0
      have HC : Hid (∀ wx : World, Calls Tryz.prog 50 #[.agg #[.string es[k].1, .int .i64 es[k].2.1, .int .i64 es[k].2.2], .agg #[.string es[k].1, .int .i64 es[k].2.1, .int .i64 es[k].2.2]] wx fun e w' => e = .returned (.bool true) ∧ Below wx.heap.size wx w') := fun wx => lawsEqLe _ _ _ wx
      clear p q HEA HEB
      generalize es[k].1 = xa at *
      generalize es[k].2.1 = xb at *
      generalize es[k].2.2 = xc at *
      have hk0 : (0 : Int) ≤ k := by omega
      have hk1 : (k : Int) < es.length := by omega
      go_wp2_with fail
      go_region_with (go_at_call 50; refine (HC.out _).mono ?_; rintro e w2 ⟨rfl, hb2⟩)
      all_goals
        go_wp2_with fail
        go_roundw
        case rel => exact ⟨k + 1, by omega, by go_num, hbe.trans ((((Below.refl _ _).drew).trans hb2).mono hbe.size)⟩
        case measure => simp [intOf]; omega
    · clear HEA HEB
      go_wp2_with fail
      go_ret
      exact ⟨rfl, hbe⟩

theorem ret_Le {R : Ending → World → Prop} {W : World} {tmps : Array Value} {b : Nat} {x0 x1 x2 : Value} (hp : tmps[2]?.getD undef = .pointer (some ⟨b, 0, none⟩))
    (h : W.cell? ⟨b, 0, none⟩ = some x0 ∧ W.cell? ⟨b, 1, none⟩ = some x1 ∧ W.cell? ⟨b, 2, none⟩ = some x2) (hR : R (.returned (.agg #[x0, x1, x2])) W) :
    bodyPost Tryz.prog Tryz.f39 R .ret { tmps := tmps, defers := [] } W := by
  obtain ⟨h0, h1, h2⟩ := h
  refine bodyPost_ret (v := .agg #[x0, x1, x2]) ?_ rfl hR
  simp [results, Tryz.results39, go_sem, hp, h0, h1, h2]

set_option maxHeartbeats 800000 in
set_option maxRecDepth 100000 in
theorem lawsToLe (xa : ByteArray) (xb : Int) (xc : Int) (w : World) :
    Calls Tryz.prog 39 #[.agg #[.string xa, .int .i64 xb, .int .i64 xc]] w fun e w' => e = .returned (.agg #[.string xa, .int .i64 xb, .int .i64 xc]) ∧ Below w.heap.size w w' := by
  go_enter Tryz.func39, Tryz.ntmps39
  go_wp2_with fail
  refine ret_Le (b := w.heap.size + 1) rfl ⟨?_, ?_, ?_⟩ ⟨rfl, ?_⟩
  · rw [oldA _ (by simp), newA _ (by simp)]; rfl
  · rw [oldA _ (by simp), newA _ (by simp)]; rfl
  · rw [oldA _ (by simp), newA _ (by simp)]; rfl
  · exact (((Below.refl _ _).alloc (Nat.le_refl _) _).alloc (by simp) _).alloc (by simp; omega) _

theorem Tryz.infoLease : (Tryz.prog.info? 102).map (fun i => (i.zero, i.size, i.bytes)) = some (some (.agg #[.string ⟨#[]⟩, .int .i64 0, .int .i64 0]), 3, 32) := by kernel_rfl

set_option maxHeartbeats 1600000 in
set_option maxRecDepth 100000 in
theorem lawsToLes (v : Value) (es : List LeR) (w : World) (hrow : RowA 3 LeF w v es) (hlen : es.length ≤ 1048576) :
    Calls Tryz.prog 19 #[v] w fun e w' => e = .returned (.slice (some ⟨w.heap.size, 0, none⟩) es.length es.length) ∧ RowA 3 LeF w' (.slice (some ⟨w.heap.size, 0, none⟩) es.length es.length) es ∧ Below w.heap.size w w' := by
  obtain ⟨i0, hi, hz0, hz1, hz2⟩ := info_parts Tryz.infoLease
  obtain ⟨a, capa, rfl, ha⟩ := rowA_open hrow
  have HEA : Hid (type_of% ha) := ha
  clear hrow ha
  go_enter Tryz.func19, Tryz.ntmps19
  go_wp2_with (at_make; refine wpList_make_full _ rfl _ _ 36 rfl w.heap.size 102 i0 (.agg #[.string ⟨#[]⟩, .int .i64 0, .int .i64 0]) 3 Tryz.underlying36 hi hz0 hz1 .i64 .i64 _ _ es.length rfl rfl rfl rfl (by rw [hz2]; omega) (by unfold maxLen; omega) (Nat.le_refl _) ?_)
  intro w1 hown hgrow
  have hB : Below w.heap.size w w1 := (Below.refl _ _).grown hgrow (Nat.le_refl _) (fun k hk => by cases hk)
  obtain ⟨X, hX⟩ : ∃ X, w1.ownsRow w.heap.size 102 3 (.slice (some ⟨w.heap.size, 0, none⟩) es.length es.length) es.length X := ⟨_, hown⟩
  have HX : Hid (type_of% hX) := hX
  clear hown hgrow hX
  go_wp2_with fail
  go_loopw [4] (fun i wr => ∃ (k : Nat) (X : List Value), k ≤ es.length ∧ i = .int .i64 k ∧ wr.ownsRow w.heap.size 102 3 (.slice (some ⟨w.heap.size, 0, none⟩) es.length es.length) es.length X ∧ FillA 3 LeF X (es.take k) ∧ Below w.heap.size w wr) (fun i _ => es.length - (intOf i).toNat)
  case atStart => exact ⟨0, X, Nat.zero_le _, rfl, HX.out, FillA.nil _ _ _, hB⟩
  case round =>
    obtain ⟨k, Y, hk, rfl, ho, hfil, hbe⟩ := hrel
    clear HX hB
    have hYl : Y.length = es.length * 3 := ho.1
    by_cases hlt : k < es.length
    · obtain ⟨ba, oa, rfl, hba, p⟩ := HEA.out k hlt
      have A0 := (hbe.cell (p := ⟨ba, oa + k * 3 + 0, none⟩) hba).trans (p 0 _ rfl)
      have A1 := (hbe.cell (p := ⟨ba, oa + k * 3 + 1, none⟩) hba).trans (p 1 _ rfl)
      have A2 := (hbe.cell (p := ⟨ba, oa + k * 3 + 2, none⟩) hba).trans (p 2 _ rfl)
      rw [Nat.add_zero] at A0
      have HC0 := lawsToLe es[k].1 es[k].2.1 es[k].2.2 wr
      have HC : Hid (type_of% HC0) := HC0
      have HR2 : Hid (FillA 3 LeF (((Y.set (k * 3) (.string es[k].1)).set (k * 3 + 1) (.int .i64 es[k].2.1)).set (k * 3 + 2) (.int .i64 es[k].2.2)) (es.take (k + 1))) := by
        rw [List.take_succ_eq_append_getElem hlt]
        have htl : (es.take k).length = k := by simp; omega
        refine FillA.more hfil (fun e _ => Nat.le_refl _) es[k] (fun i hi => ?_) (fun c u hu => ?_)
        · rw [htl] at hi
          rw [List.getElem?_set_ne (by omega), List.getElem?_set_ne (by omega), List.getElem?_set_ne (by omega)]
        · rw [htl]
          match c, hu with
          | 0, hu => rw [List.getElem?_set_ne (by omega), List.getElem?_set_ne (by omega), Nat.add_zero, List.getElem?_set_self (by omega)]; exact hu
          | 1, hu => rw [List.getElem?_set_ne (by omega), List.getElem?_set_self (by rw [List.length_set]; omega)]; exact hu
          | 2, hu => rw [List.getElem?_set_self (by rw [List.length_set, List.length_set]; omega)]; exact hu
          | c + 3, hu => simp [LeF] at hu
      clear p HEA HC0 hfil
      generalize es[k].1 = xa at *
      generalize es[k].2.1 = xb at *
      generalize es[k].2.2 = xc at *
      go_wp2_with fail
      refine HC.out.mono ?_
      rintro e w2 ⟨rfl, hb2⟩
      have o1 := rowKeptA ho hb2
      have hbe2 : Below w.heap.size w w2 := hbe.trans (hb2.mono hbe.size)
      clear ho hbe hb2 HC
      have f1 := o1.frozenAt (k * 3)
      have q1 : ∃ u, w2.cell? ⟨w.heap.size, k * 3, none⟩ = some u := by rw [o1.cellAt (k * 3) (by omega)]; exact ⟨_, List.getElem?_eq_getElem (by omega)⟩
      obtain ⟨u1, q1⟩ := q1
      obtain ⟨o2, _⟩ := o1.stored (k * 3) (.string xa)
      have f2 := o2.frozenAt (k * 3 + 1)
      have q2 : ∃ u, (w2.setCell ⟨w.heap.size, k * 3, none⟩ (.string xa)).cell? ⟨w.heap.size, k * 3 + 1, none⟩ = some u := by rw [o2.cellAt (k * 3 + 1) (by omega)]; exact ⟨_, List.getElem?_eq_getElem (by simp; omega)⟩
      obtain ⟨u2, q2⟩ := q2
      obtain ⟨o3, _⟩ := o2.stored (k * 3 + 1) (.int .i64 xb)
      have f3 := o3.frozenAt (k * 3 + 2)
      have q3 : ∃ u, ((w2.setCell ⟨w.heap.size, k * 3, none⟩ (.string xa)).setCell ⟨w.heap.size, k * 3 + 1, none⟩ (.int .i64 xb)).cell? ⟨w.heap.size, k * 3 + 2, none⟩ = some u := by rw [o3.cellAt (k * 3 + 2) (by omega)]; exact ⟨_, List.getElem?_eq_getElem (by simp; omega)⟩
      obtain ⟨u3, q3⟩ := q3
      obtain ⟨o4, _⟩ := o3.stored (k * 3 + 2) (.int .i64 xc)
      have HR1 : Hid (type_of% o4) := o4
      have HR3 : Hid (Below w.heap.size w (((w2.setCell ⟨w.heap.size, k * 3, none⟩ (.string xa)).setCell ⟨w.heap.size, k * 3 + 1, none⟩ (.int .i64 xb)).setCell ⟨w.heap.size, k * 3 + 2, none⟩ (.int .i64 xc))) := ((hbe2.setCell (Nat.le_refl _) _).setCell (Nat.le_refl _) _).setCell (Nat.le_refl _) _
      clear o1 o2 o3 o4 hbe2
      go_wp2_with fail
      go_roundw
      case rel => exact ⟨k + 1, _, by omega, by go_num, HR1.out, HR2.out, HR3.out⟩
      case measure => simp [intOf]; omega
    · have hke : k = es.length := by omega
      subst hke
      rw [List.take_of_length_le (Nat.le_refl _)] at hfil
      have HR : Hid (RowA 3 LeF wr (.slice (some ⟨w.heap.size, 0, none⟩) es.length es.length) es) := hfil.row ho
      clear hfil HEA ho hYl
      go_wp2_with fail
      go_ret
      exact ⟨rfl, HR.out, hbe⟩

/-- packets -/
abbrev PaR := Int × Int × ByteArray
def PaF (e : PaR) : List Value := [.int .i64 e.1, .int .i64 e.2.1, .string e.2.2]
def PaS (e : PaR) : Nat := e.2.2.size

set_option maxHeartbeats 800000 in
set_option maxRecDepth 100000 in
theorem lawsSzPa (xa : Int) (xb : Int) (xc : ByteArray) (left : Int) (w : World) (hs : xc.size ≤ maxLen) (h0 : 0 ≤ left) (h1 : left ≤ 1048576) :
    Calls Tryz.prog 34 #[.agg #[.int .i64 xa, .int .i64 xb, .string xc], .int .i64 left] w fun e w' => e = .returned (.int .i64 (leftA xc.size left)) ∧ Below w.heap.size w w' := by
  have hB1 : Below w.heap.size w (w.alloc (.cells #[.int .i64 xa, .int .i64 xb, .string xc] 95)) := (Below.refl _ _).alloc (Nat.le_refl _) _
  unfold maxLen at hs
  by_cases d1 : left - (xc.size : Int) < 0
  · have HR : Hid (leftA xc.size left = -1) := if_neg (by omega)
    go_enter Tryz.func34, Tryz.ntmps34
    go_wp2_with fail
    go_ret
    exact ⟨by rw [HR.out]; rfl, hB1⟩
  · have HR : Hid (leftA xc.size left = left - xc.size) := if_pos (by omega)
    go_enter Tryz.func34, Tryz.ntmps34
    go_wp2_with fail
    go_ret
    exact ⟨by rw [HR.out]; rfl, hB1⟩

set_option maxHeartbeats 800000 in
set_option maxRecDepth 100000 in
theorem lawsSzPas (v : Value) (es : List PaR) (left : Int) (w : World) (hrow : RowA 3 PaF w v es) (hkl : es.length ≤ maxLen) (hsz : ∀ e ∈ es, PaS e ≤ maxLen) (h0 : 0 ≤ left) (h1 : left ≤ 1048576) :
    Calls Tryz.prog 13 #[v, .int .i64 left] w fun e w' => e = .returned (.int .i64 (leftA (bulkA PaS es) left)) ∧ Below w.heap.size w w' := by
  unfold maxLen at hkl
  obtain ⟨av, capv, rfl, hel⟩ := rowA_open hrow
  have HEL : Hid (type_of% hel) := hel
  have HSZ : Hid (type_of% hsz) := hsz
  clear hrow hel hsz
  by_cases hneg : left - (es.length : Int) < 0
  · have HR : Hid (leftA (bulkA PaS es) left = -1) := if_neg (by unfold bulkA; omega)
    clear HEL HSZ
    go_enter Tryz.func13, Tryz.ntmps13
    go_wp2_with fail
    go_ret
    exact ⟨by rw [HR.out]; rfl, Below.refl _ _⟩
  · go_enter Tryz.func13, Tryz.ntmps13
    go_wp2_with fail
    go_loopw [1, 5] (fun l i wr => ∃ k : Nat, k ≤ es.length ∧ i = .int .i64 k ∧ l = .int .i64 (left - es.length - (sumA PaS (es.take k) : Nat)) ∧ ((sumA PaS (es.take k) : Nat) : Int) ≤ left - es.length ∧ Below w.heap.size w wr) (fun _ i _ => es.length - (intOf i).toNat)
    case atStart => exact ⟨0, Nat.zero_le _, rfl, by simp [sumA], by simp [sumA]; omega, Below.refl _ _⟩
    case round =>
      obtain ⟨k, hk, rfl, rfl, hle, hbe⟩ := hrel
      by_cases hlt : k < es.length
      · obtain ⟨b, off, rfl, hbl, q⟩ := HEL.out k hlt
        have HM : Hid (sumA PaS (es.take (k + 1)) = sumA PaS (es.take k) + PaS es[k]) := sumA_more _ es k hlt
        have HL : Hid (sumA PaS (es.take (k + 1)) ≤ sumA PaS es) := sumA_le _ es (k + 1)
        have c0 := (hbe.cell (p := ⟨b, off + k * 3 + 0, none⟩) hbl).trans (q 0 _ rfl)
        have c1 := (hbe.cell (p := ⟨b, off + k * 3 + 1, none⟩) hbl).trans (q 1 _ rfl)
        have c2 := (hbe.cell (p := ⟨b, off + k * 3 + 2, none⟩) hbl).trans (q 2 _ rfl)
        rw [Nat.add_zero] at c0
        generalize hS : sumA PaS (es.take k) = S at *
        have hz := HSZ.out es[k] (List.getElem_mem hlt)
        have HC : Hid (Calls Tryz.prog 34 #[.agg #[.int .i64 es[k].1, .int .i64 es[k].2.1, .string es[k].2.2], .int .i64 (left - es.length - (S : Nat))] wr fun e w' => e = .returned (.int .i64 (leftA (PaS es[k]) (left - es.length - (S : Nat)))) ∧ Below wr.heap.size wr w') := lawsSzPa _ _ _ _ wr hz (by omega) (by omega)
        clear hS q HEL HSZ hz
        generalize PaS es[k] = bk at *
        generalize es[k].1 = xa at *
        generalize es[k].2.1 = xb at *
        generalize es[k].2.2 = xc at *
        by_cases hbk : ((S + bk : Nat) : Int) ≤ left - es.length
        · have e1 : leftA bk (left - es.length - (S : Nat)) = left - es.length - ((S + bk : Nat) : Int) := by
            unfold leftA
            rw [if_pos (by omega)]
            omega
          rw [e1] at HC
          have hnn : ¬ left - (es.length : Int) - ((S + bk : Nat) : Int) < 0 := by omega
          clear e1
          generalize hq : S + bk = Q at *
          have HQ : Hid (sumA PaS (es.take (k + 1)) = Q) := HM.out.trans rfl
          clear hq HM HL
          go_wp2_with fail
          refine HC.out.mono ?_
          rintro e w2 ⟨rfl, hb2⟩
          have hbe2 : Below w.heap.size w w2 := hbe.trans (hb2.mono hbe.size)
          go_wp2_with fail
          go_roundw
          case rel => exact ⟨k + 1, by omega, by go_num, by rw [HQ.out], by rw [HQ.out]; exact hbk, hbe2⟩
          case measure => simp [intOf]; omega
        · have e1 : leftA bk (left - es.length - (S : Nat)) = -1 := if_neg (by omega)
          rw [e1] at HC
          have HR : Hid (leftA (bulkA PaS es) left = -1) := if_neg (by
            have h1 := HM.out
            have h2 := HL.out
            unfold bulkA
            omega)
          clear e1 HM HL
          go_wp2_with fail
          refine HC.out.mono ?_
          rintro e w2 ⟨rfl, hb2⟩
          have hbe2 : Below w.heap.size w w2 := hbe.trans (hb2.mono hbe.size)
          go_wp2_with fail
          go_ret
          exact ⟨by rw [HR.out]; rfl, hbe2⟩
      · have hke : k = es.length := by omega
        subst hke
        rw [List.take_of_length_le (Nat.le_refl _)] at hle ⊢
        have HR : Hid (leftA (bulkA PaS es) left = left - es.length - (sumA PaS es : Nat)) := by
          show _ = _
          unfold leftA bulkA
          rw [if_pos (by omega)]
          omega
        generalize sumA PaS es = S at *
        clear HEL HSZ
        go_wp2_with fail
        go_ret
        exact ⟨by rw [HR.out]; rfl, hbe⟩

set_option maxHeartbeats 800000 in
set_option maxRecDepth 100000 in
theorem lawsEqPa (xa : Int) (xb : Int) (xc : ByteArray) (w : World) :
    Calls Tryz.prog 52 #[.agg #[.int .i64 xa, .int .i64 xb, .string xc], .agg #[.int .i64 xa, .int .i64 xb, .string xc]] w fun e w' => e = .returned (.bool true) ∧ Below w.heap.size w w' := by
  have hB2 : Below w.heap.size w ((w.alloc (.cells #[.int .i64 xa, .int .i64 xb, .string xc] 105)).alloc (.cells #[.int .i64 xa, .int .i64 xb, .string xc] 105)) := ((Below.refl _ _).alloc (Nat.le_refl _) _).alloc (by simp) _
  go_enter Tryz.func52, Tryz.ntmps52
  go_wp2_with fail
  go_ret
  exact ⟨rfl, hB2⟩

set_option maxHeartbeats 800000 in
set_option maxRecDepth 100000 in
theorem lawsEqPas (va vb : Value) (es : List PaR) (w : World) (hA : RowA 3 PaF w va es) (hB : RowA 3 PaF w vb es) (hkl : es.length ≤ 1048577) :
    Calls Tryz.prog 29 #[va, vb] w fun e w' => e = .returned (.bool true) ∧ Below w.heap.size w w' := by
  obtain ⟨a, capa, rfl, ha⟩ := rowA_open hA
  obtain ⟨b, capb, rfl, hb⟩ := rowA_open hB
  have HEA : Hid (type_of% ha) := ha
  have HEB : Hid (type_of% hb) := hb
  clear hA hB ha hb
  go_enter Tryz.func29, Tryz.ntmps29
  go_wp2_with fail
  go_loopw [5] (fun i wr => ∃ k : Nat, k ≤ es.length ∧ i = .int .i64 k ∧ Below w.heap.size w wr) (fun i _ => es.length - (intOf i).toNat)
  case atStart => exact ⟨0, Nat.zero_le _, rfl, Below.refl _ _⟩
  case round =>
    obtain ⟨k, hk, rfl, hbe⟩ := hrel
    by_cases hlt : k < es.length
    · obtain ⟨ba, oa, rfl, hba, p⟩ := HEA.out k hlt
      obtain ⟨bb, ob, rfl, hbb, q⟩ := HEB.out k hlt
      have A0 := (hbe.cell (p := ⟨ba, oa + k * 3 + 0, none⟩) hba).trans (p 0 _ rfl)
      have A1 := (hbe.cell (p := ⟨ba, oa + k * 3 + 1, none⟩) hba).trans (p 1 _ rfl)
      have A2 := (hbe.cell (p := ⟨ba, oa + k * 3 + 2, none⟩) hba).trans (p 2 _ rfl)
      have B0 := (hbe.cell (p := ⟨bb, ob + k * 3 + 0, none⟩) hbb).trans (q 0 _ rfl)
      have B1 := (hbe.cell (p := ⟨bb, ob + k * 3 + 1, none⟩) hbb).trans (q 1 _ rfl)
      have B2 := (hbe.cell (p := ⟨bb, ob + k * 3 + 2, none⟩) hbb).trans (q 2 _ rfl)
      rw [Nat.add_zero] at A0 B0
      have HC : Hid (∀ wx : World, Calls Tryz.prog 52 #[.agg #[.int .i64 es[k].1, .int .i64 es[k].2.1, .string es[k].2.2], .agg #[.int .i64 es[k].1, .int .i64 es[k].2.1, .string es[k].2.2]] wx fun e w' => e = .returned (.bool true) ∧ Below wx.heap.size wx w') := fun wx => lawsEqPa _ _ _ wx
      clear p q HEA HEB
      generalize es[k].1 = xa at *
      generalize es[k].2.1 = xb at *
      generalize es[k].2.2 = xc at *
      have hk0 : (0 : Int) ≤ k := by omega
      have hk1 : (k : Int) < es.length := by omega
      go_wp2_with fail
      go_region_with (go_at_call 52; refine (HC.out _).mono ?_; rintro e w2 ⟨rfl, hb2⟩)
      all_goals
        go_wp2_with fail
        go_roundw
        case rel => exact ⟨k + 1, by omega, by go_num, hbe.trans ((((Below.refl _ _).drew).trans hb2).mono hbe.size)⟩
        case measure => simp [intOf]; omega
    · clear HEA HEB
      go_wp2_with fail
      go_ret
      exact ⟨rfl, hbe⟩

theorem ret_Pa {R : Ending → World → Prop} {W : World} {tmps : Array Value} {b : Nat} {x0 x1 x2 : Value} (hp : tmps[2]?.getD undef = .pointer (some ⟨b, 0, none⟩))
    (h : W.cell? ⟨b, 0, none⟩ = some x0 ∧ W.cell? ⟨b, 1, none⟩ = some x1 ∧ W.cell? ⟨b, 2, none⟩ = some x2) (hR : R (.returned (.agg #[x0, x1, x2])) W) :
    bodyPost Tryz.prog Tryz.f41 R .ret { tmps := tmps, defers := [] } W := by
  obtain ⟨h0, h1, h2⟩ := h
  refine bodyPost_ret (v := .agg #[x0, x1, x2]) ?_ rfl hR
  simp [results, Tryz.results41, go_sem, hp, h0, h1, h2]

set_option maxHeartbeats 800000 in
set_option maxRecDepth 100000 in
theorem lawsToPa (xa : Int) (xb : Int) (xc : ByteArray) (w : World) :
    Calls Tryz.prog 41 #[.agg #[.int .i64 xa, .int .i64 xb, .string xc]] w fun e w' => e = .returned (.agg #[.int .i64 xa, .int .i64 xb, .string xc]) ∧ Below w.heap.size w w' := by
  go_enter Tryz.func41, Tryz.ntmps41
  go_wp2_with fail
  refine ret_Pa (b := w.heap.size + 1) rfl ⟨?_, ?_, ?_⟩ ⟨rfl, ?_⟩
  · rw [oldA _ (by simp), newA _ (by simp)]; rfl
  · rw [oldA _ (by simp), newA _ (by simp)]; rfl
  · rw [oldA _ (by simp), newA _ (by simp)]; rfl
  · exact (((Below.refl _ _).alloc (Nat.le_refl _) _).alloc (by simp) _).alloc (by simp; omega) _

theorem Tryz.infoPacket : (Tryz.prog.info? 105).map (fun i => (i.zero, i.size, i.bytes)) = some (some (.agg #[.int .i64 0, .int .i64 0, .string ⟨#[]⟩]), 3, 32) := by kernel_rfl

set_option maxHeartbeats 1600000 in
set_option maxRecDepth 100000 in
theorem lawsToPas (v : Value) (es : List PaR) (w : World) (hrow : RowA 3 PaF w v es) (hlen : es.length ≤ 1048576) :
    Calls Tryz.prog 21 #[v] w fun e w' => e = .returned (.slice (some ⟨w.heap.size, 0, none⟩) es.length es.length) ∧ RowA 3 PaF w' (.slice (some ⟨w.heap.size, 0, none⟩) es.length es.length) es ∧ Below w.heap.size w w' := by
  obtain ⟨i0, hi, hz0, hz1, hz2⟩ := info_parts Tryz.infoPacket
  obtain ⟨a, capa, rfl, ha⟩ := rowA_open hrow
  have HEA : Hid (type_of% ha) := ha
  clear hrow ha
  go_enter Tryz.func21, Tryz.ntmps21
  go_wp2_with (at_make; refine wpList_make_full _ rfl _ _ 38 rfl w.heap.size 105 i0 (.agg #[.int .i64 0, .int .i64 0, .string ⟨#[]⟩]) 3 Tryz.underlying38 hi hz0 hz1 .i64 .i64 _ _ es.length rfl rfl rfl rfl (by rw [hz2]; omega) (by unfold maxLen; omega) (Nat.le_refl _) ?_)
  intro w1 hown hgrow
  have hB : Below w.heap.size w w1 := (Below.refl _ _).grown hgrow (Nat.le_refl _) (fun k hk => by cases hk)
  obtain ⟨X, hX⟩ : ∃ X, w1.ownsRow w.heap.size 105 3 (.slice (some ⟨w.heap.size, 0, none⟩) es.length es.length) es.length X := ⟨_, hown⟩
  have HX : Hid (type_of% hX) := hX
  clear hown hgrow hX
  go_wp2_with fail
  go_loopw [4] (fun i wr => ∃ (k : Nat) (X : List Value), k ≤ es.length ∧ i = .int .i64 k ∧ wr.ownsRow w.heap.size 105 3 (.slice (some ⟨w.heap.size, 0, none⟩) es.length es.length) es.length X ∧ FillA 3 PaF X (es.take k) ∧ Below w.heap.size w wr) (fun i _ => es.length - (intOf i).toNat)
  case atStart => exact ⟨0, X, Nat.zero_le _, rfl, HX.out, FillA.nil _ _ _, hB⟩
  case round =>
    obtain ⟨k, Y, hk, rfl, ho, hfil, hbe⟩ := hrel
    clear HX hB
    have hYl : Y.length = es.length * 3 := ho.1
    by_cases hlt : k < es.length
    · obtain ⟨ba, oa, rfl, hba, p⟩ := HEA.out k hlt
      have A0 := (hbe.cell (p := ⟨ba, oa + k * 3 + 0, none⟩) hba).trans (p 0 _ rfl)
      have A1 := (hbe.cell (p := ⟨ba, oa + k * 3 + 1, none⟩) hba).trans (p 1 _ rfl)
      have A2 := (hbe.cell (p := ⟨ba, oa + k * 3 + 2, none⟩) hba).trans (p 2 _ rfl)
      rw [Nat.add_zero] at A0
      have HC0 := lawsToPa es[k].1 es[k].2.1 es[k].2.2 wr
      have HC : Hid (type_of% HC0) := HC0
      have HR2 : Hid (FillA 3 PaF (((Y.set (k * 3) (.int .i64 es[k].1)).set (k * 3 + 1) (.int .i64 es[k].2.1)).set (k * 3 + 2) (.string es[k].2.2)) (es.take (k + 1))) := by
        rw [List.take_succ_eq_append_getElem hlt]
        have htl : (es.take k).length = k := by simp; omega
        refine FillA.more hfil (fun e _ => Nat.le_refl _) es[k] (fun i hi => ?_) (fun c u hu => ?_)
        · rw [htl] at hi
          rw [List.getElem?_set_ne (by omega), List.getElem?_set_ne (by omega), List.getElem?_set_ne (by omega)]
        · rw [htl]
          match c, hu with
          | 0, hu => rw [List.getElem?_set_ne (by omega), List.getElem?_set_ne (by omega), Nat.add_zero, List.getElem?_set_self (by omega)]; exact hu
          | 1, hu => rw [List.getElem?_set_ne (by omega), List.getElem?_set_self (by rw [List.length_set]; omega)]; exact hu
          | 2, hu => rw [List.getElem?_set_self (by rw [List.length_set, List.length_set]; omega)]; exact hu
          | c + 3, hu => simp [PaF] at hu
      clear p HEA HC0 hfil
      generalize es[k].1 = xa at *
      generalize es[k].2.1 = xb at *
      generalize es[k].2.2 = xc at *
      go_wp2_with fail
      refine HC.out.mono ?_
      rintro e w2 ⟨rfl, hb2⟩
      have o1 := rowKeptA ho hb2
      have hbe2 : Below w.heap.size w w2 := hbe.trans (hb2.mono hbe.size)
      clear ho hbe hb2 HC
      have f1 := o1.frozenAt (k * 3)
      have q1 : ∃ u, w2.cell? ⟨w.heap.size, k * 3, none⟩ = some u := by rw [o1.cellAt (k * 3) (by omega)]; exact ⟨_, List.getElem?_eq_getElem (by omega)⟩
      obtain ⟨u1, q1⟩ := q1
      obtain ⟨o2, _⟩ := o1.stored (k * 3) (.int .i64 xa)
      have f2 := o2.frozenAt (k * 3 + 1)
      have q2 : ∃ u, (w2.setCell ⟨w.heap.size, k * 3, none⟩ (.int .i64 xa)).cell? ⟨w.heap.size, k * 3 + 1, none⟩ = some u := by rw [o2.cellAt (k * 3 + 1) (by omega)]; exact ⟨_, List.getElem?_eq_getElem (by simp; omega)⟩
      obtain ⟨u2, q2⟩ := q2
      obtain ⟨o3, _⟩ := o2.stored (k * 3 + 1) (.int .i64 xb)
      have f3 := o3.frozenAt (k * 3 + 2)
      have q3 : ∃ u, ((w2.setCell ⟨w.heap.size, k * 3, none⟩ (.int .i64 xa)).setCell ⟨w.heap.size, k * 3 + 1, none⟩ (.int .i64 xb)).cell? ⟨w.heap.size, k * 3 + 2, none⟩ = some u := by rw [o3.cellAt (k * 3 + 2) (by omega)]; exact ⟨_, List.getElem?_eq_getElem (by simp; omega)⟩
      obtain ⟨u3, q3⟩ := q3
      obtain ⟨o4, _⟩ := o3.stored (k * 3 + 2) (.string xc)
      have HR1 : Hid (type_of% o4) := o4
      have HR3 : Hid (Below w.heap.size w (((w2.setCell ⟨w.heap.size, k * 3, none⟩ (.int .i64 xa)).setCell ⟨w.heap.size, k * 3 + 1, none⟩ (.int .i64 xb)).setCell ⟨w.heap.size, k * 3 + 2, none⟩ (.string xc))) := ((hbe2.setCell (Nat.le_refl _) _).setCell (Nat.le_refl _) _).setCell (Nat.le_refl _) _
      clear o1 o2 o3 o4 hbe2
      go_wp2_with fail
      go_roundw
      case rel => exact ⟨k + 1, _, by omega, by go_num, HR1.out, HR2.out, HR3.out⟩
      case measure => simp [intOf]; omega
    · have hke : k = es.length := by omega
      subst hke
      rw [List.take_of_length_le (Nat.le_refl _)] at hfil
      have HR : Hid (RowA 3 PaF wr (.slice (some ⟨w.heap.size, 0, none⟩) es.length es.length) es) := hfil.row ho
      clear hfil HEA ho hYl
      go_wp2_with fail
      go_ret
      exact ⟨rfl, HR.out, hbe⟩

/-- bools -/
def BoF (e : Bool) : List Value := [.bool e]

set_option maxHeartbeats 800000 in
set_option maxRecDepth 100000 in
theorem lawsSzBos (v : Value) (es : List Bool) (left : Int) (w : World) (hrow : RowA 1 BoF w v es) (hkl : es.length ≤ maxLen) (h0 : 0 ≤ left) (h1 : left ≤ 1048576) :
    Calls Tryz.prog 10 #[v, .int .i64 left] w fun e w' => e = .returned (.int .i64 (leftA es.length left)) ∧ Below w.heap.size w w' := by
  unfold maxLen at hkl
  obtain ⟨av, capv, rfl, _⟩ := rowA_open hrow
  clear hrow
  by_cases hneg : left - (es.length : Int) < 0
  · have HR : Hid (leftA es.length left = -1) := if_neg (by omega)
    go_enter Tryz.func10, Tryz.ntmps10
    go_wp2_with fail
    go_ret
    exact ⟨by rw [HR.out]; rfl, Below.refl _ _⟩
  · have HR : Hid (leftA es.length left = left - es.length) := if_pos (by omega)
    go_enter Tryz.func10, Tryz.ntmps10
    go_wp2_with fail
    go_ret
    exact ⟨by rw [HR.out]; rfl, Below.refl _ _⟩

set_option maxHeartbeats 800000 in
set_option maxRecDepth 100000 in
theorem lawsEqBos (va vb : Value) (es : List Bool) (w : World) (hA : RowA 1 BoF w va es) (hB : RowA 1 BoF w vb es) (hkl : es.length ≤ 1048577) :
    Calls Tryz.prog 26 #[va, vb] w fun e w' => e = .returned (.bool true) ∧ Below w.heap.size w w' := by
  obtain ⟨a, capa, rfl, ha⟩ := rowA_open hA
  obtain ⟨b, capb, rfl, hb⟩ := rowA_open hB
  have HEA : Hid (type_of% ha) := ha
  have HEB : Hid (type_of% hb) := hb
  clear hA hB ha hb
  go_enter Tryz.func26, Tryz.ntmps26
  go_wp2_with fail
  go_loopw [5] (fun i wr => ∃ k : Nat, k ≤ es.length ∧ i = .int .i64 k ∧ Below w.heap.size w wr) (fun i _ => es.length - (intOf i).toNat)
  case atStart => exact ⟨0, Nat.zero_le _, rfl, Below.refl _ _⟩
  case round =>
    obtain ⟨k, hk, rfl, hbe⟩ := hrel
    by_cases hlt : k < es.length
    · obtain ⟨ba, oa, rfl, hba, p⟩ := HEA.out k hlt
      obtain ⟨bb, ob, rfl, hbb, q⟩ := HEB.out k hlt
      have A0 := (hbe.cell (p := ⟨ba, oa + k * 1 + 0, none⟩) hba).trans (p 0 _ rfl)
      have B0 := (hbe.cell (p := ⟨bb, ob + k * 1 + 0, none⟩) hbb).trans (q 0 _ rfl)
      rw [Nat.add_zero, Nat.mul_one] at A0 B0
      have hx : (es[k] != es[k]) = false := by cases es[k] <;> rfl
      clear p q HEA HEB
      generalize es[k] = xa at *
      have hk0 : (0 : Int) ≤ k := by omega
      have hk1 : (k : Int) < es.length := by omega
      go_wp2_with fail
      go_quiet (fail)
      go_wp2_with fail
      go_roundw
      case rel => exact ⟨k + 1, by omega, by go_num, below_drewN hbe _⟩
      case measure => simp [intOf]; omega
    · clear HEA HEB
      go_wp2_with fail
      go_ret
      exact ⟨rfl, hbe⟩

theorem Tryz.infoBool : (Tryz.prog.info? 4).map (fun i => (i.zero, i.size, i.bytes)) = some (some (.bool false), 1, 1) := by kernel_rfl

set_option maxHeartbeats 1600000 in
set_option maxRecDepth 100000 in
theorem lawsToBos (v : Value) (es : List Bool) (w : World) (hrow : RowA 1 BoF w v es) (hlen : es.length ≤ 1048576) :
    Calls Tryz.prog 18 #[v] w fun e w' => e = .returned (.slice (some ⟨w.heap.size, 0, none⟩) es.length es.length) ∧ RowA 1 BoF w' (.slice (some ⟨w.heap.size, 0, none⟩) es.length es.length) es ∧ Below w.heap.size w w' := by
  obtain ⟨i0, hi, hz0, hz1, hz2⟩ := info_parts Tryz.infoBool
  obtain ⟨a, capa, rfl, ha⟩ := rowA_open hrow
  have HEA : Hid (type_of% ha) := ha
  clear hrow ha
  go_enter Tryz.func18, Tryz.ntmps18
  go_wp2_with (at_make; refine wpList_make_full _ rfl _ _ 23 rfl w.heap.size 4 i0 (.bool false) 1 Tryz.underlying23 hi hz0 hz1 .i64 .i64 _ _ es.length rfl rfl rfl rfl (by rw [hz2]; omega) (by unfold maxLen; omega) (Nat.le_refl _) ?_)
  intro w1 hown hgrow
  have hB : Below w.heap.size w w1 := (Below.refl _ _).grown hgrow (Nat.le_refl _) (fun k hk => by cases hk)
  obtain ⟨X, hX⟩ : ∃ X, w1.ownsRow w.heap.size 4 1 (.slice (some ⟨w.heap.size, 0, none⟩) es.length es.length) es.length X := ⟨_, hown⟩
  have HX : Hid (type_of% hX) := hX
  clear hown hgrow hX
  go_wp2_with fail
  go_loopw [4] (fun i wr => ∃ (k : Nat) (X : List Value), k ≤ es.length ∧ i = .int .i64 k ∧ wr.ownsRow w.heap.size 4 1 (.slice (some ⟨w.heap.size, 0, none⟩) es.length es.length) es.length X ∧ FillA 1 BoF X (es.take k) ∧ Below w.heap.size w wr) (fun i _ => es.length - (intOf i).toNat)
  case atStart => exact ⟨0, X, Nat.zero_le _, rfl, HX.out, FillA.nil _ _ _, hB⟩
  case round =>
    obtain ⟨k, Y, hk, rfl, ho, hfil, hbe⟩ := hrel
    clear HX hB
    have hYl : Y.length = es.length * 1 := ho.1
    by_cases hlt : k < es.length
    · obtain ⟨ba, oa, rfl, hba, p⟩ := HEA.out k hlt
      have A0 := (hbe.cell (p := ⟨ba, oa + k * 1 + 0, none⟩) hba).trans (p 0 _ rfl)
      rw [Nat.add_zero, Nat.mul_one] at A0
      have HR2 : Hid (FillA 1 BoF (Y.set k (.bool es[k])) (es.take (k + 1))) := by
        rw [List.take_succ_eq_append_getElem hlt]
        have htl : (es.take k).length = k := by simp; omega
        refine FillA.more hfil (fun e _ => Nat.le_refl _) es[k] (fun i hi => ?_) (fun c u hu => ?_)
        · rw [htl] at hi
          rw [List.getElem?_set_ne (by omega)]
        · rw [htl]
          match c, hu with
          | 0, hu => rw [Nat.add_zero, Nat.mul_one, List.getElem?_set_self (by omega)]; exact hu
          | c + 1, hu => simp [BoF] at hu
      clear p HEA hfil
      generalize es[k] = xa at *
      have f1 := ho.frozenAt k
      have q1 : ∃ u, wr.cell? ⟨w.heap.size, k, none⟩ = some u := by rw [ho.cellAt k (by omega)]; exact ⟨_, List.getElem?_eq_getElem (by omega)⟩
      obtain ⟨u1, q1⟩ := q1
      obtain ⟨o2, _⟩ := ho.stored k (.bool xa)
      have HR1 : Hid (type_of% o2) := o2
      have HR3 : Hid (Below w.heap.size w (wr.setCell ⟨w.heap.size, k, none⟩ (.bool xa))) := hbe.setCell (Nat.le_refl _) _
      have hk0 : (0 : Int) ≤ k := by omega
      have hk1 : (k : Int) < es.length := by omega
      clear o2 ho hbe
      go_wp2_with fail
      go_roundw
      case rel => exact ⟨k + 1, _, by omega, by go_num, HR1.out, HR2.out, HR3.out⟩
      case measure => simp [intOf]; omega
    · have hke : k = es.length := by omega
      subst hke
      rw [List.take_of_length_le (Nat.le_refl _)] at hfil
      have HR : Hid (RowA 1 BoF wr (.slice (some ⟨w.heap.size, 0, none⟩) es.length es.length) es) := hfil.row ho
      clear hfil HEA ho hYl
      go_wp2_with fail
      go_ret
      exact ⟨rfl, HR.out, hbe⟩

end Go.Proofs.YtikoacgfnojoeaaGreatDoor
