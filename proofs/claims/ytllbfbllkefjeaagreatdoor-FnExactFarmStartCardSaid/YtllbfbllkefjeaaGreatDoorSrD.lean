/-
  What a slice of sources (a name and a text each) is; the walks of the laws' own helpers szSource, szSourceS, eqSource, eqSourceS.
  The walks of the laws' own helpers toSource and toSourceS: a copy in new memory; a list of sources that is handed in, opened.
-/
import Derived.Test.YtllbfbllkefjeaaGreatDoorTextsD
import Derived.Lib.QuietBelow
import Derived.BigQuiet
import Derived.Deep.RegionWith
import Derived.Deep.Slices
import Derived.Lib.SmallJoins
import Derived.Sort.Walk0
import Derived.ChangeArms
namespace Go.Proofs.YtllbfbllkefjeaaGreatDoor
open Go.RowKit

abbrev Src := ByteArray × ByteArray

/-- the value is a slice of sources -/
def SrcAt (w : World) (v : Value) (es : List Src) : Prop :=
  (es = [] ∧ ∃ a cap, v = .slice a 0 cap) ∨ ∃ b off cap, v = .slice (some ⟨b, off, none⟩) es.length cap ∧ ∀ j (h : j < es.length), w.cell? ⟨b, off + j * 2, none⟩ = some (.string es[j].1) ∧ w.cell? ⟨b, off + j * 2 + 1, none⟩ = some (.string es[j].2)

theorem SrcAt.below {w w' : World} {v : Value} {es : List Src} (h : SrcAt w v es) (hb : Below w.heap.size w w') : SrcAt w' v es := by
  rcases h with h | ⟨b, off, cap, rfl, hc⟩
  · exact .inl h
  · refine .inr ⟨b, off, cap, rfl, fun j hj => ?_⟩
    obtain ⟨h1, h2⟩ := hc j hj
    exact ⟨(hb.cell (p := ⟨b, off + j * 2, none⟩) (World.block_lt_of_cell? w ⟨b, off + j * 2, none⟩ h1)).trans h1, (hb.cell (p := ⟨b, off + j * 2 + 1, none⟩) (World.block_lt_of_cell? w ⟨b, off + j * 2 + 1, none⟩ h2)).trans h2⟩

theorem srcOpen {w : World} {v : Value} {es : List Src} (h : SrcAt w v es) : ∃ av capv, v = .slice av es.length capv ∧ ∀ j (h : j < es.length), ∃ b off, av = some ⟨b, off, none⟩ ∧ b < w.heap.size ∧ w.cell? ⟨b, off + j * 2, none⟩ = some (.string es[j].1) ∧ w.cell? ⟨b, off + j * 2 + 1, none⟩ = some (.string es[j].2) := by
  rcases h with ⟨h, a, cap, e⟩ | ⟨b, off, cap, e, hc⟩
  · exact ⟨a, cap, by rw [h]; exact e, fun j hj => by rw [h] at hj; simp at hj⟩
  · refine ⟨_, cap, e, fun j hj => ?_⟩
    obtain ⟨h1, h2⟩ := hc j hj
    exact ⟨b, off, rfl, World.block_lt_of_cell? w ⟨b, off + j * 2, none⟩ h1, h1, h2⟩

/-- how much is left -/
def leftS (b : Nat) (left : Int) : Int := if (b : Int) ≤ left then left - b else -1
/-- how much sources hold -/
def srBulk (e : Src) : Nat := e.1.size + e.2.size
def srsBulk (es : List Src) : Nat := es.length + (es.map srBulk).sum
theorem srSum_more (es : List Src) (k : Nat) (h : k < es.length) : ((es.take (k + 1)).map srBulk).sum = ((es.take k).map srBulk).sum + srBulk es[k] := by
  rw [List.take_succ_eq_append_getElem h, List.map_append, List.sum_append]
  simp
theorem srSum_le (es : List Src) (k : Nat) : ((es.take k).map srBulk).sum ≤ (es.map srBulk).sum := by
  have : es.map srBulk = (es.take k).map srBulk ++ (es.drop k).map srBulk := by rw [← List.map_append, List.take_append_drop]
  rw [this, List.sum_append]
  omega
theorem sr_bulk (es : List Src) (k : Nat) (h : k < es.length) : es[k].1.size + es[k].2.size ≤ srsBulk es := by
  have h1 := srSum_more es k h
  have h2 := srSum_le es (k + 1)
  unfold srBulk at h1
  unfold srsBulk srBulk
  unfold srBulk at h2
  omega

set_option maxHeartbeats 800000 in
set_option maxRecDepth 100000 in
theorem lawsSzSr (nm tx : ByteArray) (left : Int) (w : World) (hs : nm.size ≤ maxLen) (ht : tx.size ≤ maxLen) (h0 : 0 ≤ left) (h1 : left ≤ 1048576) :
    Calls Tryz.prog 17 #[.agg #[.string nm, .string tx], .int .i64 left] w fun e w' => e = .returned (.int .i64 (leftS (nm.size + tx.size) left)) ∧ Below w.heap.size w w' := by
  have hB1 : Below w.heap.size w (w.alloc (.cells #[.string nm, .string tx] 51)) := (Below.refl _ _).alloc (Nat.le_refl _) _
  unfold maxLen at hs ht
  by_cases d1 : left - (nm.size : Int) < 0
  · have HR : Hid (leftS (nm.size + tx.size) left = -1) := if_neg (by omega)
    go_enter Tryz.func17, Tryz.ntmps17
    go_wp2_with fail
    go_ret
    exact ⟨by rw [HR.out]; rfl, hB1⟩
  · by_cases d2 : left - (nm.size : Int) - (tx.size : Int) < 0
    · have HR : Hid (leftS (nm.size + tx.size) left = -1) := if_neg (by omega)
      go_enter Tryz.func17, Tryz.ntmps17
      go_wp2_with fail
      go_ret
      exact ⟨by rw [HR.out]; rfl, hB1⟩
    · have HR : Hid (leftS (nm.size + tx.size) left = left - nm.size - tx.size) := by
        show _ = _
        unfold leftS
        rw [if_pos (by omega)]
        omega
      go_enter Tryz.func17, Tryz.ntmps17
      go_wp2_with fail
      go_ret
      exact ⟨by rw [HR.out]; rfl, hB1⟩

set_option maxHeartbeats 800000 in
set_option maxRecDepth 100000 in
theorem lawsSzSrs (v : Value) (es : List Src) (left : Int) (w : World) (hrow : SrcAt w v es) (hkl : es.length ≤ maxLen) (hsz : ∀ e ∈ es, e.1.size ≤ maxLen ∧ e.2.size ≤ maxLen) (h0 : 0 ≤ left) (h1 : left ≤ 1048576) :
    Calls Tryz.prog 4 #[v, .int .i64 left] w fun e w' => e = .returned (.int .i64 (leftS (srsBulk es) left)) ∧ Below w.heap.size w w' := by
  unfold maxLen at hkl
  obtain ⟨av, capv, rfl, hel⟩ := srcOpen hrow
  have HEL : Hid (type_of% hel) := hel
  have HSZ : Hid (type_of% hsz) := hsz
  clear hrow hel hsz
  by_cases hneg : left - (es.length : Int) < 0
  · have HR : Hid (leftS (srsBulk es) left = -1) := if_neg (by unfold srsBulk; omega)
    clear HEL HSZ
    go_enter Tryz.func4, Tryz.ntmps4
    go_wp2_with fail
    go_ret
    exact ⟨by rw [HR.out]; rfl, Below.refl _ _⟩
  · go_enter Tryz.func4, Tryz.ntmps4
    go_wp2_with fail
    go_loopw [1, 5] (fun l i wr => ∃ k : Nat, k ≤ es.length ∧ i = .int .i64 k ∧ l = .int .i64 (left - es.length - (((es.take k).map srBulk).sum : Nat)) ∧ ((((es.take k).map srBulk).sum : Nat) : Int) ≤ left - es.length ∧ Below w.heap.size w wr) (fun _ i _ => es.length - (intOf i).toNat)
    case atStart => exact ⟨0, Nat.zero_le _, rfl, by simp, by simp; omega, Below.refl _ _⟩
    case round =>
      obtain ⟨k, hk, rfl, rfl, hle, hbe⟩ := hrel
      by_cases hlt : k < es.length
      · obtain ⟨b, off, rfl, hbl, q0, q1⟩ := HEL.out k hlt
        have HM : Hid (((es.take (k + 1)).map srBulk).sum = ((es.take k).map srBulk).sum + srBulk es[k]) := srSum_more es k hlt
        have HL : Hid (((es.take (k + 1)).map srBulk).sum ≤ (es.map srBulk).sum) := srSum_le es (k + 1)
        have c0 := (hbe.cell (p := ⟨b, off + k * 2, none⟩) hbl).trans q0
        have c1 := (hbe.cell (p := ⟨b, off + k * 2 + 1, none⟩) hbl).trans q1
        generalize hS : ((es.take k).map srBulk).sum = S at *
        have hz := HSZ.out es[k] (List.getElem_mem hlt)
        have HC : Hid (Calls Tryz.prog 17 #[.agg #[.string es[k].1, .string es[k].2], .int .i64 (left - es.length - (S : Nat))] wr fun e w' => e = .returned (.int .i64 (leftS (srBulk es[k]) (left - es.length - (S : Nat)))) ∧ Below wr.heap.size wr w') := lawsSzSr _ _ _ wr hz.1 hz.2 (by omega) (by omega)
        clear hS q0 q1 HEL HSZ hz
        generalize srBulk es[k] = bk at *
        generalize es[k].1 = nm at *
        generalize es[k].2 = tx at *
        by_cases hbk : ((S + bk : Nat) : Int) ≤ left - es.length
        · have e1 : leftS bk (left - es.length - (S : Nat)) = left - es.length - ((S + bk : Nat) : Int) := by
            unfold leftS
            rw [if_pos (by omega)]
            omega
          rw [e1] at HC
          have hnn : ¬ left - (es.length : Int) - ((S + bk : Nat) : Int) < 0 := by omega
          clear e1
          generalize hq : S + bk = Q at *
          have HQ : Hid (((es.take (k + 1)).map srBulk).sum = Q) := HM.out.trans rfl
          clear hq HM HL
          go_wp2_with fail
          refine HC.out.mono ?_
          rintro e w2 ⟨rfl, hb2⟩
          have hbe2 : Below w.heap.size w w2 := hbe.trans (hb2.mono hbe.size)
          go_wp2_with fail
          go_roundw
          case rel => exact ⟨k + 1, by omega, by go_num, by rw [HQ.out], by rw [HQ.out]; exact hbk, hbe2⟩
          case measure => simp [intOf]; omega
        · have e1 : leftS bk (left - es.length - (S : Nat)) = -1 := if_neg (by omega)
          rw [e1] at HC
          have HR : Hid (leftS (srsBulk es) left = -1) := if_neg (by
            have h1 := HM.out
            have h2 := HL.out
            unfold srsBulk
            omega)
          clear e1 HM HL
          go_wp2_with fail
          refine HC.out.mono ?_
          rintro e w2 ⟨rfl, hb2⟩
          have hbe2 : Below w.heap.size w w2 := hbe.trans (hb2.mono hbe.size)
          go_wp2_with fail
          go_ret
          exact ⟨by rw [HR.out]; rfl, hbe2⟩
      · have hke : k = es.length := by omega
        subst hke
        rw [List.take_of_length_le (Nat.le_refl _)] at hle ⊢
        have HR : Hid (leftS (srsBulk es) left = left - es.length - ((es.map srBulk).sum : Nat)) := by
          show _ = _
          unfold leftS srsBulk
          rw [if_pos (by omega)]
          omega
        generalize (es.map srBulk).sum = S at *
        clear HEL HSZ
        go_wp2_with fail
        go_ret
        exact ⟨by rw [HR.out]; rfl, hbe⟩

set_option maxHeartbeats 800000 in
set_option maxRecDepth 100000 in
theorem lawsEqSr (nm tx : ByteArray) (w : World) :
    Calls Tryz.prog 32 #[.agg #[.string nm, .string tx], .agg #[.string nm, .string tx]] w fun e w' => e = .returned (.bool true) ∧ Below w.heap.size w w' := by
  have hB2 : Below w.heap.size w ((w.alloc (.cells #[.string nm, .string tx] 57)).alloc (.cells #[.string nm, .string tx] 57)) := ((Below.refl _ _).alloc (Nat.le_refl _) _).alloc (by simp) _
  go_enter Tryz.func32, Tryz.ntmps32
  go_wp2_with fail
  go_ret
  exact ⟨rfl, hB2⟩

set_option maxHeartbeats 800000 in
set_option maxRecDepth 100000 in
theorem lawsEqSrs (va vb : Value) (es : List Src) (w : World) (hA : SrcAt w va es) (hB : SrcAt w vb es) (hkl : es.length ≤ 1048576) :
    Calls Tryz.prog 11 #[va, vb] w fun e w' => e = .returned (.bool true) ∧ Below w.heap.size w w' := by
  obtain ⟨a, capa, rfl, ha⟩ := srcOpen hA
  obtain ⟨b, capb, rfl, hb⟩ := srcOpen hB
  have HEA : Hid (type_of% ha) := ha
  have HEB : Hid (type_of% hb) := hb
  clear hA hB ha hb
  go_enter Tryz.func11, Tryz.ntmps11
  go_wp2_with fail
  go_loopw [5] (fun i wr => ∃ k : Nat, k ≤ es.length ∧ i = .int .i64 k ∧ Below w.heap.size w wr) (fun i _ => es.length - (intOf i).toNat)
  case atStart => exact ⟨0, Nat.zero_le _, rfl, Below.refl _ _⟩
  case round =>
    obtain ⟨k, hk, rfl, hbe⟩ := hrel
    by_cases hlt : k < es.length
    · obtain ⟨ba, oa, rfl, hba, a0, a1⟩ := HEA.out k hlt
      obtain ⟨bb, ob, rfl, hbb, b0, b1⟩ := HEB.out k hlt
      have A0 := (hbe.cell (p := ⟨ba, oa + k * 2, none⟩) hba).trans a0
      have A1 := (hbe.cell (p := ⟨ba, oa + k * 2 + 1, none⟩) hba).trans a1
      have B0 := (hbe.cell (p := ⟨bb, ob + k * 2, none⟩) hbb).trans b0
      have B1 := (hbe.cell (p := ⟨bb, ob + k * 2 + 1, none⟩) hbb).trans b1
      have HC : Hid (∀ wx : World, Calls Tryz.prog 32 #[.agg #[.string es[k].1, .string es[k].2], .agg #[.string es[k].1, .string es[k].2]] wx fun e w' => e = .returned (.bool true) ∧ Below wx.heap.size wx w') := fun wx => lawsEqSr _ _ wx
      clear a0 a1 b0 b1 HEA HEB
      generalize es[k].1 = nm at *
      generalize es[k].2 = tx at *
      have hk0 : (0 : Int) ≤ k := by omega
      have hk1 : (k : Int) < es.length := by omega
      go_wp2_with fail
      go_region_with (go_at_call 32; refine (HC.out _).mono ?_; rintro e w2 ⟨rfl, hb2⟩)
      all_goals
        go_wp2_with fail
        go_roundw
        case rel => exact ⟨k + 1, by omega, by go_num, hbe.trans ((((Below.refl _ _).drew).trans hb2).mono hbe.size)⟩
        case measure => simp [intOf]; omega
    · clear HEA HEB
      go_wp2_with fail
      go_ret
      exact ⟨rfl, hbe⟩

end Go.Proofs.YtllbfbllkefjeaaGreatDoor

namespace Go.Proofs.YtllbfbllkefjeaaGreatDoor
open Go.ChangeShapes Go.WideShapes Go.ChangeAt Go.RowKit

theorem srNew {w : World} {cs : Array Value} {t : TypeId} {b : Nat} (i : Nat) (h : b = w.heap.size) : (w.alloc (.cells cs t)).cell? ⟨b, i, none⟩ = cs[i]? := by
  subst h
  simp
theorem srOld {w : World} {o : Obj} {b : Nat} (i : Nat) (h : b < w.heap.size) : (w.alloc o).cell? ⟨b, i, none⟩ = w.cell? ⟨b, i, none⟩ := ((Below.refl w.heap.size w).alloc (Nat.le_refl _) o).cell (p := ⟨b, i, none⟩) h
theorem srFrozen {w : World} {cs : Array Value} {t : TypeId} {b : Nat} (i : Nat) (h : b = w.heap.size) : (w.alloc (.cells cs t)).frozen? ⟨b, i, none⟩ = false := by
  subst h
  simp

theorem ret_sr {R : Ending → World → Prop} {W : World} {tmps : Array Value} {b : Nat} {x0 x1 : Value} (hp : tmps[2]?.getD undef = .pointer (some ⟨b, 0, none⟩))
    (h : W.cell? ⟨b, 0, none⟩ = some x0 ∧ W.cell? ⟨b, 1, none⟩ = some x1) (hR : R (.returned (.agg #[x0, x1])) W) :
    bodyPost Tryz.prog Tryz.f23 R .ret { tmps := tmps, defers := [] } W := by
  obtain ⟨h0, h1⟩ := h
  refine bodyPost_ret (v := .agg #[x0, x1]) ?_ rfl hR
  simp [results, Tryz.results23, go_sem, hp, h0, h1]

set_option maxHeartbeats 800000 in
set_option maxRecDepth 100000 in
theorem lawsToSr (nm tx : ByteArray) (w : World) :
    Calls Tryz.prog 23 #[.agg #[.string nm, .string tx]] w fun e w' => e = .returned (.agg #[.string nm, .string tx]) ∧ Below w.heap.size w w' := by
  go_enter Tryz.func23, Tryz.ntmps23
  go_wp2_with fail
  refine ret_sr (b := w.heap.size + 1) rfl ⟨?_, ?_⟩ ⟨rfl, ?_⟩
  · rw [srOld _ (by simp), srNew _ (by simp)]; rfl
  · rw [srOld _ (by simp), srNew _ (by simp)]; rfl
  · exact (((Below.refl _ _).alloc (Nat.le_refl _) _).alloc (by simp) _).alloc (by simp; omega) _

theorem Tryz.infoSource : (Tryz.prog.info? 57).map (fun i => (i.zero, i.size, i.bytes)) = some (some (.agg #[.string ⟨#[]⟩, .string ⟨#[]⟩]), 2, 32) := by kernel_rfl

/-- the first so many elements of the row hold these -/
def SrFilled (X : List Value) (es : List Src) (k : Nat) : Prop := ∀ j (h : j < es.length), j < k → X[j * 2]? = some (.string es[j].1) ∧ X[j * 2 + 1]? = some (.string es[j].2)
theorem SrFilled.more {X : List Value} {es : List Src} {k : Nat} (hf : SrFilled X es k) (hk : k < es.length) (hX : X.length = es.length * 2) : SrFilled ((X.set (k * 2) (.string es[k].1)).set (k * 2 + 1) (.string es[k].2)) es (k + 1) := fun j hj hlt => by
  by_cases e : j = k
  · subst e
    refine ⟨?_, ?_⟩
    · rw [List.getElem?_set_ne (by omega), List.getElem?_set_self (by omega)]
    · rw [List.getElem?_set_self (by rw [List.length_set]; omega)]
  · obtain ⟨h1, h2⟩ := hf j hj (by omega)
    refine ⟨?_, ?_⟩
    · rw [List.getElem?_set_ne (by omega), List.getElem?_set_ne (by omega), h1]
    · rw [List.getElem?_set_ne (by omega), List.getElem?_set_ne (by omega), h2]
theorem SrFilled.row {g cap B : Nat} {w : World} {X : List Value} {es : List Src} (hf : SrFilled X es es.length) (ho : w.ownsRow B 57 2 (.slice (some ⟨g, 0, none⟩) es.length cap) es.length X) : SrcAt w (.slice (some ⟨g, 0, none⟩) es.length cap) es := by
  refine .inr ⟨g, 0, cap, rfl, fun j hj => ?_⟩
  obtain ⟨h1, h2⟩ := hf j hj hj
  rw [Nat.zero_add]
  exact ⟨by rw [ho.cellAt (j * 2) (by omega), h1], by rw [ho.cellAt (j * 2 + 1) (by omega), h2]⟩

theorem srKept {w w' : World} {B e z : Nat} {v : Value} {n : Nat} {xs : List Value} (h : w.ownsRow B e z v n xs) (hb : Below w.heap.size w w') : w'.ownsRow B e z v n xs := by
  refine ⟨h.1, ?_⟩
  rcases h.2 with e | ⟨g, c, cur, e1, e2, e3, e4⟩
  · exact .inl e
  · refine .inr ⟨g, c, cur, e1, e2, ?_, e4⟩
    rw [hb.block g (by
      have := h.lt g (by rw [e1]; rfl)
      exact this.2)]
    exact e3

set_option maxHeartbeats 1600000 in
set_option maxRecDepth 100000 in
theorem lawsToSrs (v : Value) (es : List Src) (w : World) (hrow : SrcAt w v es) (hlen : es.length ≤ 1048576) :
    Calls Tryz.prog 7 #[v] w fun e w' => e = .returned (.slice (some ⟨w.heap.size, 0, none⟩) es.length es.length) ∧ SrcAt w' (.slice (some ⟨w.heap.size, 0, none⟩) es.length es.length) es ∧ Below w.heap.size w w' := by
  obtain ⟨i0, hi, hz0, hz1, hz2⟩ := info_parts Tryz.infoSource
  obtain ⟨a, capa, rfl, ha⟩ := srcOpen hrow
  have HEA : Hid (type_of% ha) := ha
  clear hrow ha
  go_enter Tryz.func7, Tryz.ntmps7
  go_wp2_with (at_make; refine wpList_make_full _ rfl _ _ 28 rfl w.heap.size 57 i0 (.agg #[.string ⟨#[]⟩, .string ⟨#[]⟩]) 2 Tryz.underlying28 hi hz0 hz1 .i64 .i64 _ _ es.length rfl rfl rfl rfl (by rw [hz2]; omega) (by unfold maxLen; omega) (Nat.le_refl _) ?_)
  intro w1 hown hgrow
  have hB : Below w.heap.size w w1 := (Below.refl _ _).grown hgrow (Nat.le_refl _) (fun k hk => by cases hk)
  obtain ⟨X, hX⟩ : ∃ X, w1.ownsRow w.heap.size 57 2 (.slice (some ⟨w.heap.size, 0, none⟩) es.length es.length) es.length X := ⟨_, hown⟩
  have HX : Hid (type_of% hX) := hX
  clear hown hgrow hX
  go_wp2_with fail
  go_loopw [4] (fun i wr => ∃ (k : Nat) (X : List Value), k ≤ es.length ∧ i = .int .i64 k ∧ wr.ownsRow w.heap.size 57 2 (.slice (some ⟨w.heap.size, 0, none⟩) es.length es.length) es.length X ∧ SrFilled X es k ∧ Below w.heap.size w wr) (fun i _ => es.length - (intOf i).toNat)
  case atStart => exact ⟨0, X, Nat.zero_le _, rfl, HX.out, fun j _ h => absurd h (by omega), hB⟩
  case round =>
    obtain ⟨k, Y, hk, rfl, ho, hfil, hbe⟩ := hrel
    clear HX hB
    have HF : Hid (type_of% hfil) := hfil
    clear hfil
    have hYl : Y.length = es.length * 2 := ho.1
    by_cases hlt : k < es.length
    · obtain ⟨ba, oa, rfl, hba, a0, a1⟩ := HEA.out k hlt
      have A0 := (hbe.cell (p := ⟨ba, oa + k * 2, none⟩) hba).trans a0
      have A1 := (hbe.cell (p := ⟨ba, oa + k * 2 + 1, none⟩) hba).trans a1
      have HC0 := lawsToSr es[k].1 es[k].2 wr
      have HC : Hid (type_of% HC0) := HC0
      have HR2 : Hid (SrFilled _ es (k + 1)) := HF.out.more hlt hYl
      clear a0 a1 HEA HC0 HF
      generalize es[k].1 = nm at *
      generalize es[k].2 = tx at *
      go_wp2_with fail
      refine HC.out.mono ?_
      rintro e w2 ⟨rfl, hb2⟩
      have o1 := srKept ho hb2
      have hbe2 : Below w.heap.size w w2 := hbe.trans (hb2.mono hbe.size)
      clear ho hbe hb2 HC
      have f1 := o1.frozenAt (k * 2)
      have q1 : ∃ u, w2.cell? ⟨w.heap.size, k * 2, none⟩ = some u := by rw [o1.cellAt (k * 2) (by omega)]; exact ⟨_, List.getElem?_eq_getElem (by omega)⟩
      obtain ⟨u1, q1⟩ := q1
      obtain ⟨o2, _⟩ := o1.stored (k * 2) (.string nm)
      have f2 := o2.frozenAt (k * 2 + 1)
      have q2 : ∃ u, (w2.setCell ⟨w.heap.size, k * 2, none⟩ (.string nm)).cell? ⟨w.heap.size, k * 2 + 1, none⟩ = some u := by rw [o2.cellAt (k * 2 + 1) (by omega)]; exact ⟨_, List.getElem?_eq_getElem (by simp; omega)⟩
      obtain ⟨u2, q2⟩ := q2
      obtain ⟨o3, _⟩ := o2.stored (k * 2 + 1) (.string tx)
      have HR1 : Hid (type_of% o3) := o3
      have HR3 : Hid (Below w.heap.size w ((w2.setCell ⟨w.heap.size, k * 2, none⟩ (.string nm)).setCell ⟨w.heap.size, k * 2 + 1, none⟩ (.string tx))) := (hbe2.setCell (Nat.le_refl _) _).setCell (Nat.le_refl _) _
      clear o1 o2 o3 hbe2
      go_wp2_with fail
      go_roundw
      case rel => exact ⟨k + 1, _, by omega, by go_num, HR1.out, HR2.out, HR3.out⟩
      case measure => simp [intOf]; omega
    · have hke : k = es.length := by omega
      subst hke
      have HR : Hid (SrcAt wr (.slice (some ⟨w.heap.size, 0, none⟩) es.length es.length) es) := HF.out.row ho
      clear HF HEA ho
      go_wp2_with fail
      go_ret
      exact ⟨rfl, HR.out, hbe⟩

set_option maxRecDepth 100000 in
theorem opened_sr {H : Type} {enc : TypeId × Value → H} {W : World} {base : Nat} {sp : Nat → Bool} {held : Bool} (n : Nat) (cs : List Value) (x : DataW H × List MemPlace) (h : DataW.trod enc Tryz.prog W base sp held n 51 cs = some x) : ∃ e : Src, cs = [.string e.1, .string e.2] ∧ e.1.size ≤ maxLen ∧ e.2.size ≤ maxLen := by
  have c2 : Tryz.prog.cellsOf 51 = 2 := by kernel_rfl
  have cst : Tryz.prog.cellsOf 9 = 1 := by kernel_rfl
  obtain ⟨xs, m, rfl, rfl, hl, hxl, hf⟩ := DataW.trod_struct Tryz.underlying51 h
  rw [c2] at hl
  have hxl2 : xs.length = 2 := hxl
  match cs, hl, xs, hxl2 with
  | [v0, v1], _, [y0, y1], _ =>
    have e0 : DataW.trod enc Tryz.prog W base sp held m 9 (List.take (Tryz.prog.cellsOf 9) [v0, v1]) = some y0 := hf 0 _ rfl
    rw [cst] at e0
    have f0 : DataW.trod enc Tryz.prog W base sp held m 9 [v0] = some y0 := e0
    have e1 : DataW.trod enc Tryz.prog W base sp held m 9 (List.take (Tryz.prog.cellsOf 9) [v1]) = some y1 := hf 1 _ rfl
    rw [cst] at e1
    have f1 : DataW.trod enc Tryz.prog W base sp held m 9 [v1] = some y1 := e1
    obtain ⟨nm, hnm, _, hns⟩ := DataW.trod_string Tryz.underlying9 f0
    obtain ⟨tx, htx, _, hts⟩ := DataW.trod_string Tryz.underlying9 f1
    obtain rfl : v0 = .string nm := by simpa using hnm
    obtain rfl : v1 = .string tx := by simpa using htx
    exact ⟨(nm, tx), rfl, hns, hts⟩

set_option maxRecDepth 100000 in
theorem opened_srs {H : Type} {enc : TypeId × Value → H} {W : World} {base : Nat} {sp : Nat → Bool} {held : Bool} (n : Nat) (v : Value) (x : DataW H × List MemPlace) (h : DataW.trod enc Tryz.prog W base sp held n 22 [v] = some x) : ∃ es : List Src, SrcAt W v es ∧ es.length ≤ maxLen ∧ ∀ e ∈ es, e.1.size ≤ maxLen ∧ e.2.size ≤ maxLen := by
  have c2 : Tryz.prog.cellsOf 51 = 2 := by kernel_rfl
  rcases DataW.trod_slice Tryz.underlying22 h with ⟨hcs, _⟩ | ⟨a, len, cap, elems, rest, m2, rfl, hcs, _, hb, hlc, hcm, hel, heach, _, _⟩
  · obtain rfl : v = .slice none 0 0 := by simpa using hcs
    exact ⟨[], .inl ⟨rfl, _, _, rfl⟩, by simp, by simp⟩
  · obtain rfl : v = .slice (some a) len cap := by simpa using hcs
    rw [c2] at heach
    have each : ∀ i, i < len → ∃ q : Src, (q.1.size ≤ maxLen ∧ q.2.size ≤ maxLen) ∧ ∀ c u, [Value.string q.1, Value.string q.2][c]? = some u → W.cell? ((a.add (i * 2)).add c) = some u := fun i hi => by
      have hi2 := heach i hi
      rw [List.getElem?_eq_getElem (by omega)] at hi2
      obtain ⟨cs', h1, h2⟩ := Option.bind_eq_some_iff.1 hi2
      obtain ⟨t, rfl, ht1, ht2⟩ := opened_sr m2 cs' _ h2
      obtain ⟨_, hlen, hcell⟩ := World.cells?_some h1
      refine ⟨t, ⟨ht1, ht2⟩, fun c u hu => ?_⟩
      have hc : c < 2 := by
        have : c < [Value.string t.1, Value.string t.2].length := (List.getElem?_eq_some_iff.1 hu).1
        simpa using this
      rw [hcell c hc]
      exact hu
    haveI : Inhabited Src := ⟨(ByteArray.empty, ByteArray.empty)⟩
    obtain ⟨q, hq⟩ := Go.Deep.choose_lt each
    refine ⟨(List.range len).map fun i => q i, ?_, by simp; omega, fun e he => ?_⟩
    · by_cases h0 : len = 0
      · subst h0
        exact .inl ⟨rfl, _, _, rfl⟩
      · obtain ⟨b, off, spot⟩ := a
        have hspot : spot = none := by
          obtain ⟨h1, h2⟩ := hq 0 (by omega)
          have hc := h2 0 _ rfl
          simpa [Addr.add] using World.cell?_spot hc
        subst hspot
        refine .inr ⟨b, off, cap, by simp, fun j hj => ?_⟩
        have hj2 : j < len := by simpa using hj
        obtain ⟨h1, h2⟩ := hq j hj2
        simp only [List.getElem_map, List.getElem_range]
        have g0 := h2 0 _ rfl
        have g1 := h2 1 _ rfl
        rw [Addr.add_lit, Addr.add_lit] at g0 g1
        exact ⟨g0, g1⟩
    · obtain ⟨i, hi, rfl⟩ := List.mem_map.1 he
      exact (hq i (by simpa using hi)).1

end Go.Proofs.YtllbfbllkefjeaaGreatDoor
