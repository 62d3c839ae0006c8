/-
  What a slice of diags (a line and a code each) is; the walks of the laws' own helpers szDiag, szDiagS, eqDiag, eqDiagS.
  The walks of the laws' own helpers toDiag and toDiagS: a copy in new memory; diags that are handed in, opened.
-/
import Derived.Test.YtllbfbllkefjeaaGreatDoorTextsD
import Derived.Lib.QuietBelow
import Derived.BigQuiet
import Derived.Deep.RegionWith
import Derived.Deep.Slices
import Derived.Lib.SmallJoins
import Derived.Sort.Walk0
import Derived.ChangeArms
import Derived.ProofKit
import Derived.OpenShut
namespace Go.Proofs.YtllbfbllkefjeaaGreatDoor
open Go.RowKit

/-- a diag: its line, its code -/
abbrev Dg := Int × ByteArray

/-- the value is a slice of diags -/
def DiAt (w : World) (v : Value) (es : List Dg) : Prop :=
  (es = [] ∧ ∃ a cap, v = .slice a 0 cap) ∨ ∃ b off cap, v = .slice (some ⟨b, off, none⟩) es.length cap ∧ ∀ j (h : j < es.length), w.cell? ⟨b, off + j * 2, none⟩ = some (.int .i64 es[j].1) ∧ w.cell? ⟨b, off + j * 2 + 1, none⟩ = some (.string es[j].2)

theorem DiAt.below {w w' : World} {v : Value} {es : List Dg} (h : DiAt w v es) (hb : Below w.heap.size w w') : DiAt w' v es := by
  rcases h with h | ⟨b, off, cap, rfl, hc⟩
  · exact .inl h
  · refine .inr ⟨b, off, cap, rfl, fun j hj => ?_⟩
    obtain ⟨h1, h2⟩ := hc j hj
    exact ⟨(hb.cell (p := ⟨b, off + j * 2, none⟩) (World.block_lt_of_cell? w ⟨b, off + j * 2, none⟩ h1)).trans h1, (hb.cell (p := ⟨b, off + j * 2 + 1, none⟩) (World.block_lt_of_cell? w ⟨b, off + j * 2 + 1, none⟩ h2)).trans h2⟩

theorem diOpen {w : World} {v : Value} {es : List Dg} (h : DiAt w v es) : ∃ av capv, v = .slice av es.length capv ∧ ∀ j (h : j < es.length), ∃ b off, av = some ⟨b, off, none⟩ ∧ b < w.heap.size ∧ w.cell? ⟨b, off + j * 2, none⟩ = some (.int .i64 es[j].1) ∧ w.cell? ⟨b, off + j * 2 + 1, none⟩ = some (.string es[j].2) := by
  rcases h with ⟨h, a, cap, e⟩ | ⟨b, off, cap, e, hc⟩
  · exact ⟨a, cap, by rw [h]; exact e, fun j hj => by rw [h] at hj; simp at hj⟩
  · refine ⟨_, cap, e, fun j hj => ?_⟩
    obtain ⟨h1, h2⟩ := hc j hj
    exact ⟨b, off, rfl, World.block_lt_of_cell? w ⟨b, off + j * 2, none⟩ h1, h1, h2⟩

/-- how much is left -/
def leftD (b : Nat) (left : Int) : Int := if (b : Int) ≤ left then left - b else -1
/-- how much diags hold -/
def dgsBulk (es : List Dg) : Nat := es.length + (es.map fun e => e.2.size).sum
theorem dgSum_more (es : List Dg) (k : Nat) (h : k < es.length) : ((es.take (k + 1)).map fun e => e.2.size).sum = ((es.take k).map fun e => e.2.size).sum + es[k].2.size := by
  rw [List.take_succ_eq_append_getElem h, List.map_append, List.sum_append]
  simp
theorem dgSum_le (es : List Dg) (k : Nat) : ((es.take k).map fun e => e.2.size).sum ≤ (es.map fun e => e.2.size).sum := by
  have : (es.map fun e => e.2.size) = ((es.take k).map fun e => e.2.size) ++ ((es.drop k).map fun e => e.2.size) := by rw [← List.map_append, List.take_append_drop]
  rw [this, List.sum_append]
  omega
theorem dg_bulk (es : List Dg) (k : Nat) (h : k < es.length) : es[k].2.size ≤ dgsBulk es := by
  have h1 := dgSum_more es k h
  have h2 := dgSum_le es (k + 1)
  unfold dgsBulk
  omega

set_option maxHeartbeats 800000 in
set_option maxRecDepth 100000 in
theorem lawsEqDg (ln : Int) (cd : ByteArray) (w : World) :
    Calls Tryz.prog 106 #[.agg #[.int .i64 ln, .string cd], .agg #[.int .i64 ln, .string cd]] w fun e w' => e = .returned (.bool true) ∧ Below w.heap.size w w' := by
  have hB2 : Below w.heap.size w ((w.alloc (.cells #[.int .i64 ln, .string cd] 165)).alloc (.cells #[.int .i64 ln, .string cd] 165)) := ((Below.refl _ _).alloc (Nat.le_refl _) _).alloc (by simp) _
  go_enter Tryz.func106, Tryz.ntmps106
  go_wp2_with fail
  go_ret
  exact ⟨rfl, hB2⟩

set_option maxHeartbeats 800000 in
set_option maxRecDepth 100000 in
theorem lawsEqDgs (va vb : Value) (es : List Dg) (w : World) (hA : DiAt w va es) (hB : DiAt w vb es) (hkl : es.length ≤ 1048577) :
    Calls Tryz.prog 89 #[va, vb] w fun e w' => e = .returned (.bool true) ∧ Below w.heap.size w w' := by
  obtain ⟨a, capa, rfl, ha⟩ := diOpen hA
  obtain ⟨b, capb, rfl, hb⟩ := diOpen hB
  have HEA : Hid (type_of% ha) := ha
  have HEB : Hid (type_of% hb) := hb
  clear hA hB ha hb
  go_enter Tryz.func89, Tryz.ntmps89
  go_wp2_with fail
  go_loopw [5] (fun i wr => ∃ k : Nat, k ≤ es.length ∧ i = .int .i64 k ∧ Below w.heap.size w wr) (fun i _ => es.length - (intOf i).toNat)
  case atStart => exact ⟨0, Nat.zero_le _, rfl, Below.refl _ _⟩
  case round =>
    obtain ⟨k, hk, rfl, hbe⟩ := hrel
    by_cases hlt : k < es.length
    · obtain ⟨ba, oa, rfl, hba, a0, a1⟩ := HEA.out k hlt
      obtain ⟨bb, ob, rfl, hbb, b0, b1⟩ := HEB.out k hlt
      have A0 := (hbe.cell (p := ⟨ba, oa + k * 2, none⟩) hba).trans a0
      have A1 := (hbe.cell (p := ⟨ba, oa + k * 2 + 1, none⟩) hba).trans a1
      have B0 := (hbe.cell (p := ⟨bb, ob + k * 2, none⟩) hbb).trans b0
      have B1 := (hbe.cell (p := ⟨bb, ob + k * 2 + 1, none⟩) hbb).trans b1
      have HC : Hid (∀ wx : World, Calls Tryz.prog 106 #[.agg #[.int .i64 es[k].1, .string es[k].2], .agg #[.int .i64 es[k].1, .string es[k].2]] wx fun e w' => e = .returned (.bool true) ∧ Below wx.heap.size wx w') := fun wx => lawsEqDg _ _ wx
      clear a0 a1 b0 b1 HEA HEB
      generalize es[k].1 = ln at *
      generalize es[k].2 = cd at *
      have hk0 : (0 : Int) ≤ k := by omega
      have hk1 : (k : Int) < es.length := by omega
      go_wp2_with fail
      go_region_with (go_at_call 106; refine (HC.out _).mono ?_; rintro e w2 ⟨rfl, hb2⟩)
      all_goals
        go_wp2_with fail
        go_roundw
        case rel => exact ⟨k + 1, by omega, by go_num, hbe.trans ((((Below.refl _ _).drew).trans hb2).mono hbe.size)⟩
        case measure => simp [intOf]; omega
    · clear HEA HEB
      go_wp2_with fail
      go_ret
      exact ⟨rfl, hbe⟩

end Go.Proofs.YtllbfbllkefjeaaGreatDoor

namespace Go.Proofs.YtllbfbllkefjeaaGreatDoor
open Go.ChangeShapes Go.WideShapes Go.ChangeAt Go.RowKit

theorem dgNew {w : World} {cs : Array Value} {t : TypeId} {b : Nat} (i : Nat) (h : b = w.heap.size) : (w.alloc (.cells cs t)).cell? ⟨b, i, none⟩ = cs[i]? := by
  subst h
  simp
theorem dgOld {w : World} {o : Obj} {b : Nat} (i : Nat) (h : b < w.heap.size) : (w.alloc o).cell? ⟨b, i, none⟩ = w.cell? ⟨b, i, none⟩ := ((Below.refl w.heap.size w).alloc (Nat.le_refl _) o).cell (p := ⟨b, i, none⟩) h
theorem dgLow {X Y : World} {B B' e z : Nat} {v : Value} {n : Nat} {xs : List Value} (h : X.ownsRow B e z v n xs) (hB : B' ≤ B) (hs : ∀ g, v.ownBlock = some g → Y.heap[g]? = X.heap[g]?) : Y.ownsRow B' e z v n xs := by
  refine ⟨h.1, ?_⟩
  rcases h.2 with q | ⟨g, cap, cur, hv, hg, hh, q⟩
  · exact .inl q
  · exact .inr ⟨g, cap, cur, hv, Nat.le_trans hB hg, (hs g (by rw [hv]; rfl)).trans hh, q⟩

theorem Tryz.infoDiag : (Tryz.prog.info? 165).map (fun i => (i.zero, i.size, i.bytes)) = some (some (.agg #[.int .i64 0, .string ⟨#[]⟩]), 2, 24) := by kernel_rfl

/-- the cells of diags -/
def dgV (es : List Dg) : List Value := es.flatMap fun e => [.int .i64 e.1, .string e.2]
theorem dgV_length (es : List Dg) : (dgV es).length = es.length * 2 := by
  induction es with
  | nil => rfl
  | cons e r ih => simp only [dgV, List.flatMap_cons, List.length_append] at ih ⊢; rw [ih]; simp; omega
theorem dgV_app (a b : List Dg) : dgV (a ++ b) = dgV a ++ dgV b := by simp [dgV]
theorem dgV_at (es : List Dg) (j : Nat) (h : j < es.length) : (dgV es)[j * 2]? = some (.int .i64 es[j].1) ∧ (dgV es)[j * 2 + 1]? = some (.string es[j].2) := by
  induction es generalizing j with
  | nil => simp at h
  | cons e r ih =>
    have hc : dgV (e :: r) = .int .i64 e.1 :: .string e.2 :: dgV r := rfl
    rw [hc]
    match j, h with
    | 0, _ => exact ⟨rfl, rfl⟩
    | j + 1, h =>
      have h2 : j < r.length := by simpa using h
      have := ih j h2
      rw [show (j + 1) * 2 = j * 2 + 1 + 1 from by omega]
      exact this
/-- a row in memory of its own that holds these diags is a slice of diags -/
theorem dgRow {w : World} {B : Nat} {v : Value} {es : List Dg} (ho : w.ownsRow B 165 2 v es.length (dgV es)) : DiAt w v es := by
  rcases ho.2 with ⟨e, h0⟩ | ⟨g, c, cur, e, _⟩
  · exact .inl ⟨List.length_eq_zero_iff.1 h0, _, _, e⟩
  · subst e
    refine .inr ⟨g, 0, c, rfl, fun j hj => ?_⟩
    obtain ⟨h1, h2⟩ := dgV_at es j hj
    have hl := dgV_length es
    rw [Nat.zero_add]
    exact ⟨by rw [ho.cellAt (j * 2) (by omega), h1], by rw [ho.cellAt (j * 2 + 1) (by omega), h2]⟩
/-- the diags of a row, one of them put anew -/
theorem dgV_set (es : List Dg) (k : Nat) (hk : k < es.length) (e : Dg) : ((dgV es).set (k * 2) (.int .i64 e.1)).set (k * 2 + 1) (.string e.2) = dgV (es.set k e) := by
  induction es generalizing k with
  | nil => simp at hk
  | cons x r ih =>
    have hc : dgV (x :: r) = .int .i64 x.1 :: .string x.2 :: dgV r := rfl
    match k, hk with
    | 0, _ => rfl
    | k + 1, hk =>
      have h2 : k < r.length := by simpa using hk
      have := ih k h2
      rw [hc, show (k + 1) * 2 = k * 2 + 1 + 1 from by omega]
      show Value.int .i64 x.1 :: Value.string x.2 :: (((dgV r).set (k * 2) (.int .i64 e.1)).set (k * 2 + 1) (.string e.2)) = dgV (x :: r.set k e)
      rw [this]
      rfl

theorem dgKept {w w' : World} {B e z : Nat} {v : Value} {n : Nat} {xs : List Value} (h : w.ownsRow B e z v n xs) (hb : Below w.heap.size w w') : w'.ownsRow B e z v n xs := by
  refine ⟨h.1, ?_⟩
  rcases h.2 with e | ⟨g, c, cur, e1, e2, e3, e4⟩
  · exact .inl e
  · refine .inr ⟨g, c, cur, e1, e2, ?_, e4⟩
    rw [hb.block g (by
      have := h.lt g (by rw [e1]; rfl)
      exact this.2)]
    exact e3

/-- of a list the first so many, then nothing -/
def dgFill (es : List Dg) (k : Nat) : List Dg := es.take k ++ List.replicate (es.length - k) (0, ⟨#[]⟩)
theorem dgFill_length (es : List Dg) (k : Nat) (h : k ≤ es.length) : (dgFill es k).length = es.length := by simp [dgFill]; omega
theorem dgFill_more (es : List Dg) (k : Nat) (h : k < es.length) : (dgFill es k).set k es[k] = dgFill es (k + 1) := by
  unfold dgFill
  have hl : (es.take k).length = k := by simp; omega
  rw [List.set_append_right _ _ (by omega), hl, Nat.sub_self, show es.length - k = (es.length - (k + 1)) + 1 from by omega, List.replicate_succ, List.set_cons_zero, List.take_succ_eq_append_getElem h, List.append_assoc]
  rfl
theorem dgFill_all (es : List Dg) : dgFill es es.length = es := by simp [dgFill]
theorem dgFill_zero (es : List Dg) : dgV (dgFill es 0) = (madeCells #[Value.int .i64 0, .string ⟨#[]⟩] (es.length * 2)).toList := by
  have hl : (dgFill es 0).length = es.length := dgFill_length es 0 (Nat.zero_le _)
  apply List.ext_getElem
  · rw [dgV_length, hl]
    simp [madeCells]
  · intro i h1 h2
    rw [dgV_length, hl] at h1
    have hv : ∀ j (h : j < (dgFill es 0).length), (dgFill es 0)[j] = (0, ⟨#[]⟩) := fun j h => by simp [dgFill]
    obtain ⟨a0, a1⟩ := dgV_at (dgFill es 0) (i / 2) (by omega)
    rw [hv] at a0 a1
    have hr : i = i / 2 * 2 ∨ i = i / 2 * 2 + 1 := by omega
    rcases hr with e | e
    · have hm : (madeCells #[Value.int .i64 0, .string ⟨#[]⟩] (es.length * 2)).toList[i] = .int .i64 0 := by
        simp only [madeCells, Array.getElem_toList, Array.getElem_map, Array.getElem_range]
        have : i % 2 = 0 := by omega
        simp [this]
      rw [hm]
      have hs : (dgV (dgFill es 0))[i]? = some (.int .i64 0) := by rw [e]; exact a0
      exact (List.getElem?_eq_some_iff.1 hs).2
    · have hm : (madeCells #[Value.int .i64 0, .string ⟨#[]⟩] (es.length * 2)).toList[i] = .string ⟨#[]⟩ := by
        simp only [madeCells, Array.getElem_toList, Array.getElem_map, Array.getElem_range]
        have : i % 2 = 1 := by omega
        simp [this]
      rw [hm]
      have hs : (dgV (dgFill es 0))[i]? = some (.string ⟨#[]⟩) := by rw [e]; exact a1
      exact (List.getElem?_eq_some_iff.1 hs).2

end Go.Proofs.YtllbfbllkefjeaaGreatDoor
