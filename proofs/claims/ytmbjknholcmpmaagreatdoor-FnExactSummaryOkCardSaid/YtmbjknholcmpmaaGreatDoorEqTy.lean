/-
  The walks of the laws' own helpers eqType and eqTypeS, at two values that hold the same type.
  A type's text, plainly. No program here.
-/
import Derived.Test.YtmbjknholcmpmaaGreatDoorTyP
import Derived.Deep.RegionWith
namespace Go.Proofs.YtmbjknholcmpmaaGreatDoor
open Go.RowKit

theorem bcellT {W w1 : World} (hb : Below W.heap.size W w1) : (∀ b o, b < W.heap.size → w1.cell? ⟨b, o, none⟩ = W.cell? ⟨b, o, none⟩) ∧ (∀ b o, b < W.heap.size → w1.frozen? ⟨b, o, none⟩ = W.frozen? ⟨b, o, none⟩) :=
  ⟨fun b o h => hb.cell (p := ⟨b, o, none⟩) h, fun b o h => hb.frozen (p := ⟨b, o, none⟩) h⟩

theorem kid_bulk (n : Nat) (ks : List Ty) (k : Nat) (h : k < ks.length) : Ty.bulk n ks[k] ≤ (ks.map (Ty.bulk n)).sum := by
  have h1 := sum_more n ks k h
  have h2 := sum_le n ks (k + 1)
  omega

theorem rowOpen {w : World} {n : Nat} {v : Value} {ks : List Ty} (hrow : RowAt w (TyAt w n) v ks) : ∃ av capv, v = .slice av ks.length capv ∧ ∀ j (h : j < ks.length), ∃ b off x0 x1 x2 x3, av = some ⟨b, off, none⟩ ∧ b < w.heap.size ∧ TyAt w n [x0, x1, x2, x3] ks[j] ∧ w.cell? ⟨b, off + j * 4, none⟩ = some x0 ∧ w.cell? ⟨b, off + j * 4 + 1, none⟩ = some x1 ∧ w.cell? ⟨b, off + j * 4 + 2, none⟩ = some x2 ∧ w.cell? ⟨b, off + j * 4 + 3, none⟩ = some x3 := by
  rcases hrow with ⟨h, a, cap, e⟩ | ⟨b, off, cap, e, hc⟩
  · exact ⟨a, cap, by rw [h]; exact e, fun j hj => by rw [h] at hj; simp at hj⟩
  · refine ⟨_, cap, e, fun j hj => ?_⟩
    obtain ⟨cs', h1, h2⟩ := hc j hj
    have hlen := h1.len
    match cs', hlen with
    | [x0, x1, x2, x3], _ => exact ⟨b, off, x0, x1, x2, x3, rfl, World.block_lt_of_cell? w ⟨b, off + j * 4 + 0, none⟩ (h2 0 x0 rfl), h1, h2 0 x0 rfl, h2 1 x1 rfl, h2 2 x2 rfl, h2 3 x3 rfl⟩

set_option maxHeartbeats 800000 in
set_option maxRecDepth 100000 in
theorem lawsEqRow (n : Nat) (ih : ∀ (ca cb : List Value) (t : Ty) (w : World), TyAt w n ca t → TyAt w n cb t → Ty.bulk n t ≤ 1048576 →
      Calls Tryz.prog 71 #[.agg ca.toArray, .agg cb.toArray] w fun e w' => e = .returned (.bool true) ∧ Below w.heap.size w w')
    (va vb : Value) (ks : List Ty) (w : World) (hA : RowAt w (TyAt w n) va ks) (hB : RowAt w (TyAt w n) vb ks) (hkl : rowBulk n ks ≤ 1048576) :
    Calls Tryz.prog 96 #[va, vb] w fun e w' => e = .returned (.bool true) ∧ Below w.heap.size w w' := by
  obtain ⟨a, capa, rfl, ha⟩ := rowOpen hA
  obtain ⟨b, capb, rfl, hb⟩ := rowOpen hB
  have HEA : Hid (type_of% ha) := ha
  have HEB : Hid (type_of% hb) := hb
  have IH : Hid (∀ (ca cb : List Value) (t : Ty) (w : World), TyAt w n ca t → TyAt w n cb t → Ty.bulk n t ≤ 1048576 → Calls Tryz.prog 71 #[.agg ca.toArray, .agg cb.toArray] w fun e w' => e = .returned (.bool true) ∧ Below w.heap.size w w') := ih
  have hlen : ks.length ≤ 1048576 := by unfold rowBulk at hkl; omega
  clear hA hB ha hb ih
  go_enter Tryz.func96, Tryz.ntmps96
  go_wp2_with fail
  go_loopw [5] (fun i wr => ∃ k : Nat, k ≤ ks.length ∧ i = .int .i64 k ∧ Below w.heap.size w wr) (fun i _ => ks.length - (intOf i).toNat)
  case atStart => exact ⟨0, Nat.zero_le _, rfl, Below.refl _ _⟩
  case round =>
    obtain ⟨k, hk, rfl, hbe⟩ := hrel
    by_cases hlt : k < ks.length
    · obtain ⟨ba, oa, x0, x1, x2, x3, rfl, hba, hta, a0, a1, a2, a3⟩ := HEA.out k hlt
      obtain ⟨bb, ob, y0, y1, y2, y3, rfl, hbb, htb, b0, b1, b2, b3⟩ := HEB.out k hlt
      have A0 := (hbe.cell (p := ⟨ba, oa + k * 4, none⟩) hba).trans a0
      have A1 := (hbe.cell (p := ⟨ba, oa + k * 4 + 1, none⟩) hba).trans a1
      have A2 := (hbe.cell (p := ⟨ba, oa + k * 4 + 2, none⟩) hba).trans a2
      have A3 := (hbe.cell (p := ⟨ba, oa + k * 4 + 3, none⟩) hba).trans a3
      have B0 := (hbe.cell (p := ⟨bb, ob + k * 4, none⟩) hbb).trans b0
      have B1 := (hbe.cell (p := ⟨bb, ob + k * 4 + 1, none⟩) hbb).trans b1
      have B2 := (hbe.cell (p := ⟨bb, ob + k * 4 + 2, none⟩) hbb).trans b2
      have B3 := (hbe.cell (p := ⟨bb, ob + k * 4 + 3, none⟩) hbb).trans b3
      have hbk := kid_bulk n ks k hlt
      have HC : Hid (∀ wx : World, Below wr.heap.size wr wx → Calls Tryz.prog 71 #[.agg #[x0, x1, x2, x3], .agg #[y0, y1, y2, y3]] wx fun e w' => e = .returned (.bool true) ∧ Below wx.heap.size wx w') := fun wx hx => IH.out _ _ _ wx ((hta.below hbe).below hx) ((htb.below hbe).below hx) (by unfold rowBulk at hkl; omega)
      clear a0 a1 a2 a3 b0 b1 b2 b3 HEA HEB IH hta htb hbk
      have hk0 : (0 : Int) ≤ k := by omega
      have hk1 : (k : Int) < ks.length := by omega
      go_wp2_with fail
      go_region_with (go_at_call 71; refine (HC.out _ ((Below.refl _ _).drew)).mono ?_; rintro e w2 ⟨rfl, hb2⟩)
      all_goals
        go_wp2_with fail
        go_roundw
        case rel => exact ⟨k + 1, by omega, by go_num, hbe.trans ((((Below.refl _ _).drew).trans hb2).mono hbe.size)⟩
        case measure => simp [intOf]; omega
    · clear HEA HEB IH
      go_wp2_with fail
      go_ret
      exact ⟨rfl, hbe⟩

set_option maxHeartbeats 800000 in
set_option maxRecDepth 100000 in
theorem lawsEqTy (n : Nat) : ∀ (ca cb : List Value) (t : Ty) (w : World), TyAt w n ca t → TyAt w n cb t → Ty.bulk n t ≤ 1048576 →
    Calls Tryz.prog 71 #[.agg ca.toArray, .agg cb.toArray] w fun e w' => e = .returned (.bool true) ∧ Below w.heap.size w w' := by
  induction n with
  | zero => intro ca cb t w h; exact h.elim
  | succ n ih =>
    intro ca cb t w hA hB hbk
    obtain ⟨an, ak, rfl, _, _, ⟨hTa, _, _⟩, _, hra⟩ := hA
    obtain ⟨bn, bk, rfl, _, _, ⟨hTb, _, _⟩, _, hrb⟩ := hB
    rw [Ty.bulk, bulk_texts] at hbk
    have hB2 : Below w.heap.size w ((w.alloc (.cells #[.int .i64 t.kind, .string t.name, an, ak] 40)).alloc (.cells #[.int .i64 t.kind, .string t.name, bn, bk] 40)) := ((Below.refl _ _).alloc (Nat.le_refl _) _).alloc (by simp) _
    have HN : Hid (Calls Tryz.prog 95 #[an, bn] ((w.alloc (.cells #[.int .i64 t.kind, .string t.name, an, ak] 40)).alloc (.cells #[.int .i64 t.kind, .string t.name, bn, bk] 40)) fun e w' => e = .returned (.bool true) ∧ Below ((w.alloc (.cells #[.int .i64 t.kind, .string t.name, an, ak] 40)).alloc (.cells #[.int .i64 t.kind, .string t.name, bn, bk] 40)).heap.size ((w.alloc (.cells #[.int .i64 t.kind, .string t.name, an, ak] 40)).alloc (.cells #[.int .i64 t.kind, .string t.name, bn, bk] 40)) w') := lawsEq an bn t.names _ (hTa.below hB2) (hTb.below hB2) (by omega)
    have HK : Hid (∀ wx : World, Below ((w.alloc (.cells #[.int .i64 t.kind, .string t.name, an, ak] 40)).alloc (.cells #[.int .i64 t.kind, .string t.name, bn, bk] 40)).heap.size ((w.alloc (.cells #[.int .i64 t.kind, .string t.name, an, ak] 40)).alloc (.cells #[.int .i64 t.kind, .string t.name, bn, bk] 40)) wx → Calls Tryz.prog 96 #[ak, bk] wx fun e w' => e = .returned (.bool true) ∧ Below wx.heap.size wx w') := fun wx hx => by
      have hbx : Below w.heap.size w wx := hB2.trans (hx.mono (by simp; omega))
      exact lawsEqRow n ih ak bk t.kids wx (hra.below hbx fun cs t _ h => h.below hbx) (hrb.below hbx fun cs t _ h => h.below hbx) (by unfold rowBulk; omega)
    clear hTa hTb hra hrb ih hbk
    go_enter Tryz.func71, Tryz.ntmps71
    go_wp2_with fail
    refine HN.out.mono ?_
    rintro e w2 ⟨rfl, hb2⟩
    obtain ⟨bc, bf⟩ := bcellT hb2
    have hz : w.heap.size + 1 < w2.heap.size := by have := hb2.size; simp at this; omega
    go_wp2_with fail
    refine (HK.out _ hb2).mono ?_
    rintro e w3 ⟨rfl, hb3⟩
    go_wp2_with fail
    go_ret
    exact ⟨rfl, hB2.trans ((hb2.mono (by simp; omega)).trans (hb3.mono (by omega)))⟩

end Go.Proofs.YtmbjknholcmpmaaGreatDoor

namespace Go.Proofs.YtmbjknholcmpmaaGreatDoor
open Go.RowKit

/-- texts one behind the other, with another between -/
def joinP (sep : ByteArray) : List ByteArray → ByteArray
  | [] => ⟨#[]⟩
  | a :: r => r.foldl (fun o x => o ++ sep ++ x) a
theorem joinP_snoc (sep : ByteArray) (l : List ByteArray) (x : ByteArray) (h : l ≠ []) : joinP sep (l ++ [x]) = joinP sep l ++ sep ++ x := by
  cases l with
  | nil => exact absurd rfl h
  | cons a r => simp [joinP]
theorem joinP_more (sep : ByteArray) (l : List ByteArray) (k : Nat) (h : k < l.length) (h0 : 0 < k) : joinP sep (l.take (k + 1)) = joinP sep (l.take k) ++ sep ++ l[k] := by
  rw [List.take_succ_eq_append_getElem h, joinP_snoc]
  intro e
  have h1 : (l.take k).length = 0 := by rw [e]; rfl
  rw [List.length_take] at h1
  omega
theorem joinP_one (sep : ByteArray) (l : List ByteArray) (h : 0 < l.length) : joinP sep (l.take (0 + 1)) = l[0] := by
  cases l with
  | nil => simp at h
  | cons a r => simp [joinP]

def sizes (l : List ByteArray) : Nat := (l.map (·.size)).sum
theorem foldl_size (sep : ByteArray) (r : List ByteArray) (a : ByteArray) : (r.foldl (fun o x => o ++ sep ++ x) a).size = a.size + (sizes r + sep.size * r.length) := by
  induction r generalizing a with
  | nil => simp [sizes]
  | cons x r ih =>
    rw [List.foldl_cons, ih]
    unfold sizes
    simp only [List.map_cons, List.sum_cons, List.length_cons, ByteArray.size_append, Nat.mul_add, Nat.mul_one]
    omega
theorem joinP_size (sep : ByteArray) (l : List ByteArray) : (joinP sep l).size ≤ sizes l + sep.size * l.length := by
  cases l with
  | nil => exact Nat.zero_le _
  | cons a r =>
    unfold joinP
    rw [foldl_size]
    unfold sizes
    simp only [List.map_cons, List.sum_cons, List.length_cons, Nat.mul_add]
    omega
theorem sizes_take (l : List ByteArray) (k : Nat) : sizes (l.take k) ≤ sizes l := by
  unfold sizes
  have : l.map (·.size) = (l.take k).map (·.size) ++ (l.drop k).map (·.size) := by rw [← List.map_append, List.take_append_drop]
  rw [this, List.sum_append]
  omega
theorem joinP_take (sep : ByteArray) (l : List ByteArray) (k : Nat) : (joinP sep (l.take k)).size ≤ sizes l + sep.size * l.length := by
  have h1 := joinP_size sep (l.take k)
  have h2 := sizes_take l k
  have h3 : sep.size * (l.take k).length ≤ sep.size * l.length := Nat.mul_le_mul_left _ (by rw [List.length_take]; omega)
  omega

/-- in round brackets -/
def roundB (s : ByteArray) : ByteArray := ⟨#[40]⟩ ++ s ++ ⟨#[41]⟩
/-- in round brackets, where it is of that kind -/
def roundP (k : Int) (t : Ty) (s : ByteArray) : ByteArray := if t.kind = k then roundB s else s
theorem roundP_size (k : Int) (t : Ty) (s : ByteArray) : (roundP k t s).size ≤ s.size + 2 := by
  unfold roundP roundB
  split
  · simp only [ByteArray.size_append]
    show 1 + s.size + 1 ≤ _
    omega
  · omega

/-- a record's fields -/
def fieldsP (f : Ty → ByteArray) (names : List ByteArray) (kids : List Ty) : List ByteArray := List.zipWith (fun x t => x ++ ⟨#[58, 32]⟩ ++ f t) names kids

/-- the last of them, where there is one -/
def lastTy (ks : List Ty) : Ty := ks.getLastD (.mk 0 ⟨#[]⟩ [] [])

/-- a type's text: to a depth -/
def Ty.text : Nat → Ty → ByteArray
  | 0, _ => ⟨#[]⟩
  | n + 1, t =>
    if t.kind = 0 then ⟨#[105, 110, 116]⟩ else if t.kind = 1 then ⟨#[116, 101, 120, 116]⟩ else if t.kind = 2 then ⟨#[98, 111, 111, 108]⟩ else if t.kind = 3 then ⟨#[97, 110, 121]⟩
    else if t.kind = 4 then t.name
    else if t.kind = 5 then ⟨#[123]⟩ ++ joinP ⟨#[44, 32]⟩ (fieldsP (Ty.text n) t.names t.kids) ++ ⟨#[125]⟩
    else if t.kind = 6 then ⟨#[40]⟩ ++ joinP ⟨#[44, 32]⟩ (t.kids.dropLast.map (Ty.text n)) ++ ⟨#[41, 32, 45, 62, 32]⟩ ++ roundP 7 (lastTy t.kids) (Ty.text n (lastTy t.kids))
    else joinP ⟨#[32, 124, 32]⟩ (t.kids.map fun k => roundP 6 k (Ty.text n k))

theorem kids_text {n : Nat} (ih : ∀ t, (Ty.text n t).size ≤ 40 * Ty.bulk n t + 20) (ks : List Ty) : sizes (ks.map (Ty.text n)) ≤ 40 * (ks.map (Ty.bulk n)).sum + 20 * ks.length := by
  induction ks with
  | nil => simp [sizes]
  | cons k r ihr =>
    have := ih k
    unfold sizes at ihr ⊢
    simp only [List.map_cons, List.sum_cons, List.length_cons]
    omega
theorem kids_round {n : Nat} (c : Int) (ks : List Ty) : sizes (ks.map fun k => roundP c k (Ty.text n k)) ≤ sizes (ks.map (Ty.text n)) + 2 * ks.length := by
  induction ks with
  | nil => simp [sizes]
  | cons k r ihr =>
    have := roundP_size c k (Ty.text n k)
    unfold sizes at ihr ⊢
    simp only [List.map_cons, List.sum_cons, List.length_cons]
    omega
theorem kids_fields {n : Nat} (names : List ByteArray) (ks : List Ty) : sizes (fieldsP (Ty.text n) names ks) ≤ Ty.textsBulk names + sizes (ks.map (Ty.text n)) + 2 * ks.length ∧ (fieldsP (Ty.text n) names ks).length ≤ ks.length := by
  induction ks generalizing names with
  | nil => cases names <;> simp [fieldsP, sizes]
  | cons k r ihr =>
    cases names with
    | nil => simp [fieldsP, sizes]
    | cons x xs =>
      obtain ⟨h1, h2⟩ := ihr xs
      unfold fieldsP at h1 h2 ⊢
      unfold sizes at h1 ⊢
      simp only [List.zipWith_cons_cons, List.map_cons, List.sum_cons, List.length_cons, ByteArray.size_append, Ty.textsBulk]
      have : (⟨#[58, 32]⟩ : ByteArray).size = 2 := rfl
      omega
theorem dropLast_text {n : Nat} (ks : List Ty) (h : ks ≠ []) : sizes (ks.dropLast.map (Ty.text n)) + (Ty.text n (lastTy ks)).size = sizes (ks.map (Ty.text n)) := by
  unfold lastTy
  conv => rhs; rw [← List.dropLast_concat_getLast h]
  unfold sizes
  rw [List.getLastD_eq_getLast?, List.getLast?_eq_some_getLast h]
  simp

theorem text_size (n : Nat) : ∀ t, (Ty.text n t).size ≤ 40 * Ty.bulk n t + 20 := by
  induction n with
  | zero => intro t; show 0 ≤ _; omega
  | succ n ih =>
    intro t
    have hk := kids_text ih t.kids
    have hr := kids_round (n := n) 6 t.kids
    have hf := kids_fields (n := n) t.names t.kids
    unfold Ty.text
    rw [Ty.bulk]
    repeat' split
    · show 3 ≤ _; omega
    · show 4 ≤ _; omega
    · show 4 ≤ _; omega
    · show 3 ≤ _; omega
    · omega
    · have := joinP_size ⟨#[44, 32]⟩ (fieldsP (Ty.text n) t.names t.kids)
      simp only [ByteArray.size_append]
      have e1 : (⟨#[44, 32]⟩ : ByteArray).size = 2 := rfl
      have e2 : (⟨#[123]⟩ : ByteArray).size = 1 := rfl
      have e3 : (⟨#[125]⟩ : ByteArray).size = 1 := rfl
      rw [e1] at this
      omega
    · have h1 := joinP_size ⟨#[44, 32]⟩ (t.kids.dropLast.map (Ty.text n))
      have h2 := roundP_size 7 (lastTy t.kids) (Ty.text n (lastTy t.kids))
      simp only [ByteArray.size_append]
      have e1 : (⟨#[44, 32]⟩ : ByteArray).size = 2 := rfl
      have e2 : (⟨#[40]⟩ : ByteArray).size = 1 := rfl
      have e3 : (⟨#[41, 32, 45, 62, 32]⟩ : ByteArray).size = 5 := rfl
      rw [e1, List.length_map, List.length_dropLast] at h1
      by_cases h : t.kids = []
      · have h4 : (Ty.text n (lastTy t.kids)).size ≤ 3 := by
          rw [h]
          cases n with
          | zero => show 0 ≤ 3; omega
          | succ m => show (Ty.text (m + 1) (.mk 0 ⟨#[]⟩ [] [])).size ≤ 3; unfold Ty.text; rw [if_pos (show (Ty.mk 0 ⟨#[]⟩ [] []).kind = 0 from rfl)]; show 3 ≤ 3; omega
        have h5 : sizes (t.kids.dropLast.map (Ty.text n)) = 0 := by rw [h]; rfl
        have h6 : t.kids.length = 0 := by rw [h]; rfl
        omega
      · have h3 := dropLast_text (n := n) t.kids h
        omega
    · have h1 := joinP_size ⟨#[32, 124, 32]⟩ (t.kids.map fun k => roundP 6 k (Ty.text n k))
      have e1 : (⟨#[32, 124, 32]⟩ : ByteArray).size = 3 := rfl
      rw [e1, List.length_map] at h1
      omega

end Go.Proofs.YtmbjknholcmpmaaGreatDoor
