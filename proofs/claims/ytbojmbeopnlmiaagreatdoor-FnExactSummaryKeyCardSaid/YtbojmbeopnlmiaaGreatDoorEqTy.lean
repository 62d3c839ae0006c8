/-
 The walks of the laws' own helpers eqType and eqTypeS, at two values that hold the same type.
-/
import Derived.Test.YtbojmbeopnlmiaaGreatDoorTyP
import Derived.Deep.RegionWith
namespace Go.Proofs.YtbojmbeopnlmiaaGreatDoor
open Go.RowKit
theorem bcellT {W w1 : World} (hb : Below W.heap.size W w1) : (∀ b o, b < W.heap.size → w1.cell? ⟨b, o, none⟩ = W.cell? ⟨b, o, none⟩) ∧ (∀ b o, b < W.heap.size → w1.frozen? ⟨b, o, none⟩ = W.frozen? ⟨b, o, none⟩) :=
 ⟨fun b o h => hb.cell (p := ⟨b, o, none⟩) h, fun b o h => hb.frozen (p := ⟨b, o, none⟩) h⟩
theorem kid_bulk (n : Nat) (ks : List Ty) (k : Nat) (h : k < ks.length) : Ty.bulk n ks[k] ≤ (ks.map (Ty.bulk n)).sum := by
 have h1 := sum_more n ks k h
 have h2 := sum_le n ks (k + 1)
 omega
theorem rowOpen {w : World} {n : Nat} {v : Value} {ks : List Ty} (hrow : RowAt w (TyAt w n) v ks) : ∃ av capv, v = .slice av ks.length capv ∧ ∀ j (h : j < ks.length), ∃ b off x0 x1 x2 x3, av = some ⟨b, off, none⟩ ∧ b < w.heap.size ∧ TyAt w n [x0, x1, x2, x3] ks[j] ∧ w.cell? ⟨b, off + j * 4, none⟩ = some x0 ∧ w.cell? ⟨b, off + j * 4 + 1, none⟩ = some x1 ∧ w.cell? ⟨b, off + j * 4 + 2, none⟩ = some x2 ∧ w.cell? ⟨b, off + j * 4 + 3, none⟩ = some x3 := by
 rcases hrow with ⟨h, a, cap, e⟩ | ⟨b, off, cap, e, hc⟩
 ·exact ⟨a, cap, by rw [h]; exact e, fun j hj => by rw [h] at hj; simp at hj⟩
 ·refine ⟨_, cap, e, fun j hj => ?_⟩
  obtain ⟨cs', h1, h2⟩ := hc j hj
  have hlen := h1.len
  match cs', hlen with
  | [x0, x1, x2, x3], _ => exact ⟨b, off, x0, x1, x2, x3, rfl, World.block_lt_of_cell? w ⟨b, off + j * 4 + 0, none⟩ (h2 0 x0 rfl), h1, h2 0 x0 rfl, h2 1 x1 rfl, h2 2 x2 rfl, h2 3 x3 rfl⟩
set_option maxHeartbeats 800000 in
set_option maxRecDepth 100000 in
theorem lawsEqRow (n : Nat) (ih : ∀ (ca cb : List Value) (t : Ty) (w : World), TyAt w n ca t → TyAt w n cb t → Ty.bulk n t ≤ 1048576 →
   Calls Tryz.prog 10 #[.agg ca.toArray, .agg cb.toArray] w fun e w' => e = .returned (.bool true) ∧ Below w.heap.size w w')
  (va vb : Value) (ks : List Ty) (w : World) (hA : RowAt w (TyAt w n) va ks) (hB : RowAt w (TyAt w n) vb ks) (hkl : rowBulk n ks ≤ 1048576) :
  Calls Tryz.prog 28 #[va, vb] w fun e w' => e = .returned (.bool true) ∧ Below w.heap.size w w' := by
 obtain ⟨a, capa, rfl, ha⟩ := rowOpen hA
 obtain ⟨b, capb, rfl, hb⟩ := rowOpen hB
 have HEA : Hid (type_of% ha) := ha
 have HEB : Hid (type_of% hb) := hb
 have IH : Hid (∀ (ca cb : List Value) (t : Ty) (w : World), TyAt w n ca t → TyAt w n cb t → Ty.bulk n t ≤ 1048576 → Calls Tryz.prog 10 #[.agg ca.toArray, .agg cb.toArray] w fun e w' => e = .returned (.bool true) ∧ Below w.heap.size w w') := ih
 have hlen : ks.length ≤ 1048576 := by unfold rowBulk at hkl; omega
 clear hA hB ha hb ih
 go_enter Tryz.func28, Tryz.ntmps28
 go_wp2_with fail
 go_loopw [5] (fun i wr => ∃ k : Nat, k ≤ ks.length ∧ i = .int .i64 k ∧ Below w.heap.size w wr) (fun i _ => ks.length - (intOf i).toNat)
 case atStart => exact ⟨0, Nat.zero_le _, rfl, Below.refl _ _⟩
 case round =>
  obtain ⟨k, hk, rfl, hbe⟩ := hrel
  by_cases hlt : k < ks.length
  ·obtain ⟨ba, oa, x0, x1, x2, x3, rfl, hba, hta, a0, a1, a2, a3⟩ := HEA.out k hlt
   obtain ⟨bb, ob, y0, y1, y2, y3, rfl, hbb, htb, b0, b1, b2, b3⟩ := HEB.out k hlt
   have A0 := (hbe.cell (p := ⟨ba, oa + k * 4, none⟩) hba).trans a0
   have A1 := (hbe.cell (p := ⟨ba, oa + k * 4 + 1, none⟩) hba).trans a1
   have A2 := (hbe.cell (p := ⟨ba, oa + k * 4 + 2, none⟩) hba).trans a2
   have A3 := (hbe.cell (p := ⟨ba, oa + k * 4 + 3, none⟩) hba).trans a3
   have B0 := (hbe.cell (p := ⟨bb, ob + k * 4, none⟩) hbb).trans b0
   have B1 := (hbe.cell (p := ⟨bb, ob + k * 4 + 1, none⟩) hbb).trans b1
   have B2 := (hbe.cell (p := ⟨bb, ob + k * 4 + 2, none⟩) hbb).trans b2
   have B3 := (hbe.cell (p := ⟨bb, ob + k * 4 + 3, none⟩) hbb).trans b3
   have hbk := kid_bulk n ks k hlt
   have HC : Hid (∀ wx : World, Below wr.heap.size wr wx → Calls Tryz.prog 10 #[.agg #[x0, x1, x2, x3], .agg #[y0, y1, y2, y3]] wx fun e w' => e = .returned (.bool true) ∧ Below wx.heap.size wx w') := fun wx hx => IH.out _ _ _ wx ((hta.below hbe).below hx) ((htb.below hbe).below hx) (by unfold rowBulk at hkl; omega)
   clear a0 a1 a2 a3 b0 b1 b2 b3 HEA HEB IH hta htb hbk
   have hk0 : (0 : Int) ≤ k := by omega
   have hk1 : (k : Int) < ks.length := by omega
   go_wp2_with fail
   go_region_with (go_at_call 10; refine (HC.out _ ((Below.refl _ _).drew)).mono ?_; rintro e w2 ⟨rfl, hb2⟩)
   all_goals
    go_wp2_with fail
    go_roundw
    case rel => exact ⟨k + 1, by omega, by go_num, hbe.trans ((((Below.refl _ _).drew).trans hb2).mono hbe.size)⟩
    case measure => simp [intOf]; omega
  ·clear HEA HEB IH
   go_wp2_with fail
   go_ret
   exact ⟨rfl, hbe⟩
set_option maxHeartbeats 800000 in
set_option maxRecDepth 100000 in
theorem lawsEqTy (n : Nat) : ∀ (ca cb : List Value) (t : Ty) (w : World), TyAt w n ca t → TyAt w n cb t → Ty.bulk n t ≤ 1048576 →
  Calls Tryz.prog 10 #[.agg ca.toArray, .agg cb.toArray] w fun e w' => e = .returned (.bool true) ∧ Below w.heap.size w w' := by
 induction n with
 | zero => intro ca cb t w h; exact h.elim
 | succ n ih =>
  intro ca cb t w hA hB hbk
  obtain ⟨an, ak, rfl, _, _, ⟨hTa, _, _⟩, _, hra⟩ := hA
  obtain ⟨bn, bk, rfl, _, _, ⟨hTb, _, _⟩, _, hrb⟩ := hB
  rw [Ty.bulk, bulk_texts] at hbk
  have hB2 : Below w.heap.size w ((w.alloc (.cells #[.int .i64 t.kind, .string t.name, an, ak] 30)).alloc (.cells #[.int .i64 t.kind, .string t.name, bn, bk] 30)) := ((Below.refl _ _).alloc (Nat.le_refl _) _).alloc (by simp) _
  have HN : Hid (Calls Tryz.prog 27 #[an, bn] ((w.alloc (.cells #[.int .i64 t.kind, .string t.name, an, ak] 30)).alloc (.cells #[.int .i64 t.kind, .string t.name, bn, bk] 30)) fun e w' => e = .returned (.bool true) ∧ Below ((w.alloc (.cells #[.int .i64 t.kind, .string t.name, an, ak] 30)).alloc (.cells #[.int .i64 t.kind, .string t.name, bn, bk] 30)).heap.size ((w.alloc (.cells #[.int .i64 t.kind, .string t.name, an, ak] 30)).alloc (.cells #[.int .i64 t.kind, .string t.name, bn, bk] 30)) w') := lawsEq an bn t.names _ (hTa.below hB2) (hTb.below hB2) (by omega)
  have HK : Hid (∀ wx : World, Below ((w.alloc (.cells #[.int .i64 t.kind, .string t.name, an, ak] 30)).alloc (.cells #[.int .i64 t.kind, .string t.name, bn, bk] 30)).heap.size ((w.alloc (.cells #[.int .i64 t.kind, .string t.name, an, ak] 30)).alloc (.cells #[.int .i64 t.kind, .string t.name, bn, bk] 30)) wx → Calls Tryz.prog 28 #[ak, bk] wx fun e w' => e = .returned (.bool true) ∧ Below wx.heap.size wx w') := fun wx hx => by
   have hbx : Below w.heap.size w wx := hB2.trans (hx.mono (by simp; omega))
   exact lawsEqRow n ih ak bk t.kids wx (hra.below hbx fun cs t _ h => h.below hbx) (hrb.below hbx fun cs t _ h => h.below hbx) (by unfold rowBulk; omega)
  clear hTa hTb hra hrb ih hbk
  go_enter Tryz.func10, Tryz.ntmps10
  go_wp2_with fail
  refine HN.out.mono ?_
  rintro e w2 ⟨rfl, hb2⟩
  obtain ⟨bc, bf⟩ := bcellT hb2
  have hz : w.heap.size + 1 < w2.heap.size := by have := hb2.size; simp at this; omega
  go_wp2_with fail
  refine (HK.out _ hb2).mono ?_
  rintro e w3 ⟨rfl, hb3⟩
  go_wp2_with fail
  go_ret
  exact ⟨rfl, hB2.trans ((hb2.mono (by simp; omega)).trans (hb3.mono (by omega)))⟩
def joinP (sep : ByteArray) : List ByteArray → ByteArray
 | [] => ⟨#[]⟩
 | a :: r => r.foldl (fun o x => o ++ sep ++ x) a
theorem joinP_snoc (sep : ByteArray) (l : List ByteArray) (x : ByteArray) (h : l ≠ []) : joinP sep (l ++ [x]) = joinP sep l ++ sep ++ x := by
 cases l with
 | nil => exact absurd rfl h
 | cons a r => simp [joinP]
theorem joinP_more (sep : ByteArray) (l : List ByteArray) (k : Nat) (h : k < l.length) (h0 : 0 < k) : joinP sep (l.take (k + 1)) = joinP sep (l.take k) ++ sep ++ l[k] := by
 rw [List.take_succ_eq_append_getElem h, joinP_snoc]
 intro e
 have h1 : (l.take k).length = 0 := by rw [e]; rfl
 rw [List.length_take] at h1
 omega
theorem joinP_one (sep : ByteArray) (l : List ByteArray) (h : 0 < l.length) : joinP sep (l.take (0 + 1)) = l[0] := by
 cases l with
 | nil => simp at h
 | cons a r => simp [joinP]
def sizes (l : List ByteArray) : Nat := (l.map (·.size)).sum
theorem foldl_size (sep : ByteArray) (r : List ByteArray) (a : ByteArray) : (r.foldl (fun o x => o ++ sep ++ x) a).size = a.size + (sizes r + sep.size * r.length) := by
 induction r generalizing a with
 | nil => simp [sizes]
 | cons x r ih =>
  rw [List.foldl_cons, ih]
  unfold sizes
  simp only [List.map_cons, List.sum_cons, List.length_cons, ByteArray.size_append, Nat.mul_add, Nat.mul_one]
  omega
theorem joinP_size (sep : ByteArray) (l : List ByteArray) : (joinP sep l).size ≤ sizes l + sep.size * l.length := by
 cases l with
 | nil => exact Nat.zero_le _
 | cons a r =>
  unfold joinP
  rw [foldl_size]
  unfold sizes
  simp only [List.map_cons, List.sum_cons, List.length_cons, Nat.mul_add]
  omega
theorem sizes_take (l : List ByteArray) (k : Nat) : sizes (l.take k) ≤ sizes l := by
 unfold sizes
 have : l.map (·.size) = (l.take k).map (·.size) ++ (l.drop k).map (·.size) := by rw [← List.map_append, List.take_append_drop]
 rw [this, List.sum_append]
 omega
theorem joinP_take (sep : ByteArray) (l : List ByteArray) (k : Nat) : (joinP sep (l.take k)).size ≤ sizes l + sep.size * l.length := by
 have h1 := joinP_size sep (l.take k)
 have h2 := sizes_take l k
 have h3 : sep.size * (l.take k).length ≤ sep.size * l.length := Nat.mul_le_mul_left _ (by rw [List.length_take]; omega)
 omega
def roundB (s : ByteArray) : ByteArray := ⟨#[40]⟩ ++ s ++ ⟨#[41]⟩
def roundP (k : Int) (t : Ty) (s : ByteArray) : ByteArray := if t.kind = k then roundB s else s
theorem roundP_size (k : Int) (t : Ty) (s : ByteArray) : (roundP k t s).size ≤ s.size + 2 := by
 unfold roundP roundB
 split
 ·simp only [ByteArray.size_append]
  show 1 + s.size + 1 ≤ _
  omega
 ·omega
def fieldsP (f : Ty → ByteArray) (names : List ByteArray) (kids : List Ty) : List ByteArray := List.zipWith (fun x t => x ++ ⟨#[58, 32]⟩ ++ f t) names kids
def lastTy (ks : List Ty) : Ty := ks.getLastD (.mk 0 ⟨#[]⟩ [] [])
def Ty.text : Nat → Ty → ByteArray
 | 0, _ => ⟨#[]⟩
 | n + 1, t =>
  if t.kind = 0 then ⟨#[105, 110, 116]⟩ else if t.kind = 1 then ⟨#[116, 101, 120, 116]⟩ else if t.kind = 2 then ⟨#[98, 111, 111, 108]⟩ else if t.kind = 3 then ⟨#[97, 110, 121]⟩
  else if t.kind = 4 then t.name
  else if t.kind = 5 then ⟨#[123]⟩ ++ joinP ⟨#[44, 32]⟩ (fieldsP (Ty.text n) t.names t.kids) ++ ⟨#[125]⟩
  else if t.kind = 6 then ⟨#[40]⟩ ++ joinP ⟨#[44, 32]⟩ (t.kids.dropLast.map (Ty.text n)) ++ ⟨#[41, 32, 45, 62, 32]⟩ ++ roundP 7 (lastTy t.kids) (Ty.text n (lastTy t.kids))
  else joinP ⟨#[32, 124, 32]⟩ (t.kids.map fun k => roundP 6 k (Ty.text n k))
theorem kids_text {n : Nat} (ih : ∀ t, (Ty.text n t).size ≤ 40 * Ty.bulk n t + 20) (ks : List Ty) : sizes (ks.map (Ty.text n)) ≤ 40 * (ks.map (Ty.bulk n)).sum + 20 * ks.length := by
 induction ks with
 | nil => simp [sizes]
 | cons k r ihr =>
  have := ih k
  unfold sizes at ihr ⊢
  simp only [List.map_cons, List.sum_cons, List.length_cons]
  omega
theorem kids_round {n : Nat} (c : Int) (ks : List Ty) : sizes (ks.map fun k => roundP c k (Ty.text n k)) ≤ sizes (ks.map (Ty.text n)) + 2 * ks.length := by
 induction ks with
 | nil => simp [sizes]
 | cons k r ihr =>
  have := roundP_size c k (Ty.text n k)
  unfold sizes at ihr ⊢
  simp only [List.map_cons, List.sum_cons, List.length_cons]
  omega
theorem kids_fields {n : Nat} (names : List ByteArray) (ks : List Ty) : sizes (fieldsP (Ty.text n) names ks) ≤ Ty.textsBulk names + sizes (ks.map (Ty.text n)) + 2 * ks.length ∧ (fieldsP (Ty.text n) names ks).length ≤ ks.length := by
 induction ks generalizing names with
 | nil => cases names <;> simp [fieldsP, sizes]
 | cons k r ihr =>
  cases names with
  | nil => simp [fieldsP, sizes]
  | cons x xs =>
   obtain ⟨h1, h2⟩ := ihr xs
   unfold fieldsP at h1 h2 ⊢
   unfold sizes at h1 ⊢
   simp only [List.zipWith_cons_cons, List.map_cons, List.sum_cons, List.length_cons, ByteArray.size_append, Ty.textsBulk]
   have : (⟨#[58, 32]⟩ : ByteArray).size = 2 := rfl
   omega
theorem dropLast_text {n : Nat} (ks : List Ty) (h : ks ≠ []) : sizes (ks.dropLast.map (Ty.text n)) + (Ty.text n (lastTy ks)).size = sizes (ks.map (Ty.text n)) := by
 unfold lastTy
 conv => rhs; rw [← List.dropLast_concat_getLast h]
 unfold sizes
 rw [List.getLastD_eq_getLast?, List.getLast?_eq_some_getLast h]
 simp
theorem text_size (n : Nat) : ∀ t, (Ty.text n t).size ≤ 40 * Ty.bulk n t + 20 := by
 induction n with
 | zero => intro t; show 0 ≤ _; omega
 | succ n ih =>
  intro t
  have hk := kids_text ih t.kids
  have hr := kids_round (n := n) 6 t.kids
  have hf := kids_fields (n := n) t.names t.kids
  unfold Ty.text
  rw [Ty.bulk]
  repeat' split
  ·show 3 ≤ _; omega
  ·show 4 ≤ _; omega
  ·show 4 ≤ _; omega
  ·show 3 ≤ _; omega
  ·omega
  ·have := joinP_size ⟨#[44, 32]⟩ (fieldsP (Ty.text n) t.names t.kids)
   simp only [ByteArray.size_append]
   have e1 : (⟨#[44, 32]⟩ : ByteArray).size = 2 := rfl
   have e2 : (⟨#[123]⟩ : ByteArray).size = 1 := rfl
   have e3 : (⟨#[125]⟩ : ByteArray).size = 1 := rfl
   rw [e1] at this
   omega
  ·have h1 := joinP_size ⟨#[44, 32]⟩ (t.kids.dropLast.map (Ty.text n))
   have h2 := roundP_size 7 (lastTy t.kids) (Ty.text n (lastTy t.kids))
   simp only [ByteArray.size_append]
   have e1 : (⟨#[44, 32]⟩ : ByteArray).size = 2 := rfl
   have e2 : (⟨#[40]⟩ : ByteArray).size = 1 := rfl
   have e3 : (⟨#[41, 32, 45, 62, 32]⟩ : ByteArray).size = 5 := rfl
   rw [e1, List.length_map, List.length_dropLast] at h1
   by_cases h : t.kids = []
   ·have h4 : (Ty.text n (lastTy t.kids)).size ≤ 3 := by
     rw [h]
     cases n with
     | zero => show 0 ≤ 3; omega
     | succ m => show (Ty.text (m + 1) (.mk 0 ⟨#[]⟩ [] [])).size ≤ 3; unfold Ty.text; rw [if_pos (show (Ty.mk 0 ⟨#[]⟩ [] []).kind = 0 from rfl)]; show 3 ≤ 3; omega
    have h5 : sizes (t.kids.dropLast.map (Ty.text n)) = 0 := by rw [h]; rfl
    have h6 : t.kids.length = 0 := by rw [h]; rfl
    omega
   ·have h3 := dropLast_text (n := n) t.kids h
    omega
  ·have h1 := joinP_size ⟨#[32, 124, 32]⟩ (t.kids.map fun k => roundP 6 k (Ty.text n k))
   have e1 : (⟨#[32, 124, 32]⟩ : ByteArray).size = 3 := rfl
   rw [e1, List.length_map] at h1
   omega
def Ty.fine : Nat → Ty → Prop
 | 0, _ => True
 | n + 1, t => (t.kind = 5 → t.names.length = t.kids.length) ∧ (t.kind = 6 → t.kids ≠ []) ∧ ∀ k ∈ t.kids, Ty.fine n k
def TextAt (n : Nat) : Prop := ∀ (cs : List Value) (t : Ty) (w : World), TyAt w n cs t → Ty.fine n t → Ty.bulk n t ≤ 1048576 →
  Calls Tryz.prog 64 #[.agg cs.toArray] w fun e w' => e = .returned (.string (Ty.text n t)) ∧ Below w.heap.size w w'
theorem cellT {w : World} {cs : Array Value} {t : TypeId} {b : Nat} (i : Nat) (h : b = w.heap.size) : (w.alloc (.cells cs t)).cell? ⟨b, i, none⟩ = cs[i]? := by
 subst h
 simp
set_option maxHeartbeats 800000 in
set_option maxRecDepth 100000 in
theorem specRound (n : Nat) (ih : TextAt n) (cs : List Value) (t : Ty) (c : Int) (w : World) (h : TyAt w n cs t) (hf : Ty.fine n t) (hb : Ty.bulk n t ≤ 1048576) :
  Calls Tryz.prog 93 #[.agg cs.toArray, .int .i64 c] w fun e w' => e = .returned (.string (roundP c t (Ty.text n t))) ∧ Below w.heap.size w w' := by
 have hs := text_size n t
 have hB1 : Below w.heap.size w (w.alloc (.cells cs.toArray 30)) := (Below.refl _ _).alloc (Nat.le_refl _) _
 have HC := ih cs t _ (h.below hB1) hf hb
 obtain ⟨x2, x3, rfl⟩ : ∃ x2 x3, cs = [.int .i64 t.kind, .string t.name, x2, x3] := by
  cases n with
  | zero => exact h.elim
  | succ n => obtain ⟨vn, vk, e, _⟩ := h; exact ⟨vn, vk, e⟩
 have HC2 : Hid (type_of% HC) := HC
 by_cases hk : t.kind = c
 ·have HR : Hid (roundP c t (Ty.text n t) = ⟨#[40]⟩ ++ Ty.text n t ++ ⟨#[41]⟩) := if_pos hk
  have hkb : (t.kind == c) = true := beq_iff_eq.2 hk
  clear HC h hf hk
  generalize Ty.text n t = T at *
  go_enter Tryz.func93, Tryz.ntmps93
  go_wp2_with fail
  refine HC2.out.mono ?_
  rintro e w1 ⟨rfl, hb1⟩
  go_wp2_with fail
  go_ret
  exact ⟨by rw [HR.out]; rfl, hB1.trans (hb1.mono (by simp))⟩
 ·have HR : Hid (roundP c t (Ty.text n t) = Ty.text n t) := if_neg hk
  have hkb : (t.kind == c) = false := beq_eq_false_iff_ne.2 hk
  clear HC h hf hk
  generalize Ty.text n t = T at *
  go_enter Tryz.func93, Tryz.ntmps93
  go_wp2_with fail
  refine HC2.out.mono ?_
  rintro e w1 ⟨rfl, hb1⟩
  go_wp2_with fail
  go_ret
  exact ⟨by rw [HR.out]; rfl, hB1.trans (hb1.mono (by simp))⟩
set_option maxHeartbeats 1600000 in
set_option maxRecDepth 100000 in
theorem specTextPlain (n : Nat) (kd : Int) (nm : ByteArray) (nms : List ByteArray) (ks : List Ty) (vn vk : Value) (w : World) (hk : kd = 0 ∨ kd = 1 ∨ kd = 2 ∨ kd = 3 ∨ kd = 4) :
  Calls Tryz.prog 64 #[.agg #[.int .i64 kd, .string nm, vn, vk]] w fun e w' => e = .returned (.string (Ty.text (n + 1) (.mk kd nm nms ks))) ∧ Below w.heap.size w w' := by
 have hB1 : Below w.heap.size w (w.alloc (.cells #[.int .i64 kd, .string nm, vn, vk] 30)) := (Below.refl _ _).alloc (Nat.le_refl _) _
 rcases hk with rfl | rfl | rfl | rfl | rfl
 ·go_enter Tryz.func64, Tryz.ntmps64
  go_wp2
  go_ret
  exact ⟨rfl, hB1.alloc (by simp) _⟩
 ·go_enter Tryz.func64, Tryz.ntmps64
  go_wp2
  go_ret
  exact ⟨rfl, hB1.alloc (by simp) _⟩
 ·go_enter Tryz.func64, Tryz.ntmps64
  go_wp2
  go_ret
  exact ⟨rfl, hB1.alloc (by simp) _⟩
 ·go_enter Tryz.func64, Tryz.ntmps64
  go_wp2
  go_ret
  exact ⟨rfl, hB1.alloc (by simp) _⟩
 ·go_enter Tryz.func64, Tryz.ntmps64
  go_wp2
  go_ret
  exact ⟨rfl, hB1⟩
theorem empty_cat (s : ByteArray) : (⟨#[]⟩ : ByteArray) ++ s = s := by
 apply ByteArray.ext
 simp
theorem sizes_mem (l : List ByteArray) (x : ByteArray) (h : x ∈ l) : x.size ≤ sizes l := by
 induction l with
 | nil => simp at h
 | cons a r ih =>
  unfold sizes at ih ⊢
  simp only [List.map_cons, List.sum_cons]
  rcases List.mem_cons.1 h with e | m
  ·rw [e]; omega
  ·have := ih m; omega
theorem boxed {w wx : World} {x0 x1 x2 x3 : Value} (hx : Below (w.heap.size + 1) (w.alloc (.cells #[x0, x1, x2, x3] 30)) wx) :
  wx.cell? ⟨w.heap.size, 1, none⟩ = some x1 ∧ wx.cell? ⟨w.heap.size, 2, none⟩ = some x2 ∧ wx.cell? ⟨w.heap.size, 3, none⟩ = some x3 ∧ Below w.heap.size w wx ∧ w.heap.size + 1 ≤ wx.heap.size := by
 refine ⟨?_, ?_, ?_, ((Below.refl _ _).alloc (Nat.le_refl _) _).trans (hx.mono (by omega)), by have := hx.size; simpa using this⟩
 ·rw [hx.cell (p := ⟨w.heap.size, 1, none⟩) (Nat.lt_succ_self _), cellT _ rfl]; rfl
 ·rw [hx.cell (p := ⟨w.heap.size, 2, none⟩) (Nat.lt_succ_self _), cellT _ rfl]; rfl
 ·rw [hx.cell (p := ⟨w.heap.size, 3, none⟩) (Nat.lt_succ_self _), cellT _ rfl]; rfl
set_option maxHeartbeats 1600000 in
set_option maxRecDepth 100000 in
theorem specTextUnion (n : Nat) (ih : TextAt n) (kd : Int) (nm : ByteArray) (ks : List Ty) (vn vk : Value) (w : World) (hrow : RowAt w (TyAt w n) vk ks) (hbk : rowBulk n ks ≤ 1048576) (hf : ∀ k ∈ ks, Ty.fine n k)
  (h0 : kd ≠ 0) (h1 : kd ≠ 1) (h2 : kd ≠ 2) (h3 : kd ≠ 3) (h4 : kd ≠ 4) (h5 : kd ≠ 5) (h6 : kd ≠ 6) :
  Calls Tryz.prog 64 #[.agg #[.int .i64 kd, .string nm, vn, vk]] w fun e w' => e = .returned (.string (joinP ⟨#[32, 124, 32]⟩ (ks.map fun k => roundP 6 k (Ty.text n k)))) ∧ Below w.heap.size w w' := by
 obtain ⟨av, capv, rfl, hel⟩ := rowOpen hrow
 have hlen : ks.length ≤ 1048576 := by unfold rowBulk at hbk; omega
 have hsum : sizes (ks.map fun k => roundP 6 k (Ty.text n k)) + 3 * ks.length ≤ 100000000 := by
  have a1 := kids_round (n := n) 6 ks
  have a2 := kids_text (text_size n) ks
  unfold rowBulk at hbk
  omega
 have HEL : Hid (type_of% hel) := hel
 have HRD : Hid (∀ k (hk : k < ks.length) (cs : List Value) (wx : World), TyAt wx n cs ks[k] → Calls Tryz.prog 93 #[.agg cs.toArray, .int .i64 6] wx fun e w' => e = .returned (.string (roundP 6 ks[k] (Ty.text n ks[k]))) ∧ Below wx.heap.size wx w') := fun k hk cs wx h => specRound n ih cs ks[k] 6 wx h (hf _ (List.getElem_mem hk)) (by have := kid_bulk n ks k hk; unfold rowBulk at hbk; omega)
 obtain ⟨F, hF⟩ : ∃ F, F = ks.map fun k => roundP 6 k (Ty.text n k) := ⟨_, rfl⟩
 have hFl : F.length = ks.length := by rw [hF, List.length_map]
 have HFK : Hid (∀ k (hk : k < ks.length) (hk' : k < F.length), F[k] = roundP 6 ks[k] (Ty.text n ks[k])) := fun k hk hk' => by subst hF; simp
 have HJ : Hid (∀ k (hk : k < F.length), (0 < k → joinP ⟨#[32, 124, 32]⟩ (F.take (k + 1)) = joinP ⟨#[32, 124, 32]⟩ (F.take k) ++ ⟨#[32, 124, 32]⟩ ++ F[k]) ∧ (k = 0 → joinP ⟨#[32, 124, 32]⟩ (F.take (k + 1)) = F[k]) ∧ F[k].size ≤ 100000000) := fun k hk => by
  refine ⟨fun h => joinP_more _ F k hk h, fun h => by subst h; exact joinP_one _ F hk, ?_⟩
  have a1 := joinP_take ⟨#[]⟩ F (k + 1)
  have a2 : F[k].size ≤ sizes F := sizes_mem F _ (List.getElem_mem hk)
  rw [← hF] at hsum
  omega
 have HS : Hid (∀ k, (joinP ⟨#[32, 124, 32]⟩ (F.take k)).size ≤ 100000000) := fun k => by
  have a1 := joinP_take ⟨#[32, 124, 32]⟩ F k
  have e1 : (⟨#[32, 124, 32]⟩ : ByteArray).size = 3 := rfl
  rw [e1, hFl] at a1
  rw [← hF] at hsum
  omega
 rw [← hF]
 have g0 : (kd == 0) = false := beq_eq_false_iff_ne.2 h0
 have g1 : (kd == 1) = false := beq_eq_false_iff_ne.2 h1
 have g2 : (kd == 2) = false := beq_eq_false_iff_ne.2 h2
 have g3 : (kd == 3) = false := beq_eq_false_iff_ne.2 h3
 have g4 : (kd == 4) = false := beq_eq_false_iff_ne.2 h4
 have g5 : (kd == 5) = false := beq_eq_false_iff_ne.2 h5
 have g6 : (kd == 6) = false := beq_eq_false_iff_ne.2 h6
 have HBX : Hid (∀ wx : World, Below (w.heap.size + 1) (w.alloc (.cells #[.int .i64 kd, .string nm, vn, .slice av ks.length capv] 30)) wx → wx.cell? ⟨w.heap.size, 3, none⟩ = some (.slice av ks.length capv) ∧ Below w.heap.size w wx ∧ w.heap.size + 1 ≤ wx.heap.size) := fun wx hx => by
  obtain ⟨_, _, b3, b4, b5⟩ := boxed hx
  exact ⟨b3, b4, b5⟩
 clear hF hsum hrow hel ih hf h0 h1 h2 h3 h4 h5 h6 hbk
 go_enter Tryz.func64, Tryz.ntmps64
 go_wp2_with fail
 go_loopw [3, 7] (fun o i wr => ∃ k : Nat, k ≤ ks.length ∧ i = .int .i64 k ∧ o = .string (joinP ⟨#[32, 124, 32]⟩ (F.take k)) ∧ Below (w.heap.size + 1) (w.alloc (.cells #[.int .i64 kd, .string nm, vn, .slice av ks.length capv] 30)) wr) (fun _ i _ => ks.length - (intOf i).toNat)
 case atStart => exact ⟨0, Nat.zero_le _, rfl, rfl, Below.refl _ _⟩
 case round =>
  obtain ⟨k, hk, rfl, rfl, D⟩ := hrel
  obtain ⟨b3, hbw, hz⟩ := HBX.out wr D
  by_cases hlt : k < ks.length
  ·obtain ⟨b, off, x0, x1, x2, x3, rfl, hba, hta, a0, a1, a2, a3⟩ := HEL.out k hlt
   have A0 := (hbw.cell (p := ⟨b, off + k * 4, none⟩) hba).trans a0
   have A1 := (hbw.cell (p := ⟨b, off + k * 4 + 1, none⟩) hba).trans a1
   have A2 := (hbw.cell (p := ⟨b, off + k * 4 + 2, none⟩) hba).trans a2
   have A3 := (hbw.cell (p := ⟨b, off + k * 4 + 3, none⟩) hba).trans a3
   have HC0 := HRD.out k hlt [x0, x1, x2, x3] wr (hta.below hbw)
   rw [← HFK.out k hlt (by omega)] at HC0
   have HC : Hid (type_of% HC0) := HC0
   obtain ⟨j1, j2, j3⟩ := HJ.out k (by omega)
   have hO := HS.out k
   have hO2 := HS.out (k + 1)
   clear a0 a1 a2 a3 HC0 hta HEL HRD
   generalize F[k]'(by omega) = R at *
   by_cases hk0 : k = 0
   ·have HJ1 : Hid (joinP ⟨#[32, 124, 32]⟩ (F.take (k + 1)) = joinP ⟨#[32, 124, 32]⟩ (F.take k) ++ R) := by
     show _ = _
     rw [j2 hk0, hk0]
     exact (empty_cat R).symm
    have hkp : ¬ (0 : Int) < (k : Int) := by omega
    clear j1 j2 hk0
    generalize hOe : joinP ⟨#[32, 124, 32]⟩ (F.take k) = O at *
    clear hOe
    go_wp2_with fail
    refine HC.out.mono ?_
    rintro e w2 ⟨rfl, hb2⟩
    go_wp2_with fail
    go_roundw
    case rel => exact ⟨k + 1, by omega, by go_num, by rw [HJ1.out], D.trans (hb2.mono hz)⟩
    case measure => simp [intOf]; omega
   ·have HJ1 : Hid (joinP ⟨#[32, 124, 32]⟩ (F.take (k + 1)) = joinP ⟨#[32, 124, 32]⟩ (F.take k) ++ ⟨#[32, 124, 32]⟩ ++ R) := j1 (by omega)
    have hkp : (0 : Int) < (k : Int) := by omega
    clear j1 j2 hk0
    generalize hOe : joinP ⟨#[32, 124, 32]⟩ (F.take k) = O at *
    clear hOe
    go_wp2_with fail
    refine HC.out.mono ?_
    rintro e w2 ⟨rfl, hb2⟩
    go_wp2_with fail
    go_roundw
    case rel => exact ⟨k + 1, by omega, by go_num, by rw [HJ1.out], D.trans (hb2.mono hz)⟩
    case measure => simp [intOf]; omega
  ·have hke : k = F.length := by omega
   rw [hke, List.take_of_length_le (Nat.le_refl _)]
   go_wp2_with fail
   go_ret
   exact ⟨rfl, hbw⟩
set_option maxHeartbeats 1600000 in
set_option maxRecDepth 100000 in
theorem specTextFn (n : Nat) (ih : TextAt n) (nm : ByteArray) (ks : List Ty) (vn vk : Value) (w : World) (hrow : RowAt w (TyAt w n) vk ks) (hbk : rowBulk n ks ≤ 1048576) (hf : ∀ k ∈ ks, Ty.fine n k) (hne : ks ≠ []) :
  Calls Tryz.prog 64 #[.agg #[.int .i64 6, .string nm, vn, vk]] w fun e w' => e = .returned (.string (⟨#[40]⟩ ++ joinP ⟨#[44, 32]⟩ (ks.dropLast.map (Ty.text n)) ++ ⟨#[41, 32, 45, 62, 32]⟩ ++ roundP 7 (lastTy ks) (Ty.text n (lastTy ks)))) ∧ Below w.heap.size w w' := by
 obtain ⟨av, capv, rfl, hel⟩ := rowOpen hrow
 have hlen : ks.length ≤ 1048576 := by unfold rowBulk at hbk; omega
 obtain ⟨m, hm⟩ : ∃ m, ks.length = m + 1 := by
  cases ks with
  | nil => exact absurd rfl hne
  | cons a r => exact ⟨r.length, rfl⟩
 have hlast : lastTy ks = ks[m]'(by omega) := by
  unfold lastTy
  have e : ks.length - 1 = m := by omega
  rw [List.getLastD_eq_getLast?, List.getLast?_eq_getElem?, e, List.getElem?_eq_getElem (by omega)]
  rfl
 obtain ⟨F, hF⟩ : ∃ F, F = ks.dropLast.map (Ty.text n) := ⟨_, rfl⟩
 have hFl : F.length = m := by rw [hF, List.length_map, List.length_dropLast, hm]; rfl
 have hsum : sizes F + 2 * m ≤ 100000000 := by
  have a2 := kids_text (text_size n) ks.dropLast
  have a3 : (ks.dropLast.map (Ty.bulk n)).sum ≤ (ks.map (Ty.bulk n)).sum := by
   have := sum_le n ks m
   rw [List.dropLast_eq_take, hm, Nat.add_sub_cancel]
   exact this
  rw [hF]
  rw [List.length_dropLast, hm, Nat.add_sub_cancel] at a2
  unfold rowBulk at hbk
  omega
 have HEL : Hid (type_of% hel) := hel
 have HTX : Hid (∀ k (hk : k < ks.length) (cs : List Value) (wx : World), TyAt wx n cs ks[k] → Calls Tryz.prog 64 #[.agg cs.toArray] wx fun e w' => e = .returned (.string (Ty.text n ks[k])) ∧ Below wx.heap.size wx w') := fun k hk cs wx h => ih cs ks[k] wx h (hf _ (List.getElem_mem hk)) (by have := kid_bulk n ks k hk; unfold rowBulk at hbk; omega)
 have HRD : Hid (∀ (hk : m < ks.length) (cs : List Value) (wx : World), TyAt wx n cs (ks[m]'hk) → Calls Tryz.prog 93 #[.agg cs.toArray, .int .i64 7] wx fun e w' => e = .returned (.string (roundP 7 (lastTy ks) (Ty.text n (lastTy ks)))) ∧ Below wx.heap.size wx w') := fun hk cs wx h => by
  rw [hlast]
  exact specRound n ih cs _ 7 wx h (hf _ (List.getElem_mem _)) (by have := kid_bulk n ks m (by omega); unfold rowBulk at hbk; omega)
 have hLS : (roundP 7 (lastTy ks) (Ty.text n (lastTy ks))).size ≤ 100000000 := by
  have a1 := roundP_size 7 (lastTy ks) (Ty.text n (lastTy ks))
  have a2 := text_size n (lastTy ks)
  rw [hlast] at a1 a2 ⊢
  have := kid_bulk n ks m (by omega)
  unfold rowBulk at hbk
  omega
 have HFK : Hid (∀ k (hk : k < ks.length) (hk' : k < F.length), F[k] = Ty.text n ks[k]) := fun k hk hk' => by subst hF; simp
 have HJ : Hid (∀ k (hk : k < F.length), (0 < k → joinP ⟨#[44, 32]⟩ (F.take (k + 1)) = joinP ⟨#[44, 32]⟩ (F.take k) ++ ⟨#[44, 32]⟩ ++ F[k]) ∧ (k = 0 → joinP ⟨#[44, 32]⟩ (F.take (k + 1)) = F[k]) ∧ F[k].size ≤ 100000000) := fun k hk => by
  refine ⟨fun h => joinP_more _ F k hk h, fun h => by subst h; exact joinP_one _ F hk, ?_⟩
  have a2 : F[k].size ≤ sizes F := sizes_mem F _ (List.getElem_mem hk)
  omega
 have HS : Hid (∀ k, (joinP ⟨#[44, 32]⟩ (F.take k)).size ≤ 100000000) := fun k => by
  have a1 := joinP_take ⟨#[44, 32]⟩ F k
  have e1 : (⟨#[44, 32]⟩ : ByteArray).size = 2 := rfl
  rw [e1, hFl] at a1
  omega
 rw [← hF]
 generalize roundP 7 (lastTy ks) (Ty.text n (lastTy ks)) = LT at *
 have HBX : Hid (∀ wx : World, Below (w.heap.size + 1) (w.alloc (.cells #[.int .i64 6, .string nm, vn, .slice av (m + 1) capv] 30)) wx → wx.cell? ⟨w.heap.size, 3, none⟩ = some (.slice av (m + 1) capv) ∧ Below w.heap.size w wx ∧ w.heap.size + 1 ≤ wx.heap.size) := fun wx hx => by
  obtain ⟨_, _, b3, b4, b5⟩ := boxed hx
  exact ⟨b3, b4, b5⟩
 have hm20 : m ≤ 1048576 := by omega
 have HM : Hid (ks.length = m + 1) := hm
 rw [hm]
 clear hF hsum hrow hel ih hf hbk hne hlast hm hlen
 go_enter Tryz.func64, Tryz.ntmps64
 go_wp2_with fail
 go_loopw [3, 6] (fun o i wr => ∃ k : Nat, k ≤ m ∧ i = .int .i64 k ∧ o = .string (joinP ⟨#[44, 32]⟩ (F.take k)) ∧ Below (w.heap.size + 1) (w.alloc (.cells #[.int .i64 6, .string nm, vn, .slice av (m + 1) capv] 30)) wr) (fun _ i _ => m - (intOf i).toNat)
 case atStart => exact ⟨0, Nat.zero_le _, rfl, rfl, Below.refl _ _⟩
 case round =>
  obtain ⟨k, hk, rfl, rfl, D⟩ := hrel
  obtain ⟨b3, hbw, hz⟩ := HBX.out wr D
  by_cases hlt : k < m
  ·obtain ⟨b, off, x0, x1, x2, x3, rfl, hba, hta, a0, a1, a2, a3⟩ := HEL.out k (by have := HM.out; omega)
   have A0 := (hbw.cell (p := ⟨b, off + k * 4, none⟩) hba).trans a0
   have A1 := (hbw.cell (p := ⟨b, off + k * 4 + 1, none⟩) hba).trans a1
   have A2 := (hbw.cell (p := ⟨b, off + k * 4 + 2, none⟩) hba).trans a2
   have A3 := (hbw.cell (p := ⟨b, off + k * 4 + 3, none⟩) hba).trans a3
   have HC0 := HTX.out k (by have := HM.out; omega) [x0, x1, x2, x3] wr (hta.below hbw)
   rw [← HFK.out k (by have := HM.out; omega) (by omega)] at HC0
   have HC : Hid (type_of% HC0) := HC0
   obtain ⟨j1, j2, j3⟩ := HJ.out k (by omega)
   have hO := HS.out k
   have hO2 := HS.out (k + 1)
   clear a0 a1 a2 a3 HC0 hta HEL HRD HTX
   generalize F[k]'(by omega) = R at *
   by_cases hk0 : k = 0
   ·have HJ1 : Hid (joinP ⟨#[44, 32]⟩ (F.take (k + 1)) = joinP ⟨#[44, 32]⟩ (F.take k) ++ R) := by
     show _ = _
     rw [j2 hk0, hk0]
     exact (empty_cat R).symm
    have hkp : ¬ (0 : Int) < (k : Int) := by omega
    clear j1 j2 hk0
    generalize hOe : joinP ⟨#[44, 32]⟩ (F.take k) = O at *
    clear hOe
    go_wp2_with fail
    refine HC.out.mono ?_
    rintro e w2 ⟨rfl, hb2⟩
    go_wp2_with fail
    go_roundw
    case rel => exact ⟨k + 1, by omega, by go_num, by rw [HJ1.out], D.trans (hb2.mono hz)⟩
    case measure => simp [intOf]; omega
   ·have HJ1 : Hid (joinP ⟨#[44, 32]⟩ (F.take (k + 1)) = joinP ⟨#[44, 32]⟩ (F.take k) ++ ⟨#[44, 32]⟩ ++ R) := j1 (by omega)
    have hkp : (0 : Int) < (k : Int) := by omega
    clear j1 j2 hk0
    generalize hOe : joinP ⟨#[44, 32]⟩ (F.take k) = O at *
    clear hOe
    go_wp2_with fail
    refine HC.out.mono ?_
    rintro e w2 ⟨rfl, hb2⟩
    go_wp2_with fail
    go_roundw
    case rel => exact ⟨k + 1, by omega, by go_num, by rw [HJ1.out], D.trans (hb2.mono hz)⟩
    case measure => simp [intOf]; omega
  ·have hke : k = m := by omega
   have hFe : F.take k = F := List.take_of_length_le (by omega)
   have hO := HS.out k
   rw [hFe] at hO ⊢
   subst hke
   obtain ⟨b, off, x0, x1, x2, x3, rfl, hba, hta, a0, a1, a2, a3⟩ := HEL.out k (by have := HM.out; omega)
   have A0 := (hbw.cell (p := ⟨b, off + k * 4, none⟩) hba).trans a0
   have A1 := (hbw.cell (p := ⟨b, off + k * 4 + 1, none⟩) hba).trans a1
   have A2 := (hbw.cell (p := ⟨b, off + k * 4 + 2, none⟩) hba).trans a2
   have A3 := (hbw.cell (p := ⟨b, off + k * 4 + 3, none⟩) hba).trans a3
   have HC0 := HRD.out (by have := HM.out; omega) [x0, x1, x2, x3] wr (hta.below hbw)
   have HC : Hid (type_of% HC0) := HC0
   clear a0 a1 a2 a3 HC0 hta HEL HRD HTX hFe
   generalize hOe : joinP ⟨#[44, 32]⟩ F = O at *
   have HOE : Hid (joinP ⟨#[44, 32]⟩ F = O) := hOe
   clear hOe
   go_wp2_with fail
   refine HC.out.mono ?_
   rintro e w2 ⟨rfl, hb2⟩
   go_wp2_with fail
   go_ret
   exact ⟨by rw [HOE.out]; rfl, hbw.trans (hb2.mono (by omega))⟩
end Go.Proofs.YtbojmbeopnlmiaaGreatDoor
