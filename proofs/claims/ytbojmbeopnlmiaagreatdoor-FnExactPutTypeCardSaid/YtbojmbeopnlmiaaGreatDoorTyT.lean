/-
  A type's text, plainly. No program here.
-/
import Derived.Test.YtbojmbeopnlmiaaGreatDoorEqTy
namespace Go.Proofs.YtbojmbeopnlmiaaGreatDoor
open Go.RowKit

/-- texts one behind the other, with another between -/
def joinP (sep : ByteArray) : List ByteArray → ByteArray
  | [] => ⟨#[]⟩
  | a :: r => r.foldl (fun o x => o ++ sep ++ x) a
theorem joinP_snoc (sep : ByteArray) (l : List ByteArray) (x : ByteArray) (h : l ≠ []) : joinP sep (l ++ [x]) = joinP sep l ++ sep ++ x := by
  cases l with
  | nil => exact absurd rfl h
  | cons a r => simp [joinP]
theorem joinP_more (sep : ByteArray) (l : List ByteArray) (k : Nat) (h : k < l.length) (h0 : 0 < k) : joinP sep (l.take (k + 1)) = joinP sep (l.take k) ++ sep ++ l[k] := by
  rw [List.take_succ_eq_append_getElem h, joinP_snoc]
  intro e
  have h1 : (l.take k).length = 0 := by rw [e]; rfl
  rw [List.length_take] at h1
  omega
theorem joinP_one (sep : ByteArray) (l : List ByteArray) (h : 0 < l.length) : joinP sep (l.take (0 + 1)) = l[0] := by
  cases l with
  | nil => simp at h
  | cons a r => simp [joinP]

def sizes (l : List ByteArray) : Nat := (l.map (·.size)).sum
theorem foldl_size (sep : ByteArray) (r : List ByteArray) (a : ByteArray) : (r.foldl (fun o x => o ++ sep ++ x) a).size = a.size + (sizes r + sep.size * r.length) := by
  induction r generalizing a with
  | nil => simp [sizes]
  | cons x r ih =>
    rw [List.foldl_cons, ih]
    unfold sizes
    simp only [List.map_cons, List.sum_cons, List.length_cons, ByteArray.size_append, Nat.mul_add, Nat.mul_one]
    omega
theorem joinP_size (sep : ByteArray) (l : List ByteArray) : (joinP sep l).size ≤ sizes l + sep.size * l.length := by
  cases l with
  | nil => exact Nat.zero_le _
  | cons a r =>
    unfold joinP
    rw [foldl_size]
    unfold sizes
    simp only [List.map_cons, List.sum_cons, List.length_cons, Nat.mul_add]
    omega
theorem sizes_take (l : List ByteArray) (k : Nat) : sizes (l.take k) ≤ sizes l := by
  unfold sizes
  have : l.map (·.size) = (l.take k).map (·.size) ++ (l.drop k).map (·.size) := by rw [← List.map_append, List.take_append_drop]
  rw [this, List.sum_append]
  omega
theorem joinP_take (sep : ByteArray) (l : List ByteArray) (k : Nat) : (joinP sep (l.take k)).size ≤ sizes l + sep.size * l.length := by
  have h1 := joinP_size sep (l.take k)
  have h2 := sizes_take l k
  have h3 : sep.size * (l.take k).length ≤ sep.size * l.length := Nat.mul_le_mul_left _ (by rw [List.length_take]; omega)
  omega

/-- in round brackets -/
def roundB (s : ByteArray) : ByteArray := ⟨#[40]⟩ ++ s ++ ⟨#[41]⟩
/-- in round brackets, where it is of that kind -/
def roundP (k : Int) (t : Ty) (s : ByteArray) : ByteArray := if t.kind = k then roundB s else s
theorem roundP_size (k : Int) (t : Ty) (s : ByteArray) : (roundP k t s).size ≤ s.size + 2 := by
  unfold roundP roundB
  split
  · simp only [ByteArray.size_append]
    show 1 + s.size + 1 ≤ _
    omega
  · omega

/-- a record's fields -/
def fieldsP (f : Ty → ByteArray) (names : List ByteArray) (kids : List Ty) : List ByteArray := List.zipWith (fun x t => x ++ ⟨#[58, 32]⟩ ++ f t) names kids

/-- the last of them, where there is one -/
def lastTy (ks : List Ty) : Ty := ks.getLastD (.mk 0 ⟨#[]⟩ [] [])

/-- a type's text: to a depth -/
def Ty.text : Nat → Ty → ByteArray
  | 0, _ => ⟨#[]⟩
  | n + 1, t =>
    if t.kind = 0 then ⟨#[105, 110, 116]⟩ else if t.kind = 1 then ⟨#[116, 101, 120, 116]⟩ else if t.kind = 2 then ⟨#[98, 111, 111, 108]⟩ else if t.kind = 3 then ⟨#[97, 110, 121]⟩
    else if t.kind = 4 then t.name
    else if t.kind = 5 then ⟨#[123]⟩ ++ joinP ⟨#[44, 32]⟩ (fieldsP (Ty.text n) t.names t.kids) ++ ⟨#[125]⟩
    else if t.kind = 6 then ⟨#[40]⟩ ++ joinP ⟨#[44, 32]⟩ (t.kids.dropLast.map (Ty.text n)) ++ ⟨#[41, 32, 45, 62, 32]⟩ ++ roundP 7 (lastTy t.kids) (Ty.text n (lastTy t.kids))
    else joinP ⟨#[32, 124, 32]⟩ (t.kids.map fun k => roundP 6 k (Ty.text n k))

theorem kids_text {n : Nat} (ih : ∀ t, (Ty.text n t).size ≤ 40 * Ty.bulk n t + 20) (ks : List Ty) : sizes (ks.map (Ty.text n)) ≤ 40 * (ks.map (Ty.bulk n)).sum + 20 * ks.length := by
  induction ks with
  | nil => simp [sizes]
  | cons k r ihr =>
    have := ih k
    unfold sizes at ihr ⊢
    simp only [List.map_cons, List.sum_cons, List.length_cons]
    omega
theorem kids_round {n : Nat} (c : Int) (ks : List Ty) : sizes (ks.map fun k => roundP c k (Ty.text n k)) ≤ sizes (ks.map (Ty.text n)) + 2 * ks.length := by
  induction ks with
  | nil => simp [sizes]
  | cons k r ihr =>
    have := roundP_size c k (Ty.text n k)
    unfold sizes at ihr ⊢
    simp only [List.map_cons, List.sum_cons, List.length_cons]
    omega
theorem kids_fields {n : Nat} (names : List ByteArray) (ks : List Ty) : sizes (fieldsP (Ty.text n) names ks) ≤ Ty.textsBulk names + sizes (ks.map (Ty.text n)) + 2 * ks.length ∧ (fieldsP (Ty.text n) names ks).length ≤ ks.length := by
  induction ks generalizing names with
  | nil => cases names <;> simp [fieldsP, sizes]
  | cons k r ihr =>
    cases names with
    | nil => simp [fieldsP, sizes]
    | cons x xs =>
      obtain ⟨h1, h2⟩ := ihr xs
      unfold fieldsP at h1 h2 ⊢
      unfold sizes at h1 ⊢
      simp only [List.zipWith_cons_cons, List.map_cons, List.sum_cons, List.length_cons, ByteArray.size_append, Ty.textsBulk]
      have : (⟨#[58, 32]⟩ : ByteArray).size = 2 := rfl
      omega
theorem dropLast_text {n : Nat} (ks : List Ty) (h : ks ≠ []) : sizes (ks.dropLast.map (Ty.text n)) + (Ty.text n (lastTy ks)).size = sizes (ks.map (Ty.text n)) := by
  unfold lastTy
  conv => rhs; rw [← List.dropLast_concat_getLast h]
  unfold sizes
  rw [List.getLastD_eq_getLast?, List.getLast?_eq_some_getLast h]
  simp

theorem text_size (n : Nat) : ∀ t, (Ty.text n t).size ≤ 40 * Ty.bulk n t + 20 := by
  induction n with
  | zero => intro t; show 0 ≤ _; omega
  | succ n ih =>
    intro t
    have hk := kids_text ih t.kids
    have hr := kids_round (n := n) 6 t.kids
    have hf := kids_fields (n := n) t.names t.kids
    unfold Ty.text
    rw [Ty.bulk]
    repeat' split
    · show 3 ≤ _; omega
    · show 4 ≤ _; omega
    · show 4 ≤ _; omega
    · show 3 ≤ _; omega
    · omega
    · have := joinP_size ⟨#[44, 32]⟩ (fieldsP (Ty.text n) t.names t.kids)
      simp only [ByteArray.size_append]
      have e1 : (⟨#[44, 32]⟩ : ByteArray).size = 2 := rfl
      have e2 : (⟨#[123]⟩ : ByteArray).size = 1 := rfl
      have e3 : (⟨#[125]⟩ : ByteArray).size = 1 := rfl
      rw [e1] at this
      omega
    · have h1 := joinP_size ⟨#[44, 32]⟩ (t.kids.dropLast.map (Ty.text n))
      have h2 := roundP_size 7 (lastTy t.kids) (Ty.text n (lastTy t.kids))
      simp only [ByteArray.size_append]
      have e1 : (⟨#[44, 32]⟩ : ByteArray).size = 2 := rfl
      have e2 : (⟨#[40]⟩ : ByteArray).size = 1 := rfl
      have e3 : (⟨#[41, 32, 45, 62, 32]⟩ : ByteArray).size = 5 := rfl
      rw [e1, List.length_map, List.length_dropLast] at h1
      by_cases h : t.kids = []
      · have h4 : (Ty.text n (lastTy t.kids)).size ≤ 3 := by
          rw [h]
          cases n with
          | zero => show 0 ≤ 3; omega
          | succ m => show (Ty.text (m + 1) (.mk 0 ⟨#[]⟩ [] [])).size ≤ 3; unfold Ty.text; rw [if_pos (show (Ty.mk 0 ⟨#[]⟩ [] []).kind = 0 from rfl)]; show 3 ≤ 3; omega
        have h5 : sizes (t.kids.dropLast.map (Ty.text n)) = 0 := by rw [h]; rfl
        have h6 : t.kids.length = 0 := by rw [h]; rfl
        omega
      · have h3 := dropLast_text (n := n) t.kids h
        omega
    · have h1 := joinP_size ⟨#[32, 124, 32]⟩ (t.kids.map fun k => roundP 6 k (Ty.text n k))
      have e1 : (⟨#[32, 124, 32]⟩ : ByteArray).size = 3 := rfl
      rw [e1, List.length_map] at h1
      omega

end Go.Proofs.YtbojmbeopnlmiaaGreatDoor
