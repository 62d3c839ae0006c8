/-
  strings.Join and impl.join in plain words; rows of texts that are changed one by one.
-/
import Derived.Test.YthomlchbgcjcfaaGreatDoorTextJ
import Derived.Test.YthomlchbgcjcfaaGreatDoorJoinW
import Derived.Test.YthomlchbgcjcfaaGreatDoorSJoinLib
namespace Go.Proofs.YthomlchbgcjcfaaGreatDoor
open Go.RowKit Go.Shelf

theorem foldl_list (sep : ByteArray) (r : List ByteArray) (a : ByteArray) : (r.foldl (fun o x => o ++ sep ++ x) a).data.toList = a.data.toList ++ Lib.joinTail sep.data.toList (r.map (·.data.toList)) := by
  induction r generalizing a with
  | nil => simp [Lib.joinTail]
  | cons x r ih =>
    rw [List.foldl_cons, ih]
    simp [Lib.joinTail, ByteArray.data_append, List.append_assoc]

theorem joinP_list (sep : ByteArray) (xs : List ByteArray) : Lib.join (xs.map (·.data.toList)) sep.data.toList = (joinP sep xs).data.toList := by
  cases xs with
  | nil => rfl
  | cons a r => rw [List.map_cons, Lib.join_cons]; exact (foldl_list sep r a).symm

theorem bytes_back (b : ByteArray) : (⟨b.data.toList.toArray⟩ : ByteArray) = b := by
  cases b with
  | mk d => simp

theorem stringsJoinOwn {B : Nat} (v : Value) (m : Nat) (xs : List ByteArray) (sep : ByteArray) (w : World) (hm : m = xs.length) (h : w.ownsRow B 9 1 v m (strV xs)) (hl : xs.length ≤ 1048576) (hsz : (joinP sep xs).size ≤ 140737488355328) :
    Calls Tryz.prog 83 #[v, .string sep] w fun e w' => e = .returned (.string (joinP sep xs)) ∧ Below w.heap.size w w' := by
  subst hm
  rcases h.2 with ⟨hv, h0⟩ | ⟨g, cap, cur, hv, hg, hh, hnc, _⟩
  · subst hv
    have hx : xs = [] := List.length_eq_zero_iff.1 h0
    subst hx
    exact (Tryz.strings_Join_none none 0 sep w).mono fun e w' ⟨he, hw⟩ => ⟨he, hw ▸ Below.refl _ _⟩
  · subst hv
    have hgl : g < w.heap.size := (Array.getElem?_eq_some_iff.1 hh).1
    refine (Tryz.strings_Join g 0 cap xs sep w (fun j x hj => ?_) hgl (by omega) hnc (by rw [joinP_list]; exact hsz)).mono fun e w' ⟨he, hw⟩ => ⟨?_, hw⟩
    · obtain ⟨hj', e⟩ := List.getElem?_eq_some_iff.1 hj
      rw [Nat.zero_add, h.cellAt j (by omega), strV_get xs j hj', e]
    · rw [he, joinP_list, bytes_back]

theorem cat3L (a b c : ByteArray) : (⟨(catL [a, b, c]).toArray⟩ : ByteArray) = a ++ b ++ c := by
  have : catL [a, b, c] = (a ++ b ++ c).data.toList := by simp [catL, ByteArray.data_append]
  rw [this, bytes_back]
theorem cat4L (a b c d : ByteArray) : (⟨(catL [a, b, c, d]).toArray⟩ : ByteArray) = a ++ b ++ c ++ d := by
  have : catL [a, b, c, d] = (a ++ b ++ c ++ d).data.toList := by simp [catL, ByteArray.data_append]
  rw [this, bytes_back]

theorem join3 (a b c : ByteArray) (g : Nat) (w : World) (hg : g = w.heap.size) (ha : a.size ≤ 1000000000000) (hb : b.size ≤ 1000000000000) (hc : c.size ≤ 1000000000000) :
    Calls Tryz.prog 57 #[.slice (some ⟨g, 0, none⟩) 3 3] (w.alloc (.cells #[.string a, .string b, .string c] 9)) fun e w' => e = .returned (.string (a ++ b ++ c)) ∧ Below w.heap.size w w' := by
  subst hg
  have hB : Below w.heap.size w (w.alloc (.cells #[.string a, .string b, .string c] 9)) := (Below.refl _ _).alloc (Nat.le_refl _) _
  refine (implJoin w.heap.size 0 3 [a, b, c] _ (fun j hj => ?_) ?_ (by simp)).mono fun e w' hh => ⟨?_, hB.trans (hh.2.mono (by simp))⟩
  · rw [Nat.zero_add]
    match j, hj with
    | 0, _ => exact cellNew 0 rfl
    | 1, _ => exact cellNew 1 rfl
    | 2, _ => exact cellNew 2 rfl
  · simp [catL]; omega
  · rw [hh.1, cat3L]

theorem join4 (a b c d : ByteArray) (g : Nat) (w : World) (hg : g = w.heap.size) (ha : a.size ≤ 1000000000000) (hb : b.size ≤ 1000000000000) (hc : c.size ≤ 1000000000000) (hd : d.size ≤ 1000000000000) :
    Calls Tryz.prog 57 #[.slice (some ⟨g, 0, none⟩) 4 4] (w.alloc (.cells #[.string a, .string b, .string c, .string d] 9)) fun e w' => e = .returned (.string (a ++ b ++ c ++ d)) ∧ Below w.heap.size w w' := by
  subst hg
  have hB : Below w.heap.size w (w.alloc (.cells #[.string a, .string b, .string c, .string d] 9)) := (Below.refl _ _).alloc (Nat.le_refl _) _
  refine (implJoin w.heap.size 0 4 [a, b, c, d] _ (fun j hj => ?_) ?_ (by simp)).mono fun e w' hh => ⟨?_, hB.trans (hh.2.mono (by simp))⟩
  · rw [Nat.zero_add]
    match j, hj with
    | 0, _ => exact cellNew 0 rfl
    | 1, _ => exact cellNew 1 rfl
    | 2, _ => exact cellNew 2 rfl
    | 3, _ => exact cellNew 3 rfl
  · simp [catL]; omega
  · rw [hh.1, cat4L]

/-- the first k are told already, the others not yet -/
def mixB (F T : List ByteArray) (k : Nat) : List ByteArray := F.take k ++ T.drop k
theorem mixB_len (F T : List ByteArray) (k : Nat) (h : F.length = T.length) : (mixB F T k).length = T.length := by
  unfold mixB
  rw [List.length_append, List.length_take, List.length_drop]
  omega
theorem mixB_get (F T : List ByteArray) (k : Nat) (h : F.length = T.length) (hk : k < T.length) : (strV (mixB F T k))[k]? = some (.string T[k]) := by
  have hl := mixB_len F T k h
  rw [strV_get _ _ (by omega)]
  congr 2
  unfold mixB
  rw [List.getElem_append_right (by rw [List.length_take]; omega), List.getElem_drop]
  congr 1
  rw [List.length_take]
  omega
theorem mixB_next (F T : List ByteArray) (k : Nat) (hF : k < F.length) (hT : k < T.length) (e : F[k] = T[k]) : mixB F T (k + 1) = mixB F T k := by
  unfold mixB
  rw [List.take_succ_eq_append_getElem hF, List.drop_eq_getElem_cons hT, e, List.append_assoc]
  rfl
theorem mixB_set (F T : List ByteArray) (k : Nat) (hF : k < F.length) (hT : k < T.length) : (strV (mixB F T k)).set k (.string F[k]) = strV (mixB F T (k + 1)) := by
  have hl : (strV (F.take k)).length = k := by simp [strV]; omega
  have e1 : strV (mixB F T k) = strV (F.take k) ++ strV (T.drop k) := by unfold mixB strV; rw [List.map_append]
  have e2 : strV (T.drop k) = .string T[k] :: strV (T.drop (k + 1)) := by unfold strV; rw [List.drop_eq_getElem_cons hT]; rfl
  have e3 : strV (mixB F T (k + 1)) = strV (F.take k) ++ .string F[k] :: strV (T.drop (k + 1)) := by
    have : mixB F T (k + 1) = F.take k ++ F[k] :: T.drop (k + 1) := by unfold mixB; rw [List.take_succ_eq_append_getElem hF, List.append_assoc]; rfl
    rw [this]; unfold strV; rw [List.map_append, List.map_cons]
  rw [e1, e2, e3, List.set_append_right _ _ (by omega), hl, Nat.sub_self, List.set_cons_zero]
theorem mixB_zero (F T : List ByteArray) : mixB F T 0 = T := by simp [mixB]
theorem mixB_all (F T : List ByteArray) (h : F.length = T.length) : mixB F T T.length = F := by
  unfold mixB
  rw [List.take_of_length_le (by omega), List.drop_eq_nil_of_le (Nat.le_refl _), List.append_nil]

theorem rowText_size (n : Nat) (ks : List Ty) (h : rowBulk n ks ≤ 1048576) : sizes (textsP n ks) ≤ 100000000 := by
  have := kids_text (text_size n) ks
  unfold rowBulk at h
  unfold textsP
  omega
theorem oneText_size (n : Nat) (ks : List Ty) (h : rowBulk n ks ≤ 1048576) (k : Nat) (hk : k < ks.length) : (Ty.text n ks[k]).size ≤ 100000000 := by
  have h1 := text_size n ks[k]
  have h2 := kid_bulk n ks k hk
  unfold rowBulk at h
  omega

end Go.Proofs.YthomlchbgcjcfaaGreatDoor
