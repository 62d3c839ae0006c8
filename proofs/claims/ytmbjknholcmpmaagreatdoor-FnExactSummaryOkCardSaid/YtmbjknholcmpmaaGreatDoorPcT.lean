/-
  The pieces of a form's text, one behind the other, are its type's text. No program here.
-/
import Derived.Test.YtmbjknholcmpmaaGreatDoorMkK
namespace Go.Proofs.YtmbjknholcmpmaaGreatDoor
open Go.RowKit

/-- the text of the form of a number -/
def txtAt (F : List FRec) (i : Nat) : List UInt8 := match F[i]? with
  | some r => bt r.ty.txt
  | none => []
theorem txtAt_some {F : List FRec} {i : Nat} {r : FRec} (h : F[i]? = some r) : txtAt F i = bt r.ty.txt := by unfold txtAt; rw [h]
def Pc.txt (F : List FRec) (p : Pc) : List UInt8 := match p.f with
  | none => bt p.s
  | some i => txtAt F i
def pcsTxt (F : List FRec) (ps : List Pc) : List UInt8 := ps.flatMap (Pc.txt F)
theorem pcsTxt_app (F : List FRec) (a b : List Pc) : pcsTxt F (a ++ b) = pcsTxt F a ++ pcsTxt F b := by simp [pcsTxt]
theorem pcsTxt_cons (F : List FRec) (p : Pc) (b : List Pc) : pcsTxt F (p :: b) = p.txt F ++ pcsTxt F b := by simp [pcsTxt]
theorem pcT_txt (F : List FRec) (s : ByteArray) : (pcT s).txt F = bt s := rfl
theorem pcF_txt (F : List FRec) (i : Nat) : (pcF i).txt F = txtAt F i := rfl

theorem kid_txt {F : List FRec} {ks : List Nat} {ts : List Ty} (h : KidsOf F ks ts) : ks.map (txtAt F) = ts.map fun t => bt t.txt := by
  refine List.ext_getElem (by rw [List.length_map, List.length_map, h.1]) fun j h1 h2 => ?_
  rw [List.getElem_map, List.getElem_map]
  have hj : j < ks.length := by rw [List.length_map] at h1; exact h1
  have hj2 : j < ts.length := by rw [List.length_map] at h2; exact h2
  obtain ⟨r, q1, q2⟩ := h.2 j hj
  rw [List.getElem?_eq_getElem hj2, Option.some.injEq] at q2
  rw [txtAt_some q1, q2]

theorem bt_comma (i : Nat) : bt (commaB (i + 1)) = [44, 32] := by unfold commaB; rw [if_pos (by omega)]; rfl
theorem bt_comma0 : bt (commaB 0) = [] := by unfold commaB; rw [if_neg (by omega)]; rfl

theorem rec_tail (F : List FRec) (xs : List ByteArray) (ks : List Nat) (us : List (List UInt8)) (i : Nat) (h : ks.map (txtAt F) = us) (hl : xs.length = ks.length) : pcsTxt F (recPcs (i + 1) xs ks) = ((xs.zip us).map fun p => bt p.1 ++ [58, 32] ++ p.2).flatMap fun x => [44, 32] ++ x := by
  induction xs generalizing ks us i with
  | nil => simp [recPcs, pcsTxt]
  | cons x xs ih =>
    cases ks with
    | nil => simp at hl
    | cons k ks =>
      subst h
      simp only [recPcs, List.map_cons, List.zip_cons_cons, List.flatMap_cons]
      rw [pcsTxt_cons, pcsTxt_cons, pcsTxt_cons, pcsTxt_cons, pcT_txt, pcT_txt, pcT_txt, pcF_txt, bt_comma, ih ks _ (i + 1) rfl (by simpa using hl)]
      have e : bt ⟨#[58, 32]⟩ = [58, 32] := rfl
      rw [e]
      simp [List.append_assoc]
theorem rec_all (F : List FRec) (xs : List ByteArray) (ks : List Nat) (us : List (List UInt8)) (h : ks.map (txtAt F) = us) (hl : xs.length = ks.length) : pcsTxt F (recPcs 0 xs ks) = joinB [44, 32] ((xs.zip us).map fun p => bt p.1 ++ [58, 32] ++ p.2) := by
  cases xs with
  | nil => simp [recPcs, pcsTxt, joinB]
  | cons x xs =>
    cases ks with
    | nil => simp at hl
    | cons k ks =>
      subst h
      simp only [recPcs, List.map_cons, List.zip_cons_cons, joinB]
      rw [pcsTxt_cons, pcsTxt_cons, pcsTxt_cons, pcsTxt_cons, pcT_txt, pcT_txt, pcT_txt, pcF_txt, bt_comma0, rec_tail F xs ks _ 0 rfl (by simpa using hl)]
      have e : bt ⟨#[58, 32]⟩ = [58, 32] := rfl
      rw [e]
      simp [List.append_assoc]
theorem par_tail (F : List FRec) (ks : List Nat) (i : Nat) : pcsTxt F (parPcs (i + 1) ks) = (ks.map (txtAt F)).flatMap fun x => [44, 32] ++ x := by
  induction ks generalizing i with
  | nil => rfl
  | cons k ks ih =>
    simp only [parPcs, List.map_cons, List.flatMap_cons]
    rw [pcsTxt_cons, pcsTxt_cons, pcT_txt, pcF_txt, bt_comma, ih (i + 1)]
    simp
theorem par_all (F : List FRec) (ks : List Nat) : pcsTxt F (parPcs 0 ks) = joinB [44, 32] (ks.map (txtAt F)) := by
  cases ks with
  | nil => rfl
  | cons k ks =>
    simp only [parPcs, List.map_cons, joinB]
    rw [pcsTxt_cons, pcsTxt_cons, pcT_txt, pcF_txt, bt_comma0, par_tail F ks 0]
    simp
theorem br_txt (F : List FRec) (b : Bool) (k : Nat) : pcsTxt F (brPcs b k) = if b then 40 :: (txtAt F k ++ [41]) else txtAt F k := by
  cases b
  · simp [brPcs, pcsTxt, pcF_txt]
  · simp [brPcs, pcsTxt, pcF_txt, pcT_txt]
    rfl
def unTxt (t : Ty) : List UInt8 := if t.kind = 6 then 40 :: (bt t.txt ++ [41]) else bt t.txt
theorem uni_tail (F : List FRec) (ts : List Ty) (ks : List Nat) (i : Nat) (h : ks.map (txtAt F) = ts.map fun t => bt t.txt) : pcsTxt F (uniPcs (i + 1) ts ks) = (ts.map unTxt).flatMap fun x => [32, 124, 32] ++ x := by
  induction ts generalizing ks i with
  | nil => simp [uniPcs, pcsTxt]
  | cons t ts ih =>
    cases ks with
    | nil => simp at h
    | cons k ks =>
      simp only [List.map_cons, List.cons.injEq] at h
      simp only [uniPcs, List.map_cons, List.flatMap_cons]
      rw [if_pos (by omega), pcsTxt_app, pcsTxt_app, br_txt, h.1, ih ks (i + 1) h.2]
      have e : pcsTxt F [pcT ⟨#[32, 124, 32]⟩] = [32, 124, 32] := rfl
      rw [e]
      unfold unTxt
      by_cases c : t.kind = 6
      · rw [if_pos c, decide_eq_true c]; rfl
      · rw [if_neg c, decide_eq_false c]; rfl
theorem uni_all (F : List FRec) (ts : List Ty) (ks : List Nat) (h : ks.map (txtAt F) = ts.map fun t => bt t.txt) : pcsTxt F (uniPcs 0 ts ks) = joinB [32, 124, 32] (ts.map unTxt) := by
  cases ts with
  | nil => simp [uniPcs, pcsTxt, joinB]
  | cons t ts =>
    cases ks with
    | nil => simp at h
    | cons k ks =>
      simp only [List.map_cons, List.cons.injEq] at h
      simp only [uniPcs, List.map_cons, joinB]
      rw [if_neg (by omega), pcsTxt_app, List.nil_append, br_txt, h.1, uni_tail F ts ks 0 h.2]
      unfold unTxt
      by_cases c : t.kind = 6
      · rw [if_pos c, decide_eq_true c]; rfl
      · rw [if_neg c, decide_eq_false c]; rfl

/-- the pieces of a right type's text -/
theorem pcs_text {F : List FRec} {t : Ty} {ks : List Nat} (ht : Ty.ok t) (hk : KidsOf F ks t.kids) : pcsTxt F (pcsOf t ks) = bt t.txt := by
  have h12 : ∀ k ∈ t.kids, tb 12 k = bt k.txt := fun k hk' => by
    unfold tb
    rw [(ht.2.1 k hk').text (by omega)]
  have e0 : bt t.txt = tb 13 t := rfl
  have hkt := kid_txt hk
  rcases right_kinds ht with ⟨q0, q4⟩ | q | q | q
  · rw [e0, tb_word q0 q4]
    unfold pcsOf
    by_cases c0 : t.kind = 0
    · rw [if_pos c0, if_pos c0]; rfl
    rw [if_neg c0, if_neg c0]
    by_cases c1 : t.kind = 1
    · rw [if_pos c1, if_pos c1]; rfl
    rw [if_neg c1, if_neg c1]
    by_cases c2 : t.kind = 2
    · rw [if_pos c2, if_pos c2]; rfl
    rw [if_neg c2, if_neg c2]
    by_cases c3 : t.kind = 3
    · rw [if_pos c3, if_pos c3]; rfl
    rw [if_neg c3, if_neg c3]
    have c4 : t.kind = 4 := by omega
    rw [if_pos c4]
    simp [pcsTxt, pcT_txt]
  · unfold pcsOf
    rw [if_neg (by omega), if_neg (by omega), if_neg (by omega), if_neg (by omega), if_neg (by omega), if_pos q, e0, tb_rec q]
    have hn := (right_rec ht q).2.2
    rw [pcsTxt_app, pcsTxt_cons, rec_all F t.names ks _ hkt (by rw [hk.1]; exact hn)]
    have e1 : (pcT ⟨#[123]⟩).txt F = [123] := rfl
    have e2 : pcsTxt F [pcT ⟨#[125]⟩] = [125] := rfl
    rw [e1, e2]
    have e3 : ((t.names.zip (t.kids.map fun t => bt t.txt)).map fun p => bt p.1 ++ [58, 32] ++ p.2) = (t.names.zip t.kids).map fun p => bt p.1 ++ [58, 32] ++ tb 12 p.2 := by
      rw [List.zip_map_right, List.map_map]
      refine List.map_congr_left fun p hp => ?_
      show bt p.1 ++ [58, 32] ++ bt p.2.txt = _
      rw [h12 p.2 (List.of_mem_zip hp).2]
    rw [e3]
    rfl
  · unfold pcsOf
    rw [if_neg (by omega), if_neg (by omega), if_neg (by omega), if_neg (by omega), if_neg (by omega), if_neg (by omega), if_pos q, e0, tb_fn q]
    have hne := (right_fn ht q).2.2
    have hkne : ks ≠ [] := hk.ne hne
    have hlast : txtAt F (ks.getLastD 0) = tb 12 (lastTy t.kids) := by
      have hl := hk.1
      have hp : 0 < ks.length := List.length_pos_iff.2 hkne
      obtain ⟨r, q1, q2⟩ := hk.2 (ks.length - 1) (by omega)
      have e1 : ks.getLastD 0 = ks[ks.length - 1]'(by omega) := by
        rw [List.getLastD_eq_getLast?, List.getLast?_eq_getElem?, List.getElem?_eq_getElem (by omega)]
        rfl
      have e2 : lastTy t.kids = r.ty := by
        unfold lastTy
        rw [List.getLastD_eq_getLast?, List.getLast?_eq_getElem?, ← hl, q2]
        rfl
      rw [e1, txtAt_some q1, e2, h12 r.ty (by rw [← e2]; exact (lastTy_mem hne).1)]
    have hpar : ks.dropLast.map (txtAt F) = t.kids.dropLast.map (tb 12) := by
      have e1 : ks.dropLast.map (txtAt F) = (ks.map (txtAt F)).dropLast := by rw [List.map_dropLast]
      rw [e1, hkt, ← List.map_dropLast]
      exact List.map_congr_left fun k hk' => (h12 k (List.dropLast_subset _ hk')).symm
    rw [pcsTxt_app, pcsTxt_app, pcsTxt_cons, par_all, br_txt, hpar, hlast]
    have e1 : (pcT ⟨#[40]⟩).txt F = [40] := rfl
    have e2 : pcsTxt F [pcT ⟨#[41, 32, 45, 62, 32]⟩] = [41, 32, 45, 62, 32] := rfl
    rw [e1, e2]
    by_cases c : (lastTy t.kids).kind = 7
    · rw [if_pos c, decide_eq_true c]
      simp
    · rw [if_neg c, decide_eq_false c]
      simp
  · unfold pcsOf
    rw [if_neg (by omega), if_neg (by omega), if_neg (by omega), if_neg (by omega), if_neg (by omega), if_neg (by omega), if_neg (by omega), e0, tb_un q, uni_all F t.kids ks hkt]
    have e : t.kids.map unTxt = t.kids.map (ub 12) := List.map_congr_left fun k hk' => by
      show (if k.kind = 6 then 40 :: (bt k.txt ++ [41]) else bt k.txt) = (if k.kind = 6 then 40 :: (tb 12 k ++ [41]) else tb 12 k)
      rw [h12 k hk']
    rw [e]

end Go.Proofs.YtmbjknholcmpmaaGreatDoor
