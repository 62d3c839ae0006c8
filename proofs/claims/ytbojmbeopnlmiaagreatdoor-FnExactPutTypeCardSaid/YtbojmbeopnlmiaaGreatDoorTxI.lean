/-
  A right type is told by its text. No program here.
-/
import Derived.Test.YtbojmbeopnlmiaaGreatDoorRightS
namespace Go.Proofs.YtbojmbeopnlmiaaGreatDoor
open Go.RowKit

/-- the bytes of a text -/
def bt (s : ByteArray) : List UInt8 := s.data.toList
theorem bt_app (a b : ByteArray) : bt (a ++ b) = bt a ++ bt b := by
  unfold bt
  rw [ByteArray.data_append, Array.toList_append]
theorem bt_inj {a b : ByteArray} (h : bt a = bt b) : a = b := by
  cases a
  cases b
  exact congrArg ByteArray.mk (Array.toList_inj.1 h)
def joinB (sep : List UInt8) : List (List UInt8) → List UInt8
  | [] => []
  | a :: r => a ++ r.flatMap fun x => sep ++ x
theorem bt_fold (sep : ByteArray) (r : List ByteArray) (a : ByteArray) : bt (r.foldl (fun o x => o ++ sep ++ x) a) = bt a ++ (r.map bt).flatMap fun x => bt sep ++ x := by
  induction r generalizing a with
  | nil => simp
  | cons x r ih => rw [List.foldl_cons, ih, bt_app, bt_app]; simp
theorem bt_join (sep : ByteArray) (l : List ByteArray) : bt (joinP sep l) = joinB (bt sep) (l.map bt) := by
  cases l with
  | nil => rfl
  | cons a r => exact bt_fold sep r a

theorem span_one {p : UInt8 → Bool} {a b r s : List UInt8} (ha : ∀ c ∈ a, p c = true) (hb : ∀ c ∈ b, p c = true) (hr : ∀ c, r.head? = some c → p c = false) (hs : ∀ c, s.head? = some c → p c = false) (h : a ++ r = b ++ s) : a = b ∧ r = s := by
  induction a generalizing b with
  | nil =>
    cases b with
    | nil => exact ⟨rfl, h⟩
    | cons c b =>
      have h1 := hb c (by simp)
      have : r.head? = some c := by
        rw [List.nil_append] at h
        rw [h]
        rfl
      rw [hr c this] at h1
      cases h1
  | cons c a ih =>
    cases b with
    | nil =>
      have h1 := ha c (by simp)
      have : s.head? = some c := by
        rw [List.nil_append] at h
        rw [← h]
        rfl
      rw [hs c this] at h1
      cases h1
    | cons c' b =>
      simp only [List.cons_append, List.cons.injEq] at h
      obtain ⟨e1, e2⟩ := ih (fun x hx => ha x (List.mem_cons_of_mem _ hx)) (fun x hx => hb x (List.mem_cons_of_mem _ hx)) h.2
      exact ⟨by rw [h.1, e1], e2⟩

/-- lists of items with a text between, each item told by its text -/
theorem tails_one {α : Type} (f g : α → List UInt8) (sep : List UInt8) (Stop : List UInt8 → Prop) (hsep : ∀ z, Stop (sep ++ z)) (A1 A2 : List α) (hu : ∀ x ∈ A1, ∀ y ∈ A2, ∀ s1 s2, Stop s1 → Stop s2 → f x ++ s1 = g y ++ s2 → x = y ∧ s1 = s2) (e1 e2 : List UInt8) (h1 : Stop e1) (h2 : Stop e2) (n1 : ∀ z, e1 ≠ sep ++ z) (n2 : ∀ z, e2 ≠ sep ++ z)
    (h : ((A1.map f).flatMap fun x => sep ++ x) ++ e1 = ((A2.map g).flatMap fun x => sep ++ x) ++ e2) : A1 = A2 ∧ e1 = e2 := by
  induction A1 generalizing A2 with
  | nil =>
    cases A2 with
    | nil => exact ⟨rfl, h⟩
    | cons y r =>
      simp only [List.map_nil, List.flatMap_nil, List.nil_append, List.map_cons, List.flatMap_cons, List.append_assoc] at h
      exact absurd h (n1 _)
  | cons x r ih =>
    cases A2 with
    | nil =>
      simp only [List.map_nil, List.flatMap_nil, List.nil_append, List.map_cons, List.flatMap_cons, List.append_assoc] at h
      exact absurd h.symm (n2 _)
    | cons y r2 =>
      simp only [List.map_cons, List.flatMap_cons, List.append_assoc, List.append_cancel_left_eq] at h
      have st : ∀ (k : α → List UInt8) (l : List α) (e : List UInt8), Stop e → Stop (((l.map k).flatMap fun x => sep ++ x) ++ e) := fun k l e he => by
        cases l with
        | nil => exact he
        | cons a b =>
          simp only [List.map_cons, List.flatMap_cons, List.append_assoc]
          exact hsep _
      obtain ⟨e, h'⟩ := hu x (by simp) y (by simp) _ _ (st f r e1 h1) (st g r2 e2 h2) h
      obtain ⟨e', h''⟩ := ih r2 (fun a ha b hb => hu a (List.mem_cons_of_mem _ ha) b (List.mem_cons_of_mem _ hb)) h'
      exact ⟨by rw [e, e'], h''⟩
theorem join_one {α : Type} (f g : α → List UInt8) (sep : List UInt8) (Stop : List UInt8 → Prop) (hsep : ∀ z, Stop (sep ++ z)) (A1 A2 : List α) (hu : ∀ x ∈ A1, ∀ y ∈ A2, ∀ s1 s2, Stop s1 → Stop s2 → f x ++ s1 = g y ++ s2 → x = y ∧ s1 = s2) (e1 e2 : List UInt8) (h1 : Stop e1) (h2 : Stop e2) (n1 : ∀ z, e1 ≠ sep ++ z) (n2 : ∀ z, e2 ≠ sep ++ z)
    (m1 : ∀ x ∈ A1, ∀ s, f x ++ s ≠ e2) (m2 : ∀ x ∈ A2, ∀ s, g x ++ s ≠ e1) (h : joinB sep (A1.map f) ++ e1 = joinB sep (A2.map g) ++ e2) : A1 = A2 ∧ e1 = e2 := by
  cases A1 with
  | nil =>
    cases A2 with
    | nil => exact ⟨rfl, h⟩
    | cons y r =>
      simp only [joinB, List.map_nil, List.nil_append, List.map_cons, List.append_assoc] at h
      exact absurd h.symm (m2 y (by simp) _)
  | cons x r =>
    cases A2 with
    | nil =>
      simp only [joinB, List.map_nil, List.nil_append, List.map_cons, List.append_assoc] at h
      exact absurd h (m1 x (by simp) _)
    | cons y r2 =>
      simp only [joinB, List.map_cons, List.append_assoc] at h
      have st : ∀ (k : α → List UInt8) (l : List α) (e : List UInt8), Stop e → Stop (((l.map k).flatMap fun x => sep ++ x) ++ e) := fun k l e he => by
        cases l with
        | nil => exact he
        | cons a b =>
          simp only [List.map_cons, List.flatMap_cons, List.append_assoc]
          exact hsep _
      obtain ⟨e, h'⟩ := hu x (by simp) y (by simp) _ _ (st f r e1 h1) (st g r2 e2 h2) h
      obtain ⟨e', h''⟩ := tails_one f g sep Stop hsep r r2 (fun a ha b hb => hu a (List.mem_cons_of_mem _ ha) b (List.mem_cons_of_mem _ hb)) e1 e2 h1 h2 n1 n2 h'
      exact ⟨by rw [e, e'], h''⟩

/-- what stands in a name, or in two with a dot between -/
def wcB (c : UInt8) : Bool := Lx.alB c.toNat || decide (c.toNat = 46)
theorem bt_byt {s : ByteArray} {c : UInt8} (h : c ∈ bt s) : ∃ j, j < s.size ∧ Lx.byt s j = c.toNat := by
  obtain ⟨j, hj, rfl⟩ := List.getElem_of_mem h
  have hj' : j < s.size := by simpa [bt] using hj
  refine ⟨j, hj', ?_⟩
  rw [← Lx.byt_eq s j hj']
  rfl
theorem name_bytes {s : ByteArray} (h : Lx.nameOkP s = true) : 0 < s.size ∧ Lx.letterB (Lx.byt s 0) = true ∧ ∀ j, j < s.size → Lx.alB (Lx.byt s j) = true := by
  unfold Lx.nameOkP at h
  simp only [Bool.and_eq_true, decide_eq_true_eq] at h
  obtain ⟨⟨⟨h1, _⟩, h3, h4⟩, _⟩ := h
  exact ⟨by omega, h3, fun j hj => Lx.endP_in Lx.alB s 0 j (Nat.zero_le _) (by omega)⟩
theorem name_al {s : ByteArray} (h : Lx.nameOkP s = true) : ∀ c ∈ bt s, Lx.alB c.toNat = true := fun c hc => by
  obtain ⟨j, hj, e⟩ := bt_byt hc
  rw [← e]
  exact (name_bytes h).2.2 j hj
theorem head_byt {s : ByteArray} (h : 0 < s.size) : ∃ c r, bt s = c :: r ∧ c.toNat = Lx.byt s 0 := by
  have hl : (bt s).length = s.size := by simp [bt]
  cases hb : bt s with
  | nil => rw [hb] at hl; simp at hl; omega
  | cons c r =>
    refine ⟨c, r, rfl, ?_⟩
    rw [← Lx.byt_eq s 0 h]
    have : (bt s)[0]? = some c := by rw [hb]; rfl
    have h2 : (bt s)[0]? = some s[0] := by
      rw [List.getElem?_eq_getElem (by omega)]
      rfl
    rw [h2] at this
    exact congrArg UInt8.toNat (Option.some.inj this).symm

theorem byt_cut (s : ByteArray) (i j k : Nat) (h : i + k < j) (hj : j ≤ s.size) : Lx.byt (s.extract i j) k = Lx.byt s (i + k) := by
  have h1 : k < (s.extract i j).size := by rw [ByteArray.size_extract]; omega
  unfold Lx.byt
  rw [dif_pos h1, dif_pos (by omega), ByteArray.getElem_extract]
theorem dotP_some {s : ByteArray} {f i k : Nat} (h : dotP s f i = some k) : i ≤ k ∧ k < s.size ∧ Lx.byt s k = 46 := by
  induction f generalizing i with
  | zero => cases h
  | succ f ih =>
    rw [dotP] at h
    by_cases c : i < s.size
    · rw [if_pos c] at h
      by_cases c2 : Lx.byt s i = 46
      · rw [if_pos c2] at h
        cases h
        exact ⟨Nat.le_refl _, c, c2⟩
      · rw [if_neg c2] at h
        have := ih h
        exact ⟨by omega, this.2⟩
    · rw [if_neg c] at h
      cases h
theorem dotted_bytes {s : ByteArray} (h : dottedP s = true) : 0 < s.size ∧ Lx.letterB (Lx.byt s 0) = true ∧ ∀ c ∈ bt s, wcB c = true := by
  have hj : 0 < s.size ∧ Lx.letterB (Lx.byt s 0) = true ∧ ∀ j, j < s.size → Lx.alB (Lx.byt s j) = true ∨ Lx.byt s j = 46 := by
    unfold dottedP at h
    cases hd : dotP s (s.size + 1) 0 with
    | none =>
      rw [hd] at h
      obtain ⟨h1, h2, h3⟩ := name_bytes h
      exact ⟨h1, h2, fun j hj => .inl (h3 j hj)⟩
    | some i =>
      rw [hd] at h
      simp only [Bool.and_eq_true] at h
      obtain ⟨_, hi, h46⟩ := dotP_some hd
      obtain ⟨a1, a2, a3⟩ := name_bytes h.1
      obtain ⟨b1, _, b3⟩ := name_bytes h.2
      rw [ByteArray.size_extract] at a1 a3 b1 b3
      rw [byt_cut s 0 i 0 (by omega) (by omega)] at a2
      refine ⟨by omega, a2, fun j hj => ?_⟩
      by_cases c : j < i
      · have := a3 j (by omega)
        rw [byt_cut s 0 i j (by omega) (by omega), Nat.zero_add] at this
        exact .inl this
      · by_cases c2 : j = i
        · subst c2; exact .inr h46
        · have := b3 (j - (i + 1)) (by omega)
          rw [byt_cut s (i + 1) s.size (j - (i + 1)) (by omega) (Nat.le_refl _), show i + 1 + (j - (i + 1)) = j by omega] at this
          exact .inl this
  refine ⟨hj.1, hj.2.1, fun c hc => ?_⟩
  obtain ⟨j, h1, e⟩ := bt_byt hc
  unfold wcB
  rw [Bool.or_eq_true, decide_eq_true_eq, ← e]
  exact hj.2.2 j h1
theorem word_not {s : ByteArray} (hw : Lx.isWordP s = true) (hd : dotP s (s.size + 1) 0 = none) : dottedP s = false := by
  unfold dottedP
  rw [hd]
  show Lx.nameOkP s = false
  unfold Lx.nameOkP
  rw [hw]
  simp

/-- what may stand behind a type -/
def StopT (r : List UInt8) : Prop := ∀ c, r.head? = some c → c = 44 ∨ c = 125 ∨ c = 41
/-- what may stand behind a kid of a union -/
def StopA (r : List UInt8) : Prop := StopT r ∨ ∃ z, r = 32 :: 124 :: 32 :: z
theorem StopT.cons {c : UInt8} {r : List UInt8} (h : c = 44 ∨ c = 125 ∨ c = 41) : StopT (c :: r) := fun d hd => by
  simp only [List.head?_cons, Option.some.injEq] at hd
  subst hd
  exact h
theorem StopA.wc {r : List UInt8} (h : StopA r) : ∀ c, r.head? = some c → wcB c = false := fun c hc => by
  rcases h with h | ⟨z, rfl⟩
  · rcases h c hc with rfl | rfl | rfl <;> rfl
  · simp only [List.head?_cons, Option.some.injEq] at hc
    subst hc
    rfl

/-- a type's bytes, and those of a kid of a union -/
def tb (n : Nat) (t : Ty) : List UInt8 := bt (Ty.text n t)
def ub (n : Nat) (t : Ty) : List UInt8 := if t.kind = 6 then 40 :: (tb n t ++ [41]) else tb n t
theorem ub_eq (n : Nat) (t : Ty) : bt (roundP 6 t (Ty.text n t)) = ub n t := by
  unfold roundP ub
  split
  · unfold roundB
    rw [bt_app, bt_app]
    rfl
  · rfl
theorem zip_with {α β γ : Type} (f : α → β → γ) (l : List α) (m : List β) : List.zipWith f l m = (l.zip m).map fun p => f p.1 p.2 := by
  induction l generalizing m with
  | nil => simp
  | cons a r ih => cases m <;> simp [ih]
theorem tb_rec {n : Nat} {t : Ty} (h : t.kind = 5) : tb (n + 1) t = 123 :: (joinB [44, 32] ((t.names.zip t.kids).map fun p => bt p.1 ++ [58, 32] ++ tb n p.2) ++ [125]) := by
  unfold tb
  rw [Ty.text, if_neg (by omega), if_neg (by omega), if_neg (by omega), if_neg (by omega), if_neg (by omega), if_pos h, bt_app, bt_app, bt_join]
  unfold fieldsP
  rw [zip_with, List.map_map]
  have e : (bt ∘ fun p : ByteArray × Ty => p.1 ++ ⟨#[58, 32]⟩ ++ Ty.text n p.2) = fun p => bt p.1 ++ [58, 32] ++ bt (Ty.text n p.2) := by
    funext p
    show bt (p.1 ++ ⟨#[58, 32]⟩ ++ Ty.text n p.2) = _
    rw [bt_app, bt_app]
    rfl
  rw [e]
  rfl
theorem tb_fn {n : Nat} {t : Ty} (h : t.kind = 6) : tb (n + 1) t = 40 :: (joinB [44, 32] (t.kids.dropLast.map (tb n)) ++ (41 :: 32 :: 45 :: 62 :: 32 :: (if (lastTy t.kids).kind = 7 then 40 :: (tb n (lastTy t.kids) ++ [41]) else tb n (lastTy t.kids)))) := by
  unfold tb
  rw [Ty.text, if_neg (by omega), if_neg (by omega), if_neg (by omega), if_neg (by omega), if_neg (by omega), if_neg (by omega), if_pos h, bt_app, bt_app, bt_app, bt_join, List.map_map]
  unfold roundP
  split
  · unfold roundB
    rw [bt_app, bt_app]
    simp only [List.append_assoc]
    rfl
  · simp only [List.append_assoc]
    rfl
theorem tb_un {n : Nat} {t : Ty} (h : t.kind = 7) : tb (n + 1) t = joinB [32, 124, 32] (t.kids.map (ub n)) := by
  unfold tb
  rw [Ty.text, if_neg (by omega), if_neg (by omega), if_neg (by omega), if_neg (by omega), if_neg (by omega), if_neg (by omega), if_neg (by omega), bt_join, List.map_map]
  congr 1
  exact List.map_congr_left fun k _ => ub_eq n k

theorem right_kinds {n : Nat} {t : Ty} {d : Int} (h : Right (n + 1) t d) : (0 ≤ t.kind ∧ t.kind ≤ 4) ∨ t.kind = 5 ∨ t.kind = 6 ∨ t.kind = 7 := by
  rcases h.2.2 with ⟨h | h | h | h, _⟩ | ⟨h, _⟩ | ⟨h, _⟩ | ⟨h, _⟩ | ⟨h, _⟩ <;> omega
theorem tb_word {n : Nat} {t : Ty} (h0 : 0 ≤ t.kind) (h4 : t.kind ≤ 4) : tb (n + 1) t = (if t.kind = 0 then [105, 110, 116] else if t.kind = 1 then [116, 101, 120, 116] else if t.kind = 2 then [98, 111, 111, 108] else if t.kind = 3 then [97, 110, 121] else bt t.name) := by
  unfold tb
  rw [Ty.text]
  by_cases c0 : t.kind = 0
  · rw [if_pos c0, if_pos c0]; rfl
  · rw [if_neg c0, if_neg c0]
    by_cases c1 : t.kind = 1
    · rw [if_pos c1, if_pos c1]; rfl
    · rw [if_neg c1, if_neg c1]
      by_cases c2 : t.kind = 2
      · rw [if_pos c2, if_pos c2]; rfl
      · rw [if_neg c2, if_neg c2]
        by_cases c3 : t.kind = 3
        · rw [if_pos c3, if_pos c3]; rfl
        · rw [if_neg c3, if_neg c3, if_pos (by omega)]
theorem right_name {n : Nat} {t : Ty} {d : Int} (h : Right (n + 1) t d) (h4 : t.kind = 4) : dottedP t.name = true ∧ t.names = [] ∧ t.kids = [] := by
  rcases h.2.2 with ⟨q, _⟩ | ⟨_, q1, q2, q3⟩ | ⟨q, _⟩ | ⟨q, _⟩ | ⟨q, _⟩
  · omega
  · exact ⟨q1, List.length_eq_zero_iff.1 q2, List.length_eq_zero_iff.1 q3⟩
  · omega
  · omega
  · omega
theorem name_none {s : ByteArray} (h : s.size = 0) : s = ⟨#[]⟩ := by
  cases s with
  | mk a =>
    have : a.size = 0 := h
    rw [Array.eq_empty_of_size_eq_zero this]
theorem right_plain {n : Nat} {t : Ty} {d : Int} (h : Right (n + 1) t d) (h3 : t.kind ≤ 3) : t = .mk t.kind ⟨#[]⟩ [] [] := by
  rcases h.2.2 with ⟨_, q1, q2, q3⟩ | ⟨q, _⟩ | ⟨q, _⟩ | ⟨q, _⟩ | ⟨q, _⟩
  · have e1 := name_none q1
    have e2 := List.length_eq_zero_iff.1 q2
    have e3 := List.length_eq_zero_iff.1 q3
    cases t
    simp_all
  · omega
  · omega
  · omega
  · omega
theorem word_wc {n : Nat} {t : Ty} {d : Int} (h : Right (n + 1) t d) (h0 : 0 ≤ t.kind) (h4 : t.kind ≤ 4) : (∀ c ∈ tb (n + 1) t, wcB c = true) ∧ ∃ c r, tb (n + 1) t = c :: r ∧ Lx.letterB c.toNat = true := by
  rw [tb_word h0 h4]
  by_cases c0 : t.kind = 0
  · rw [if_pos c0]
    exact ⟨by decide, _, _, rfl, by decide⟩
  · rw [if_neg c0]
    by_cases c1 : t.kind = 1
    · rw [if_pos c1]
      exact ⟨by decide, _, _, rfl, by decide⟩
    · rw [if_neg c1]
      by_cases c2 : t.kind = 2
      · rw [if_pos c2]
        exact ⟨by decide, _, _, rfl, by decide⟩
      · rw [if_neg c2]
        by_cases c3 : t.kind = 3
        · rw [if_pos c3]
          exact ⟨by decide, _, _, rfl, by decide⟩
        · rw [if_neg c3]
          obtain ⟨b1, b2, b3⟩ := dotted_bytes (right_name h (by omega)).1
          obtain ⟨c, r, e1, e2⟩ := head_byt b1
          exact ⟨b3, c, r, e1, by rw [e2]; exact b2⟩
theorem word_lit {s : ByteArray} (h : dottedP s = true) : bt s ≠ [105, 110, 116] ∧ bt s ≠ [116, 101, 120, 116] ∧ bt s ≠ [98, 111, 111, 108] ∧ bt s ≠ [97, 110, 121] := by
  have no : ∀ l : List UInt8, Lx.isWordP ⟨l.toArray⟩ = true → dotP ⟨l.toArray⟩ (l.length + 1) 0 = none → bt s ≠ l := fun l h1 h2 e => by
    have es : s = ⟨l.toArray⟩ := bt_inj (by rw [e]; rfl)
    rw [es, word_not h1 h2] at h
    cases h
  exact ⟨no _ (by decide) (by decide), no _ (by decide) (by decide), no _ (by decide) (by decide), no _ (by decide) (by decide)⟩
theorem word_same {n1 n2 : Nat} {t1 t2 : Ty} {d1 d2 : Int} (h1 : Right (n1 + 1) t1 d1) (h2 : Right (n2 + 1) t2 d2) (a1 : 0 ≤ t1.kind ∧ t1.kind ≤ 4) (a2 : 0 ≤ t2.kind ∧ t2.kind ≤ 4) (h : tb (n1 + 1) t1 = tb (n2 + 1) t2) : t1 = t2 := by
  by_cases c1 : t1.kind = 4
  · have w1 := right_name h1 c1
    have l1 := word_lit w1.1
    have e1 : tb (n1 + 1) t1 = bt t1.name := by rw [tb_word a1.1 a1.2, if_neg (by omega), if_neg (by omega), if_neg (by omega), if_neg (by omega)]
    by_cases c2 : t2.kind = 4
    · have w2 := right_name h2 c2
      have e2 : tb (n2 + 1) t2 = bt t2.name := by rw [tb_word a2.1 a2.2, if_neg (by omega), if_neg (by omega), if_neg (by omega), if_neg (by omega)]
      rw [e1, e2] at h
      have := bt_inj h
      obtain ⟨_, q1, q2⟩ := w1
      obtain ⟨_, q3, q4⟩ := w2
      cases t1
      cases t2
      simp_all
    · exfalso
      rw [e1, tb_word a2.1 a2.2] at h
      have : t2.kind = 0 ∨ t2.kind = 1 ∨ t2.kind = 2 ∨ t2.kind = 3 := by omega
      rcases this with q | q | q | q <;> simp [q] at h <;> first | exact l1.1 h | exact l1.2.1 h | exact l1.2.2.1 h | exact l1.2.2.2 h
  · by_cases c2 : t2.kind = 4
    · exfalso
      have l2 := word_lit (right_name h2 c2).1
      have e2 : tb (n2 + 1) t2 = bt t2.name := by rw [tb_word a2.1 a2.2, if_neg (by omega), if_neg (by omega), if_neg (by omega), if_neg (by omega)]
      rw [e2, tb_word a1.1 a1.2] at h
      have : t1.kind = 0 ∨ t1.kind = 1 ∨ t1.kind = 2 ∨ t1.kind = 3 := by omega
      rcases this with q | q | q | q <;> simp [q] at h <;> first | exact l2.1 h.symm | exact l2.2.1 h.symm | exact l2.2.2.1 h.symm | exact l2.2.2.2 h.symm
    · rw [tb_word a1.1 a1.2, tb_word a2.1 a2.2] at h
      have e1 := right_plain h1 (by omega)
      have e2 := right_plain h2 (by omega)
      have q1 : t1.kind = 0 ∨ t1.kind = 1 ∨ t1.kind = 2 ∨ t1.kind = 3 := by omega
      have q2 : t2.kind = 0 ∨ t2.kind = 1 ∨ t2.kind = 2 ∨ t2.kind = 3 := by omega
      have : t1.kind = t2.kind := by
        rcases q1 with q | q | q | q <;> rcases q2 with q' | q' | q' | q' <;> simp [q, q'] at h ⊢
      rw [e1, e2, this]
theorem words_case {n1 n2 : Nat} {t1 t2 : Ty} {d1 d2 : Int} {r1 r2 : List UInt8} (h1 : Right (n1 + 1) t1 d1) (h2 : Right (n2 + 1) t2 d2) (a1 : 0 ≤ t1.kind ∧ t1.kind ≤ 4) (a2 : 0 ≤ t2.kind ∧ t2.kind ≤ 4) (s1 : StopA r1) (s2 : StopA r2) (h : tb (n1 + 1) t1 ++ r1 = tb (n2 + 1) t2 ++ r2) : t1 = t2 ∧ r1 = r2 := by
  obtain ⟨e1, e2⟩ := span_one (p := wcB) (word_wc h1 a1.1 a1.2).1 (word_wc h2 a2.1 a2.2).1 s1.wc s2.wc h
  exact ⟨word_same h1 h2 a1 a2 e1, e2⟩

theorem right_union {n : Nat} {t : Ty} {d : Int} (h : Right (n + 1) t d) (h7 : t.kind = 7) : t.name = ⟨#[]⟩ ∧ t.names = [] ∧ (∀ k ∈ t.kids, k.kind ≠ 7 ∧ k.kind ≠ 3) ∧ ∃ a b r, t.kids = a :: b :: r := by
  rcases h.2.2 with ⟨q, _⟩ | ⟨q, _⟩ | ⟨q, _⟩ | ⟨q, _⟩ | ⟨_, q1, q2, q3, q4⟩
  · omega
  · omega
  · omega
  · omega
  · refine ⟨name_none q2, List.length_eq_zero_iff.1 q3, fun k hk => ?_, ?_⟩
    · obtain ⟨i, hi, rfl⟩ := List.getElem_of_mem hk
      exact (q1 i hi).1
    · match hk : t.kids with
      | [] => rw [hk] at q4; simp at q4
      | [a] => rw [hk] at q4; simp at q4
      | a :: b :: r => exact ⟨a, b, r, rfl⟩

/-- what a type's text begins with -/
theorem head_cls {n : Nat} {t : Ty} {d : Int} (h : Right n t d) : ∃ c r, tb n t = c :: r ∧ (t.kind ≤ 4 → Lx.letterB c.toNat = true) ∧ (t.kind = 5 → c = 123) ∧ (t.kind = 6 → c = 40) ∧ (Lx.letterB c.toNat = true ∨ c = 123 ∨ c = 40) := by
  induction n generalizing t d with
  | zero => exact h.elim
  | succ n ih =>
    rcases right_kinds h with ⟨a0, a4⟩ | a | a | a
    · obtain ⟨_, c, r, e, hl⟩ := word_wc h a0 a4
      exact ⟨c, r, e, fun _ => hl, fun q => by omega, fun q => by omega, .inl hl⟩
    · exact ⟨123, _, tb_rec a, fun q => by omega, fun _ => rfl, fun q => by omega, .inr (.inl rfl)⟩
    · exact ⟨40, _, tb_fn a, fun q => by omega, fun q => by omega, fun _ => rfl, .inr (.inr rfl)⟩
    · obtain ⟨_, _, _, x, y, r, e⟩ := right_union h a
      obtain ⟨c, z, e1, _, _, _, e2⟩ := ih (h.2.1 x (by rw [e]; simp))
      by_cases c6 : x.kind = 6
      · have e3 : ∃ z', tb (n + 1) t = 40 :: z' := by
          rw [tb_un a, e]
          simp only [List.map_cons, joinB, ub, if_pos c6]
          exact ⟨_, rfl⟩
        obtain ⟨z', e3⟩ := e3
        exact ⟨40, z', e3, fun q => by omega, fun q => by omega, fun q => by omega, .inr (.inr rfl)⟩
      · have e3 : ∃ z', tb (n + 1) t = c :: z' := by
          rw [tb_un a, e]
          simp only [List.map_cons, joinB, ub, if_neg c6, e1]
          exact ⟨_, rfl⟩
        obtain ⟨z', e3⟩ := e3
        exact ⟨c, z', e3, fun q => by omega, fun q => by omega, fun q => by omega, e2⟩
theorem letter_ne {c : UInt8} (h : Lx.letterB c.toNat = true ∨ c = 123 ∨ c = 40) : c ≠ 41 ∧ c ≠ 125 ∧ c ≠ 44 ∧ c ≠ 32 := by
  refine ⟨?_, ?_, ?_, ?_⟩ <;> rintro rfl <;> revert h <;> decide

theorem right_rec {n : Nat} {t : Ty} {d : Int} (h : Right (n + 1) t d) (h5 : t.kind = 5) : t.name = ⟨#[]⟩ ∧ (∀ x ∈ t.names, Lx.nameOkP x = true) ∧ t.names.length = t.kids.length := by
  rcases h.2.2 with ⟨q, _⟩ | ⟨q, _⟩ | ⟨_, q1, q2, q3⟩ | ⟨q, _⟩ | ⟨q, _⟩
  · omega
  · omega
  · refine ⟨name_none q2, fun x hx => ?_, q3⟩
    obtain ⟨i, hi, rfl⟩ := List.getElem_of_mem hx
    exact (q1 i hi).1
  · omega
  · omega
theorem right_fn {n : Nat} {t : Ty} {d : Int} (h : Right (n + 1) t d) (h6 : t.kind = 6) : t.name = ⟨#[]⟩ ∧ t.names = [] ∧ t.kids ≠ [] := by
  rcases h.2.2 with ⟨q, _⟩ | ⟨q, _⟩ | ⟨q, _⟩ | ⟨_, q1, q2, q3⟩ | ⟨q, _⟩
  · omega
  · omega
  · omega
  · exact ⟨name_none q1, List.length_eq_zero_iff.1 q2, fun e => by rw [e] at q3; simp at q3⟩
  · omega
theorem zip_one {l1 l2 : List ByteArray} {m1 m2 : List Ty} (h1 : l1.length = m1.length) (h2 : l2.length = m2.length) (h : l1.zip m1 = l2.zip m2) : l1 = l2 ∧ m1 = m2 := by
  have e1 := List.map_fst_zip (l₁ := l1) (l₂ := m1) (by omega)
  have e2 := List.map_fst_zip (l₁ := l2) (l₂ := m2) (by omega)
  have e3 := List.map_snd_zip (l₁ := l1) (l₂ := m1) (by omega)
  have e4 := List.map_snd_zip (l₁ := l2) (l₂ := m2) (by omega)
  rw [h] at e1 e3
  exact ⟨e1.symm.trans e2, e3.symm.trans e4⟩
theorem lastTy_mem {ks : List Ty} (h : ks ≠ []) : lastTy ks ∈ ks ∧ ks.dropLast ++ [lastTy ks] = ks := by
  have e : lastTy ks = ks.getLast h := by unfold lastTy; rw [List.getLastD_eq_getLast?, List.getLast?_eq_some_getLast h]; rfl
  rw [e]
  exact ⟨List.getLast_mem h, List.dropLast_concat_getLast h⟩

/-- two types of such depths are told by their texts -/
def OneAt (m1 m2 : Nat) : Prop := ∀ k1 k2 d1 d2 r1 r2, Right m1 k1 d1 → Right m2 k2 d2 → StopT r1 → StopT r2 → tb m1 k1 ++ r1 = tb m2 k2 ++ r2 → k1 = k2 ∧ r1 = r2

theorem rec_case {m1 m2 : Nat} (ih : OneAt m1 m2) {t1 t2 : Ty} {d1 d2 : Int} {r1 r2 : List UInt8} (h1 : Right (m1 + 1) t1 d1) (h2 : Right (m2 + 1) t2 d2) (a1 : t1.kind = 5) (a2 : t2.kind = 5) (h : tb (m1 + 1) t1 ++ r1 = tb (m2 + 1) t2 ++ r2) : t1 = t2 ∧ r1 = r2 := by
  obtain ⟨n1, o1, l1⟩ := right_rec h1 a1
  obtain ⟨n2, o2, l2⟩ := right_rec h2 a2
  rw [tb_rec a1, tb_rec a2] at h
  simp only [List.cons_append, List.append_assoc, List.cons.injEq, true_and, List.nil_append] at h
  have fst : ∀ (l : List ByteArray) (m : List Ty), ∀ p ∈ l.zip m, p.1 ∈ l ∧ p.2 ∈ m := fun l m p hp => ⟨(List.of_mem_zip hp).1, (List.of_mem_zip hp).2⟩
  have hd : ∀ (x : ByteArray) (s z : List UInt8), Lx.nameOkP x = true → bt x ++ s ≠ 125 :: z := fun x s z hx e => by
    obtain ⟨b1, b2, _⟩ := name_bytes hx
    obtain ⟨c, r, e1, e2⟩ := head_byt b1
    rw [e1] at e
    simp only [List.cons_append, List.cons.injEq] at e
    rw [← e2, e.1] at b2
    exact absurd b2 (by decide)
  have := join_one (fun p : ByteArray × Ty => bt p.1 ++ ([58, 32] ++ tb m1 p.2)) (fun p => bt p.1 ++ ([58, 32] ++ tb m2 p.2)) [44, 32] StopT (fun z => StopT.cons (.inl rfl)) (t1.names.zip t1.kids) (t2.names.zip t2.kids) (fun x hx y hy s1 s2 q1 q2 e => by
    obtain ⟨x1, x2⟩ := fst _ _ x hx
    obtain ⟨y1, y2⟩ := fst _ _ y hy
    simp only [List.append_assoc] at e
    obtain ⟨e1, e2⟩ := span_one (p := fun c => Lx.alB c.toNat) (name_al (o1 _ x1)) (name_al (o2 _ y1)) (fun c hc => by simp at hc; subst hc; decide) (fun c hc => by simp at hc; subst hc; decide) e
    simp only [List.append_cancel_left_eq] at e2
    obtain ⟨e3, e4⟩ := ih _ _ _ _ _ _ (h1.2.1 _ x2) (h2.2.1 _ y2) q1 q2 e2
    exact ⟨Prod.ext (bt_inj e1) e3, e4⟩) (125 :: r1) (125 :: r2) (StopT.cons (.inr (.inl rfl))) (StopT.cons (.inr (.inl rfl))) (fun z e => by simp at e) (fun z e => by simp at e) (fun x hx s e => hd x.1 _ _ (o1 _ (fst _ _ x hx).1) (by rw [List.append_assoc] at e; exact e)) (fun x hx s e => hd x.1 _ _ (o2 _ (fst _ _ x hx).1) (by rw [List.append_assoc] at e; exact e)) h
  obtain ⟨e1, e2⟩ := this
  obtain ⟨e3, e4⟩ := zip_one l1 l2 e1
  refine ⟨?_, by simpa using e2⟩
  cases t1
  cases t2
  simp_all

end Go.Proofs.YtbojmbeopnlmiaaGreatDoor
