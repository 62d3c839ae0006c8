/-
  A right type is told by its text. No program here.
  A right type is told by its text: functions and unions. No program here.
  What a union of right types is. No program here.
  The walk of slices.CompactFunc at forms with their texts, and of the function that it asks.
  What the library's sort asks of this translation.
  Contracts of the library, laid at this translation.
  The walk of slices.CompactFunc at forms with their texts.
  The walk of slices.SortFunc at forms with their texts, and of the function that it sorts by.
-/
import Derived.Test.YthomlchbgcjcfaaGreatDoorRightS
import Derived.Test.YthomlchbgcjcfaaGreatDoorToTy
import Derived.Lib.SliceRun
import Derived.Lib.QuietBelow
import Derived.BigQuiet
import Derived.WalkSmall
import Derived.Shelf.SlSortCmp.WholeK
import Derived.Ground.SlsfProg
import Derived.Test.YthomlchbgcjcfaaGreatDoorProg
import Derived.Shelf.Strings.Builder1
import Derived.Shelf.Strings.Builder2
import Derived.Shelf.Strings.OnBuilder
import Derived.Shelf.Small.Bits
import Derived.Shelf.Small.Strs
import Derived.Shelf.Strings.BuilderF
import Derived.Shelf.Strings.BuilderK
import Derived.Shelf.Strings.Builder2Cap
import Derived.Shelf.Strconv.Itoa0
import Derived.Shelf.LaysM
import Derived.Shelf.Strconv.Clone
import Derived.Shelf.Strings.Search1
import Derived.Shelf.Strings.Search2
import Derived.Shelf.Strings.Cut
import Derived.Shelf.Strings.Shaped
import Derived.Ground.Names2Prog
import Derived.Shelf.Slices.Clone
import Derived.Ground.SlgnProg
import Derived.Shelf.SlicesE.Clone
import Derived.WalkKit
import Derived.Sort.OwnSorted
import Derived.Sort.Grow
import Derived.Lib.OwnBridge
namespace Go.Proofs.YthomlchbgcjcfaaGreatDoor
open Go.RowKit

/-- the bytes of a text -/
def bt (s : ByteArray) : List UInt8 := s.data.toList
theorem bt_app (a b : ByteArray) : bt (a ++ b) = bt a ++ bt b := by
  unfold bt
  rw [ByteArray.data_append, Array.toList_append]
theorem bt_inj {a b : ByteArray} (h : bt a = bt b) : a = b := by
  cases a
  cases b
  exact congrArg ByteArray.mk (Array.toList_inj.1 h)
def joinB (sep : List UInt8) : List (List UInt8) → List UInt8
  | [] => []
  | a :: r => a ++ r.flatMap fun x => sep ++ x
theorem bt_fold (sep : ByteArray) (r : List ByteArray) (a : ByteArray) : bt (r.foldl (fun o x => o ++ sep ++ x) a) = bt a ++ (r.map bt).flatMap fun x => bt sep ++ x := by
  induction r generalizing a with
  | nil => simp
  | cons x r ih => rw [List.foldl_cons, ih, bt_app, bt_app]; simp
theorem bt_join (sep : ByteArray) (l : List ByteArray) : bt (joinP sep l) = joinB (bt sep) (l.map bt) := by
  cases l with
  | nil => rfl
  | cons a r => exact bt_fold sep r a

theorem span_one {p : UInt8 → Bool} {a b r s : List UInt8} (ha : ∀ c ∈ a, p c = true) (hb : ∀ c ∈ b, p c = true) (hr : ∀ c, r.head? = some c → p c = false) (hs : ∀ c, s.head? = some c → p c = false) (h : a ++ r = b ++ s) : a = b ∧ r = s := by
  induction a generalizing b with
  | nil =>
    cases b with
    | nil => exact ⟨rfl, h⟩
    | cons c b =>
      have h1 := hb c (by simp)
      have : r.head? = some c := by
        rw [List.nil_append] at h
        rw [h]
        rfl
      rw [hr c this] at h1
      cases h1
  | cons c a ih =>
    cases b with
    | nil =>
      have h1 := ha c (by simp)
      have : s.head? = some c := by
        rw [List.nil_append] at h
        rw [← h]
        rfl
      rw [hs c this] at h1
      cases h1
    | cons c' b =>
      simp only [List.cons_append, List.cons.injEq] at h
      obtain ⟨e1, e2⟩ := ih (fun x hx => ha x (List.mem_cons_of_mem _ hx)) (fun x hx => hb x (List.mem_cons_of_mem _ hx)) h.2
      exact ⟨by rw [h.1, e1], e2⟩

/-- lists of items with a text between, each item told by its text -/
theorem tails_one {α : Type} (f g : α → List UInt8) (sep : List UInt8) (Stop : List UInt8 → Prop) (hsep : ∀ z, Stop (sep ++ z)) (A1 A2 : List α) (hu : ∀ x ∈ A1, ∀ y ∈ A2, ∀ s1 s2, Stop s1 → Stop s2 → f x ++ s1 = g y ++ s2 → x = y ∧ s1 = s2) (e1 e2 : List UInt8) (h1 : Stop e1) (h2 : Stop e2) (n1 : ∀ z, e1 ≠ sep ++ z) (n2 : ∀ z, e2 ≠ sep ++ z)
    (h : ((A1.map f).flatMap fun x => sep ++ x) ++ e1 = ((A2.map g).flatMap fun x => sep ++ x) ++ e2) : A1 = A2 ∧ e1 = e2 := by
  induction A1 generalizing A2 with
  | nil =>
    cases A2 with
    | nil => exact ⟨rfl, h⟩
    | cons y r =>
      simp only [List.map_nil, List.flatMap_nil, List.nil_append, List.map_cons, List.flatMap_cons, List.append_assoc] at h
      exact absurd h (n1 _)
  | cons x r ih =>
    cases A2 with
    | nil =>
      simp only [List.map_nil, List.flatMap_nil, List.nil_append, List.map_cons, List.flatMap_cons, List.append_assoc] at h
      exact absurd h.symm (n2 _)
    | cons y r2 =>
      simp only [List.map_cons, List.flatMap_cons, List.append_assoc, List.append_cancel_left_eq] at h
      have st : ∀ (k : α → List UInt8) (l : List α) (e : List UInt8), Stop e → Stop (((l.map k).flatMap fun x => sep ++ x) ++ e) := fun k l e he => by
        cases l with
        | nil => exact he
        | cons a b =>
          simp only [List.map_cons, List.flatMap_cons, List.append_assoc]
          exact hsep _
      obtain ⟨e, h'⟩ := hu x (by simp) y (by simp) _ _ (st f r e1 h1) (st g r2 e2 h2) h
      obtain ⟨e', h''⟩ := ih r2 (fun a ha b hb => hu a (List.mem_cons_of_mem _ ha) b (List.mem_cons_of_mem _ hb)) h'
      exact ⟨by rw [e, e'], h''⟩
theorem join_one {α : Type} (f g : α → List UInt8) (sep : List UInt8) (Stop : List UInt8 → Prop) (hsep : ∀ z, Stop (sep ++ z)) (A1 A2 : List α) (hu : ∀ x ∈ A1, ∀ y ∈ A2, ∀ s1 s2, Stop s1 → Stop s2 → f x ++ s1 = g y ++ s2 → x = y ∧ s1 = s2) (e1 e2 : List UInt8) (h1 : Stop e1) (h2 : Stop e2) (n1 : ∀ z, e1 ≠ sep ++ z) (n2 : ∀ z, e2 ≠ sep ++ z)
    (m1 : ∀ x ∈ A1, ∀ s, f x ++ s ≠ e2) (m2 : ∀ x ∈ A2, ∀ s, g x ++ s ≠ e1) (h : joinB sep (A1.map f) ++ e1 = joinB sep (A2.map g) ++ e2) : A1 = A2 ∧ e1 = e2 := by
  cases A1 with
  | nil =>
    cases A2 with
    | nil => exact ⟨rfl, h⟩
    | cons y r =>
      simp only [joinB, List.map_nil, List.nil_append, List.map_cons, List.append_assoc] at h
      exact absurd h.symm (m2 y (by simp) _)
  | cons x r =>
    cases A2 with
    | nil =>
      simp only [joinB, List.map_nil, List.nil_append, List.map_cons, List.append_assoc] at h
      exact absurd h (m1 x (by simp) _)
    | cons y r2 =>
      simp only [joinB, List.map_cons, List.append_assoc] at h
      have st : ∀ (k : α → List UInt8) (l : List α) (e : List UInt8), Stop e → Stop (((l.map k).flatMap fun x => sep ++ x) ++ e) := fun k l e he => by
        cases l with
        | nil => exact he
        | cons a b =>
          simp only [List.map_cons, List.flatMap_cons, List.append_assoc]
          exact hsep _
      obtain ⟨e, h'⟩ := hu x (by simp) y (by simp) _ _ (st f r e1 h1) (st g r2 e2 h2) h
      obtain ⟨e', h''⟩ := tails_one f g sep Stop hsep r r2 (fun a ha b hb => hu a (List.mem_cons_of_mem _ ha) b (List.mem_cons_of_mem _ hb)) e1 e2 h1 h2 n1 n2 h'
      exact ⟨by rw [e, e'], h''⟩

/-- what stands in a name, or in two with a dot between -/
def wcB (c : UInt8) : Bool := Lx.alB c.toNat || decide (c.toNat = 46)
theorem bt_byt {s : ByteArray} {c : UInt8} (h : c ∈ bt s) : ∃ j, j < s.size ∧ Lx.byt s j = c.toNat := by
  obtain ⟨j, hj, rfl⟩ := List.getElem_of_mem h
  have hj' : j < s.size := by simpa [bt] using hj
  refine ⟨j, hj', ?_⟩
  rw [← Lx.byt_eq s j hj']
  rfl
theorem name_bytes {s : ByteArray} (h : Lx.nameOkP s = true) : 0 < s.size ∧ Lx.letterB (Lx.byt s 0) = true ∧ ∀ j, j < s.size → Lx.alB (Lx.byt s j) = true := by
  unfold Lx.nameOkP at h
  simp only [Bool.and_eq_true, decide_eq_true_eq] at h
  obtain ⟨⟨⟨h1, _⟩, h3, h4⟩, _⟩ := h
  exact ⟨by omega, h3, fun j hj => Lx.endP_in Lx.alB s 0 j (Nat.zero_le _) (by omega)⟩
theorem name_al {s : ByteArray} (h : Lx.nameOkP s = true) : ∀ c ∈ bt s, Lx.alB c.toNat = true := fun c hc => by
  obtain ⟨j, hj, e⟩ := bt_byt hc
  rw [← e]
  exact (name_bytes h).2.2 j hj
theorem head_byt {s : ByteArray} (h : 0 < s.size) : ∃ c r, bt s = c :: r ∧ c.toNat = Lx.byt s 0 := by
  have hl : (bt s).length = s.size := by simp [bt]
  cases hb : bt s with
  | nil => rw [hb] at hl; simp at hl; omega
  | cons c r =>
    refine ⟨c, r, rfl, ?_⟩
    rw [← Lx.byt_eq s 0 h]
    have : (bt s)[0]? = some c := by rw [hb]; rfl
    have h2 : (bt s)[0]? = some s[0] := by
      rw [List.getElem?_eq_getElem (by omega)]
      rfl
    rw [h2] at this
    exact congrArg UInt8.toNat (Option.some.inj this).symm

theorem byt_cut (s : ByteArray) (i j k : Nat) (h : i + k < j) (hj : j ≤ s.size) : Lx.byt (s.extract i j) k = Lx.byt s (i + k) := by
  have h1 : k < (s.extract i j).size := by rw [ByteArray.size_extract]; omega
  unfold Lx.byt
  rw [dif_pos h1, dif_pos (by omega), ByteArray.getElem_extract]
theorem dotP_some {s : ByteArray} {f i k : Nat} (h : dotP s f i = some k) : i ≤ k ∧ k < s.size ∧ Lx.byt s k = 46 := by
  induction f generalizing i with
  | zero => cases h
  | succ f ih =>
    rw [dotP] at h
    by_cases c : i < s.size
    · rw [if_pos c] at h
      by_cases c2 : Lx.byt s i = 46
      · rw [if_pos c2] at h
        cases h
        exact ⟨Nat.le_refl _, c, c2⟩
      · rw [if_neg c2] at h
        have := ih h
        exact ⟨by omega, this.2⟩
    · rw [if_neg c] at h
      cases h
theorem dotted_bytes {s : ByteArray} (h : dottedP s = true) : 0 < s.size ∧ Lx.letterB (Lx.byt s 0) = true ∧ ∀ c ∈ bt s, wcB c = true := by
  have hj : 0 < s.size ∧ Lx.letterB (Lx.byt s 0) = true ∧ ∀ j, j < s.size → Lx.alB (Lx.byt s j) = true ∨ Lx.byt s j = 46 := by
    unfold dottedP at h
    cases hd : dotP s (s.size + 1) 0 with
    | none =>
      rw [hd] at h
      obtain ⟨h1, h2, h3⟩ := name_bytes h
      exact ⟨h1, h2, fun j hj => .inl (h3 j hj)⟩
    | some i =>
      rw [hd] at h
      simp only [Bool.and_eq_true] at h
      obtain ⟨_, hi, h46⟩ := dotP_some hd
      obtain ⟨a1, a2, a3⟩ := name_bytes h.1
      obtain ⟨b1, _, b3⟩ := name_bytes h.2
      rw [ByteArray.size_extract] at a1 a3 b1 b3
      rw [byt_cut s 0 i 0 (by omega) (by omega)] at a2
      refine ⟨by omega, a2, fun j hj => ?_⟩
      by_cases c : j < i
      · have := a3 j (by omega)
        rw [byt_cut s 0 i j (by omega) (by omega), Nat.zero_add] at this
        exact .inl this
      · by_cases c2 : j = i
        · subst c2; exact .inr h46
        · have := b3 (j - (i + 1)) (by omega)
          rw [byt_cut s (i + 1) s.size (j - (i + 1)) (by omega) (Nat.le_refl _), show i + 1 + (j - (i + 1)) = j by omega] at this
          exact .inl this
  refine ⟨hj.1, hj.2.1, fun c hc => ?_⟩
  obtain ⟨j, h1, e⟩ := bt_byt hc
  unfold wcB
  rw [Bool.or_eq_true, decide_eq_true_eq, ← e]
  exact hj.2.2 j h1
theorem word_not {s : ByteArray} (hw : Lx.isWordP s = true) (hd : dotP s (s.size + 1) 0 = none) : dottedP s = false := by
  unfold dottedP
  rw [hd]
  show Lx.nameOkP s = false
  unfold Lx.nameOkP
  rw [hw]
  simp

/-- what may stand behind a type -/
def StopT (r : List UInt8) : Prop := ∀ c, r.head? = some c → c = 44 ∨ c = 125 ∨ c = 41
/-- what may stand behind a kid of a union -/
def StopA (r : List UInt8) : Prop := StopT r ∨ ∃ z, r = 32 :: 124 :: 32 :: z
theorem StopT.cons {c : UInt8} {r : List UInt8} (h : c = 44 ∨ c = 125 ∨ c = 41) : StopT (c :: r) := fun d hd => by
  simp only [List.head?_cons, Option.some.injEq] at hd
  subst hd
  exact h
theorem StopA.wc {r : List UInt8} (h : StopA r) : ∀ c, r.head? = some c → wcB c = false := fun c hc => by
  rcases h with h | ⟨z, rfl⟩
  · rcases h c hc with rfl | rfl | rfl <;> rfl
  · simp only [List.head?_cons, Option.some.injEq] at hc
    subst hc
    rfl

/-- a type's bytes, and those of a kid of a union -/
def tb (n : Nat) (t : Ty) : List UInt8 := bt (Ty.text n t)
def ub (n : Nat) (t : Ty) : List UInt8 := if t.kind = 6 then 40 :: (tb n t ++ [41]) else tb n t
theorem ub_eq (n : Nat) (t : Ty) : bt (roundP 6 t (Ty.text n t)) = ub n t := by
  unfold roundP ub
  split
  · unfold roundB
    rw [bt_app, bt_app]
    rfl
  · rfl
theorem zip_with {α β γ : Type} (f : α → β → γ) (l : List α) (m : List β) : List.zipWith f l m = (l.zip m).map fun p => f p.1 p.2 := by
  induction l generalizing m with
  | nil => simp
  | cons a r ih => cases m <;> simp [ih]
theorem tb_rec {n : Nat} {t : Ty} (h : t.kind = 5) : tb (n + 1) t = 123 :: (joinB [44, 32] ((t.names.zip t.kids).map fun p => bt p.1 ++ [58, 32] ++ tb n p.2) ++ [125]) := by
  unfold tb
  rw [Ty.text, if_neg (by omega), if_neg (by omega), if_neg (by omega), if_neg (by omega), if_neg (by omega), if_pos h, bt_app, bt_app, bt_join]
  unfold fieldsP
  rw [zip_with, List.map_map]
  have e : (bt ∘ fun p : ByteArray × Ty => p.1 ++ ⟨#[58, 32]⟩ ++ Ty.text n p.2) = fun p => bt p.1 ++ [58, 32] ++ bt (Ty.text n p.2) := by
    funext p
    show bt (p.1 ++ ⟨#[58, 32]⟩ ++ Ty.text n p.2) = _
    rw [bt_app, bt_app]
    rfl
  rw [e]
  rfl
theorem tb_fn {n : Nat} {t : Ty} (h : t.kind = 6) : tb (n + 1) t = 40 :: (joinB [44, 32] (t.kids.dropLast.map (tb n)) ++ (41 :: 32 :: 45 :: 62 :: 32 :: (if (lastTy t.kids).kind = 7 then 40 :: (tb n (lastTy t.kids) ++ [41]) else tb n (lastTy t.kids)))) := by
  unfold tb
  rw [Ty.text, if_neg (by omega), if_neg (by omega), if_neg (by omega), if_neg (by omega), if_neg (by omega), if_neg (by omega), if_pos h, bt_app, bt_app, bt_app, bt_join, List.map_map]
  unfold roundP
  split
  · unfold roundB
    rw [bt_app, bt_app]
    simp only [List.append_assoc]
    rfl
  · simp only [List.append_assoc]
    rfl
theorem tb_un {n : Nat} {t : Ty} (h : t.kind = 7) : tb (n + 1) t = joinB [32, 124, 32] (t.kids.map (ub n)) := by
  unfold tb
  rw [Ty.text, if_neg (by omega), if_neg (by omega), if_neg (by omega), if_neg (by omega), if_neg (by omega), if_neg (by omega), if_neg (by omega), bt_join, List.map_map]
  congr 1
  exact List.map_congr_left fun k _ => ub_eq n k

theorem right_kinds {n : Nat} {t : Ty} {d : Int} (h : Right (n + 1) t d) : (0 ≤ t.kind ∧ t.kind ≤ 4) ∨ t.kind = 5 ∨ t.kind = 6 ∨ t.kind = 7 := by
  rcases h.2.2 with ⟨h | h | h | h, _⟩ | ⟨h, _⟩ | ⟨h, _⟩ | ⟨h, _⟩ | ⟨h, _⟩ <;> omega
theorem tb_word {n : Nat} {t : Ty} (h0 : 0 ≤ t.kind) (h4 : t.kind ≤ 4) : tb (n + 1) t = (if t.kind = 0 then [105, 110, 116] else if t.kind = 1 then [116, 101, 120, 116] else if t.kind = 2 then [98, 111, 111, 108] else if t.kind = 3 then [97, 110, 121] else bt t.name) := by
  unfold tb
  rw [Ty.text]
  by_cases c0 : t.kind = 0
  · rw [if_pos c0, if_pos c0]; rfl
  · rw [if_neg c0, if_neg c0]
    by_cases c1 : t.kind = 1
    · rw [if_pos c1, if_pos c1]; rfl
    · rw [if_neg c1, if_neg c1]
      by_cases c2 : t.kind = 2
      · rw [if_pos c2, if_pos c2]; rfl
      · rw [if_neg c2, if_neg c2]
        by_cases c3 : t.kind = 3
        · rw [if_pos c3, if_pos c3]; rfl
        · rw [if_neg c3, if_neg c3, if_pos (by omega)]
theorem right_name {n : Nat} {t : Ty} {d : Int} (h : Right (n + 1) t d) (h4 : t.kind = 4) : dottedP t.name = true ∧ t.names = [] ∧ t.kids = [] := by
  rcases h.2.2 with ⟨q, _⟩ | ⟨_, q1, q2, q3⟩ | ⟨q, _⟩ | ⟨q, _⟩ | ⟨q, _⟩
  · omega
  · exact ⟨q1, List.length_eq_zero_iff.1 q2, List.length_eq_zero_iff.1 q3⟩
  · omega
  · omega
  · omega
theorem name_none {s : ByteArray} (h : s.size = 0) : s = ⟨#[]⟩ := by
  cases s with
  | mk a =>
    have : a.size = 0 := h
    rw [Array.eq_empty_of_size_eq_zero this]
theorem right_plain {n : Nat} {t : Ty} {d : Int} (h : Right (n + 1) t d) (h3 : t.kind ≤ 3) : t = .mk t.kind ⟨#[]⟩ [] [] := by
  rcases h.2.2 with ⟨_, q1, q2, q3⟩ | ⟨q, _⟩ | ⟨q, _⟩ | ⟨q, _⟩ | ⟨q, _⟩
  · have e1 := name_none q1
    have e2 := List.length_eq_zero_iff.1 q2
    have e3 := List.length_eq_zero_iff.1 q3
    cases t
    simp_all
  · omega
  · omega
  · omega
  · omega
theorem word_wc {n : Nat} {t : Ty} {d : Int} (h : Right (n + 1) t d) (h0 : 0 ≤ t.kind) (h4 : t.kind ≤ 4) : (∀ c ∈ tb (n + 1) t, wcB c = true) ∧ ∃ c r, tb (n + 1) t = c :: r ∧ Lx.letterB c.toNat = true := by
  rw [tb_word h0 h4]
  by_cases c0 : t.kind = 0
  · rw [if_pos c0]
    exact ⟨by decide, _, _, rfl, by decide⟩
  · rw [if_neg c0]
    by_cases c1 : t.kind = 1
    · rw [if_pos c1]
      exact ⟨by decide, _, _, rfl, by decide⟩
    · rw [if_neg c1]
      by_cases c2 : t.kind = 2
      · rw [if_pos c2]
        exact ⟨by decide, _, _, rfl, by decide⟩
      · rw [if_neg c2]
        by_cases c3 : t.kind = 3
        · rw [if_pos c3]
          exact ⟨by decide, _, _, rfl, by decide⟩
        · rw [if_neg c3]
          obtain ⟨b1, b2, b3⟩ := dotted_bytes (right_name h (by omega)).1
          obtain ⟨c, r, e1, e2⟩ := head_byt b1
          exact ⟨b3, c, r, e1, by rw [e2]; exact b2⟩
theorem word_lit {s : ByteArray} (h : dottedP s = true) : bt s ≠ [105, 110, 116] ∧ bt s ≠ [116, 101, 120, 116] ∧ bt s ≠ [98, 111, 111, 108] ∧ bt s ≠ [97, 110, 121] := by
  have no : ∀ l : List UInt8, Lx.isWordP ⟨l.toArray⟩ = true → dotP ⟨l.toArray⟩ (l.length + 1) 0 = none → bt s ≠ l := fun l h1 h2 e => by
    have es : s = ⟨l.toArray⟩ := bt_inj (by rw [e]; rfl)
    rw [es, word_not h1 h2] at h
    cases h
  exact ⟨no _ (by decide) (by decide), no _ (by decide) (by decide), no _ (by decide) (by decide), no _ (by decide) (by decide)⟩
theorem word_same {n1 n2 : Nat} {t1 t2 : Ty} {d1 d2 : Int} (h1 : Right (n1 + 1) t1 d1) (h2 : Right (n2 + 1) t2 d2) (a1 : 0 ≤ t1.kind ∧ t1.kind ≤ 4) (a2 : 0 ≤ t2.kind ∧ t2.kind ≤ 4) (h : tb (n1 + 1) t1 = tb (n2 + 1) t2) : t1 = t2 := by
  by_cases c1 : t1.kind = 4
  · have w1 := right_name h1 c1
    have l1 := word_lit w1.1
    have e1 : tb (n1 + 1) t1 = bt t1.name := by rw [tb_word a1.1 a1.2, if_neg (by omega), if_neg (by omega), if_neg (by omega), if_neg (by omega)]
    by_cases c2 : t2.kind = 4
    · have w2 := right_name h2 c2
      have e2 : tb (n2 + 1) t2 = bt t2.name := by rw [tb_word a2.1 a2.2, if_neg (by omega), if_neg (by omega), if_neg (by omega), if_neg (by omega)]
      rw [e1, e2] at h
      have := bt_inj h
      obtain ⟨_, q1, q2⟩ := w1
      obtain ⟨_, q3, q4⟩ := w2
      cases t1
      cases t2
      simp_all
    · exfalso
      rw [e1, tb_word a2.1 a2.2] at h
      have : t2.kind = 0 ∨ t2.kind = 1 ∨ t2.kind = 2 ∨ t2.kind = 3 := by omega
      rcases this with q | q | q | q <;> simp [q] at h <;> first | exact l1.1 h | exact l1.2.1 h | exact l1.2.2.1 h | exact l1.2.2.2 h
  · by_cases c2 : t2.kind = 4
    · exfalso
      have l2 := word_lit (right_name h2 c2).1
      have e2 : tb (n2 + 1) t2 = bt t2.name := by rw [tb_word a2.1 a2.2, if_neg (by omega), if_neg (by omega), if_neg (by omega), if_neg (by omega)]
      rw [e2, tb_word a1.1 a1.2] at h
      have : t1.kind = 0 ∨ t1.kind = 1 ∨ t1.kind = 2 ∨ t1.kind = 3 := by omega
      rcases this with q | q | q | q <;> simp [q] at h <;> first | exact l2.1 h.symm | exact l2.2.1 h.symm | exact l2.2.2.1 h.symm | exact l2.2.2.2 h.symm
    · rw [tb_word a1.1 a1.2, tb_word a2.1 a2.2] at h
      have e1 := right_plain h1 (by omega)
      have e2 := right_plain h2 (by omega)
      have q1 : t1.kind = 0 ∨ t1.kind = 1 ∨ t1.kind = 2 ∨ t1.kind = 3 := by omega
      have q2 : t2.kind = 0 ∨ t2.kind = 1 ∨ t2.kind = 2 ∨ t2.kind = 3 := by omega
      have : t1.kind = t2.kind := by
        rcases q1 with q | q | q | q <;> rcases q2 with q' | q' | q' | q' <;> simp [q, q'] at h ⊢
      rw [e1, e2, this]
theorem words_case {n1 n2 : Nat} {t1 t2 : Ty} {d1 d2 : Int} {r1 r2 : List UInt8} (h1 : Right (n1 + 1) t1 d1) (h2 : Right (n2 + 1) t2 d2) (a1 : 0 ≤ t1.kind ∧ t1.kind ≤ 4) (a2 : 0 ≤ t2.kind ∧ t2.kind ≤ 4) (s1 : StopA r1) (s2 : StopA r2) (h : tb (n1 + 1) t1 ++ r1 = tb (n2 + 1) t2 ++ r2) : t1 = t2 ∧ r1 = r2 := by
  obtain ⟨e1, e2⟩ := span_one (p := wcB) (word_wc h1 a1.1 a1.2).1 (word_wc h2 a2.1 a2.2).1 s1.wc s2.wc h
  exact ⟨word_same h1 h2 a1 a2 e1, e2⟩

theorem right_union {n : Nat} {t : Ty} {d : Int} (h : Right (n + 1) t d) (h7 : t.kind = 7) : t.name = ⟨#[]⟩ ∧ t.names = [] ∧ (∀ k ∈ t.kids, k.kind ≠ 7 ∧ k.kind ≠ 3) ∧ ∃ a b r, t.kids = a :: b :: r := by
  rcases h.2.2 with ⟨q, _⟩ | ⟨q, _⟩ | ⟨q, _⟩ | ⟨q, _⟩ | ⟨_, q1, q2, q3, q4⟩
  · omega
  · omega
  · omega
  · omega
  · refine ⟨name_none q2, List.length_eq_zero_iff.1 q3, fun k hk => ?_, ?_⟩
    · obtain ⟨i, hi, rfl⟩ := List.getElem_of_mem hk
      exact (q1 i hi).1
    · match hk : t.kids with
      | [] => rw [hk] at q4; simp at q4
      | [a] => rw [hk] at q4; simp at q4
      | a :: b :: r => exact ⟨a, b, r, rfl⟩

/-- what a type's text begins with -/
theorem head_cls {n : Nat} {t : Ty} {d : Int} (h : Right n t d) : ∃ c r, tb n t = c :: r ∧ (t.kind ≤ 4 → Lx.letterB c.toNat = true) ∧ (t.kind = 5 → c = 123) ∧ (t.kind = 6 → c = 40) ∧ (Lx.letterB c.toNat = true ∨ c = 123 ∨ c = 40) := by
  induction n generalizing t d with
  | zero => exact h.elim
  | succ n ih =>
    rcases right_kinds h with ⟨a0, a4⟩ | a | a | a
    · obtain ⟨_, c, r, e, hl⟩ := word_wc h a0 a4
      exact ⟨c, r, e, fun _ => hl, fun q => by omega, fun q => by omega, .inl hl⟩
    · exact ⟨123, _, tb_rec a, fun q => by omega, fun _ => rfl, fun q => by omega, .inr (.inl rfl)⟩
    · exact ⟨40, _, tb_fn a, fun q => by omega, fun q => by omega, fun _ => rfl, .inr (.inr rfl)⟩
    · obtain ⟨_, _, _, x, y, r, e⟩ := right_union h a
      obtain ⟨c, z, e1, _, _, _, e2⟩ := ih (h.2.1 x (by rw [e]; simp))
      by_cases c6 : x.kind = 6
      · have e3 : ∃ z', tb (n + 1) t = 40 :: z' := by
          rw [tb_un a, e]
          simp only [List.map_cons, joinB, ub, if_pos c6]
          exact ⟨_, rfl⟩
        obtain ⟨z', e3⟩ := e3
        exact ⟨40, z', e3, fun q => by omega, fun q => by omega, fun q => by omega, .inr (.inr rfl)⟩
      · have e3 : ∃ z', tb (n + 1) t = c :: z' := by
          rw [tb_un a, e]
          simp only [List.map_cons, joinB, ub, if_neg c6, e1]
          exact ⟨_, rfl⟩
        obtain ⟨z', e3⟩ := e3
        exact ⟨c, z', e3, fun q => by omega, fun q => by omega, fun q => by omega, e2⟩
theorem letter_ne {c : UInt8} (h : Lx.letterB c.toNat = true ∨ c = 123 ∨ c = 40) : c ≠ 41 ∧ c ≠ 125 ∧ c ≠ 44 ∧ c ≠ 32 := by
  refine ⟨?_, ?_, ?_, ?_⟩ <;> rintro rfl <;> revert h <;> decide

theorem right_rec {n : Nat} {t : Ty} {d : Int} (h : Right (n + 1) t d) (h5 : t.kind = 5) : t.name = ⟨#[]⟩ ∧ (∀ x ∈ t.names, Lx.nameOkP x = true) ∧ t.names.length = t.kids.length := by
  rcases h.2.2 with ⟨q, _⟩ | ⟨q, _⟩ | ⟨_, q1, q2, q3⟩ | ⟨q, _⟩ | ⟨q, _⟩
  · omega
  · omega
  · refine ⟨name_none q2, fun x hx => ?_, q3⟩
    obtain ⟨i, hi, rfl⟩ := List.getElem_of_mem hx
    exact (q1 i hi).1
  · omega
  · omega
theorem right_fn {n : Nat} {t : Ty} {d : Int} (h : Right (n + 1) t d) (h6 : t.kind = 6) : t.name = ⟨#[]⟩ ∧ t.names = [] ∧ t.kids ≠ [] := by
  rcases h.2.2 with ⟨q, _⟩ | ⟨q, _⟩ | ⟨q, _⟩ | ⟨_, q1, q2, q3⟩ | ⟨q, _⟩
  · omega
  · omega
  · omega
  · exact ⟨name_none q1, List.length_eq_zero_iff.1 q2, fun e => by rw [e] at q3; simp at q3⟩
  · omega
theorem zip_one {l1 l2 : List ByteArray} {m1 m2 : List Ty} (h1 : l1.length = m1.length) (h2 : l2.length = m2.length) (h : l1.zip m1 = l2.zip m2) : l1 = l2 ∧ m1 = m2 := by
  have e1 := List.map_fst_zip (l₁ := l1) (l₂ := m1) (by omega)
  have e2 := List.map_fst_zip (l₁ := l2) (l₂ := m2) (by omega)
  have e3 := List.map_snd_zip (l₁ := l1) (l₂ := m1) (by omega)
  have e4 := List.map_snd_zip (l₁ := l2) (l₂ := m2) (by omega)
  rw [h] at e1 e3
  exact ⟨e1.symm.trans e2, e3.symm.trans e4⟩
theorem lastTy_mem {ks : List Ty} (h : ks ≠ []) : lastTy ks ∈ ks ∧ ks.dropLast ++ [lastTy ks] = ks := by
  have e : lastTy ks = ks.getLast h := by unfold lastTy; rw [List.getLastD_eq_getLast?, List.getLast?_eq_some_getLast h]; rfl
  rw [e]
  exact ⟨List.getLast_mem h, List.dropLast_concat_getLast h⟩

/-- two types of such depths are told by their texts -/
def OneAt (m1 m2 : Nat) : Prop := ∀ k1 k2 d1 d2 r1 r2, Right m1 k1 d1 → Right m2 k2 d2 → StopT r1 → StopT r2 → tb m1 k1 ++ r1 = tb m2 k2 ++ r2 → k1 = k2 ∧ r1 = r2

theorem rec_case {m1 m2 : Nat} (ih : OneAt m1 m2) {t1 t2 : Ty} {d1 d2 : Int} {r1 r2 : List UInt8} (h1 : Right (m1 + 1) t1 d1) (h2 : Right (m2 + 1) t2 d2) (a1 : t1.kind = 5) (a2 : t2.kind = 5) (h : tb (m1 + 1) t1 ++ r1 = tb (m2 + 1) t2 ++ r2) : t1 = t2 ∧ r1 = r2 := by
  obtain ⟨n1, o1, l1⟩ := right_rec h1 a1
  obtain ⟨n2, o2, l2⟩ := right_rec h2 a2
  rw [tb_rec a1, tb_rec a2] at h
  simp only [List.cons_append, List.append_assoc, List.cons.injEq, true_and, List.nil_append] at h
  have fst : ∀ (l : List ByteArray) (m : List Ty), ∀ p ∈ l.zip m, p.1 ∈ l ∧ p.2 ∈ m := fun l m p hp => ⟨(List.of_mem_zip hp).1, (List.of_mem_zip hp).2⟩
  have hd : ∀ (x : ByteArray) (s z : List UInt8), Lx.nameOkP x = true → bt x ++ s ≠ 125 :: z := fun x s z hx e => by
    obtain ⟨b1, b2, _⟩ := name_bytes hx
    obtain ⟨c, r, e1, e2⟩ := head_byt b1
    rw [e1] at e
    simp only [List.cons_append, List.cons.injEq] at e
    rw [← e2, e.1] at b2
    exact absurd b2 (by decide)
  have := join_one (fun p : ByteArray × Ty => bt p.1 ++ ([58, 32] ++ tb m1 p.2)) (fun p => bt p.1 ++ ([58, 32] ++ tb m2 p.2)) [44, 32] StopT (fun z => StopT.cons (.inl rfl)) (t1.names.zip t1.kids) (t2.names.zip t2.kids) (fun x hx y hy s1 s2 q1 q2 e => by
    obtain ⟨x1, x2⟩ := fst _ _ x hx
    obtain ⟨y1, y2⟩ := fst _ _ y hy
    simp only [List.append_assoc] at e
    obtain ⟨e1, e2⟩ := span_one (p := fun c => Lx.alB c.toNat) (name_al (o1 _ x1)) (name_al (o2 _ y1)) (fun c hc => by simp at hc; subst hc; decide) (fun c hc => by simp at hc; subst hc; decide) e
    simp only [List.append_cancel_left_eq] at e2
    obtain ⟨e3, e4⟩ := ih _ _ _ _ _ _ (h1.2.1 _ x2) (h2.2.1 _ y2) q1 q2 e2
    exact ⟨Prod.ext (bt_inj e1) e3, e4⟩) (125 :: r1) (125 :: r2) (StopT.cons (.inr (.inl rfl))) (StopT.cons (.inr (.inl rfl))) (fun z e => by simp at e) (fun z e => by simp at e) (fun x hx s e => hd x.1 _ _ (o1 _ (fst _ _ x hx).1) (by rw [List.append_assoc] at e; exact e)) (fun x hx s e => hd x.1 _ _ (o2 _ (fst _ _ x hx).1) (by rw [List.append_assoc] at e; exact e)) h
  obtain ⟨e1, e2⟩ := this
  obtain ⟨e3, e4⟩ := zip_one l1 l2 e1
  refine ⟨?_, by simpa using e2⟩
  cases t1
  cases t2
  simp_all

end Go.Proofs.YthomlchbgcjcfaaGreatDoor

namespace Go.Proofs.YthomlchbgcjcfaaGreatDoor
open Go.RowKit

theorem head_not {n : Nat} {t : Ty} {d : Int} (h : Right n t d) {c : UInt8} (hc : c = 41 ∨ c = 125 ∨ c = 44 ∨ c = 32) (s z : List UInt8) : tb n t ++ s ≠ c :: z := fun e => by
  obtain ⟨c', r, e1, _, _, _, e2⟩ := head_cls h
  rw [e1] at e
  simp only [List.cons_append, List.cons.injEq] at e
  obtain ⟨n1, n2, n3, n4⟩ := letter_ne e2
  rw [e.1] at n1 n2 n3 n4
  rcases hc with hc | hc | hc | hc
  · exact n1 hc
  · exact n2 hc
  · exact n3 hc
  · exact n4 hc

/-- a type ahead of a bracket is the first parameter of such a list -/
theorem param_case {m q : Nat} (ih : OneAt m q) {l : Ty} {d : Int} (hl : Right m l d) {ps : List Ty} {d' : Int} (hp : ∀ p ∈ ps, Right q p d') {r1 z : List UInt8} (h : tb m l ++ (41 :: r1) = joinB [44, 32] (ps.map (tb q)) ++ (41 :: z)) : r1 = z := by
  cases ps with
  | nil =>
    simp only [List.map_nil, joinB, List.nil_append] at h
    exact absurd h (head_not hl (.inl rfl) _ _)
  | cons p ps =>
    simp only [List.map_cons, joinB, List.append_assoc] at h
    cases ps with
    | nil =>
      simp only [List.map_nil, List.flatMap_nil, List.nil_append] at h
      obtain ⟨_, e⟩ := ih _ _ _ _ _ _ hl (hp p (by simp)) (StopT.cons (.inr (.inr rfl))) (StopT.cons (.inr (.inr rfl))) h
      simpa using e
    | cons p' ps =>
      simp only [List.map_cons, List.flatMap_cons, List.append_assoc, List.cons_append] at h
      obtain ⟨_, e⟩ := ih _ _ _ _ _ _ hl (hp p (by simp)) (StopT.cons (.inr (.inr rfl))) (StopT.cons (.inl rfl)) h
      simp at e

theorem gives_case {N : Nat} (ih : ∀ a b, a ≤ N → b ≤ N → OneAt a b) {m1 m2 : Nat} (b1 : m1 ≤ N) (b2 : m2 ≤ N) {l1 l2 : Ty} {d1 d2 : Int} (h1 : Right m1 l1 d1) (h2 : Right m2 l2 d2) (u2 : l2.kind ≠ 7) {r1 r2 : List UInt8} (s1 : StopT r1)
    (h : 40 :: (tb m1 l1 ++ [41]) ++ r1 = tb m2 l2 ++ r2) : False := by
  cases m2 with
  | zero => exact h2.elim
  | succ q =>
    obtain ⟨c, r, e1, k4, k5, _, _⟩ := head_cls h2
    have hc : c = 40 := by
      rw [e1] at h
      simp only [List.cons_append, List.cons.injEq] at h
      exact h.1.symm
    have h6 : l2.kind = 6 := by
      rcases right_kinds h2 with ⟨_, a⟩ | a | a | a
      · have := k4 a
        rw [hc] at this
        exact absurd this (by decide)
      · rw [k5 a] at hc
        exact absurd hc (by decide)
      · exact a
      · exact absurd a u2
    rw [tb_fn h6] at h
    simp only [List.cons_append, List.append_assoc, List.cons.injEq, true_and, List.nil_append] at h
    have := param_case (ih m1 q b1 (by omega)) h1 (d' := d2 - 1) (fun p hp => h2.2.1 p (List.dropLast_subset _ hp)) h
    have hs := s1 32 (by rw [this]; rfl)
    exact absurd hs (by decide)

theorem fn_case {N : Nat} (ih : ∀ a b, a ≤ N → b ≤ N → OneAt a b) {m1 m2 : Nat} (b1 : m1 ≤ N) (b2 : m2 ≤ N) {t1 t2 : Ty} {d1 d2 : Int} {r1 r2 : List UInt8} (h1 : Right (m1 + 1) t1 d1) (h2 : Right (m2 + 1) t2 d2) (a1 : t1.kind = 6) (a2 : t2.kind = 6) (s1 : StopT r1) (s2 : StopT r2) (h : tb (m1 + 1) t1 ++ r1 = tb (m2 + 1) t2 ++ r2) : t1 = t2 ∧ r1 = r2 := by
  obtain ⟨n1, o1, l1⟩ := right_fn h1 a1
  obtain ⟨n2, o2, l2⟩ := right_fn h2 a2
  obtain ⟨q1, w1⟩ := lastTy_mem l1
  obtain ⟨q2, w2⟩ := lastTy_mem l2
  rw [tb_fn a1, tb_fn a2] at h
  simp only [List.cons_append, List.append_assoc, List.cons.injEq, true_and] at h
  have r1' : ∀ p ∈ t1.kids.dropLast, Right m1 p (d1 - 1) := fun p hp => h1.2.1 p (List.dropLast_subset _ hp)
  have r2' : ∀ p ∈ t2.kids.dropLast, Right m2 p (d2 - 1) := fun p hp => h2.2.1 p (List.dropLast_subset _ hp)
  obtain ⟨e1, e2⟩ := join_one (tb m1) (tb m2) [44, 32] StopT (fun z => StopT.cons (.inl rfl)) t1.kids.dropLast t2.kids.dropLast (fun x hx y hy z1 z2 => ih m1 m2 b1 b2 x y _ _ z1 z2 (r1' x hx) (r2' y hy)) _ _ (StopT.cons (.inr (.inr rfl))) (StopT.cons (.inr (.inr rfl))) (fun z e => by simp at e) (fun z e => by simp at e) (fun x hx s => head_not (r1' x hx) (.inl rfl) s _) (fun x hx s => head_not (r2' x hx) (.inl rfl) s _) h
  simp only [List.cons.injEq, true_and] at e2
  have key : lastTy t1.kids = lastTy t2.kids ∧ r1 = r2 := by
    by_cases u1 : (lastTy t1.kids).kind = 7
    · by_cases u2 : (lastTy t2.kids).kind = 7
      · rw [if_pos u1, if_pos u2] at e2
        simp only [List.cons_append, List.append_assoc, List.cons.injEq, true_and, List.nil_append] at e2
        obtain ⟨e3, e4⟩ := ih m1 m2 b1 b2 _ _ _ _ _ _ (h1.2.1 _ q1) (h2.2.1 _ q2) (StopT.cons (.inr (.inr rfl))) (StopT.cons (.inr (.inr rfl))) e2
        exact ⟨e3, by simpa using e4⟩
      · rw [if_pos u1, if_neg u2] at e2
        exact (gives_case ih b1 b2 (h1.2.1 _ q1) (h2.2.1 _ q2) u2 s1 e2).elim
    · by_cases u2 : (lastTy t2.kids).kind = 7
      · rw [if_neg u1, if_pos u2] at e2
        exact (gives_case ih b2 b1 (h2.2.1 _ q2) (h1.2.1 _ q1) u1 s2 e2.symm).elim
      · rw [if_neg u1, if_neg u2] at e2
        exact ih m1 m2 b1 b2 _ _ _ _ _ _ (h1.2.1 _ q1) (h2.2.1 _ q2) s1 s2 e2
  refine ⟨?_, key.2⟩
  have ek : t1.kids = t2.kids := by rw [← w1, ← w2, e1, key.1]
  cases t1
  cases t2
  simp_all

/-- kids of unions -/
theorem atom_case {N : Nat} (ih : ∀ a b, a ≤ N → b ≤ N → OneAt a b) {m1 m2 : Nat} (b1 : m1 ≤ N) (b2 : m2 ≤ N) {t1 t2 : Ty} {d1 d2 : Int} {r1 r2 : List UInt8} (h1 : Right m1 t1 d1) (h2 : Right m2 t2 d2) (a1 : t1.kind ≠ 7) (a2 : t2.kind ≠ 7) (s1 : StopA r1) (s2 : StopA r2) (h : ub m1 t1 ++ r1 = ub m2 t2 ++ r2) : t1 = t2 ∧ r1 = r2 := by
  obtain ⟨c1, z1, e1, k14, k15, k16, _⟩ := head_cls h1
  obtain ⟨c2, z2, e2, k24, k25, k26, _⟩ := head_cls h2
  cases m1 with
  | zero => exact h1.elim
  | succ m1 =>
    cases m2 with
    | zero => exact h2.elim
    | succ m2 =>
      have hh : c1 = c2 := by
        unfold ub at h
        by_cases x1 : t1.kind = 6
        · by_cases x2 : t2.kind = 6
          · rw [k16 x1, k26 x2]
          · rw [if_pos x1, if_neg x2, e2] at h
            simp only [List.cons_append, List.cons.injEq] at h
            rw [k16 x1, h.1]
        · by_cases x2 : t2.kind = 6
          · rw [if_neg x1, if_pos x2, e1] at h
            simp only [List.cons_append, List.cons.injEq] at h
            rw [k26 x2, h.1]
          · rw [if_neg x1, if_neg x2, e1, e2] at h
            simp only [List.cons_append, List.cons.injEq] at h
            exact h.1
      rcases right_kinds h1 with p1 | p1 | p1 | p1
      · have g := k14 p1.2
        rcases right_kinds h2 with p2 | p2 | p2 | p2
        · unfold ub at h
          rw [if_neg (by omega), if_neg (by omega)] at h
          exact words_case h1 h2 p1 p2 s1 s2 h
        · rw [hh, k25 p2] at g
          exact absurd g (by decide)
        · rw [hh, k26 p2] at g
          exact absurd g (by decide)
        · exact absurd p2 a2
      · have g := k15 p1
        rcases right_kinds h2 with p2 | p2 | p2 | p2
        · have g2 := k24 p2.2
          rw [← hh, g] at g2
          exact absurd g2 (by decide)
        · unfold ub at h
          rw [if_neg (by omega), if_neg (by omega)] at h
          exact rec_case (ih m1 m2 (by omega) (by omega)) h1 h2 p1 p2 h
        · rw [hh, k26 p2] at g
          exact absurd g (by decide)
        · exact absurd p2 a2
      · have g := k16 p1
        rcases right_kinds h2 with p2 | p2 | p2 | p2
        · have g2 := k24 p2.2
          rw [← hh, g] at g2
          exact absurd g2 (by decide)
        · rw [hh, k25 p2] at g
          exact absurd g (by decide)
        · unfold ub at h
          rw [if_pos p1, if_pos p2] at h
          simp only [List.cons_append, List.append_assoc, List.cons.injEq, true_and, List.nil_append] at h
          obtain ⟨e3, e4⟩ := ih _ _ b1 b2 _ _ _ _ _ _ h1 h2 (StopT.cons (.inr (.inr rfl))) (StopT.cons (.inr (.inr rfl))) h
          exact ⟨e3, by simpa using e4⟩
        · exact absurd p2 a2
      · exact absurd p1 a1

theorem stopT_32 {z : List UInt8} (h : StopT (32 :: z)) : False := absurd (h 32 rfl) (by decide)

/-- a union is none of the others -/
theorem mixed_case {N : Nat} (ih : ∀ a b, a ≤ N → b ≤ N → OneAt a b) {m1 m2 : Nat} (b1 : m1 ≤ N) (b2 : m2 ≤ N) {t1 t2 : Ty} {d1 d2 : Int} {r1 r2 : List UInt8} (h1 : Right (m1 + 1) t1 d1) (h2 : Right (m2 + 1) t2 d2) (a1 : t1.kind = 7) (a2 : t2.kind ≠ 7) (s2 : StopT r2) (h : tb (m1 + 1) t1 ++ r1 = tb (m2 + 1) t2 ++ r2) : False := by
  obtain ⟨_, _, hk, a, b, r, ek⟩ := right_union h1 a1
  have ha := h1.2.1 a (by rw [ek]; simp)
  have ha7 := (hk a (by rw [ek]; simp)).1
  rw [tb_un a1, ek] at h
  simp only [List.map_cons, joinB, List.flatMap_cons, List.append_assoc, List.cons_append, List.nil_append] at h
  obtain ⟨c1, z1, e1, k14, k15, k16, _⟩ := head_cls ha
  obtain ⟨c2, z2, e2, k24, k25, k26, _⟩ := head_cls h2
  cases m1 with
  | zero => exact ha.elim
  | succ m1 =>
    by_cases x2 : t2.kind = 6
    · by_cases x1 : a.kind = 6
      · unfold ub at h
        rw [if_pos x1, tb_fn x2] at h
        simp only [List.cons_append, List.append_assoc, List.cons.injEq, true_and, List.nil_append] at h
        have := param_case (ih _ m2 b1 b2) ha (d' := d2 - 1) (fun p hp => h2.2.1 p (List.dropLast_subset _ hp)) h
        simp at this
      · unfold ub at h
        rw [if_neg x1, e1, e2, k26 x2] at h
        simp only [List.cons_append, List.cons.injEq] at h
        rcases right_kinds ha with p | p | p | p
        · have := k14 p.2
          rw [h.1] at this
          exact absurd this (by decide)
        · rw [k15 p] at h
          exact absurd h.1 (by decide)
        · exact x1 p
        · exact ha7 p
    · have hu : ub (m1 + 1) a ++ (32 :: 124 :: 32 :: (ub (m1 + 1) b ++ ((List.map (ub (m1 + 1)) r).flatMap (fun x => [32, 124, 32] ++ x) ++ r1))) = ub (m2 + 1) t2 ++ r2 := by
        have e3 : ub (m2 + 1) t2 = tb (m2 + 1) t2 := by unfold ub; rw [if_neg x2]
        rw [e3]
        exact h
      have na : a.kind ≠ 6 → ub (m1 + 1) a = tb (m1 + 1) a := fun q => by unfold ub; rw [if_neg q]
      have n2 : ub (m2 + 1) t2 = tb (m2 + 1) t2 := by unfold ub; rw [if_neg x2]
      have hh : c1 = c2 := by
        rw [n2] at hu
        by_cases x1 : a.kind = 6
        · have e3 : ub (m1 + 1) a = 40 :: (tb (m1 + 1) a ++ [41]) := by unfold ub; rw [if_pos x1]
          rw [e3, e2] at hu
          simp only [List.cons_append, List.cons.injEq] at hu
          rw [k16 x1, hu.1]
        · rw [na x1, e1, e2] at hu
          simp only [List.cons_append, List.cons.injEq] at hu
          exact hu.1
      rcases right_kinds h2 with p2 | p2 | p2 | p2
      · have g2 := k24 p2.2
        rcases right_kinds ha with p | p | p | p
        · rw [n2, na (by omega)] at hu
          obtain ⟨_, e⟩ := words_case ha h2 p p2 (.inr ⟨_, rfl⟩) (.inl s2) hu
          rw [← e] at s2
          exact stopT_32 s2
        · rw [← hh, k15 p] at g2
          exact absurd g2 (by decide)
        · rw [← hh, k16 p] at g2
          exact absurd g2 (by decide)
        · exact ha7 p
      · have g2 := k25 p2
        rcases right_kinds ha with p | p | p | p
        · have := k14 p.2
          rw [hh, g2] at this
          exact absurd this (by decide)
        · rw [n2, na (by omega)] at hu
          obtain ⟨_, e⟩ := rec_case (ih m1 m2 (by omega) b2) ha h2 p p2 hu
          rw [← e] at s2
          exact stopT_32 s2
        · rw [← hh, k16 p] at g2
          exact absurd g2 (by decide)
        · exact ha7 p
      · exact x2 p2
      · exact a2 p2

theorem union_case {N : Nat} (ih : ∀ a b, a ≤ N → b ≤ N → OneAt a b) {m1 m2 : Nat} (b1 : m1 ≤ N) (b2 : m2 ≤ N) {t1 t2 : Ty} {d1 d2 : Int} {r1 r2 : List UInt8} (h1 : Right (m1 + 1) t1 d1) (h2 : Right (m2 + 1) t2 d2) (a1 : t1.kind = 7) (a2 : t2.kind = 7) (s1 : StopT r1) (s2 : StopT r2) (h : tb (m1 + 1) t1 ++ r1 = tb (m2 + 1) t2 ++ r2) : t1 = t2 ∧ r1 = r2 := by
  obtain ⟨n1, o1, k1, _⟩ := right_union h1 a1
  obtain ⟨n2, o2, k2, _⟩ := right_union h2 a2
  rw [tb_un a1, tb_un a2] at h
  have hd : ∀ (m : Nat) (x : Ty) (d : Int), Right m x d → ∀ (s e : List UInt8), StopT e → ub m x ++ s ≠ e := fun m x d hx s e he q => by
    obtain ⟨c, z, e1, _, _, k6, e2⟩ := head_cls hx
    obtain ⟨y1, y2, y3, _⟩ := letter_ne e2
    have : e.head? = some c := by
      rw [← q]
      unfold ub
      split
      · rename_i x6
        rw [k6 x6]
        rfl
      · rw [e1]
        rfl
    rcases he c this with q | q | q
    · exact y3 q
    · exact y2 q
    · exact y1 q
  obtain ⟨e1, e2⟩ := join_one (ub m1) (ub m2) [32, 124, 32] StopA (fun z => .inr ⟨z, rfl⟩) t1.kids t2.kids (fun x hx y hy z1 z2 w1 w2 e => atom_case ih b1 b2 (h1.2.1 x hx) (h2.2.1 y hy) (k1 x hx).1 (k2 y hy).1 w1 w2 e) r1 r2 (.inl s1) (.inl s2) (fun z e => by rw [e] at s1; exact stopT_32 s1) (fun z e => by rw [e] at s2; exact stopT_32 s2) (fun x hx s => hd m1 x _ (h1.2.1 x hx) s r2 s2) (fun x hx s => hd m2 x _ (h2.2.1 x hx) s r1 s1) h
  refine ⟨?_, e2⟩
  cases t1
  cases t2
  simp_all

theorem text_step {N : Nat} (ih : ∀ a b, a ≤ N → b ≤ N → OneAt a b) {m1 m2 : Nat} (b1 : m1 ≤ N) (b2 : m2 ≤ N) : OneAt (m1 + 1) (m2 + 1) := by
  intro t1 t2 d1 d2 r1 r2 h1 h2 s1 s2 h
  obtain ⟨c1, z1, e1, k14, k15, k16, _⟩ := head_cls h1
  obtain ⟨c2, z2, e2, k24, k25, k26, _⟩ := head_cls h2
  have hh : c1 = c2 := by
    rw [e1, e2] at h
    simp only [List.cons_append, List.cons.injEq] at h
    exact h.1
  by_cases u1 : t1.kind = 7
  · by_cases u2 : t2.kind = 7
    · exact union_case ih b1 b2 h1 h2 u1 u2 s1 s2 h
    · exact (mixed_case ih b1 b2 h1 h2 u1 u2 s2 h).elim
  · by_cases u2 : t2.kind = 7
    · exact (mixed_case ih b2 b1 h2 h1 u2 u1 s1 h.symm).elim
    · rcases right_kinds h1 with p1 | p1 | p1 | p1
      · have g := k14 p1.2
        rcases right_kinds h2 with p2 | p2 | p2 | p2
        · exact words_case h1 h2 p1 p2 (.inl s1) (.inl s2) h
        · rw [hh, k25 p2] at g
          exact absurd g (by decide)
        · rw [hh, k26 p2] at g
          exact absurd g (by decide)
        · exact absurd p2 u2
      · have g := k15 p1
        rcases right_kinds h2 with p2 | p2 | p2 | p2
        · have g2 := k24 p2.2
          rw [← hh, g] at g2
          exact absurd g2 (by decide)
        · exact rec_case (ih m1 m2 b1 b2) h1 h2 p1 p2 h
        · rw [hh, k26 p2] at g
          exact absurd g (by decide)
        · exact absurd p2 u2
      · have g := k16 p1
        rcases right_kinds h2 with p2 | p2 | p2 | p2
        · have g2 := k24 p2.2
          rw [← hh, g] at g2
          exact absurd g2 (by decide)
        · rw [hh, k25 p2] at g
          exact absurd g (by decide)
        · exact fn_case ih b1 b2 h1 h2 p1 p2 s1 s2 h
        · exact absurd p2 u2
      · exact absurd p1 u1
theorem text_all (N : Nat) : ∀ a b, a ≤ N → b ≤ N → OneAt a b := by
  induction N with
  | zero =>
    intro a b ha _ k1 k2 d1 d2 r1 r2 h1
    obtain rfl : a = 0 := by omega
    exact h1.elim
  | succ N ih =>
    intro a b ha hb
    cases a with
    | zero => intro k1 k2 d1 d2 r1 r2 h1; exact h1.elim
    | succ a =>
      cases b with
      | zero => intro k1 k2 d1 d2 r1 r2 _ h2; exact h2.elim
      | succ b => exact text_step ih (by omega) (by omega)
/-- right types of one text are one type -/
theorem text_one {n m : Nat} {t u : Ty} {d e : Int} (h1 : Right n t d) (h2 : Right m u e) (h : Ty.text n t = Ty.text m u) : t = u :=
  (text_all (max n m) n m (Nat.le_max_left ..) (Nat.le_max_right ..) t u d e [] [] h1 h2 (fun c hc => by cases hc) (fun c hc => by cases hc) (by unfold tb; rw [h])).1

end Go.Proofs.YthomlchbgcjcfaaGreatDoor

namespace Go.Proofs.YthomlchbgcjcfaaGreatDoor
open Go.RowKit

theorem map_same {α : Type} {f g : Ty → α} {l : List Ty} (h : ∀ k ∈ l, f k = g k) : l.map f = l.map g := List.map_congr_left h
theorem zip_same {f g : Ty → ByteArray} {l : List ByteArray} {m : List Ty} (h : ∀ k ∈ m, f k = g k) : fieldsP f l m = fieldsP g l m := by
  unfold fieldsP
  induction l generalizing m with
  | nil => simp
  | cons x r ih =>
    cases m with
    | nil => simp
    | cons k m =>
      simp only [List.zipWith_cons_cons]
      rw [h k (by simp), ih fun q hq => h q (List.mem_cons_of_mem _ hq)]
theorem text_up {n : Nat} {t : Ty} {d : Int} (h : Right n t d) : Ty.text (n + 1) t = Ty.text n t := by
  induction n generalizing t d with
  | zero => exact h.elim
  | succ n ih =>
    have hk : ∀ k ∈ t.kids, Ty.text (n + 1) k = Ty.text n k := fun k hk => ih (h.2.1 k hk)
    have hd : t.kids.dropLast.map (Ty.text (n + 1)) = t.kids.dropLast.map (Ty.text n) := map_same fun k hk' => hk k (List.dropLast_subset _ hk')
    have hr : (t.kids.map fun k => roundP 6 k (Ty.text (n + 1) k)) = t.kids.map fun k => roundP 6 k (Ty.text n k) := map_same fun k hk' => by rw [hk k hk']
    have hf : fieldsP (Ty.text (n + 1)) t.names t.kids = fieldsP (Ty.text n) t.names t.kids := zip_same hk
    have hl : t.kind = 6 → Ty.text (n + 1) (lastTy t.kids) = Ty.text n (lastTy t.kids) := fun h6 => hk _ (lastTy_mem (right_fn h h6).2.2).1
    rw [Ty.text.eq_2 t (n + 1), Ty.text.eq_2 t n, hd, hr, hf]
    by_cases c6 : t.kind = 6
    · rw [hl c6]
    · rw [if_neg c6, if_neg c6]
theorem right_up {n : Nat} {t : Ty} {d : Int} (h : Right n t d) : Right (n + 1) t d := by
  induction n generalizing t d with
  | zero => exact h.elim
  | succ n ih =>
    refine ⟨h.1, fun k hk => ih (h.2.1 k hk), ?_⟩
    rcases h.2.2 with q | q | q | q | ⟨q1, q2, q3⟩
    · exact .inl q
    · exact .inr (.inl q)
    · exact .inr (.inr (.inl q))
    · exact .inr (.inr (.inr (.inl q)))
    · refine .inr (.inr (.inr (.inr ⟨q1, fun i hi => ⟨(q2 i hi).1, fun h0 => ?_⟩, q3⟩)))
      rw [text_up (h.2.1 _ (List.getElem_mem hi)), text_up (h.2.1 _ (List.getElem_mem _))]
      exact (q2 i hi).2 h0
theorem bulk_up {n : Nat} {t : Ty} {d : Int} (h : Right n t d) : Ty.bulk (n + 1) t = Ty.bulk n t := by
  induction n generalizing t d with
  | zero => exact h.elim
  | succ n ih =>
    rw [Ty.bulk, Ty.bulk, map_same fun k hk => ih (h.2.1 k hk)]

/-- how deep it is -/
def Ty.hgt : Nat → Ty → Nat
  | 0, _ => 0
  | n + 1, t => t.kids.foldl (fun m k => max m (Ty.hgt n k + 1)) 0
theorem fold_max (f : Ty → Nat) (l : List Ty) (a : Nat) (b : Int) : ((l.foldl (fun m k => max m (f k + 1)) a : Nat) : Int) ≤ b ↔ (a : Int) ≤ b ∧ ∀ k ∈ l, (f k : Int) + 1 ≤ b := by
  induction l generalizing a with
  | nil => simp
  | cons x r ih =>
    rw [List.foldl_cons, ih]
    constructor
    · rintro ⟨h1, h2⟩
      refine ⟨by omega, fun k hk => ?_⟩
      rcases List.mem_cons.1 hk with rfl | hk
      · omega
      · exact h2 k hk
    · rintro ⟨h1, h2⟩
      have := h2 x (by simp)
      exact ⟨by omega, fun k hk => h2 k (List.mem_cons_of_mem _ hk)⟩
theorem right_hgt {n : Nat} {t : Ty} {d d' : Int} (h : Right n t d) : Right n t d' ↔ (Ty.hgt n t : Int) ≤ d' := by
  induction n generalizing t d d' with
  | zero => exact h.elim
  | succ n ih =>
    rw [Ty.hgt, fold_max]
    constructor
    · rintro ⟨h1, h2, _⟩
      exact ⟨h1, fun k hk => by have := (ih (h.2.1 k hk)).1 (h2 k hk); omega⟩
    · rintro ⟨h1, h2⟩
      exact ⟨h1, fun k hk => (ih (h.2.1 k hk)).2 (by have := h2 k hk; omega), h.2.2⟩
theorem right_hgt_le {n : Nat} {t : Ty} {d : Int} (h : Right n t d) : (Ty.hgt n t : Int) ≤ d := (right_hgt h).1 h

/-- what a union of them is made of -/
def atoms (ts : List Ty) : List Ty := ts.flatMap fun t => if t.kind = 7 then t.kids else [t]
theorem atoms_app (a b : List Ty) : atoms (a ++ b) = atoms a ++ atoms b := by simp [atoms]
theorem atom_of {ts : List Ty} {x : Ty} : x ∈ atoms ts ↔ ∃ t ∈ ts, (t.kind = 7 ∧ x ∈ t.kids) ∨ (t.kind ≠ 7 ∧ x = t) := by
  unfold atoms
  rw [List.mem_flatMap]
  constructor
  · rintro ⟨t, ht, hx⟩
    by_cases c : t.kind = 7
    · rw [if_pos c] at hx
      exact ⟨t, ht, .inl ⟨c, hx⟩⟩
    · rw [if_neg c] at hx
      exact ⟨t, ht, .inr ⟨c, List.mem_singleton.1 hx⟩⟩
  · rintro ⟨t, ht, ⟨c, hx⟩ | ⟨c, rfl⟩⟩
    · exact ⟨t, ht, by rw [if_pos c]; exact hx⟩
    · exact ⟨x, ht, by rw [if_neg c]; simp⟩
theorem atom_right {n : Nat} {ts : List Ty} {d : Int} (h : ∀ t ∈ ts, Right n t d) {x : Ty} (hx : x ∈ atoms ts) : Right n x d ∧ x.kind ≠ 7 := by
  obtain ⟨t, ht, ⟨c, hk⟩ | ⟨c, rfl⟩⟩ := atom_of.1 hx
  · have hr := h t ht
    cases n with
    | zero => exact hr.elim
    | succ n =>
      have hkr := right_up (hr.2.1 x hk)
      refine ⟨(right_hgt hkr).2 ?_, ((right_union hr c).2.2.1 x hk).1⟩
      have := right_hgt_le hkr
      omega
  · exact ⟨h x ht, c⟩
theorem atom_any {n : Nat} {ts : List Ty} {d : Int} (h : ∀ t ∈ ts, Right n t d) (ha : ∀ t ∈ ts, t.kind ≠ 3) {x : Ty} (hx : x ∈ atoms ts) : x.kind ≠ 3 := by
  obtain ⟨t, ht, ⟨c, hk⟩ | ⟨c, rfl⟩⟩ := atom_of.1 hx
  · have hr := h t ht
    cases n with
    | zero => exact hr.elim
    | succ n => exact ((right_union hr c).2.2.1 x hk).2
  · exact ha x ht
theorem atoms_some {n : Nat} {ts : List Ty} {d : Int} (h : ∀ t ∈ ts, Right n t d) (h0 : ts ≠ []) : ∃ x, x ∈ atoms ts := by
  cases ts with
  | nil => exact absurd rfl h0
  | cons t r =>
    by_cases c : t.kind = 7
    · have hr := h t (by simp)
      cases n with
      | zero => exact hr.elim
      | succ n =>
        obtain ⟨_, _, _, a, b, q, e⟩ := right_union hr c
        exact ⟨a, atom_of.2 ⟨t, by simp, .inl ⟨c, by rw [e]; simp⟩⟩⟩
    · exact ⟨t, atom_of.2 ⟨t, by simp, .inr ⟨c, rfl⟩⟩⟩

theorem lessB_irr (a : ByteArray) : ¬ lessB a a := fun h => List.lt_irrefl _ h
theorem lessB_asymm {a b : ByteArray} (h : lessB a b) (h' : lessB b a) : False := List.lt_asymm h h'
/-- lists that ascend and have the same in them are one -/
theorem asc_one {f : Ty → ByteArray} {S S' : List Ty} (h : S.Pairwise fun a b => lessB (f a) (f b)) (h' : S'.Pairwise fun a b => lessB (f a) (f b)) (hm : ∀ x, x ∈ S ↔ x ∈ S') : S = S' := by
  induction S generalizing S' with
  | nil =>
    cases S' with
    | nil => rfl
    | cons b r' => exact absurd ((hm b).2 (by simp)) (by simp)
  | cons a r ih =>
    cases S' with
    | nil => exact absurd ((hm a).1 (by simp)) (by simp)
    | cons b r' =>
      rw [List.pairwise_cons] at h h'
      have hab : a = b := by
        rcases List.mem_cons.1 ((hm a).1 (by simp)) with e | e
        · exact e
        · rcases List.mem_cons.1 ((hm b).2 (by simp)) with e' | e'
          · exact e'.symm
          · exact (lessB_asymm (h.1 b e') (h'.1 a e)).elim
      subst hab
      rw [ih h.2 h'.2 fun x => ?_]
      constructor
      · intro hx
        rcases List.mem_cons.1 ((hm x).1 (List.mem_cons_of_mem _ hx)) with e | e
        · subst e; exact absurd (h.1 x hx) (lessB_irr _)
        · exact e
      · intro hx
        rcases List.mem_cons.1 ((hm x).2 (List.mem_cons_of_mem _ hx)) with e | e
        · subst e; exact absurd (h'.1 x hx) (lessB_irr _)
        · exact e

/-- the kids of the union of types -/
def UnionS (n : Nat) (ts S : List Ty) : Prop := (∀ x, x ∈ S ↔ x ∈ atoms ts) ∧ S.Pairwise fun a b => lessB (Ty.text n a) (Ty.text n b)
theorem UnionS.one {n : Nat} {ts S S' : List Ty} (h : UnionS n ts S) (h' : UnionS n ts S') : S = S' := asc_one h.2 h'.2 fun x => (h.1 x).trans (h'.1 x).symm

/-- what Union answers -/
def UAns (n : Nat) (ts : List Ty) (t : Ty) (ok : Bool) : Prop :=
  (ok = false ∧ t = .mk 0 ⟨#[]⟩ [] [] ∧ (ts = [] ∨ ¬ ∀ q ∈ ts, Right n q 12)) ∨
  ((ts ≠ [] ∧ ∀ q ∈ ts, Right n q 12) ∧ (((∃ q ∈ ts, q.kind = 3) ∧ ok = true ∧ t = .mk 3 ⟨#[]⟩ [] []) ∨
    ((∀ q ∈ ts, q.kind ≠ 3) ∧ ∃ S, UnionS n ts S ∧ ((S.length = 1 ∧ ok = true ∧ S = [t]) ∨ (1 < S.length ∧ (∀ s ∈ S, Right n s 11) ∧ ok = true ∧ t = .mk 7 ⟨#[]⟩ [] S) ∨ (1 < S.length ∧ (¬ ∀ s ∈ S, Right n s 11) ∧ ok = false ∧ t = .mk 0 ⟨#[]⟩ [] [])))))
theorem UAns.one {n : Nat} {ts : List Ty} {t t' : Ty} {ok ok' : Bool} (h : UAns n ts t ok) (h' : UAns n ts t' ok') : t = t' ∧ ok = ok' := by
  rcases h with ⟨rfl, rfl, h⟩ | ⟨⟨h1, h2⟩, h⟩
  · rcases h' with ⟨rfl, rfl, _⟩ | ⟨⟨h1, h2⟩, _⟩
    · exact ⟨rfl, rfl⟩
    · rcases h with h | h
      · exact absurd h h1
      · exact absurd h2 h
  · rcases h' with ⟨rfl, rfl, h'⟩ | ⟨_, h'⟩
    · rcases h' with h' | h'
      · exact absurd h' h1
      · exact absurd h2 h'
    · rcases h with ⟨⟨q, hq, h3⟩, rfl, rfl⟩ | ⟨hn, S, hS, h⟩
      · rcases h' with ⟨_, rfl, rfl⟩ | ⟨hn, _⟩
        · exact ⟨rfl, rfl⟩
        · exact absurd h3 (hn q hq)
      · rcases h' with ⟨⟨q, hq, h3⟩, _⟩ | ⟨_, S', hS', h'⟩
        · exact absurd h3 (hn q hq)
        · have e := hS.one hS'
          subst e
          rcases h with ⟨l1, rfl, e1⟩ | ⟨l1, r1, rfl, rfl⟩ | ⟨l1, r1, rfl, rfl⟩
          · rcases h' with ⟨_, rfl, e2⟩ | ⟨l2, _⟩ | ⟨l2, _⟩
            · rw [e1] at e2
              simp only [List.cons.injEq, and_true] at e2
              exact ⟨e2, rfl⟩
            · omega
            · omega
          · rcases h' with ⟨l2, _⟩ | ⟨_, _, rfl, rfl⟩ | ⟨_, r2, _⟩
            · omega
            · exact ⟨rfl, rfl⟩
            · exact absurd r1 r2
          · rcases h' with ⟨l2, _⟩ | ⟨_, r2, _⟩ | ⟨_, _, rfl, rfl⟩
            · omega
            · exact absurd r2 r1
            · exact ⟨rfl, rfl⟩
/-- when such a union is right -/
theorem union_right {n : Nat} {ts S : List Ty} (h : UnionS n ts S) (hr : ∀ q ∈ ts, Right n q 12) (hn : ∀ q ∈ ts, q.kind ≠ 3) (h1 : 1 < S.length) : Right (n + 1) (.mk 7 ⟨#[]⟩ [] S) 12 ↔ ∀ s ∈ S, Right n s 11 := by
  constructor
  · exact fun h s hs => h.2.1 s hs
  · intro hs
    refine ⟨by omega, hs, .inr (.inr (.inr (.inr ⟨rfl, fun i hi => ⟨?_, fun h0 => ?_⟩, rfl, rfl, h1⟩)))⟩
    · have hx := (h.1 _).1 (List.getElem_mem hi)
      exact ⟨(atom_right hr hx).2, atom_any hr hn hx⟩
    · exact List.pairwise_iff_getElem.1 h.2 (i - 1) i _ hi (by omega)
theorem sum_sub {f : Ty → Nat} {l m : List Ty} (h : l.Nodup) (hs : ∀ x ∈ l, x ∈ m) : (l.map f).sum + l.length ≤ (m.map f).sum + m.length := by
  induction l generalizing m with
  | nil => simp
  | cons a r ih =>
    rw [List.nodup_cons] at h
    obtain ⟨u, v, rfl⟩ := List.append_of_mem (hs a (by simp))
    have h1 := ih (m := u ++ v) h.2 fun x hx => by
      have hne : x ≠ a := fun e => h.1 (e ▸ hx)
      have := hs x (List.mem_cons_of_mem _ hx)
      simp only [List.mem_append, List.mem_cons] at this ⊢
      rcases this with h | h | h
      · exact .inl h
      · exact absurd h hne
      · exact .inr h
    simp only [List.map_append, List.sum_append, List.length_append, List.map_cons, List.sum_cons, List.length_cons] at h1 ⊢
    omega
theorem UnionS.nodup {n : Nat} {ts S : List Ty} (h : UnionS n ts S) : S.Nodup := List.Pairwise.imp (fun {a b} (hab : lessB (Ty.text n a) (Ty.text n b)) (e : a = b) => lessB_irr _ (by rw [e] at hab; exact hab)) h.2
theorem atoms_bulk {n : Nat} {ts : List Ty} (h : ∀ t ∈ ts, Right n t 12) : ((atoms ts).map (Ty.bulk n)).sum + (atoms ts).length ≤ (ts.map (Ty.bulk n)).sum + ts.length := by
  induction ts with
  | nil => simp [atoms]
  | cons t r ih =>
    have h1 := ih fun q hq => h q (List.mem_cons_of_mem _ hq)
    have ht := h t (by simp)
    rw [show t :: r = [t] ++ r from rfl, atoms_app]
    have h2 : ((atoms [t]).map (Ty.bulk n)).sum + (atoms [t]).length ≤ Ty.bulk n t + 1 := by
      unfold atoms
      rw [List.flatMap_singleton]
      by_cases c : t.kind = 7
      · rw [if_pos c]
        cases n with
        | zero => exact ht.elim
        | succ n =>
          have e : t.kids.map (Ty.bulk (n + 1)) = t.kids.map (Ty.bulk n) := map_same fun k hk => bulk_up (ht.2.1 k hk)
          rw [e]
          have : Ty.bulk (n + 1) t = t.name.size + (t.names.length + Ty.textsBulk t.names) + (t.kids.length + (t.kids.map (Ty.bulk n)).sum) := rfl
          omega
      · rw [if_neg c]
        simp
    simp only [List.map_append, List.sum_append, List.length_append, List.map_cons, List.map_nil, List.sum_cons, List.sum_nil, List.length_singleton] at h2 ⊢
    omega
theorem UnionS.bulk {n : Nat} {ts S : List Ty} (h : UnionS n ts S) (hr : ∀ t ∈ ts, Right n t 12) : S.length + (S.map (Ty.bulk n)).sum ≤ ts.length + (ts.map (Ty.bulk n)).sum := by
  have h1 := sum_sub (f := Ty.bulk n) h.nodup fun x hx => (h.1 x).1 hx
  have h2 := atoms_bulk hr
  omega

end Go.Proofs.YthomlchbgcjcfaaGreatDoor

namespace Go.Proofs.YthomlchbgcjcfaaGreatDoor
open Go.RowKit

/-- a form with its type; its text is told by that -/
structure WE where
  T : Nat
  x : Value
  t : Ty

def encW (n : Nat) (e : WE) : List Value := [.string (Ty.text n e.t), .iface e.T e.x]
def flatW (n : Nat) (l : List WE) : List Value := l.flatMap (encW n)
theorem flatW_len (n : Nat) (l : List WE) : (flatW n l).length = l.length * 2 := by
  induction l with
  | nil => rfl
  | cons a r ih =>
    unfold flatW at ih ⊢
    rw [List.flatMap_cons, List.length_append, ih, List.length_cons]
    show 2 + _ = _
    omega
theorem flatW_app (n : Nat) (a b : List WE) : flatW n (a ++ b) = flatW n a ++ flatW n b := by simp [flatW]
theorem flatW_get (n : Nat) (l : List WE) (j : Nat) (h : j < l.length) : (flatW n l)[j * 2]? = some (.string (Ty.text n l[j].t)) ∧ (flatW n l)[j * 2 + 1]? = some (.iface l[j].T l[j].x) := by
  induction l generalizing j with
  | nil => simp at h
  | cons a r ih =>
    cases j with
    | zero => exact ⟨rfl, rfl⟩
    | succ j =>
      have := ih j (by simpa using h)
      simp only [List.getElem_cons_succ]
      rw [show (j + 1) * 2 = j * 2 + 2 by omega, show j * 2 + 2 + 1 = j * 2 + 1 + 2 by omega]
      exact this
theorem flatW_set (n : Nat) (l : List WE) (j : Nat) (h : j < l.length) (e : WE) : ((flatW n l).set (j * 2) (.string (Ty.text n e.t))).set (j * 2 + 1) (.iface e.T e.x) = flatW n (l.set j e) := by
  induction l generalizing j with
  | nil => simp at h
  | cons a r ih =>
    cases j with
    | zero => rfl
    | succ j =>
      have := ih j (by simpa using h)
      rw [show (j + 1) * 2 = j * 2 + 2 by omega, show j * 2 + 2 + 1 = j * 2 + 1 + 2 by omega]
      show encW n a ++ _ = encW n a ++ _
      exact congrArg (encW n a ++ ·) this
theorem flatW_take (n : Nat) (l : List WE) (j : Nat) : (flatW n l).take (j * 2) = flatW n (l.take j) := by
  induction l generalizing j with
  | nil => simp [flatW]
  | cons a r ih =>
    cases j with
    | zero => simp [flatW]
    | succ j =>
      rw [show (j + 1) * 2 = j * 2 + 2 by omega, List.take_succ_cons]
      show encW n a ++ (flatW n r).take (j * 2) = encW n a ++ flatW n (r.take j)
      rw [ih]

theorem ownsRow_front {w : World} {base e size g cap n m : Nat} {xs : List Value} (h : w.ownsRow base e size (.slice (some ⟨g, 0, none⟩) n cap) n xs) (hm : m ≤ n) : w.ownsRow base e size (.slice (some ⟨g, 0, none⟩) m cap) m (xs.take (m * size)) := by
  obtain ⟨h1, h2⟩ := h
  have hle : m * size ≤ n * size := Nat.mul_le_mul_right _ hm
  rcases h2 with ⟨h0, _⟩ | ⟨g', cap', cur, hv, hg, hh, hn, hcap, hsz, htake⟩
  · cases h0
  · cases hv
    refine ⟨by rw [List.length_take, h1]; omega, .inr ⟨g, cap, cur, rfl, hg, hh, by omega, hcap, hsz, ?_⟩⟩
    rw [← htake, List.take_take, Nat.min_eq_left hle]
theorem own_clear {B e z g cap n : Nat} : ∀ (zs : List Value) (o : Nat) (w : World) (xs : List Value), w.ownsRow B e z (.slice (some ⟨g, 0, none⟩) n cap) n xs → ∃ ys, (w.setCells g o zs).ownsRow B e z (.slice (some ⟨g, 0, none⟩) n cap) n ys ∧ ys.take o = xs.take o ∧ Below g w (w.setCells g o zs)
  | [], o, w, xs, h => ⟨xs, h, rfl, Below.refl _ _⟩
  | v :: r, o, w, xs, h => by
    obtain ⟨h1, _⟩ := h.stored o v
    obtain ⟨ys, k1, k2, k3⟩ := own_clear r (o + 1) (w.setCell ⟨g, o, none⟩ v) _ h1
    refine ⟨ys, k1, ?_, ((Below.refl g w).setCell (Nat.le_refl _) v).trans k3⟩
    have := congrArg (List.take o) k2
    rw [List.take_take, List.take_take, Nat.min_eq_left (by omega)] at this
    rw [this, List.take_set_of_le (by omega)]
theorem run_clear_pairs {P : Program} (w : World) (t e : TypeId) (z0 z1 : Value) (ht : P.underlying t = some (.slice e)) (hv : ∀ w, (zeroValue e).run P w = .ok (.agg #[z0, z1]) w) (h0 : z0.oneCell' = true) (h1 : z1.oneCell' = true) (b o n c : Nat) (hn : 0 < n)
    (hc : ∀ j, j < n * 2 → (w.cell? ⟨b, o + j, none⟩).isSome = true) (hf : ∀ j, j < n * 2 → w.frozen? ⟨b, o + j, none⟩ = false) :
    ∃ zs, ∀ ty, (Builtin.clear_ #[t] ty #[.slice (some ⟨b, o, none⟩) n c]).run P w = .ok (.tuple #[]) (w.setCells b o zs) := by
  have hl : (Builtin.zeroCells #[z0, z1] n).toList.length = n * 2 := by simp [Builtin.zeroCells]
  have hm : ∀ v ∈ (Builtin.zeroCells #[z0, z1] n).toList, v.oneCell' = true := fun v hv => by
    simp only [Builtin.zeroCells, Array.toList_map, List.mem_map] at hv
    obtain ⟨i, _, rfl⟩ := hv
    have : i % 2 = 0 ∨ i % 2 = 1 := by omega
    rcases this with q | q
    · simp [q, h0]
    · simp [q, h1]
  have hst := run_storeCells_cells (P := P) b o (Builtin.zeroCells #[z0, z1] n).toList 0 w (by rw [hl]; simpa using hc) (by rw [hl]; simpa using hf) hm
  simp only [Nat.add_zero] at hst
  obtain ⟨m, rfl⟩ : ∃ m, n = m + 1 := ⟨n - 1, by omega⟩
  have hvc : (Value.agg #[z0, z1]).cells = #[z0, z1] := rfl
  refine ⟨(Builtin.zeroCells #[z0, z1] (m + 1)).toList, fun ty => ?_⟩
  simp [Builtin.clear_, run_underlying ht, hv, hvc, hst]

set_option maxHeartbeats 800000 in
set_option maxRecDepth 100000 in
theorem implWordEq (a b : ByteArray) (T T' : Nat) (x x' : Value) (w : World) :
    Calls Tryz.prog 30 #[.agg #[.string a, .iface T x], .agg #[.string b, .iface T' x']] w fun e w' => e = .returned (.bool (a.toList == b.toList)) ∧ Below w.heap.size w w' := by
  go_enter Tryz.func30, Tryz.ntmps30
  go_wp2_with fail
  go_ret
  exact ⟨rfl, ((Below.refl _ _).alloc (Nat.le_refl _) _).alloc (by simp) _⟩

/-- of so many of them those are kept -/
structure KeepP (f : WE → ByteArray) (E : List WE) (m : Nat) (L : List WE) : Prop where
  sub : ∀ e ∈ L, e ∈ E
  all : ∀ e ∈ E.take m, ∃ e' ∈ L, f e' = f e
  asc : L.Pairwise fun a b => lessB (f a) (f b)
  low : ∀ (h : m - 1 < E.length), ∀ e ∈ L, ¬ lessB (f E[m - 1]) (f e)
  few : L.length ≤ m
theorem ba_eq {a b : ByteArray} (h : a.toList = b.toList) : a = b := by
  rw [ByteArray.toList_eq, ByteArray.toList_eq] at h
  exact bt_inj h
theorem ba_total {a b : ByteArray} (h : ¬ lessB a b) (h' : ¬ lessB b a) : a = b := bt_inj (List.le_antisymm (List.not_lt.1 h') (List.not_lt.1 h))
theorem KeepP.one {f : WE → ByteArray} {E : List WE} (h : 0 < E.length) : KeepP f E 1 (E.take 1) where
  sub := fun e he => List.mem_of_mem_take he
  all := fun e he => ⟨e, he, rfl⟩
  asc := by
    obtain ⟨a, r, rfl⟩ : ∃ a r, E = a :: r := by cases E with | nil => simp at h | cons a r => exact ⟨a, r, rfl⟩
    simp
  low := fun hh e he => by
    obtain ⟨a, r, rfl⟩ : ∃ a r, E = a :: r := by cases E with | nil => simp at h | cons a r => exact ⟨a, r, rfl⟩
    simp only [List.take_succ_cons, List.take_zero, List.mem_singleton] at he
    subst he
    exact lessB_irr _
  few := by rw [List.length_take]; omega
theorem KeepP.same {f : WE → ByteArray} {E L : List WE} {m : Nat} (h : KeepP f E m L) (hm : 0 < m) (hl : m < E.length) (he : f E[m] = f (E[m - 1]'(by omega))) : KeepP f E (m + 1) L where
  sub := h.sub
  all := fun e q => by
    rw [List.take_succ_eq_append_getElem hl, List.mem_append, List.mem_singleton] at q
    rcases q with q | q
    · exact h.all e q
    · subst q
      obtain ⟨e', h1, h2⟩ := h.all (E[m - 1]'(by omega)) (List.mem_take_iff_getElem.2 ⟨m - 1, by omega, rfl⟩)
      exact ⟨e', h1, h2.trans he.symm⟩
  asc := h.asc
  low := fun hh e q => by
    show ¬ lessB (f E[m]) (f e)
    rw [he]
    exact h.low (by omega) e q
  few := by have := h.few; omega
theorem KeepP.more {f : WE → ByteArray} {E L : List WE} {m : Nat} (h : KeepP f E m L) (hm : 0 < m) (hl : m < E.length) (hs : ¬ lessB (f E[m]) (f (E[m - 1]'(by omega)))) (he : f E[m] ≠ f (E[m - 1]'(by omega))) : KeepP f E (m + 1) (L ++ [E[m]]) where
  sub := fun e q => by
    rcases List.mem_append.1 q with q | q
    · exact h.sub e q
    · simp only [List.mem_singleton] at q
      subst q
      exact List.getElem_mem hl
  all := fun e q => by
    rw [List.take_succ_eq_append_getElem hl, List.mem_append, List.mem_singleton] at q
    rcases q with q | q
    · obtain ⟨e', h1, h2⟩ := h.all e q
      exact ⟨e', List.mem_append_left _ h1, h2⟩
    · subst q
      exact ⟨_, List.mem_append_right _ (by simp), rfl⟩
  asc := by
    refine List.pairwise_append.2 ⟨h.asc, by simp, fun a ha b hb => ?_⟩
    simp only [List.mem_singleton] at hb
    subst hb
    have h1 := h.low (by omega) a ha
    have h2 : lessB (f (E[m - 1]'(by omega))) (f E[m]) := Classical.byContradiction fun q => he (ba_total hs q)
    -- a is no greater than the one ahead, which is less
    by_cases c : f a = f (E[m - 1]'(by omega))
    · rw [c]; exact h2
    · have h3 : lessB (f a) (f (E[m - 1]'(by omega))) := Classical.byContradiction fun q => c (ba_total q h1)
      exact List.lt_trans h3 h2
  low := fun hh e q => by
    show ¬ lessB (f E[m]) (f e)
    rcases List.mem_append.1 q with q | q
    · intro hlt
      have h1 := h.low (by omega) e q
      have h2 : lessB (f (E[m - 1]'(by omega))) (f E[m]) := Classical.byContradiction fun q => he (ba_total hs q)
      exact h1 (List.lt_trans h2 hlt)
    · simp only [List.mem_singleton] at q
      subst q
      exact lessB_irr _
  few := by have := h.few; simp; omega

end Go.Proofs.YthomlchbgcjcfaaGreatDoor

namespace Go.Proofs
open Go.Shelf
def Tryz.sortW_ren : Go.Shelf.Ren := ⟨fun | 6 => 26 | 15 => 45 | 14 => 44 | 28 => 69 | 29 => 70 | 20 => 61 | 21 => 62 | 22 => 63 | 23 => 64 | 24 => 65 | 25 => 66 | 26 => 67 | 27 => 68 | 46 => 84 | 47 => 85 | 48 => 86 | 49 => 87 | 50 => 88 | 57 => 93 | n => n, fun | 22 => 54 | 24 => 64 | 25 => 66 | 3 => 3 | 39 => 85 | 0 => 0 | 53 => 111 | 55 => 113 | 4 => 4 | 46 => 104 | 45 => 103 | 50 => 108 | 5 => 5 | 9 => 9 | 66 => 131 | 70 => 135 | 76 => 139 | 77 => 140 | n => n, fun | n => n⟩
theorem Tryz.sortW : Go.Proofs.SlLaysF0.n6 Tryz.prog Tryz.sortW_ren := {
  mixed := by kernel_rfl
  f6 := ⟨Tryz.f26.name, by decide, Tryz.func26.trans (congrArg some (by kernel_rfl))⟩
  f14 := ⟨Tryz.f44.name, by decide, Tryz.func44.trans (congrArg some (by kernel_rfl))⟩
  f15 := Tryz.func45.trans (congrArg some (by kernel_rfl))
  f20 := ⟨Tryz.f61.name, by decide, Tryz.func61.trans (congrArg some (by kernel_rfl))⟩
  f21 := ⟨Tryz.f62.name, by decide, Tryz.func62.trans (congrArg some (by kernel_rfl))⟩
  f22 := ⟨Tryz.f63.name, by decide, Tryz.func63.trans (congrArg some (by kernel_rfl))⟩
  f23 := ⟨Tryz.f64.name, by decide, Tryz.func64.trans (congrArg some (by kernel_rfl))⟩
  f24 := ⟨Tryz.f65.name, by decide, Tryz.func65.trans (congrArg some (by kernel_rfl))⟩
  f25 := ⟨Tryz.f66.name, by decide, Tryz.func66.trans (congrArg some (by kernel_rfl))⟩
  f26 := ⟨Tryz.f67.name, by decide, Tryz.func67.trans (congrArg some (by kernel_rfl))⟩
  f27 := ⟨Tryz.f68.name, by decide, Tryz.func68.trans (congrArg some (by kernel_rfl))⟩
  f28 := Tryz.func69.trans (congrArg some (by kernel_rfl))
  f29 := Tryz.func70.trans (congrArg some (by kernel_rfl))
  f46 := ⟨Tryz.f84.name, by decide, Tryz.func84.trans (congrArg some (by kernel_rfl))⟩
  f47 := Tryz.func85.trans (congrArg some (by kernel_rfl))
  f48 := Tryz.func86.trans (congrArg some (by kernel_rfl))
  f49 := ⟨Tryz.f87.name, by decide, Tryz.func87.trans (congrArg some (by kernel_rfl))⟩
  f50 := ⟨Tryz.f88.name, by decide, Tryz.func88.trans (congrArg some (by kernel_rfl))⟩
  f57 := ⟨Tryz.f93.name, by decide, Tryz.func93.trans (congrArg some (by kernel_rfl))⟩
  t0 := Tryz.underlying0
  a0 := Tryz.isAgg0
  z0 := Tryz.sizeOf0
  v0 := Tryz.zeroValue0
  t3 := Tryz.underlying3
  a3 := Tryz.isAgg3
  z3 := Tryz.sizeOf3
  v3 := Tryz.zeroValue3
  t4 := Tryz.underlying4
  a4 := Tryz.isAgg4
  z4 := Tryz.sizeOf4
  v4 := Tryz.zeroValue4
  t5 := Tryz.underlying5
  a5 := Tryz.isAgg5
  z5 := Tryz.sizeOf5
  v5 := Tryz.zeroValue5
  t9 := Tryz.underlying9
  a9 := Tryz.isAgg9
  z9 := Tryz.sizeOf9
  v9 := Tryz.zeroValue9
  t22 := Tryz.underlying54
  a22 := Tryz.isAgg54
  z22 := Tryz.sizeOf54
  v22 := Tryz.zeroValue54
  t25 := Tryz.underlying66
  a25 := Tryz.isAgg66
  z25 := Tryz.sizeOf66
  v25 := Tryz.zeroValue66
  t39 := Tryz.underlying85
  a39 := Tryz.isAgg85
  z39 := Tryz.sizeOf85
  v39 := Tryz.zeroValue85
  t45 := Tryz.underlying103
  a45 := Tryz.isAgg103
  z45 := Tryz.sizeOf103
  v45 := Tryz.zeroValue103
  t46 := Tryz.underlying104
  a46 := Tryz.isAgg104
  z46 := Tryz.sizeOf104
  v46 := Tryz.zeroValue104
  t50 := Tryz.underlying108
  a50 := Tryz.isAgg108
  z50 := Tryz.sizeOf108
  v50 := Tryz.zeroValue108
  t53 := Tryz.underlying111
  a53 := Tryz.isAgg111
  z53 := Tryz.sizeOf111
  v53 := Tryz.zeroValue111
  t55 := Tryz.underlying113
  a55 := Tryz.isAgg113
  z55 := Tryz.sizeOf113
  v55 := Tryz.zeroValue113
  t66 := Tryz.underlying131
  a66 := Tryz.isAgg131
  z66 := Tryz.sizeOf131
  v66 := Tryz.zeroValue131
  t70 := Tryz.underlying135
  a70 := Tryz.isAgg135
  z70 := Tryz.sizeOf135
  v70 := Tryz.zeroValue135
  t76 := Tryz.underlying139
  a76 := Tryz.isAgg139
  z76 := Tryz.sizeOf139
  v76 := Tryz.zeroValue139
  t77 := Tryz.underlying140
  a77 := Tryz.isAgg140
  z77 := Tryz.sizeOf140
  v77 := Tryz.zeroValue140 }
end Go.Proofs

namespace Go.Proofs
open Go.Shelf

def Tryz.lays106_ren : Go.Shelf.Ren := ⟨fun | 106 => 28 | 213 => 46 | 265 => 71 | n => n, fun | 9 => 9 | 3 => 3 | n => n, fun | n => n⟩

theorem Tryz.lays106 : Go.Proofs.Lays.n106 Tryz.prog Tryz.lays106_ren := {
  mixed := by kernel_rfl
  f106 := Tryz.func28.trans (congrArg some (by kernel_rfl))
  f213 := Tryz.func46.trans (congrArg some (by kernel_rfl))
  f265 := Tryz.func71.trans (congrArg some (by kernel_rfl))
  t3 := Tryz.underlying3
  a3 := Tryz.isAgg3
  z3 := Tryz.sizeOf3
  v3 := Tryz.zeroValue3
  t9 := Tryz.underlying9
  a9 := Tryz.isAgg9
  z9 := Tryz.sizeOf9
  v9 := Tryz.zeroValue9 }

open Go.RowKit in
theorem Tryz.strings_Compare (a b : ByteArray) (w : World) :
    Calls Tryz.prog 28 #[.string a, .string b] w fun e w' => e = .returned (.int .i64 (Lib.compareBytes a.data.toList b.data.toList)) ∧ w' = w := Any.strings_Compare Tryz.lays106 a b w

end Go.Proofs

namespace Go.Proofs.YthomlchbgcjcfaaGreatDoor
open Go.RowKit Go.Sort

theorem keep_all {f : WE → ByteArray} {E : List WE} {k : Nat} (h : KeepP f E k (E.take k)) (hk : k = E.length) : KeepP f E E.length E := by
  subst hk
  rwa [List.take_length] at h
theorem eq_yes {a b : ByteArray} (h : a = b) : (a.toList == b.toList) = true := by rw [h]; exact beq_self_eq_true _
theorem eq_not {a b : ByteArray} (h : a ≠ b) : (a.toList == b.toList) = false := by
  rw [beq_eq_false_iff_ne]
  exact fun e => h (ba_eq e)

set_option maxHeartbeats 6400000 in
set_option maxRecDepth 100000 in
theorem slCompact (B g cap nT : Nat) (E : List WE) (w : World) (ho : w.ownsRow B 64 2 (.slice (some ⟨g, 0, none⟩) E.length cap) E.length (flatW nT E)) (hE : 0 < E.length) (hl : E.length ≤ 4194304) (hs : ∀ i j (hij : i < j) (hj : j < E.length), ¬ lessB (Ty.text nT E[j].t) (Ty.text nT (E[i]'(by omega)).t)) :
    Calls Tryz.prog 29 #[.slice (some ⟨g, 0, none⟩) E.length cap, .func (Fn.func 30) #[] #[]] w fun e w' => ∃ L : List WE, e = .returned (.slice (some ⟨g, 0, none⟩) L.length cap) ∧ 0 < L.length ∧ KeepP (fun e => Ty.text nT e.t) E E.length L ∧ w'.ownsRow B 64 2 (.slice (some ⟨g, 0, none⟩) L.length cap) L.length (flatW nT L) ∧ Below B w w' := by
  obtain ⟨hBg, hgl, hcap1, hcap2⟩ : B ≤ g ∧ g < w.heap.size ∧ E.length ≤ cap ∧ cap ≤ maxLen := by
    rcases ho.2 with ⟨h0, _⟩ | ⟨g', cap', cur, hv, h1, h2, h3, h4, _⟩
    · cases h0
    · cases hv
      exact ⟨h1, (Array.getElem?_eq_some_iff.1 h2).1, h3, h4⟩
  unfold maxLen at hcap2
  have HS : Hid (type_of% hs) := hs
  have HO : Hid (type_of% ho) := ho
  have HCL : Hid (∀ (C : List WE) (wx : World), wx.ownsRow B 64 2 (.slice (some ⟨g, 0, none⟩) E.length cap) E.length (flatW nT C) → ∀ j (h : j < C.length), wx.cell? ⟨g, j * 2, none⟩ = some (.string (Ty.text nT C[j].t)) ∧ wx.cell? ⟨g, j * 2 + 1, none⟩ = some (.iface C[j].T C[j].x)) := fun C wx h j hj => by
    obtain ⟨q1, q2⟩ := flatW_get nT C j hj
    have hlen := h.1
    rw [flatW_len] at hlen
    exact ⟨by rw [h.cellAt (j * 2) (by omega)]; exact q1, by rw [h.cellAt (j * 2 + 1) (by omega)]; exact q2⟩
  clear ho hs
  by_cases h1 : E.length = 1
  · have HK : Hid (KeepP (fun e => Ty.text nT e.t) E E.length E) := by
      have := KeepP.one (f := fun e => Ty.text nT e.t) hE
      have e : E.take 1 = E := by rw [← h1, List.take_length]
      rw [e] at this
      rw [h1]
      exact this
    have hlt : (E.length : Int) < 2 := by omega
    have HO2 : Hid (type_of% HO.out) := HO.out
    clear h1
    go_enter Tryz.func29, Tryz.ntmps29
    go_wp2_with fail
    go_ret
    exact ⟨E, rfl, hE, HK.out, HO2.out, Below.refl _ _⟩
  · have hlt : ¬ (E.length : Int) < 2 := by omega
    go_enter Tryz.func29, Tryz.ntmps29
    go_wp2_with fail
    go_loopw [5] (fun i wr => ∃ k : Nat, 1 ≤ k ∧ k ≤ E.length ∧ i = .int .i64 k ∧ KeepP (fun e => Ty.text nT e.t) E k (E.take k) ∧ Below w.heap.size w wr) (fun i _ => E.length - (intOf i).toNat)
    case atStart => exact ⟨1, Nat.le_refl _, hE, rfl, KeepP.one hE, Below.refl _ _⟩
    case round =>
      obtain ⟨wo, rfl⟩ : ∃ wo, wo = wr := ⟨_, rfl⟩
      obtain ⟨k, hk1, hk, rfl, hKe, hbe⟩ := hrel
      obtain ⟨m, rfl⟩ : ∃ m, k = m + 1 := ⟨k - 1, by omega⟩
      have hgo : g < wo.heap.size := Nat.lt_of_lt_of_le hgl hbe.size
      have hbB : Below B w wo := hbe.mono (by omega)
      have HKE : Hid (type_of% hKe) := hKe
      have ho := kept_belowT HO.out hbe
      by_cases hlk : m + 1 < E.length
      · obtain ⟨a0, a1⟩ := HCL.out E wo ho (m + 1) hlk
        obtain ⟨b0, b1⟩ := HCL.out E wo ho m (by omega)
        have rA0 : ∀ d os, (grow (redrawn wo d) os).cell? ⟨g, (m + 1) * 2, none⟩ = _ := fun d os => cell_regrown a0 d os
        have rA1 : ∀ d os, (grow (redrawn wo d) os).cell? ⟨g, (m + 1) * 2 + 1, none⟩ = _ := fun d os => cell_regrown a1 d os
        have rB0 : ∀ d os, (grow (redrawn wo d) os).cell? ⟨g, m * 2, none⟩ = _ := fun d os => cell_regrown b0 d os
        have rB1 : ∀ d os, (grow (redrawn wo d) os).cell? ⟨g, m * 2 + 1, none⟩ = _ := fun d os => cell_regrown b1 d os
        have HEQ0 : ∀ wx : World, _ := fun wx => implWordEq (Ty.text nT E[m + 1].t) (Ty.text nT (E[m]'(by omega)).t) E[m + 1].T (E[m]'(by omega)).T E[m + 1].x (E[m]'(by omega)).x wx
        have hm0 : (0 : Int) ≤ (m : Int) := by omega
        have hm1 : (m : Int) + 1 < (E.length : Int) := by omega
        have hm2 : (m : Int) < (E.length : Int) := by omega
        have hm3 : (m : Int) + 1 - 1 = (m : Int) := by omega
        have hmc : (m : Int) + 1 ≤ (cap : Int) := by omega
        have hmc2 : (E.length : Int) ≤ (cap : Int) := by omega
        have HSm := HS.out m (m + 1) (by omega) hlk
        by_cases hee : Ty.text nT E[m + 1].t = Ty.text nT (E[m]'(by omega)).t
        · have HK2 : Hid (type_of% (hKe.same (by omega) hlk hee)) := hKe.same (by omega) hlk hee
          rw [eq_yes hee] at HEQ0
          have HEQ : Hid (type_of% HEQ0) := HEQ0
          clear HEQ0 hee a0 a1 b0 b1 HSm HKE hKe
          have HO2 : Hid (type_of% ho) := ho
          clear ho
          generalize Ty.text nT E[m + 1].t = x at *
          generalize Ty.text nT (E[m]'(by omega)).t = y at *
          generalize E[m + 1].T = T1 at *
          generalize E[m + 1].x = x1 at *
          generalize (E[m]'(by omega)).T = T2 at *
          generalize (E[m]'(by omega)).x = x2 at *
          go_wp2_with fail
          refine wp_region_quiet_below (by kernel_rfl) (by kernel_rfl) ?_
          repeat (go_big_quiet_step (exact Calls.regrown_of (HEQ.out _)))
          refine wpQuiet_nil ?_
          intro _ hw'
          obtain ⟨⟨dq, osq⟩, hw''⟩ := hw'
          subst hw''
          have hbR := below_regrown wo dq osq
          have D2 := hbe.trans (hbR.mono hbe.size)
          have HO3 : Hid (type_of% (kept_belowT HO2.out hbR)) := kept_belowT HO2.out hbR
          clear rA0 rA1 rB0 rB1 HEQ hbR HO2 HO
          generalize grow (redrawn wo dq) osq = w2 at *
          have hBw2 : Below B w w2 := D2.mono (by omega)
          have hg2 : g < w2.heap.size := Nat.lt_of_lt_of_le hgl D2.size
          clear D2 hbe hbB hgo
          go_wp2_with fail
          go_loopw [5, 7] (fun vk vi wr => ∃ (kk i : Nat) (C : List WE), 1 ≤ i ∧ m + 1 + i ≤ E.length ∧ kk + 1 ≤ m + 1 + i ∧ 1 ≤ kk ∧ vk = .int .i64 kk ∧ vi = .int .i64 i ∧ C.length = E.length ∧ KeepP (fun e => Ty.text nT e.t) E (m + 1 + i) (C.take kk) ∧ (∀ j, m + i ≤ j → C[j]? = E[j]?) ∧ wr.ownsRow B 64 2 (.slice (some ⟨g, 0, none⟩) E.length cap) E.length (flatW nT C) ∧ Below B w wr) (fun _ vi _ => E.length - (m + 1) - (intOf vi).toNat)
          case atStart => exact ⟨m + 1, 1, E, Nat.le_refl _, by omega, by omega, by omega, by go_num, rfl, rfl, HK2.out, fun j _ => rfl, HO3.out, hBw2⟩
          case round =>
            clear HK2 HO3 hBw2 hg2
            obtain ⟨kk, i, C, hi1, hi2, hkk, hkk1, rfl, rfl, hCl, hKC, hCE, hoC, hbC⟩ := hrel
            have hgr : g < wr.heap.size := by
              rcases hoC.2 with ⟨h0, _⟩ | ⟨g', cap', cur, hv, _, h2, _⟩
              · cases h0
              · cases hv
                exact (Array.getElem?_eq_some_iff.1 h2).1
            by_cases hli : m + 1 + i < E.length
            · obtain ⟨p, rfl⟩ : ∃ p, i = p + 1 := ⟨i - 1, by omega⟩
              have eC1 : C[m + 1 + (p + 1)]'(by omega) = E[m + 1 + (p + 1)] := by
                have := hCE (m + 1 + (p + 1)) (by omega)
                rw [List.getElem?_eq_getElem (by omega), List.getElem?_eq_getElem hli] at this
                exact Option.some.inj this
              have eC0 : C[m + 1 + p]'(by omega) = E[m + 1 + p]'(by omega) := by
                have := hCE (m + 1 + p) (by omega)
                rw [List.getElem?_eq_getElem (by omega), List.getElem?_eq_getElem (by omega)] at this
                exact Option.some.inj this
              obtain ⟨a0, a1⟩ := HCL.out C wr hoC (m + 1 + (p + 1)) (by omega)
              obtain ⟨b0, b1⟩ := HCL.out C wr hoC (m + 1 + p) (by omega)
              rw [eC1] at a0 a1
              rw [eC0] at b0 b1
              rw [show (m + 1 + (p + 1)) * 2 = (m + 1) * 2 + (p + 1) * 2 by omega] at a0 a1
              rw [show (m + 1 + p) * 2 = (m + 1) * 2 + p * 2 by omega] at b0 b1
              have rA0 : ∀ d os, (grow (redrawn wr d) os).cell? ⟨g, (m + 1) * 2 + (p + 1) * 2, none⟩ = _ := fun d os => cell_regrown a0 d os
              have rA1 : ∀ d os, (grow (redrawn wr d) os).cell? ⟨g, (m + 1) * 2 + (p + 1) * 2 + 1, none⟩ = _ := fun d os => cell_regrown a1 d os
              have rB0 : ∀ d os, (grow (redrawn wr d) os).cell? ⟨g, (m + 1) * 2 + p * 2, none⟩ = _ := fun d os => cell_regrown b0 d os
              have rB1 : ∀ d os, (grow (redrawn wr d) os).cell? ⟨g, (m + 1) * 2 + p * 2 + 1, none⟩ = _ := fun d os => cell_regrown b1 d os
              have HEQ0 : ∀ wx : World, _ := fun wx => implWordEq (Ty.text nT E[m + 1 + (p + 1)].t) (Ty.text nT (E[m + 1 + p]'(by omega)).t) E[m + 1 + (p + 1)].T (E[m + 1 + p]'(by omega)).T E[m + 1 + (p + 1)].x (E[m + 1 + p]'(by omega)).x wx
              have hp0 : (0 : Int) ≤ (p : Int) := by omega
              have hp1 : (p : Int) + 1 < ((E.length - (m + 1) : Nat) : Int) := by omega
              have hp2 : (p : Int) < ((E.length - (m + 1) : Nat) : Int) := by omega
              have hp3 : (p : Int) + 1 - 1 = (p : Int) := by omega
              have HSm := HS.out (m + 1 + p) (m + 1 + (p + 1)) (by omega) hli
              by_cases hee : Ty.text nT E[m + 1 + (p + 1)].t = Ty.text nT (E[m + 1 + p]'(by omega)).t
              · have HK3 : Hid (KeepP (fun e => Ty.text nT e.t) E (m + 1 + (p + 1 + 1)) (C.take kk)) := hKC.same (by omega) hli hee
                rw [eq_yes hee] at HEQ0
                have HEQ : Hid (type_of% HEQ0) := HEQ0
                have HOC : Hid (type_of% hoC) := hoC
                have HCE2 : Hid (∀ j, m + (p + 1 + 1) ≤ j → C[j]? = E[j]?) := fun j hj => hCE j (by omega)
                clear HEQ0 hee a0 a1 b0 b1 HSm hKC hCE hoC HCL HS eC1 eC0
                generalize Ty.text nT E[m + 1 + (p + 1)].t = xa at *
                generalize Ty.text nT (E[m + 1 + p]'(by omega)).t = ya at *
                generalize E[m + 1 + (p + 1)].T = Ta at *
                generalize E[m + 1 + (p + 1)].x = xx at *
                generalize (E[m + 1 + p]'(by omega)).T = Tb at *
                generalize (E[m + 1 + p]'(by omega)).x = yy at *
                go_wp2_with fail
                refine wp_region_quiet_below (by kernel_rfl) (by kernel_rfl) ?_
                repeat (go_big_quiet_step (exact Calls.regrown_of (HEQ.out _)))
                refine wpQuiet_nil ?_
                intro _ hw'
                obtain ⟨⟨dq, osq⟩, hw''⟩ := hw'
                subst hw''
                have hbR := below_regrown wr dq osq
                have HB3 : Hid (type_of% (hbC.trans (hbR.mono (by omega)))) := hbC.trans (hbR.mono (by omega))
                have HO4 : Hid (type_of% (kept_belowT HOC.out hbR)) := kept_belowT HOC.out hbR
                clear rA0 rA1 rB0 rB1 HEQ hbR HOC hbC
                generalize grow (redrawn wr dq) osq = w3 at *
                go_wp2_with fail
                go_roundw
                case rel => exact ⟨kk, p + 1 + 1, C, by omega, by omega, by omega, hkk1, rfl, by go_num, hCl, HK3.out, HCE2.out, HO4.out, HB3.out⟩
                case measure => simp [intOf]; omega
              · have HK3 : Hid (KeepP (fun e => Ty.text nT e.t) E (m + 1 + (p + 1 + 1)) ((C.set kk E[m + 1 + (p + 1)]).take (kk + 1))) := by
                  have := hKC.more (by omega) hli HSm hee
                  have e : (C.set kk E[m + 1 + (p + 1)]).take (kk + 1) = C.take kk ++ [E[m + 1 + (p + 1)]] := by
                    rw [List.take_succ_eq_append_getElem (by rw [List.length_set]; omega), List.take_set_of_le (Nat.le_refl _), List.getElem_set_self]
                  show KeepP _ _ _ _
                  rw [e]
                  exact this
                rw [eq_not hee] at HEQ0
                have HEQ : Hid (type_of% HEQ0) := HEQ0
                have HOC : Hid (type_of% hoC) := hoC
                have HCE2 : Hid (∀ j, m + (p + 1 + 1) ≤ j → (C.set kk E[m + 1 + (p + 1)])[j]? = E[j]?) := fun j hj => by
                  rw [List.getElem?_set_ne (by omega)]
                  exact hCE j (by omega)
                have HST : Hid (((flatW nT C).set (kk * 2) (.string (Ty.text nT E[m + 1 + (p + 1)].t))).set (kk * 2 + 1) (.iface E[m + 1 + (p + 1)].T E[m + 1 + (p + 1)].x) = flatW nT (C.set kk E[m + 1 + (p + 1)])) := flatW_set nT C kk (by omega) _
                obtain ⟨k0, k1⟩ := HCL.out C wr hoC kk (by omega)
                have hCs : (C.set kk E[m + 1 + (p + 1)]).length = E.length := by rw [List.length_set]; exact hCl
                have HCS : Hid (type_of% hCs) := hCs
                clear HEQ0 hee b0 b1 HSm hKC hCE hoC HCL HS eC1 eC0 hCs
                obtain ⟨z, hz⟩ : ∃ z, z = E[m + 1 + (p + 1)] := ⟨_, rfl⟩
                rw [← hz] at HK3 HCE2 HST HCS HEQ a0 a1 rA0 rA1
                clear hz
                generalize Ty.text nT z.t = xa at *
                generalize Ty.text nT (E[m + 1 + p]'(by omega)).t = ya at *
                generalize z.T = Ta at *
                generalize z.x = xx at *
                generalize (E[m + 1 + p]'(by omega)).T = Tb at *
                generalize (E[m + 1 + p]'(by omega)).x = yy at *
                go_wp2_with fail
                refine wp_region_quiet_below (by kernel_rfl) (by kernel_rfl) ?_
                repeat (go_big_quiet_step (exact Calls.regrown_of (HEQ.out _)))
                refine wpQuiet_nil ?_
                intro _ hw'
                obtain ⟨⟨dq, osq⟩, hw''⟩ := hw'
                subst hw''
                have hbR := below_regrown wr dq osq
                have A0 := rA0 dq osq
                have A1 := rA1 dq osq
                have K0 := cell_regrown k0 dq osq
                have K1 := cell_regrown k1 dq osq
                have hbw3 := hbC.trans (hbR.mono (by omega))
                have ho3 := kept_belowT HOC.out hbR
                clear rA0 rA1 rB0 rB1 HEQ hbR HOC hbC a0 a1 k0 k1
                generalize grow (redrawn wr dq) osq = w3 at *
                have F0 := ho3.frozenAt (kk * 2)
                have F1 := ho3.frozenAt (kk * 2 + 1)
                obtain ⟨R1, _⟩ := ho3.stored (kk * 2) (.string xa)
                obtain ⟨R2, _⟩ := R1.stored (kk * 2 + 1) (.iface Ta xx)
                rw [HST.out] at R2
                have HR2 : Hid (type_of% R2) := R2
                have HB3 : Hid (Below B w ((w3.setCell ⟨g, kk * 2, none⟩ (.string xa)).setCell ⟨g, kk * 2 + 1, none⟩ (.iface Ta xx))) := (hbw3.setCell hBg _).setCell hBg _
                have hq0 : (0 : Int) ≤ (kk : Int) := by omega
                have hq1 : (kk : Int) < (E.length : Int) := by omega
                clear R1 R2 ho3 hbw3 HST
                go_wp2_with fail
                go_roundw
                case rel => exact ⟨kk + 1, p + 1 + 1, C.set kk z, by omega, by omega, by omega, by omega, by go_num, by go_num, HCS.out, HK3.out, HCE2.out, HR2.out, HB3.out⟩
                case measure => simp [intOf]; omega
            · have hie : m + 1 + i = E.length := by omega
              have hnl : ¬ (i : Int) < ((E.length - (m + 1) : Nat) : Int) := by omega
              have hq0 : (0 : Int) ≤ (kk : Int) := by omega
              have hq1 : (kk : Int) ≤ (E.length : Int) := by omega
              have hq2 : (kk : Int) ≤ (cap : Int) := by omega
              have hcs : ∀ j, j < (E.length - kk) * 2 → (wr.cell? ⟨g, kk * 2 + j, none⟩).isSome = true := fun j hj => by
                rw [hoC.cellAt (kk * 2 + j) (by omega), List.getElem?_eq_getElem (by rw [flatW_len]; omega)]
                rfl
              obtain ⟨zs, hcl⟩ := run_clear_pairs (P := Tryz.prog) wr 54 64 (.string ⟨#[]⟩) .nilIface Tryz.underlying54 (fun w => by kernel_rfl) rfl rfl g (kk * 2) (E.length - kk) (cap - kk) (by omega) hcs (fun j _ => hoC.frozenAt (kk * 2 + j))
              obtain ⟨ys, y1, y2, y3⟩ := own_clear zs (kk * 2) wr _ hoC
              have hLl : (C.take kk).length = kk := by rw [List.length_take]; omega
              have y4 := ownsRow_front y1 (m := kk) (by omega)
              rw [y2, flatW_take] at y4
              have HEND : Hid (0 < (C.take kk).length ∧ KeepP (fun e => Ty.text nT e.t) E E.length (C.take kk) ∧ (wr.setCells g (kk * 2) zs).ownsRow B 64 2 (.slice (some ⟨g, 0, none⟩) (C.take kk).length cap) (C.take kk).length (flatW nT (C.take kk)) ∧ Below B w (wr.setCells g (kk * 2) zs)) := by
                refine ⟨by omega, by rw [← hie]; exact hKC, ?_, hbC.trans (y3.mono hBg)⟩
                rw [hLl]
                exact y4
              have HLL : Hid (type_of% hLl) := hLl
              clear y1 y2 y3 y4 hoC hKC hCE HCL HS hcs hLl hie
              generalize wr.setCells g (kk * 2) zs = w4 at *
              go_wp2_with fail
              go_ret
              exact ⟨C.take kk, by rw [HLL.out]; rfl, HEND.out.1, HEND.out.2.1, HEND.out.2.2.1, HEND.out.2.2.2⟩
        · have HK2 : Hid (KeepP (fun e => Ty.text nT e.t) E (m + 1 + 1) (E.take (m + 1 + 1))) := by
            have := hKe.more (by omega) hlk HSm hee
            rw [List.take_succ_eq_append_getElem hlk]
            exact this
          rw [eq_not hee] at HEQ0
          have HEQ : Hid (type_of% HEQ0) := HEQ0
          clear HEQ0 hee a0 a1 b0 b1 ho HSm HKE hKe HCL HS
          generalize Ty.text nT E[m + 1].t = x at *
          generalize Ty.text nT (E[m]'(by omega)).t = y at *
          generalize E[m + 1].T = T1 at *
          generalize E[m + 1].x = x1 at *
          generalize (E[m]'(by omega)).T = T2 at *
          generalize (E[m]'(by omega)).x = x2 at *
          go_wp2_with fail
          refine wp_region_quiet_below (by kernel_rfl) (by kernel_rfl) ?_
          repeat (go_big_quiet_step (exact Calls.regrown_of (HEQ.out _)))
          refine wpQuiet_nil ?_
          intro _ hw'
          obtain ⟨⟨dq, osq⟩, hw''⟩ := hw'
          subst hw''
          have D2 := hbe.trans ((below_regrown wo dq osq).mono hbe.size)
          clear rA0 rA1 rB0 rB1 HEQ
          generalize grow (redrawn wo dq) osq = w2 at *
          go_wp2_with fail
          go_roundw
          case rel => exact ⟨m + 1 + 1, by omega, by omega, by go_num, HK2.out, D2⟩
          case measure => simp [intOf]; omega
      · have hke : m + 1 = E.length := by omega
        have HK2 : Hid (type_of% (keep_all hKe hke)) := keep_all hKe hke
        have HO2 : Hid (type_of% ho) := ho
        have hnl : ¬ (m : Int) + 1 < (E.length : Int) := by omega
        clear ho hKe HKE HCL HS hke
        go_wp2_with fail
        go_ret
        exact ⟨E, rfl, hE, HK2.out, HO2.out, hbB⟩

end Go.Proofs.YthomlchbgcjcfaaGreatDoor

namespace Go.Proofs.YthomlchbgcjcfaaGreatDoor
open Go.RowKit Go.Sort Go.Shelf

theorem cmpB_neg (a b : List UInt8) : Lib.compareBytes a b < 0 ↔ a < b := by
  induction a generalizing b with
  | nil =>
    cases b with
    | nil => simp [Lib.compareBytes]
    | cons y bs => simp [Lib.compareBytes]
  | cons x xs ih =>
    cases b with
    | nil => simp [Lib.compareBytes]
    | cons y bs =>
      unfold Lib.compareBytes
      rw [List.cons_lt_cons_iff]
      by_cases h1 : x < y
      · simp [h1]
      · by_cases h2 : y < x
        · rw [if_neg h1, if_pos h2]
          constructor
          · intro h; omega
          · rintro (h | ⟨h, _⟩)
            · exact absurd h h1
            · subst h; exact absurd h2 h1
        · rw [if_neg h1, if_neg h2, ih bs]
          have e : x = y := UInt8.le_antisymm (UInt8.not_lt.1 h2) (UInt8.not_lt.1 h1)
          constructor
          · intro h; exact .inr ⟨e, h⟩
          · rintro (h | ⟨_, h⟩)
            · exact absurd h h1
            · exact h

/-- the order of these by their texts -/
def cfW (n : Nat) (x y : WE) : Int := Lib.compareBytes (Ty.text n x.t).data.toList (Ty.text n y.t).data.toList
theorem lt_cfW (n : Nat) (x y : WE) : ltOf (cfW n) x y = true ↔ lessB (Ty.text n x.t) (Ty.text n y.t) := by
  unfold ltOf cfW lessB
  rw [decide_eq_true_eq, cmpB_neg]
theorem lt_cfW_no (n : Nat) (x y : WE) : ltOf (cfW n) x y = false ↔ ¬ lessB (Ty.text n x.t) (Ty.text n y.t) := by
  rw [← lt_cfW n, Bool.not_eq_true]
theorem swo_cfW (n : Nat) : SWO (ltOf (cfW n)) where
  irrefl x := by rw [lt_cfW_no]; exact List.lt_irrefl _
  trans x y z h1 h2 := by rw [lt_cfW] at *; exact List.lt_trans h1 h2
  ntrans x y z h1 h2 := by
    rw [lt_cfW_no] at *
    unfold lessB at *
    exact List.not_lt.2 (List.le_trans (List.not_lt.1 h2) (List.not_lt.1 h1))

set_option maxHeartbeats 800000 in
set_option maxRecDepth 100000 in
theorem implWordCmp (a b : ByteArray) (T T' : Nat) (x x' : Value) (W : World) :
    Calls Tryz.prog 27 #[.agg #[.string a, .iface T x], .agg #[.string b, .iface T' x']] W fun e w' => e = .returned (.int .i64 (Lib.compareBytes a.data.toList b.data.toList)) ∧ ∃ q os', w' = grow (W.drewN q) os' := by
  have HCM : Hid (∀ wx : World, Calls Tryz.prog 28 #[.string a, .string b] wx fun e w' => e = .returned (.int .i64 (Lib.compareBytes a.data.toList b.data.toList)) ∧ w' = wx) := fun wx => Tryz.strings_Compare a b wx
  generalize Lib.compareBytes a.data.toList b.data.toList = r at *
  go_enter Tryz.func27, Tryz.ntmps27
  go_wp2_with (go_at_call 28; refine (HCM.out _).mono ?_; rintro e w' ⟨rfl, rfl⟩)
  go_ret
  exact ⟨rfl, 0, _, by rw [alloc_eq_grow, alloc_eq_grow, grow_grow]; rfl⟩

theorem flat_eq [Inhabited WE] (n : Nat) (E : List WE) : (Go.Sort.flatK (encW n) 2 E.toArray).toList = flatW n E := by
  apply List.ext_getElem?
  intro t
  by_cases h : t < E.length * 2
  · have hz : (Go.Sort.flatK (encW n) 2 E.toArray).size = E.length * 2 := by rw [size_flatK]; simp
    rw [Array.getElem?_toList, Array.getElem?_eq_getElem (by omega), ← getElem!_pos (Go.Sort.flatK (encW n) 2 E.toArray) t (by omega), get_flatK _ _ _ _ (by simpa using h)]
    clear hz
    obtain ⟨i, r, rfl, hr⟩ : ∃ i r, t = i * 2 + r ∧ r < 2 := ⟨t / 2, t % 2, by omega, by omega⟩
    have hd : i < E.length := by omega
    obtain ⟨q1, q2⟩ := flatW_get n E i hd
    have he : E.toArray[i]! = E[i] := by rw [getElem!_pos _ _ (by simpa using hd)]; simp
    rw [show (i * 2 + r) / 2 = i by omega, show (i * 2 + r) % 2 = r by omega, he]
    have hc : r = 0 ∨ r = 1 := by omega
    rcases hc with rfl | rfl
    · rw [Nat.add_zero, q1]; rfl
    · rw [q2]; rfl
  · have hz : (Go.Sort.flatK (encW n) 2 E.toArray).size = E.length * 2 := by rw [size_flatK]; simp
    rw [List.getElem?_eq_none (by simp; omega), List.getElem?_eq_none (by rw [flatW_len]; omega)]

theorem own_put {w : World} {base : Nat} {e : TypeId} {z g n cap q : Nat} {xs : List Value} (ys : Array Value) (h : w.ownsRow base e z (.slice (some ⟨g, 0, none⟩) n cap) n xs) (hy : ys.size = n * z) :
    (putRow id (Sort.ahead w q) g 0 ys).ownsRow base e z (.slice (some ⟨g, 0, none⟩) n cap) n ys.toList := by
  rcases h.2 with ⟨e0, _⟩ | ⟨g', cap', cur, e0, hb, hg, hn, hm, hs, ht⟩
  · cases e0
  · injection e0 with e1 _ e3
    injection e1 with e1
    injection e1 with e1
    subst e1; subst e3
    have hle : n * z ≤ cap * z := Nat.mul_le_mul_right _ hn
    refine ⟨by simp; omega, .inr ⟨g, cap, putCells id 0 ys cur, rfl, hb, ?_, hn, hm, by simpa [putCells] using hs, ?_⟩⟩
    · simp [putRow, mapBlock, Sort.ahead, Array.getElem?_modify, hg, onCells]
    · apply List.ext_getElem?
      intro j
      rw [List.getElem?_take, Array.getElem?_toList, Array.getElem?_toList]
      by_cases hj : j < n * z
      · have hjc : j < cur.size := by omega
        simp only [if_pos hj, putCells, Array.getElem?_mapIdx, Array.getElem?_eq_getElem hjc, Option.map_some]
        rw [if_pos (by simp; omega), Array.getElem?_eq_getElem (by omega)]
        simp [getElem!_pos, show j < ys.size by omega]
      · rw [if_neg hj, Array.getElem?_eq_none (by omega)]

theorem below_growW (w : World) (os : Array Obj) : RowKit.Below w.heap.size w (grow w os) := by
  have := below_regrown w w.drawn os
  exact this

set_option maxHeartbeats 1600000 in
set_option maxRecDepth 100000 in
/-- slices.SortFunc at forms with their texts -/
theorem slSortW (B g cap nT : Nat) (E : List WE) (w : World) (ho : w.ownsRow B 64 2 (.slice (some ⟨g, 0, none⟩) E.length cap) E.length (flatW nT E)) (hl : E.length ≤ 4194304) :
    Calls Tryz.prog 26 #[.slice (some ⟨g, 0, none⟩) E.length cap, .func (Fn.func 27) #[] #[]] w fun e w' => e = .returned (.tuple #[]) ∧ ∃ L : List WE, L.Perm E ∧ (∀ i j (hij : i < j) (hj : j < L.length), ¬ lessB (Ty.text nT L[j].t) (Ty.text nT (L[i]'(by omega)).t)) ∧ w'.ownsRow B 64 2 (.slice (some ⟨g, 0, none⟩) L.length cap) L.length (flatW nT L) ∧ RowKit.Below B w w' := by
  haveI : Inhabited WE := ⟨⟨0, .nilIface, ⟨0, ⟨#[]⟩, [], []⟩⟩⟩
  obtain ⟨hBg, hgl, hH⟩ : B ≤ g ∧ g < w.heap.size ∧ HoldsK (encW nT) 2 w g 0 E.toArray := by
    rcases ho.2 with ⟨h0, _⟩ | ⟨g', cap', cur, hv, h1, h2, h3, h4, _⟩
    · cases h0
    · cases hv
      refine ⟨h1, (Array.getElem?_eq_some_iff.1 h2).1, fun j hj => ⟨?_, by simp [World.frozen?, h2]⟩⟩
      have hj' : j < E.length * 2 := by simpa using hj
      rw [Nat.zero_add, ho.cellAt j hj', ← flat_eq, Array.getElem?_toList, Array.getElem?_eq_getElem hj, ← getElem!_pos (Go.Sort.flatK (encW nT) 2 E.toArray) j hj]
      rfl
  have eg : ∀ args w, (callFunc 27 args).run Tryz.prog w = .ok (.enter 27 args) w := enters_of Tryz.func27 (by kernel_rfl) rfl
  have hcmp : CmpLays Tryz.prog 27 #[] (encW nT) 2 (cfW nT) g 0 E.toArray.size w := fun _ _ _ _ x y => implWordCmp _ _ _ _ _ _ _
  have hcon := AnyQ.slices_SortFunc Tryz.sortW 2 Tryz.isAgg64 Tryz.sizeOf64 (encW nT) (fun _ => rfl) (fun x v hv => by simp [encW] at hv; rcases hv with rfl | rfl <;> rfl) (cfW nT) (swo_cfW nT) 27 #[] g 0 cap E.toArray w eg hcmp hH hgl (by simp; omega)
  change Calls Tryz.prog 26 _ _ _ at hcon
  have hzE : E.toArray.size = E.length := by simp
  rw [hzE] at hcon
  refine hcon.mono fun e w' hh => ?_
  obtain ⟨he, d', nq, os, hp, hs, hw⟩ := hh
  obtain ⟨p1, _, p3⟩ := hp
  have hz : d'.size = E.length := by simpa using p1
  have e1 : d'.extract 0 E.length = d' := Array.extract_eq_self_of_le (by omega)
  have e2 : E.toArray.extract 0 E.length = E.toArray := Array.extract_eq_self_of_le (by simp)
  rw [e1, e2] at p3
  have hlL : d'.toList.length = E.length := by simpa using hz
  refine ⟨he, d'.toList, p3, fun i j hij hj => ?_, ?_, ?_⟩
  · have hj' : j < d'.size := by simpa using hj
    have := hs i j (Nat.zero_le _) hij (by omega)
    rw [lt_cfW_no, getElem!_pos d' j (by omega), getElem!_pos d' i (by omega)] at this
    simpa using this
  · rw [hw]
    unfold sortWorldK putRowK
    have o1 := own_put (q := nq) (Go.Sort.flatK (encW nT) 2 d') ho (by rw [size_flatK]; omega)
    rw [show Go.Sort.flatK (encW nT) 2 d' = Go.Sort.flatK (encW nT) 2 d'.toList.toArray by simp, flat_eq] at o1
    rw [hlL]
    exact kept_belowT o1 (below_growW _ _)
  · rw [hw]
    unfold sortWorldK putRowK
    have b1 : RowKit.Below B w (putRow id (Sort.ahead w nq) g 0 (Go.Sort.flatK (encW nT) 2 d')) := Lib.below_putRow (RowKit.Below.refl _ _) hBg
    exact b1.trans ((below_growW _ os).mono (by have := b1.size; omega))

end Go.Proofs.YthomlchbgcjcfaaGreatDoor
