/-
  What a renamed type is. No program here. What impl.renamed asks of a form; names and dots. Contracts of the library, laid at this translation. The walk of impl.renamed.
  The walk of impl.Rename.
-/
import Derived.Test.YtjihkebafoajdaaGreatDoorUnB
import Derived.Test.YtjihkebafoajdaaGreatDoorUnI
import Derived.Shelf.Strings.Builder1
import Derived.Shelf.Strings.Builder2
import Derived.Shelf.Strings.OnBuilder
import Derived.Shelf.Small.Bits
import Derived.Shelf.Small.Strs
import Derived.Shelf.Strings.BuilderF
import Derived.Shelf.Strings.BuilderK
import Derived.Shelf.Strings.Builder2Cap
import Derived.Shelf.Strconv.Itoa0
import Derived.Shelf.LaysM
import Derived.Shelf.Strconv.Clone
import Derived.Shelf.Strings.Search1
import Derived.Shelf.Strings.Search2
import Derived.Shelf.Strings.Search3
import Derived.Shelf.Strings.Cut
import Derived.Shelf.Strings.Shaped
import Derived.Ground.Names2Prog
import Derived.Shelf.Slices.Clone
import Derived.Ground.SlgnProg
import Derived.Shelf.SlicesE.Clone
import Derived.Test.YtjihkebafoajdaaGreatDoorProg
import Derived.WalkKit
import Derived.Test.YtjihkebafoajdaaGreatDoorCpK
namespace Go.Proofs.YtjihkebafoajdaaGreatDoor
open Go.RowKit

/-- a name with the module's name ahead of it, where it has none -/
def nameMod (mod s : ByteArray) : ByteArray := if Lx.nameOkP s = true then mod ++ ⟨#[46]⟩ ++ s else s

/-- the second is the first, renamed -/
def Ren (mod : ByteArray) : Nat → Ty → Ty → Prop
  | 0, _, _ => False
  | n + 1, t, t' => ∃ ks : List Ty, ks.length = t.kids.length ∧ (∀ j (h : j < t.kids.length) (h' : j < ks.length), Ren mod n t.kids[j] ks[j]) ∧
      ((t.kind = 7 ∧ ∃ S, AscS n ks S ∧ (S = [t'] ∨ (S.length ≠ 1 ∧ t' = .mk 7 t.name t.names S))) ∨ (t.kind ≠ 7 ∧ t' = .mk t.kind (if t.kind = 4 then nameMod mod t.name else t.name) t.names ks))

theorem Ren.one {mod : ByteArray} {n : Nat} {t u v : Ty} (h : Ren mod n t u) (h' : Ren mod n t v) : u = v := by
  induction n generalizing t u v with
  | zero => exact h.elim
  | succ n ih =>
    obtain ⟨ks, l1, k1, c1⟩ := h
    obtain ⟨ks', l2, k2, c2⟩ := h'
    have e : ks = ks' := by
      apply List.ext_getElem
      · omega
      · intro j h1 h2
        exact ih (k1 j (by omega) h1) (k2 j (by omega) h2)
    subst e
    rcases c1 with ⟨a1, S, s1, q1⟩ | ⟨a1, q1⟩
    · rcases c2 with ⟨_, S', s2, q2⟩ | ⟨a2, _⟩
      · have e : S = S' := asc_one s1.2 s2.2 fun x => (s1.1 x).trans (s2.1 x).symm
        subst e
        rcases q1 with q1 | ⟨q1, rfl⟩
        · rcases q2 with q2 | ⟨q2, _⟩
          · rw [q1] at q2
            simpa using q2
          · rw [q1] at q2; simp at q2
        · rcases q2 with q2 | ⟨_, rfl⟩
          · rw [q2] at q1; simp at q1
          · rfl
      · exact absurd a1 a2
    · rcases c2 with ⟨a2, _⟩ | ⟨_, rfl⟩
      · exact absurd a2 a1
      · exact q1

theorem dotP_at {s : ByteArray} {k : Nat} (hk : k < s.size) (h46 : Lx.byt s k = 46) (f i : Nat) (hi : i ≤ k) (hf : k < i + f) (hno : ∀ j, i ≤ j → j < k → Lx.byt s j ≠ 46) : dotP s f i = some k := by
  induction f generalizing i with
  | zero => omega
  | succ f ih =>
    by_cases c : i = k
    · subst c; exact dotP_hit hk h46
    · rw [dotP_skip (by omega) (hno i (Nat.le_refl _) (by omega))]
      exact ih (i + 1) (by omega) (by omega) fun j h1 h2 => hno j (by omega) h2
theorem byt_front {a b : ByteArray} {j : Nat} (h : j < a.size) : Lx.byt (a ++ b) j = Lx.byt a j := by
  have h' : j < (a ++ b).size := by rw [ByteArray.size_append]; omega
  rw [← Lx.byt_eq _ _ h', ← Lx.byt_eq _ _ h, ByteArray.getElem_append_left h]
theorem byt_back {a b : ByteArray} {j : Nat} (h : j < b.size) : Lx.byt (a ++ b) (a.size + j) = Lx.byt b j := by
  have h' : a.size + j < (a ++ b).size := by rw [ByteArray.size_append]; omega
  rw [← Lx.byt_eq _ _ h', ← Lx.byt_eq _ _ h, ByteArray.getElem_append_right (by omega)]
  simp
theorem cut_front (a b : ByteArray) : (a ++ b).extract 0 a.size = a := by
  apply ByteArray.ext
  simp
theorem cut_back (a b : ByteArray) : (a ++ b).extract a.size (a ++ b).size = b := by
  apply ByteArray.ext
  have h1 : a.data.extract a.size (a.size + b.size) = #[] := Array.eq_empty_of_size_eq_zero (by rw [Array.size_extract]; show min (a.size + b.size) a.size - a.size = 0; omega)
  have h2 : b.data.extract 0 b.size = b.data := Array.extract_eq_self_of_le (Nat.le_refl _)
  simp [h1, h2]
/-- a dotted name of two names -/
theorem dotted_of {a b : ByteArray} (ha : Lx.nameOkP a = true) (hb : Lx.nameOkP b = true) : dottedP (a ++ ⟨#[46]⟩ ++ b) = true := by
  obtain ⟨_, _, a3⟩ := name_bytes ha
  have hs1 : (a ++ ⟨#[46]⟩ : ByteArray).size = a.size + 1 := by rw [ByteArray.size_append]; rfl
  have hs : (a ++ ⟨#[46]⟩ ++ b).size = a.size + 1 + b.size := by rw [ByteArray.size_append, hs1]
  have hd : dotP (a ++ ⟨#[46]⟩ ++ b) ((a ++ ⟨#[46]⟩ ++ b).size + 1) 0 = some a.size := by
    refine dotP_at (by omega) ?_ _ 0 (Nat.zero_le _) (by omega) fun j _ hj e => ?_
    · rw [byt_front (by omega)]
      have := byt_back (a := a) (b := ⟨#[46]⟩) (j := 0) (by decide)
      rw [Nat.add_zero] at this
      rw [this]; rfl
    · rw [byt_front (by omega), byt_front hj] at e
      have := a3 j hj
      rw [e] at this
      exact absurd this (by decide)
  unfold dottedP
  rw [hd]
  simp only [Bool.and_eq_true]
  constructor
  · have := cut_front a (⟨#[46]⟩ ++ b)
    rw [← ByteArray.append_assoc] at this
    rw [this]; exact ha
  · have := cut_back (a ++ ⟨#[46]⟩) b
    rw [hs1] at this
    rw [this]; exact hb
theorem nameMod_ok {mod s : ByteArray} (hm : Lx.nameOkP mod = true) (hs : dottedP s = true) : dottedP (nameMod mod s) = true := by
  unfold nameMod
  by_cases c : Lx.nameOkP s = true
  · rw [if_pos c]; exact dotted_of hm c
  · rw [if_neg c]; exact hs

theorem nameMod_size {mod s : ByteArray} (hm : Lx.nameOkP mod = true) (hs : dottedP s = true) : (nameMod mod s).size ≤ 14 * s.size := by
  have h0 := (dotted_bytes hs).1
  have hm12 : mod.size ≤ 12 := Classical.byContradiction fun c => by
    have := nameOk_size (s := mod) (by omega)
    rw [hm] at this
    cases this
  unfold nameMod
  by_cases c : Lx.nameOkP s = true
  · rw [if_pos c, ByteArray.size_append, ByteArray.size_append]
    show mod.size + 1 + s.size ≤ _
    omega
  · rw [if_neg c]; omega

/-- what is right stays right -/
theorem Ren.right {mod : ByteArray} (hm : Lx.nameOkP mod = true) {n : Nat} {t t' : Ty} {d : Int} (hr : Right n t d) (h : Ren mod n t t') : Right n t' d ∧ (t.kind ≠ 7 → t'.kind = t.kind) ∧ Ty.bulk n t' ≤ 14 * Ty.bulk n t := by
  induction n generalizing t t' d with
  | zero => exact h.elim
  | succ n ih =>
    obtain ⟨ks, hl, hk, hc⟩ := h
    have hbb : ∀ q : Ty, Ty.bulk (n + 1) q = q.name.size + (q.names.length + Ty.textsBulk q.names) + (q.kids.length + (q.kids.map (Ty.bulk n)).sum) := fun q => rfl
    have hin : ∀ x ∈ ks, Right n x (d - 1) ∧ ∃ y ∈ t.kids, y.kind ≠ 7 → x.kind = y.kind := fun x hx => by
      obtain ⟨j, hj, rfl⟩ := List.getElem_of_mem hx
      have := ih (hr.2.1 _ (List.getElem_mem (by omega))) (hk j (by omega) hj)
      exact ⟨this.1, _, List.getElem_mem (by omega), this.2.1⟩
    have hsum : (ks.map (Ty.bulk n)).sum ≤ 14 * (t.kids.map (Ty.bulk n)).sum := by
      have : ∀ (A C : List Ty), C.length = A.length → (∀ j (h : j < A.length) (h' : j < C.length), Ty.bulk n C[j] ≤ 14 * Ty.bulk n A[j]) → (C.map (Ty.bulk n)).sum ≤ 14 * (A.map (Ty.bulk n)).sum := fun A => by
        induction A with
        | nil => intro C h _; obtain rfl : C = [] := List.eq_nil_of_length_eq_zero (by simpa using h); simp
        | cons a r ih2 =>
          intro C h hh
          cases C with
          | nil => simp at h
          | cons c q =>
            have h1 := hh 0 (by simp) (by simp)
            have h2 := ih2 q (by simpa using h) fun j a b => by
              have := hh (j + 1) (by simpa using a) (by simpa using b)
              simpa using this
            simp only [List.getElem_cons_zero] at h1
            simp only [List.map_cons, List.sum_cons]
            omega
      exact this t.kids ks hl fun j h1 h2 => (ih (hr.2.1 _ (List.getElem_mem h1)) (hk j h1 h2)).2.2
    rcases hc with ⟨h7, S, hS, hc⟩ | ⟨h7, rfl⟩
    · obtain ⟨u1, u2, u3, a, b, r, u4⟩ := right_union hr h7
      have hkk : ∀ x ∈ ks, x.kind ≠ 7 ∧ x.kind ≠ 3 := fun x hx => by
        obtain ⟨j, hj, rfl⟩ := List.getElem_of_mem hx
        have hy := u3 _ (List.getElem_mem (l := t.kids) (n := j) (by omega))
        have := (ih (hr.2.1 _ (List.getElem_mem (by omega))) (hk j (by omega) hj)).2.1 hy.1
        rw [this]; exact hy
      have hsub := sum_sub (f := Ty.bulk n) hS.nodup fun x hx => (hS.1 x).1 hx
      have hne : 0 < ks.length := by rw [hl, u4]; simp
      rcases hc with hc | ⟨hc, rfl⟩
      · have hx := (hS.1 t').1 (by rw [hc]; simp)
        have hR := (hin t' hx).1
        refine ⟨(right_hgt (right_up hR)).2 (by have := right_hgt_le (right_up hR); omega), fun q => absurd h7 q, ?_⟩
        rw [bulk_up hR, hbb t]
        have h1 : Ty.bulk n t' ≤ (ks.map (Ty.bulk n)).sum := by
          obtain ⟨j, hj, e⟩ := List.getElem_of_mem hx
          have := kid_bulk n ks j hj
          rw [e] at this
          exact this
        omega
      · obtain ⟨x, hx⟩ : ∃ x, x ∈ ks := ⟨_, List.getElem_mem hne⟩
        have hl1 : 1 < S.length := by have := List.length_pos_of_mem ((hS.1 x).2 hx); omega
        refine ⟨⟨hr.1, fun s hs => (hin s ((hS.1 s).1 hs)).1, .inr (.inr (.inr (.inr ⟨rfl, fun i hi => ⟨hkk _ ((hS.1 _).1 (List.getElem_mem hi)), fun h0 => ?_⟩, ?_, ?_, hl1⟩)))⟩, fun q => absurd h7 q, ?_⟩
        · exact List.pairwise_iff_getElem.1 hS.2 (i - 1) i _ hi (by omega)
        · show t.name.size = 0
          rw [u1]; rfl
        · show t.names.length = 0
          rw [u2]; rfl
        · rw [hbb t, hbb]
          show t.name.size + (t.names.length + Ty.textsBulk t.names) + (S.length + (S.map (Ty.bulk n)).sum) ≤ _
          omega
    · by_cases h4 : t.kind = 4
      · obtain ⟨n1, n2, n3⟩ := right_name hr h4
        have hk0 : ks = [] := List.eq_nil_of_length_eq_zero (by rw [hl, n3]; rfl)
        subst hk0
        rw [if_pos h4, n2]
        refine ⟨⟨hr.1, fun s hs => absurd hs (by simp), .inr (.inl ⟨h4, nameMod_ok hm n1, rfl, rfl⟩)⟩, fun _ => rfl, ?_⟩
        rw [hbb t, hbb]
        have := nameMod_size hm n1
        show (nameMod mod t.name).size + (0 + Ty.textsBulk []) + (0 + 0) ≤ _
        rw [n2]
        show (nameMod mod t.name).size + (0 + 0) + (0 + 0) ≤ _
        omega
      · rw [if_neg h4]
        refine ⟨⟨hr.1, fun s hs => (hin s hs).1, ?_⟩, fun _ => rfl, ?_⟩
        · rcases hr.2.2 with q | q | q | q | ⟨q, _⟩
          · refine .inl ⟨q.1, q.2.1, q.2.2.1, ?_⟩
            show ks.length = 0
            rw [hl]; exact q.2.2.2
          · exact absurd q.1 h4
          · exact .inr (.inr (.inl ⟨q.1, q.2.1, q.2.2.1, q.2.2.2.trans hl.symm⟩))
          · exact .inr (.inr (.inr (.inl ⟨q.1, q.2.1, q.2.2.1, by show 0 < ks.length; rw [hl]; exact q.2.2.2⟩)))
          · exact absurd q h7
        · rw [hbb t, hbb]
          show t.name.size + (t.names.length + Ty.textsBulk t.names) + (ks.length + (ks.map (Ty.bulk n)).sum) ≤ _
          omega

end Go.Proofs.YtjihkebafoajdaaGreatDoor

namespace Go.Proofs.YtjihkebafoajdaaGreatDoor
open Go.RowKit

theorem dot_name {s : ByteArray} (h : dottedP s = true) : Lx.nameOkP s = true ↔ ∀ j, j < s.size → Lx.byt s j ≠ 46 := by
  constructor
  · intro hn j hj e
    have := (name_bytes hn).2.2 j hj
    rw [e] at this
    exact absurd this (by decide)
  · intro hno
    unfold dottedP at h
    cases hd : dotP s (s.size + 1) 0 with
    | none => rw [hd] at h; exact h
    | some i =>
      obtain ⟨_, h1, h2⟩ := dotP_some hd
      exact absurd h2 (hno i h1)

set_option maxRecDepth 100000 in
theorem form_all {w : World} {n : Nat} {v : Value} {t : Ty} (h : FormAt w (n + 1) v t) (hk : 0 ≤ t.kind ∧ t.kind ≤ 7) : ∃ T x a c an cn, v = .iface T x ∧ PartsAt w (FormAt w n) (.slice a t.kids.length c) t.kids ∧ Texts w (.slice an t.names.length cn) t.names ∧
    (∀ wx : World, Sem.run Tryz.prog (method 273 T x "loop.example/g00276/impl.kids") wx = .ok (40, .agg #[.slice a t.kids.length c]) wx) ∧
    (∃ a4 l4 c4 s4, (t.kind = 4 → s4 = t.name) ∧ ∀ wx : World, (Instr.typeAssert (.iface T x) 48 82 true).run Tryz.prog wx = .ok (.tuple #[.agg #[.slice a4 l4 c4, .string s4], .bool (decide (t.kind = 4))]) wx) ∧
    (∃ a5 l5 c5 b5 m5 d5, (t.kind = 5 → b5 = an ∧ m5 = t.names.length ∧ d5 = cn) ∧ ∀ wx : World, (Instr.typeAssert (.iface T x) 48 85 true).run Tryz.prog wx = .ok (.tuple #[.agg #[.slice a5 l5 c5, .slice b5 m5 d5], .bool (decide (t.kind = 5))]) wx) ∧
    (∃ a6 l6 c6, ∀ wx : World, (Instr.typeAssert (.iface T x) 48 86 true).run Tryz.prog wx = .ok (.tuple #[.agg #[.slice a6 l6 c6], .bool (decide (t.kind = 6))]) wx) ∧
    (∃ a7 l7 c7, ∀ wx : World, (Instr.typeAssert (.iface T x) 48 68 true).run Tryz.prog wx = .ok (.tuple #[.agg #[.slice a7 l7 c7], .bool (decide (t.kind = 7))]) wx) := by
  obtain ⟨a, c, an, cn, hP, hT, hc⟩ := h.cases
  rcases hc with ⟨k, rfl⟩ | ⟨k, rfl⟩ | ⟨k, rfl⟩ | ⟨k, rfl⟩ | ⟨k, rfl⟩ | ⟨k, rfl⟩ | ⟨k, rfl⟩ | ⟨k, rfl⟩
  · rw [show decide (t.kind = 4) = false from decide_eq_false (by omega), show decide (t.kind = 5) = false from decide_eq_false (by omega), show decide (t.kind = 6) = false from decide_eq_false (by omega), show decide (t.kind = 7) = false from decide_eq_false (by omega)]
    exact ⟨_, _, a, c, an, cn, rfl, hP, hT, fun wx => by clear hT hP; generalize t.kids.length = l at *; generalize t.names.length = l2 at *; generalize t.name = nm at *; kernel_rfl, ⟨none, 0, 0, ⟨#[]⟩, fun q => by omega, fun wx => by clear hT hP; generalize t.kids.length = l at *; generalize t.names.length = l2 at *; generalize t.name = nm at *; kernel_rfl⟩, ⟨none, 0, 0, none, 0, 0, fun q => by omega, fun wx => by clear hT hP; generalize t.kids.length = l at *; generalize t.names.length = l2 at *; generalize t.name = nm at *; kernel_rfl⟩, ⟨none, 0, 0, fun wx => by clear hT hP; generalize t.kids.length = l at *; generalize t.names.length = l2 at *; generalize t.name = nm at *; kernel_rfl⟩, ⟨none, 0, 0, fun wx => by clear hT hP; generalize t.kids.length = l at *; generalize t.names.length = l2 at *; generalize t.name = nm at *; kernel_rfl⟩⟩
  · rw [show decide (t.kind = 4) = false from decide_eq_false (by omega), show decide (t.kind = 5) = false from decide_eq_false (by omega), show decide (t.kind = 6) = false from decide_eq_false (by omega), show decide (t.kind = 7) = false from decide_eq_false (by omega)]
    exact ⟨_, _, a, c, an, cn, rfl, hP, hT, fun wx => by clear hT hP; generalize t.kids.length = l at *; generalize t.names.length = l2 at *; generalize t.name = nm at *; kernel_rfl, ⟨none, 0, 0, ⟨#[]⟩, fun q => by omega, fun wx => by clear hT hP; generalize t.kids.length = l at *; generalize t.names.length = l2 at *; generalize t.name = nm at *; kernel_rfl⟩, ⟨none, 0, 0, none, 0, 0, fun q => by omega, fun wx => by clear hT hP; generalize t.kids.length = l at *; generalize t.names.length = l2 at *; generalize t.name = nm at *; kernel_rfl⟩, ⟨none, 0, 0, fun wx => by clear hT hP; generalize t.kids.length = l at *; generalize t.names.length = l2 at *; generalize t.name = nm at *; kernel_rfl⟩, ⟨none, 0, 0, fun wx => by clear hT hP; generalize t.kids.length = l at *; generalize t.names.length = l2 at *; generalize t.name = nm at *; kernel_rfl⟩⟩
  · rw [show decide (t.kind = 4) = false from decide_eq_false (by omega), show decide (t.kind = 5) = false from decide_eq_false (by omega), show decide (t.kind = 6) = false from decide_eq_false (by omega), show decide (t.kind = 7) = false from decide_eq_false (by omega)]
    exact ⟨_, _, a, c, an, cn, rfl, hP, hT, fun wx => by clear hT hP; generalize t.kids.length = l at *; generalize t.names.length = l2 at *; generalize t.name = nm at *; kernel_rfl, ⟨none, 0, 0, ⟨#[]⟩, fun q => by omega, fun wx => by clear hT hP; generalize t.kids.length = l at *; generalize t.names.length = l2 at *; generalize t.name = nm at *; kernel_rfl⟩, ⟨none, 0, 0, none, 0, 0, fun q => by omega, fun wx => by clear hT hP; generalize t.kids.length = l at *; generalize t.names.length = l2 at *; generalize t.name = nm at *; kernel_rfl⟩, ⟨none, 0, 0, fun wx => by clear hT hP; generalize t.kids.length = l at *; generalize t.names.length = l2 at *; generalize t.name = nm at *; kernel_rfl⟩, ⟨none, 0, 0, fun wx => by clear hT hP; generalize t.kids.length = l at *; generalize t.names.length = l2 at *; generalize t.name = nm at *; kernel_rfl⟩⟩
  · rw [show decide (t.kind = 4) = false from decide_eq_false (by omega), show decide (t.kind = 5) = false from decide_eq_false (by omega), show decide (t.kind = 6) = false from decide_eq_false (by omega), show decide (t.kind = 7) = false from decide_eq_false (by omega)]
    exact ⟨_, _, a, c, an, cn, rfl, hP, hT, fun wx => by clear hT hP; generalize t.kids.length = l at *; generalize t.names.length = l2 at *; generalize t.name = nm at *; kernel_rfl, ⟨none, 0, 0, ⟨#[]⟩, fun q => by omega, fun wx => by clear hT hP; generalize t.kids.length = l at *; generalize t.names.length = l2 at *; generalize t.name = nm at *; kernel_rfl⟩, ⟨none, 0, 0, none, 0, 0, fun q => by omega, fun wx => by clear hT hP; generalize t.kids.length = l at *; generalize t.names.length = l2 at *; generalize t.name = nm at *; kernel_rfl⟩, ⟨none, 0, 0, fun wx => by clear hT hP; generalize t.kids.length = l at *; generalize t.names.length = l2 at *; generalize t.name = nm at *; kernel_rfl⟩, ⟨none, 0, 0, fun wx => by clear hT hP; generalize t.kids.length = l at *; generalize t.names.length = l2 at *; generalize t.name = nm at *; kernel_rfl⟩⟩
  · rw [show decide (t.kind = 4) = true from decide_eq_true k, show decide (t.kind = 5) = false from decide_eq_false (by omega), show decide (t.kind = 6) = false from decide_eq_false (by omega), show decide (t.kind = 7) = false from decide_eq_false (by omega)]
    exact ⟨_, _, a, c, an, cn, rfl, hP, hT, fun wx => by clear hT hP; generalize t.kids.length = l at *; generalize t.names.length = l2 at *; generalize t.name = nm at *; kernel_rfl, ⟨a, t.kids.length, c, t.name, fun _ => rfl, fun wx => by clear hT hP; generalize t.kids.length = l at *; generalize t.names.length = l2 at *; generalize t.name = nm at *; kernel_rfl⟩, ⟨none, 0, 0, none, 0, 0, fun q => by omega, fun wx => by clear hT hP; generalize t.kids.length = l at *; generalize t.names.length = l2 at *; generalize t.name = nm at *; kernel_rfl⟩, ⟨none, 0, 0, fun wx => by clear hT hP; generalize t.kids.length = l at *; generalize t.names.length = l2 at *; generalize t.name = nm at *; kernel_rfl⟩, ⟨none, 0, 0, fun wx => by clear hT hP; generalize t.kids.length = l at *; generalize t.names.length = l2 at *; generalize t.name = nm at *; kernel_rfl⟩⟩
  · rw [show decide (t.kind = 4) = false from decide_eq_false (by omega), show decide (t.kind = 5) = true from decide_eq_true k, show decide (t.kind = 6) = false from decide_eq_false (by omega), show decide (t.kind = 7) = false from decide_eq_false (by omega)]
    exact ⟨_, _, a, c, an, cn, rfl, hP, hT, fun wx => by clear hT hP; generalize t.kids.length = l at *; generalize t.names.length = l2 at *; generalize t.name = nm at *; kernel_rfl, ⟨none, 0, 0, ⟨#[]⟩, fun q => by omega, fun wx => by clear hT hP; generalize t.kids.length = l at *; generalize t.names.length = l2 at *; generalize t.name = nm at *; kernel_rfl⟩, ⟨a, t.kids.length, c, an, t.names.length, cn, fun _ => ⟨rfl, rfl, rfl⟩, fun wx => by clear hT hP; generalize t.kids.length = l at *; generalize t.names.length = l2 at *; generalize t.name = nm at *; kernel_rfl⟩, ⟨none, 0, 0, fun wx => by clear hT hP; generalize t.kids.length = l at *; generalize t.names.length = l2 at *; generalize t.name = nm at *; kernel_rfl⟩, ⟨none, 0, 0, fun wx => by clear hT hP; generalize t.kids.length = l at *; generalize t.names.length = l2 at *; generalize t.name = nm at *; kernel_rfl⟩⟩
  · rw [show decide (t.kind = 4) = false from decide_eq_false (by omega), show decide (t.kind = 5) = false from decide_eq_false (by omega), show decide (t.kind = 6) = true from decide_eq_true k, show decide (t.kind = 7) = false from decide_eq_false (by omega)]
    exact ⟨_, _, a, c, an, cn, rfl, hP, hT, fun wx => by clear hT hP; generalize t.kids.length = l at *; generalize t.names.length = l2 at *; generalize t.name = nm at *; kernel_rfl, ⟨none, 0, 0, ⟨#[]⟩, fun q => by omega, fun wx => by clear hT hP; generalize t.kids.length = l at *; generalize t.names.length = l2 at *; generalize t.name = nm at *; kernel_rfl⟩, ⟨none, 0, 0, none, 0, 0, fun q => by omega, fun wx => by clear hT hP; generalize t.kids.length = l at *; generalize t.names.length = l2 at *; generalize t.name = nm at *; kernel_rfl⟩, ⟨a, t.kids.length, c, fun wx => by clear hT hP; generalize t.kids.length = l at *; generalize t.names.length = l2 at *; generalize t.name = nm at *; kernel_rfl⟩, ⟨none, 0, 0, fun wx => by clear hT hP; generalize t.kids.length = l at *; generalize t.names.length = l2 at *; generalize t.name = nm at *; kernel_rfl⟩⟩
  · rw [show decide (t.kind = 4) = false from decide_eq_false (by omega), show decide (t.kind = 5) = false from decide_eq_false (by omega), show decide (t.kind = 6) = false from decide_eq_false (by omega), show decide (t.kind = 7) = true from decide_eq_true (by omega)]
    exact ⟨_, _, a, c, an, cn, rfl, hP, hT, fun wx => by clear hT hP; generalize t.kids.length = l at *; generalize t.names.length = l2 at *; generalize t.name = nm at *; kernel_rfl, ⟨none, 0, 0, ⟨#[]⟩, fun q => by omega, fun wx => by clear hT hP; generalize t.kids.length = l at *; generalize t.names.length = l2 at *; generalize t.name = nm at *; kernel_rfl⟩, ⟨none, 0, 0, none, 0, 0, fun q => by omega, fun wx => by clear hT hP; generalize t.kids.length = l at *; generalize t.names.length = l2 at *; generalize t.name = nm at *; kernel_rfl⟩, ⟨none, 0, 0, fun wx => by clear hT hP; generalize t.kids.length = l at *; generalize t.names.length = l2 at *; generalize t.name = nm at *; kernel_rfl⟩, ⟨a, t.kids.length, c, fun wx => by clear hT hP; generalize t.kids.length = l at *; generalize t.names.length = l2 at *; generalize t.name = nm at *; kernel_rfl⟩⟩

end Go.Proofs.YtjihkebafoajdaaGreatDoor

namespace Go.Proofs
open Go.Shelf

def Tryz.lays144_ren : Go.Shelf.Ren := ⟨fun | 144 => 60 | 143 => 76 | 219 => 95 | 217 => 104 | 225 => 105 | 224 => 106 | 267 => 107 | 266 => 111 | 314 => 112 | n => n, fun | 9 => 9 | 4 => 4 | 3 => 3 | 5 => 5 | 46 => 105 | 146 => 159 | 51 => 138 | n => n, fun | 1 => 1 | n => n⟩

theorem Tryz.lays144 : Go.Proofs.Lays.n144 Tryz.prog Tryz.lays144_ren := {
  mixed := by kernel_rfl
  f143 := Tryz.func76.trans (congrArg some (by kernel_rfl))
  f144 := Tryz.func60.trans (congrArg some (by kernel_rfl))
  f217 := Tryz.func104.trans (congrArg some (by kernel_rfl))
  f219 := Tryz.func95.trans (congrArg some (by kernel_rfl))
  f224 := Tryz.func106.trans (congrArg some (by kernel_rfl))
  f225 := Tryz.func105.trans (congrArg some (by kernel_rfl))
  f266 := Tryz.func111.trans (congrArg some (by kernel_rfl))
  f267 := Tryz.func107.trans (congrArg some (by kernel_rfl))
  f314 := Tryz.func112.trans (congrArg some (by kernel_rfl))
  t3 := Tryz.underlying3
  a3 := Tryz.isAgg3
  z3 := Tryz.sizeOf3
  v3 := Tryz.zeroValue3
  t4 := Tryz.underlying4
  a4 := Tryz.isAgg4
  z4 := Tryz.sizeOf4
  v4 := Tryz.zeroValue4
  t5 := Tryz.underlying5
  a5 := Tryz.isAgg5
  z5 := Tryz.sizeOf5
  v5 := Tryz.zeroValue5
  t9 := Tryz.underlying9
  a9 := Tryz.isAgg9
  z9 := Tryz.sizeOf9
  v9 := Tryz.zeroValue9
  t46 := Tryz.underlying105
  a46 := Tryz.isAgg105
  z46 := Tryz.sizeOf105
  v46 := Tryz.zeroValue105
  t51 := Tryz.underlying138
  a51 := Tryz.isAgg138
  z51 := Tryz.sizeOf138
  v51 := Tryz.zeroValue138
  t146 := Tryz.underlying159
  a146 := Tryz.isAgg159
  z146 := Tryz.sizeOf159
  v146 := Tryz.zeroValue159
  g1 := by kernel_rfl }

open Go.RowKit Go.Lib in
theorem Tryz.strings_Contains_one (s : ByteArray) (c : UInt8) (w : World) :
    Calls Tryz.prog 60 #[.string s, .string ⟨#[c]⟩] w fun e w' => e = .returned (.bool (decide (0 ≤ Lib.indexByte s.data.toList c))) ∧ w' = w := Any.strings_Contains_one Tryz.lays144 s c w

end Go.Proofs

namespace Go.Proofs.YtjihkebafoajdaaGreatDoor
open Go.RowKit

theorem Gathered.moreR {wr w2 w3 : World} {B C n k : Nat} {v v' u : Value} {X : List Value} {ks : List Ty} {o : Obj} (h : Gathered wr B C n v X ks) (hXl : X.length = k) (hlt : k < ks.length) (hC : C ≤ wr.heap.size)
    (hb2 : Below wr.heap.size wr w2) (hg : (w2.alloc o).grownBy w3 v.ownBlock) (hB3 : ∀ b, b < B → w3.heap[b]? = wr.heap[b]?) (hB2 : ∀ b, b < B → w3.heap[b]? = w2.heap[b]?) (hvl : ∀ g, v.ownBlock = some g → g < wr.heap.size)
    (hloc : v'.ownBlock = v.ownBlock ∨ v'.ownBlock = some (w2.alloc o).heap.size) (hu : FormIn w2 B n wr.heap.size w2.heap.size u ks[k]) : Gathered w3 B C n v' (X ++ [u]) ks := by
  have hz2 := hb2.size
  have hz3 : w2.heap.size ≤ w3.heap.size := by have := hg.size; simp at this; omega
  have same : ∀ x, x < w2.heap.size → (∀ g, v.ownBlock = some g → g ≠ x) → w3.heap[x]? = w2.heap[x]? := fun x hx hne => (hg.block x (by simp; omega) (fun e => hne x e.symm rfl)).trans ((MapKept.heap_alloc w2 o).2 x hx)
  have hal : (w2.alloc o).heap.size = w2.heap.size + 1 := by simp
  intro j hj hx
  by_cases c : j < k
  · obtain ⟨lo, hi, q1, q2, q3, q4⟩ := h j hj (by omega)
    refine ⟨lo, hi, q1, by omega, fun g hg' => ?_, ?_⟩
    · rcases hloc with e | e
      · exact q3 g (by rw [← e]; exact hg')
      · rw [e] at hg'
        simp only [Option.some.injEq] at hg'
        right
        omega
    · rw [List.getElem_append_left (by omega)]
      refine q4.same hB3 fun x h1 h2 => ?_
      rw [same x (by omega) (fun g hgv => by have := q3 g hgv; omega), hb2.block x (by omega)]
  · have e : j = k := by rw [List.length_append, List.length_singleton] at hx; omega
    subst e
    refine ⟨wr.heap.size, w2.heap.size, by omega, hz3, fun g hg' => ?_, ?_⟩
    · rcases hloc with e | e
      · left
        have := hvl g (by rw [← e]; exact hg')
        omega
      · rw [e] at hg'
        simp only [Option.some.injEq] at hg'
        right
        omega
    · have e2 : (X ++ [u])[j] = u := by rw [List.getElem_append_right (by omega)]; simp [hXl]
      rw [e2]
      exact hu.same hB2 fun x h1 h2 => same x h2 (fun g hgv => by have := hvl g hgv; omega)
theorem Gathered.longer {wr : World} {B C n : Nat} {v : Value} {X : List Value} {ks : List Ty} (h : Gathered wr B C n v X ks) (hX : X.length = ks.length) (t : Ty) : Gathered wr B C n v X (ks ++ [t]) := fun j hj hx => by
  obtain ⟨lo, hi, q1, q2, q3, q4⟩ := h j (by omega) hx
  exact ⟨lo, hi, q1, q2, q3, by rw [List.getElem_append_left (by omega)]; exact q4⟩

theorem dot_in {s : ByteArray} (h : dottedP s = true) : decide (0 ≤ Lib.indexByte s.data.toList 46) = !Lx.nameOkP s := by
  have hge := Lib.indexByte_ge s.data.toList 46
  by_cases c : Lib.indexByte s.data.toList 46 = -1
  · have hd := dot_none c (s.size + 1) 0
    unfold dottedP at h
    rw [hd] at h
    rw [show Lx.nameOkP s = true from h, decide_eq_false (by omega)]
    rfl
  · obtain ⟨o, ho⟩ : ∃ o : Nat, Lib.indexByte s.data.toList 46 = o := ⟨(Lib.indexByte s.data.toList 46).toNat, by omega⟩
    obtain ⟨h1, h2⟩ := dot_some ho
    obtain ⟨_, q1, q2⟩ := dotP_some (h2 0 (s.size + 1) (Nat.zero_le _) (by omega))
    have hn : Lx.nameOkP s = false := by
      cases hh : Lx.nameOkP s with
      | false => rfl
      | true => exact absurd q2 ((dot_name h).1 hh o q1)
    rw [hn, decide_eq_true (by omega)]
    rfl

/-- what renamed leaves -/
def RPost (mod : ByteArray) (n : Nat) (t : Ty) (W w : World) (e : Ending) (w' : World) : Prop := ∃ (T : Nat) (x : Value) (t' : Ty), e = .returned (.iface T x) ∧ Ren mod n t t' ∧ FormIn w' W.heap.size n w.heap.size w'.heap.size (.iface T x) t' ∧ Below w.heap.size w w'
/-- what renamed does at that depth -/
def RenAt (n : Nat) : Prop := ∀ (mod : ByteArray) (v : Value) (t : Ty) (d : Int) (W w : World), Lx.nameOkP mod = true → FormAt W n v t → Below W.heap.size W w → Right n t d → d ≤ 12 → Ty.bulk n t ≤ 16777216 →
  Calls Tryz.prog 36 #[v, .string mod] w (RPost mod n t W w)

/-- kids that were renamed -/
def Kin (mod : ByteArray) (n : Nat) (ks ls : List Ty) : Prop := ∀ j (h : j < ks.length) (h' : j < ls.length), Ren mod n ks[j] ls[j]

theorem Kin.sum {mod : ByteArray} (hm : Lx.nameOkP mod = true) {n : Nat} {ks ls : List Ty} {d : Int} (hl : ls.length = ks.length) (hr : ∀ q ∈ ks, Right n q d) (h : Kin mod n ks ls) : rowBulk n ls ≤ 14 * rowBulk n ks := by
  unfold rowBulk
  induction ks generalizing ls with
  | nil =>
    obtain rfl : ls = [] := List.eq_nil_of_length_eq_zero (by simpa using hl)
    simp
  | cons a r ih =>
    cases ls with
    | nil => simp at hl
    | cons c q =>
      have h1 := (Ren.right hm (hr a (by simp)) (h 0 (by simp) (by simp))).2.2
      have h2 := ih (ls := q) (by simpa using hl) (fun x hx => hr x (List.mem_cons_of_mem _ hx)) fun j a b => by
        have := h (j + 1) (by simpa using a) (by simpa using b)
        simpa using this
      simp only [List.getElem_cons_zero] at h1
      simp only [List.map_cons, List.sum_cons, List.length_cons]
      omega
theorem atoms_self {ls : List Ty} (h : ∀ q ∈ ls, q.kind ≠ 7) : atoms ls = ls := by
  induction ls with
  | nil => rfl
  | cons a r ih =>
    have h1 := ih fun q hq => h q (List.mem_cons_of_mem _ hq)
    unfold atoms at h1 ⊢
    rw [List.flatMap_cons, h1, if_neg (h a (by simp))]
    rfl
/-- a form without kids lies nowhere -/
theorem form_leaf {W w9 : World} {n lo hi : Nat} {v : Value} {t : Ty} (h : FormAt W (n + 1) v t) (h0 : t.kids = []) (hb : Below W.heap.size W w9) : FormIn w9 W.heap.size (n + 1) lo hi v t := by
  obtain ⟨vp, vn, h1, h2, h3⟩ := h
  refine ⟨vp, vn, h1, fun w' h' => h2.same fun b hb' => (h' b hb').trans (hb.block b hb'), ?_⟩
  rw [h0] at h3 ⊢
  rcases h3 with ⟨_, a, cap, e⟩ | ⟨b, off, cap, e, _⟩
  · exact .inl ⟨rfl, a, cap, e⟩
  · exact .inl ⟨rfl, _, cap, e⟩

set_option maxHeartbeats 6400000 in
set_option maxRecDepth 100000 in
theorem renStep (n : Nat) (ih : RenAt n) : RenAt (n + 1) := by
  intro mod v t d W w hm hf hW hr hd hb
  obtain ⟨i0, hi, hz0, hz1, hz2⟩ := info_parts Tryz.infoForm
  obtain ⟨T, x, a, c, an, cn, rfl, hP, hT, hmk, ⟨a4, l4, c4, s4, e4, t4⟩, ⟨a5, l5, c5, b5, m5, d5, e5, t5⟩, ⟨a6, l6, c6, t6⟩, ⟨a7, l7, c7, t7⟩⟩ := form_all hf (right_kind hr)
  have hbb : Ty.bulk (n + 1) t = t.name.size + (t.names.length + Ty.textsBulk t.names) + (t.kids.length + (t.kids.map (Ty.bulk n)).sum) := rfl
  have hlen : t.kids.length ≤ 16777216 := by omega
  obtain ⟨a', c', e', hel⟩ := partsOpen hP
  simp only [Value.slice.injEq, true_and] at e'
  obtain ⟨rfl, rfl⟩ := e'
  have HEL : Hid (∀ k (hk : k < t.kids.length), ∃ b off T x, a = some ⟨b, off, none⟩ ∧ b < W.heap.size ∧ W.cell? ⟨b, off + k, none⟩ = some (.iface T x) ∧ ∀ wx : World, Below W.heap.size W wx → Calls Tryz.prog 36 #[.iface T x, .string mod] wx (RPost mod n t.kids[k] W wx)) := fun k hk => by
    obtain ⟨b, off, u, h1, h2, h3⟩ := hel k hk
    obtain ⟨T, x, rfl⟩ := form_iface h3
    refine ⟨b, off, T, x, h1, World.block_lt_of_cell? W ⟨b, off + k, none⟩ h2, h2, fun wx hx => ih mod _ _ (d - 1) W wx hm h3 hx (hr.2.1 _ (List.getElem_mem hk)) (by omega) ?_⟩
    have := kid_bulk n t.kids k hk
    omega
  have HK1 : Hid (∀ wx : World, Calls Tryz.prog 40 #[.agg #[.slice a t.kids.length c]] wx fun e w' => e = .returned (.slice a t.kids.length c) ∧ w' = wx.alloc (.cells #[.slice a t.kids.length c] 65)) := fun wx => implKids a t.kids.length c wx
  have HR : Hid (type_of% hr) := hr
  have HF : Hid (type_of% hf) := hf
  have HT : Hid (type_of% hT) := hT
  have HB : Hid (type_of% hb) := hb
  have hzW : W.heap.size ≤ w.heap.size := hW.size
  clear hf hr hP hel hT hb hbb ih
  obtain ⟨ks, hks⟩ : ∃ ks, ks = t.kids := ⟨_, rfl⟩
  have HKS : Hid (type_of% hks) := hks
  rw [← hks] at HEL HK1 hlen hmk
  clear hks
  go_enter Tryz.func36, Tryz.ntmps36
  go_wp2_with fail
  refine (HK1.out _).mono ?_
  rintro e w1 ⟨rfl, rfl⟩
  go_wp2_with fail
  go_loopw [5, 16] (fun v i wr => ∃ (k : Nat) (X : List Value) (ls : List Ty), k ≤ ks.length ∧ i = .int .i64 k ∧ ls.length = k ∧ Kin mod n ks ls ∧ wr.ownsRow w.heap.size 48 1 v k X ∧ Gathered wr W.heap.size w.heap.size n v X ls ∧ Below w.heap.size w wr) (fun _ i _ => ks.length - (intOf i).toNat)
  case atStart => exact ⟨0, [], [], Nat.zero_le _, rfl, rfl, fun j _ h => absurd h (by simp), World.ownsRow_nil _ _ _ _, fun j h => absurd h (by simp), (Below.refl _ _).alloc (Nat.le_refl _) _⟩
  case round =>
    obtain ⟨k, X, ls, hk, rfl, hll, hkin, ho, hX, hbe⟩ := hrel
    have hXl : X.length = k := by have := ho.1; omega
    obtain ⟨ao, capo, hv⟩ := slice_ownF ho
    subst hv
    have hz : w.heap.size ≤ wr.heap.size := hbe.size
    have hWr : Below W.heap.size W wr := hW.trans (hbe.mono hzW)
    have hvl : ∀ g, (Value.slice ao k capo).ownBlock = some g → g < wr.heap.size := fun g hg => (ho.lt g hg).2
    have HX : Hid (type_of% hX) := hX
    have HKIN : Hid (type_of% hkin) := hkin
    have HLL : Hid (type_of% hll) := hll
    clear hX hkin
    by_cases hlt : k < ks.length
    · obtain ⟨b, off, T2, x2, rfl, hba, q0, hcal⟩ := HEL.out k hlt
      have C0 := (hWr.cell (p := ⟨b, off + k, none⟩) hba).trans q0
      have HC : Hid (type_of% (hcal wr hWr)) := hcal wr hWr
      have hk0 : (0 : Int) ≤ (k : Int) := by omega
      have hk1 : (k : Int) < (ks.length : Int) := by omega
      clear q0 hcal hll
      go_wp2_with fail
      refine HC.out.mono ?_
      rintro e w2 ⟨T3, x3, t3, rfl, hren, hfv, hb2⟩
      have ho2 := kept_belowT ho hb2
      have hbe2 : Below w.heap.size w w2 := hbe.trans (hb2.mono hz)
      have hzw2 : w.heap.size ≤ w2.heap.size := hbe2.size
      have HFV : Hid (type_of% hfv) := hfv
      have HKIN2 : Hid (Kin mod n ks (ls ++ [t3])) := fun j h1 h2 => by
        by_cases cc : j < ls.length
        · rw [List.getElem_append_left cc]; exact HKIN.out j h1 cc
        · have hj : j = k := by rw [List.length_append, List.length_singleton] at h2; have := HLL.out; omega
          subst hj
          have e2 : (ls ++ [t3])[j] = t3 := by rw [List.getElem_append_right (by omega)]; simp [HLL.out]
          rw [e2]; exact hren
      have HLN : Hid ((ls ++ [t3]).length = k + 1) := by show (ls ++ [t3]).length = _; rw [List.length_append, HLL.out]; rfl
      clear hfv hren HC ho
      go_wp2_with (at_builtin; refine wpList_append_own_at _ rfl _ _ 44 rfl w.heap.size 48 i0 .nilIface 1 16 Tryz.underlying44 hi hz0 hz1 hz2 rfl (by decide) _ _ _ rfl (ho2.alloc _) ⟨w2.heap.size, 0, none⟩ 1 1 [.iface T3 x3] rfl rfl ?c1 ?c2 ?c3 ?c4 ?c5 ?_)
      case c1 => exact one_cellF (cellNew 0 rfl)
      case c2 => intro u hu; simp at hu; subst hu; rfl
      case c3 => unfold maxLen; omega
      case c4 => omega
      case c5 => simp; omega
      intro v' w3 hown' hgrow _ hloc
      have hb3 : Below w.heap.size w w3 := (hbe2.alloc hzw2 _).grown hgrow (by simp; omega) (fun j hj => (ho2.lt j hj).1)
      have hW3 : Below W.heap.size W w3 := hW.trans (hb3.mono hzW)
      have hW2 : Below W.heap.size W w2 := hW.trans (hbe2.mono hzW)
      have HX3 : Hid (Gathered w3 W.heap.size w.heap.size n v' (X ++ [.iface T3 x3]) (ls ++ [t3])) := Gathered.moreR (HX.out.longer (by have := HLL.out; omega) t3) hXl (by have := HLN.out; omega) hz hb2 hgrow (fun x hx => (hW3.block x hx).trans (hWr.block x hx).symm) (fun x hx => (hW3.block x hx).trans (hW2.block x hx).symm) hvl (by simpa using hloc) (by
        have e2 : (ls ++ [t3])[k]'(by have := HLN.out; omega) = t3 := by rw [List.getElem_append_right (by have := HLL.out; omega)]; simp [HLL.out]
        rw [e2]; exact HFV.out)
      clear hgrow ho2 hbe2 hzw2 hb2
      go_wp2_with fail
      go_roundw
      case rel => exact ⟨k + 1, X ++ [.iface T3 x3], ls ++ [t3], by omega, by go_num, HLN.out, HKIN2.out, hown', HX3.out, hb3⟩
      case measure => simp [intOf]; omega
    · have hke : k = ks.length := by omega
      have hPI : PartsIn wr (FormIn wr W.heap.size n) w.heap.size wr.heap.size (.slice ao k capo) ls := own_parts (by rw [HLL.out]; exact ho) fun j hj hx => by
        obtain ⟨lo, hi, q1, q2, _, q4⟩ := HX.out j hj hx
        exact ⟨lo, hi, q1, q2, q4⟩
      have HPI : Hid (type_of% hPI) := hPI
      have hlk : ls.length = t.kids.length := by rw [HLL.out, hke, HKS.out]
      have HREN : Hid (∀ t', ((t.kind = 7 ∧ ∃ S, AscS n ls S ∧ (S = [t'] ∨ (S.length ≠ 1 ∧ t' = .mk 7 t.name t.names S))) ∨ (t.kind ≠ 7 ∧ t' = .mk t.kind (if t.kind = 4 then nameMod mod t.name else t.name) t.names ls)) → Ren mod (n + 1) t t') := fun t' h => ⟨ls, hlk, fun j h1 h2 => by
        have := HKIN.out j (by rw [HKS.out]; exact h1) h2
        simpa only [HKS.out] using this, h⟩
      have HTB : Hid (∀ wx : World, Below w.heap.size w wx → TextsB wx W.heap.size (.slice an t.names.length cn) t.names) := fun wx hx w' h' => HT.out.same fun b hb => (h' b hb).trans ((hW.trans (hx.mono hzW)).block b hb)
      have hkn : ¬ (k : Int) < (ks.length : Int) := by omega
      have HLK : Hid (type_of% hlk) := hlk
      have HKE : Hid (type_of% hke) := hke
      clear hPI hlk ho HX hke HEL hll
      by_cases k4 : t.kind = 4
      · obtain ⟨n1, n2, n3⟩ := right_name HR.out k4
        rw [decide_eq_true k4] at t4
        have hs4 := e4 k4
        subst hs4
        have hl0 : ls = [] := List.eq_nil_of_length_eq_zero (by rw [HLK.out, n3]; rfl)
        have hns : t.name.size ≤ 16777216 := by
          have h2 := HB.out
          have hbb : Ty.bulk (n + 1) t = t.name.size + (t.names.length + Ty.textsBulk t.names) + (t.kids.length + (t.kids.map (Ty.bulk n)).sum) := rfl
          omega
        have hm12 : mod.size ≤ 12 := Classical.byContradiction fun c => by
          have := nameOk_size (s := mod) (by omega)
          rw [hm] at this
          cases this
        have HCT : Hid (∀ wx : World, Calls Tryz.prog 60 #[.string t.name, .string ⟨#[46]⟩] wx fun e w' => e = .returned (.bool (!Lx.nameOkP t.name)) ∧ w' = wx) := fun wx => by
          have := Tryz.strings_Contains_one t.name 46 wx
          rw [dot_in n1] at this
          exact this
        cases hn : Lx.nameOkP t.name with
        | false =>
          have HO : Hid (Ren mod (n + 1) t t) := HREN.out _ (.inr ⟨by omega, by
            have e1 : nameMod mod t.name = t.name := by unfold nameMod; rw [hn]; rfl
            rw [if_pos k4, e1, hl0]
            obtain ⟨kd, nm, nms, kk⟩ := t
            simp only at n3
            rw [n3]⟩)
          have HFO : Hid (∀ w9, Below w.heap.size w w9 → FormIn w9 W.heap.size (n + 1) w.heap.size w9.heap.size (.iface T x) t) := fun w9 h9 => form_leaf HF.out n3 (hW.trans (h9.mono hzW))
          rw [hn] at HCT
          clear HREN HPI HTB hl0 n1 n2 n3 hn
          go_wp2_with fail
          refine (HCT.out _).mono ?_
          rintro e w2 ⟨rfl, rfl⟩
          go_wp2_with fail
          go_ret
          have h9 : Below w.heap.size w ((wr.alloc (.cells #[.slice ao k capo] 65)).alloc (.cells #[.slice a4 l4 c4, .string t.name] 82)) := (hbe.alloc hz _).alloc (by simp; omega) _
          exact ⟨_, _, _, rfl, HO.out, HFO.out _ h9, h9⟩
        | true =>
          have HO : Hid (Ren mod (n + 1) t (.mk 4 (mod ++ ⟨#[46]⟩ ++ t.name) t.names ls)) := HREN.out _ (.inr ⟨by omega, by
            have e1 : nameMod mod t.name = mod ++ ⟨#[46]⟩ ++ t.name := by unfold nameMod; rw [hn]; rfl
            rw [if_pos k4, e1, k4]⟩)
          have h9 : Below wr.heap.size wr ((wr.alloc (.cells #[.slice ao k capo] 65)).alloc (.cells #[.slice a4 l4 c4, .string t.name] 82)) := ((Below.refl _ _).alloc (Nat.le_refl _) _).alloc (by simp) _
          have HFO : Hid (∀ w9, Below wr.heap.size wr w9 → FormIn w9 W.heap.size (n + 1) w.heap.size w9.heap.size (.iface 82 (.agg #[.slice ao k capo, .string (mod ++ ⟨#[46]⟩ ++ t.name)])) (.mk 4 (mod ++ ⟨#[46]⟩ ++ t.name) t.names ls)) := fun w9 h9 => ⟨.slice ao k capo, .slice an t.names.length cn, rfl, HTB.out w9 (hbe.trans (h9.mono hz)), HPI.out.step h9 (by omega) (Nat.le_refl _) (Nat.le_refl _) h9.size⟩
          have hx1 : ((wr.alloc (.cells #[.slice ao k capo] 65)).alloc (.cells #[.slice a4 l4 c4, .string t.name] 82)).heap[wr.heap.size]? = some (.cells #[.slice ao k capo] 65 (0, 0)) := heap_first wr _ _
          have hx2 : ((wr.alloc (.cells #[.slice ao k capo] 65)).alloc (.cells #[.slice a4 l4 c4, .string t.name] 82)).heap[wr.heap.size + 1]? = some (.cells #[.slice a4 l4 c4, .string t.name] 82 (0, 0)) := heap_second wr _ _
          rw [hn] at HCT
          clear HREN HPI HTB hl0 n1 n2 n3 hn
          generalize t.name = nm at *
          go_wp2_with fail
          refine (HCT.out _).mono ?_
          rintro e w2 ⟨rfl, rfl⟩
          go_wp2_with fail
          generalize ((wr.alloc (.cells #[.slice ao k capo] 65)).alloc (.cells #[.slice a4 l4 c4, .string nm] 82)) = W2 at *
          have lt1 : wr.heap.size + 1 < W2.heap.size := (Array.getElem?_eq_some_iff.1 hx2).1
          have HBX : Hid (∀ wx : World, Below W2.heap.size W2 wx → wx.cell? ⟨wr.heap.size, 0, none⟩ = some (.slice ao k capo) ∧ wx.cell? ⟨wr.heap.size + 1, 0, none⟩ = some (.slice a4 l4 c4) ∧ wx.cell? ⟨wr.heap.size + 1, 1, none⟩ = some (.string nm)) := fun wx hx => by
            have y1 := (hx.block wr.heap.size (by omega)).trans hx1
            have y2 := (hx.block (wr.heap.size + 1) lt1).trans hx2
            exact ⟨by rw [cell_of_row wx _ 0 _ _ _ y1]; rfl, by rw [cell_of_row wx _ 0 _ _ _ y2]; rfl, by rw [cell_of_row wx _ 1 _ _ _ y2]; rfl⟩
          have HJ : Hid (∀ (X : World), Calls Tryz.prog 61 #[.slice (some ⟨X.heap.size, 0, none⟩) 3 3] (X.alloc (.cells #[.string mod, .string ⟨#[46]⟩, .string nm] 9)) fun e w' => e = .returned (.string (mod ++ ⟨#[46]⟩ ++ nm)) ∧ Below X.heap.size X w') := fun X => join3 mod ⟨#[46]⟩ nm X.heap.size X rfl (by omega) (by show (1 : Nat) ≤ _; omega) (by omega)
          go_region_held3 (fun w' => w'.cell? ⟨wr.heap.size, 0, none⟩ = some (.slice ao k capo) ∧ w'.cell? ⟨wr.heap.size + 1, 0, none⟩ = some (.slice a4 l4 c4) ∧ w'.cell? ⟨wr.heap.size + 1, 1, none⟩ = some (.string nm))
            (first
              | exact HBX.out _ (by assumption)
              | exact HBX.out _ (Below.refl _ _)
              | exact HBX.out _ ((Below.refl _ _).drew)
              | exact HBX.out _ ((Below.refl _ _).alloc (Nat.le_refl _) _)
              | exact HBX.out _ ((Below.refl _ _).alloc (Nat.le_refl _) _).drew)
            ((go_at_call 61; refine (HJ.out W2.drew).mono ?_; rintro e w5 ⟨rfl, hb5'⟩; have hb5 : Below W2.heap.size W2 w5 := ((Below.refl W2.heap.size W2).drew).trans hb5'))
          all_goals
            have h95 : Below wr.heap.size wr w5 := h9.trans (hb5.mono h9.size)
            clear HBX HJ hb5 hb5' hx1 hx2
            go_wp2_with fail
            go_ret
            exact ⟨_, _, _, rfl, HO.out, HFO.out _ h95, hbe.trans (h95.mono hz)⟩
      · rw [decide_eq_false k4] at t4
        by_cases c5 : t.kind = 5
        · rw [decide_eq_true c5] at t5
          obtain ⟨rfl, rfl, rfl⟩ := e5 c5
          have HO : Hid (Ren mod (n + 1) t (.mk 5 t.name t.names ls)) := HREN.out _ (.inr ⟨by omega, by rw [if_neg k4, c5]⟩)
          have HFO : Hid (∀ w9, Below wr.heap.size wr w9 → FormIn w9 W.heap.size (n + 1) w.heap.size w9.heap.size (.iface 85 (.agg #[.slice ao k capo, .slice b5 t.names.length d5])) (.mk 5 t.name t.names ls)) := fun w9 h9 => ⟨.slice ao k capo, .slice b5 t.names.length d5, rfl, HTB.out w9 (hbe.trans (h9.mono hz)), HPI.out.step h9 (by omega) (Nat.le_refl _) (Nat.le_refl _) h9.size⟩
          clear HREN HPI HTB k4 c5
          go_wp2_with fail
          go_ret
          have h9 : Below wr.heap.size wr ((wr.alloc (.cells #[.slice ao k capo] 65)).alloc (.cells #[.slice a5 l5 c5, .slice b5 t.names.length d5] 85)) := ((Below.refl _ _).alloc (Nat.le_refl _) _).alloc (by simp) _
          exact ⟨_, _, _, rfl, HO.out, HFO.out _ h9, hbe.trans (h9.mono hz)⟩
        · rw [decide_eq_false c5] at t5
          by_cases c6 : t.kind = 6
          · rw [decide_eq_true c6] at t6
            have HO : Hid (Ren mod (n + 1) t (.mk 6 t.name t.names ls)) := HREN.out _ (.inr ⟨by omega, by rw [if_neg k4, c6]⟩)
            have HFO : Hid (∀ w9, Below wr.heap.size wr w9 → FormIn w9 W.heap.size (n + 1) w.heap.size w9.heap.size (.iface 86 (.agg #[.slice ao k capo])) (.mk 6 t.name t.names ls)) := fun w9 h9 => ⟨.slice ao k capo, .slice an t.names.length cn, rfl, HTB.out w9 (hbe.trans (h9.mono hz)), HPI.out.step h9 (by omega) (Nat.le_refl _) (Nat.le_refl _) h9.size⟩
            clear HREN HPI HTB k4 c5 c6
            go_wp2_with fail
            go_ret
            have h9 : Below wr.heap.size wr ((wr.alloc (.cells #[.slice ao k capo] 65)).alloc (.cells #[.slice a6 l6 c6] 86)) := ((Below.refl _ _).alloc (Nat.le_refl _) _).alloc (by simp) _
            exact ⟨_, _, _, rfl, HO.out, HFO.out _ h9, hbe.trans (h9.mono hz)⟩
          · rw [decide_eq_false c6] at t6
            by_cases k7 : t.kind = 7
            · rw [decide_eq_true k7] at t7
              obtain ⟨u1, u2, u3, ua, ub, ur, u4⟩ := right_union HR.out k7
              have hkk : ∀ q ∈ ls, Right n q 12 ∧ q.kind ≠ 7 ∧ q.kind ≠ 3 := fun q hq => by
                obtain ⟨j, hj, rfl⟩ := List.getElem_of_mem hq
                have hlk := HLK.out
                have hy := List.getElem_mem (l := t.kids) (n := j) (by omega)
                have hq2 := HKIN.out j (by rw [HKS.out]; omega) hj
                simp only [HKS.out] at hq2
                obtain ⟨r1, r2, _⟩ := Ren.right hm (HR.out.2.1 _ hy) hq2
                have hu := u3 _ hy
                rw [r2 hu.1]
                exact ⟨(right_hgt r1).2 (by have := right_hgt_le r1; omega), hu⟩
              have hne : ls ≠ [] := fun e => by have := HLK.out; rw [e, u4] at this; simp at this
              have hbl : rowBulk n ls ≤ 274877906944 := by
                have h1 := Kin.sum hm (ks := t.kids) HLK.out (fun q hq => HR.out.2.1 q hq) (by simpa only [HKS.out] using HKIN.out)
                have h2 := HB.out
                have hbb : Ty.bulk (n + 1) t = t.name.size + (t.names.length + Ty.textsBulk t.names) + (t.kids.length + (t.kids.map (Ty.bulk n)).sum) := rfl
                unfold rowBulk at h1 ⊢
                omega
              have h9 : Below wr.heap.size wr ((wr.alloc (.cells #[.slice ao k capo] 65)).alloc (.cells #[.slice a7 l7 c7] 68)) := ((Below.refl _ _).alloc (Nat.le_refl _) _).alloc (by simp) _
              have hbe9 := hbe.trans (h9.mono hz)
              have hkl : ls.length = k := HLL.out
              have HU0 := implUnionOf W.heap.size w.heap.size wr.heap.size n ao capo ls _ (by have := hbe9.size; omega) hbe9.size h9.size (by rw [hkl]; exact parts_q (HPI.out.step (lo' := w.heap.size) (hi' := wr.heap.size) h9 (by omega) (Nat.le_refl _) (Nat.le_refl _) (Nat.le_refl _))) (fun q hq => (hkk q hq).1) hne hbl
              rw [hkl] at HU0
              have HU : Hid (type_of% HU0) := HU0
              have HO : Hid (∀ t', UForm n ls t' → Ren mod (n + 1) t t') := fun t' h => by
                refine HREN.out t' (.inl ⟨k7, ?_⟩)
                rcases h with ⟨⟨q, hq, h3⟩, _⟩ | ⟨_, S, hS, hc⟩
                · exact absurd h3 (hkk q hq).2.2
                · refine ⟨S, AscS.eq hS (atoms_self fun q hq => (hkk q hq).2.1), ?_⟩
                  rcases hc with hc | ⟨hc, rfl⟩
                  · exact .inl hc
                  · exact .inr ⟨by omega, by rw [u1, u2]⟩
              clear HU0 hkk hne hbl hkl HREN HPI HTB u3 u4
              go_wp2_with fail
              refine HU.out.mono ?_
              rintro e w5 ⟨T5, x5, t5', rfl, hf5, hu5, hb5⟩
              have HF5 : Hid (type_of% hf5) := hf5
              have HR5 := HO.out _ hu5
              have hbe5 := hbe9.trans (hb5.mono hbe9.size)
              clear hf5 HU
              go_wp2_with fail
              go_ret
              exact ⟨_, _, _, rfl, HR5, HF5.out, hbe5⟩
            · rw [decide_eq_false k7] at t7
              have h03 := right_plain HR.out (by have := right_kind HR.out; omega)
              have hl0 : ls = [] := List.eq_nil_of_length_eq_zero (by rw [HLK.out, h03]; rfl)
              have HO : Hid (Ren mod (n + 1) t t) := HREN.out _ (.inr ⟨k7, by rw [if_neg k4, hl0]; rw [h03]⟩)
              have HFO : Hid (∀ w9, Below w.heap.size w w9 → FormIn w9 W.heap.size (n + 1) w.heap.size w9.heap.size (.iface T x) t) := fun w9 h9 => form_leaf HF.out (by rw [h03]) (hW.trans (h9.mono hzW))
              clear HREN HPI HTB h03 hl0
              go_wp2_with fail
              go_ret
              have h9 : Below w.heap.size w (wr.alloc (.cells #[.slice ao k capo] 65)) := hbe.alloc hz _
              exact ⟨_, _, _, rfl, HO.out, HFO.out _ h9, h9⟩

theorem implRenamed (n : Nat) : RenAt n := by
  induction n with
  | zero => intro mod v t d W w _ hf; exact hf.elim
  | succ n ih => exact renStep n ih

end Go.Proofs.YtjihkebafoajdaaGreatDoor

namespace Go.Proofs.YtjihkebafoajdaaGreatDoor
open Go.RowKit

/-- what Rename answers -/
def RnAns (n : Nat) (mod : ByteArray) (t t' : Ty) : Prop := (¬ (Right n t 12 ∧ Lx.nameOkP mod = true) ∧ t' = t) ∨ ((Right n t 12 ∧ Lx.nameOkP mod = true) ∧ Ren mod n t t')
theorem RnAns.one {n : Nat} {mod : ByteArray} {t u v : Ty} (h : RnAns n mod t u) (h' : RnAns n mod t v) : u = v := by
  rcases h with ⟨a, rfl⟩ | ⟨a, h⟩
  · rcases h' with ⟨_, rfl⟩ | ⟨b, _⟩
    · rfl
    · exact absurd b a
  · rcases h' with ⟨b, _⟩ | ⟨_, h'⟩
    · exact absurd a b
    · exact h.one h'
theorem ret_rn {R : Ending → World → Prop} {W : World} {tmps : Array Value} {b : Nat} {x0 x1 x2 x3 : Value} (hp : tmps[4]?.getD undef = .pointer (some ⟨b, 0, none⟩))
    (h : W.cell? ⟨b, 0, none⟩ = some x0 ∧ W.cell? ⟨b, 1, none⟩ = some x1 ∧ W.cell? ⟨b, 2, none⟩ = some x2 ∧ W.cell? ⟨b, 3, none⟩ = some x3) (hR : R (.returned (.agg #[x0, x1, x2, x3])) W) :
    bodyPost Tryz.prog Tryz.f17 R .ret { tmps := tmps, defers := [] } W := by
  obtain ⟨h0, h1, h2, h3⟩ := h
  refine bodyPost_ret (v := .agg #[x0, x1, x2, x3]) ?_ rfl hR
  simp [results, Tryz.results17, go_sem, hp, h0, h1, h2, h3]
theorem told_cells {w : World} {n : Nat} {l : Lay} {t : Ty} (h : LayAt w n l t) : ∃ an cn ak ck, cellsK t l = [.int .i64 t.kind, .string t.name, .slice an t.names.length cn, .slice ak t.kids.length ck] := by
  cases n with
  | zero => exact h.elim
  | succ n =>
    obtain ⟨an, cn, e1⟩ := h.1.slice
    obtain ⟨ak, ck, e2⟩ := h.2.2.1.slice
    exact ⟨an, cn, ak, ck, by unfold cellsK; rw [e1, e2]⟩

/-- what impl.Rename leaves -/
def RnPost (n : Nat) (mod : ByteArray) (t : Ty) (w : World) (e : Ending) (w' : World) : Prop := ∃ (l : Lay) (t' : Ty), e = .returned (.agg (cellsK t' l).toArray) ∧ RnAns n mod t t' ∧ NewLay w.heap.size w' n l t' ∧ Below w.heap.size w w'

set_option maxHeartbeats 3200000 in
set_option maxRecDepth 100000 in
theorem implRename (n lo hi : Nat) (cs : List Value) (t : Ty) (mod : ByteArray) (w : World) (h : TyIn w n lo hi cs t) (hhi : hi ≤ w.heap.size) (hb : Ty.bulk n t ≤ 1048576) (hms : mod.size ≤ 1048576) (hc : ClsIs w) :
    Calls Tryz.prog 17 #[.agg cs.toArray, .string mod] w (RnPost n mod t w) := by
  obtain ⟨an, ln, cn, ak, lk, ck, rfl⟩ := h.at.shape
  have hB0 : Below w.heap.size w ((w.alloc (.cells #[.int .i64 t.kind, .string t.name, .slice an ln cn, .slice ak lk ck] 27)).alloc (.cells #[.int .i64 0, .string ⟨#[]⟩, .slice none 0 0, .slice none 0 0] 27)) := ((Below.refl _ _).alloc (Nat.le_refl _) _).alloc (by simp) _
  have hx1 : ((w.alloc (.cells #[.int .i64 t.kind, .string t.name, .slice an ln cn, .slice ak lk ck] 27)).alloc (.cells #[.int .i64 0, .string ⟨#[]⟩, .slice none 0 0, .slice none 0 0] 27)).heap[w.heap.size]? = some (.cells #[.int .i64 t.kind, .string t.name, .slice an ln cn, .slice ak lk ck] 27 (0, 0)) := heap_first w _ _
  have hx2 : ((w.alloc (.cells #[.int .i64 t.kind, .string t.name, .slice an ln cn, .slice ak lk ck] 27)).alloc (.cells #[.int .i64 0, .string ⟨#[]⟩, .slice none 0 0, .slice none 0 0] 27)).heap[w.heap.size + 1]? = some (.cells #[.int .i64 0, .string ⟨#[]⟩, .slice none 0 0, .slice none 0 0] 27 (0, 0)) := heap_second w _ _
  have HF0 := implFormOf n w _ t 0 _ h.at hB0 (by omega) (by omega) hc hc.lt
  have HF : Hid (type_of% HF0) := HF0
  have HCO : Hid (∀ wx : World, Below w.heap.size w wx → Calls Tryz.prog 35 #[.agg #[.int .i64 t.kind, .string t.name, .slice an ln cn, .slice ak lk ck]] wx fun e w' => ∃ (a1 : Option Addr) (c1 : Nat) (a2 : Option Addr) (c2 : Nat), e = .returned (.agg #[.int .i64 t.kind, .string t.name, .slice a1 t.names.length c1, .slice a2 t.kids.length c2]) ∧ (∃ l, cellsK t l = [.int .i64 t.kind, .string t.name, .slice a1 t.names.length c1, .slice a2 t.kids.length c2] ∧ NewLay wx.heap.size w' n l t) ∧ Below wx.heap.size wx w') := fun wx hx => (implCopyOf n lo hi _ t wx (h.below hx) (by have := hx.size; omega) hb).mono fun e w' ⟨l, he, hl, hb'⟩ => by
    obtain ⟨a1, c1, a2, c2, ec⟩ := told_cells hl.1
    exact ⟨a1, c1, a2, c2, by rw [he, ec], ⟨l, ec, hl⟩, hb'⟩
  have HNM : Hid (∀ wx : World, Below w.heap.size w wx → Calls Tryz.prog 34 #[.string mod] wx fun e w' => e = .returned (.bool (Lx.nameOkP mod)) ∧ wx = w') := fun wx hx => implNameOk mod wx (by omega) (hc.below hx hc.lt)
  have HBK : Hid (type_of% hb) := hb
  clear h HF0 hc hb
  go_enter Tryz.func17, Tryz.ntmps17
  obtain ⟨⟨b0, b1, b2, b3⟩, _⟩ := block4 hx1
  go_wp2_with fail
  refine HF.out.mono ?_
  rintro e w2 ⟨v, ok, rfl, hok, hfm, hb2⟩
  clear b0 b1 b2 b3
  have lt0 : w.heap.size + 1 < ((w.alloc (.cells #[.int .i64 t.kind, .string t.name, .slice an ln cn, .slice ak lk ck] 27)).alloc (.cells #[.int .i64 0, .string ⟨#[]⟩, .slice none 0 0, .slice none 0 0] 27)).heap.size := by simp
  have hbw2 : Below w.heap.size w w2 := hB0.trans (hb2.mono (by omega))
  have hy1 := (hb2.block w.heap.size (by omega)).trans hx1
  have hy2 := (hb2.block (w.heap.size + 1) lt0).trans hx2
  have lt2 : w.heap.size + 1 < w2.heap.size := (Array.getElem?_eq_some_iff.1 hy2).1
  have HOK : Hid (ok = true ↔ Right n t 12) := by
    show _ ↔ _
    rw [hok]
    simp
  have HFM : Hid (ok = true → FormAt w2 n v t) := fun q => (hfm q).at
  clear hok hfm HF hx1 hx2 hB0 hb2 lt0
  have hend : ∀ w5 : World, Below w2.heap.size w2 w5 → w5.heap[w.heap.size]? = some (.cells #[.int .i64 t.kind, .string t.name, .slice an ln cn, .slice ak lk ck] 27 (0, 0)) ∧ w5.heap[w.heap.size + 1]? = some (.cells #[.int .i64 0, .string ⟨#[]⟩, .slice none 0 0, .slice none 0 0] 27 (0, 0)) ∧ Below w.heap.size w w5 := fun w5 h5 => ⟨(h5.block _ (by omega)).trans hy1, (h5.block _ lt2).trans hy2, hbw2.trans (h5.mono hbw2.size)⟩
  have HEND : Hid (type_of% hend) := hend
  have HCP : Hid (type_of% (HCO.out w2 hbw2)) := HCO.out w2 hbw2
  obtain ⟨⟨b0, b1, b2, b3⟩, _⟩ := block4 hy1
  clear hend hy1 hy2 HCO
  by_cases hgo : ok = true ∧ Lx.nameOkP mod = true
  · obtain ⟨rfl, hmn⟩ := hgo
    have hR := HOK.out.1 rfl
    have hfv := HFM.out rfl
    obtain ⟨T, x, rfl⟩ := form_iface hfv
    have HN2 := HNM.out w2 hbw2
    rw [hmn] at HN2
    have HN : Hid (type_of% HN2) := HN2
    have HRN : Hid (type_of% (implRenamed n mod _ t 12 w2 w2 hmn hfv (Below.refl _ _) hR (by omega) (by have := HBK.out; omega))) := implRenamed n mod _ t 12 w2 w2 hmn hfv (Below.refl _ _) hR (by omega) (by have := HBK.out; omega)
    have HTO : Hid (∀ (T : Nat) (x : Value) (t' : Ty) (wx : World), FormAt wx n (.iface T x) t' → Ren mod n t t' → Calls Tryz.prog 22 #[.iface T x] wx fun e w' => ∃ (an : Option Addr) (ln cn : Nat) (ak : Option Addr) (lk ck : Nat), e = .returned (.agg #[.int .i64 t'.kind, .string t'.name, .slice an ln cn, .slice ak lk ck]) ∧ (∃ l, cellsK t' l = [.int .i64 t'.kind, .string t'.name, .slice an ln cn, .slice ak lk ck] ∧ NewLay wx.heap.size w' n l t') ∧ Below wx.heap.size wx w') := fun T x t' wx h1 h2 => (implTypeOf n).told _ _ 12 wx h1 (Ren.right hmn hR h2).1 (by have := (Ren.right hmn hR h2).2.2; have := HBK.out; omega)
    have HA : Hid (∀ t', Ren mod n t t' → RnAns n mod t t') := fun t' h => .inr ⟨⟨hR, hmn⟩, h⟩
    clear HN2 hfv hR hmn HCP HOK HFM HNM b0 b1 b2 b3
    go_wp2_with fail
    refine HN.out.mono ?_
    rintro e w3 ⟨rfl, rfl⟩
    go_wp2_with fail
    refine HRN.out.mono ?_
    rintro e w4 ⟨T4, x4, t4, rfl, hren, hf4, hb4⟩
    have HT : Hid (type_of% (HTO.out T4 x4 t4 w4 hf4.at hren)) := HTO.out T4 x4 t4 w4 hf4.at hren
    have HAN : Hid (type_of% (HA.out t4 hren)) := HA.out t4 hren
    clear HTO HA hren hf4 HRN HN
    go_wp2_with fail
    refine HT.out.mono ?_
    rintro e w5 ⟨a1, l1, c1, a2, l2, c2, rfl, ⟨l, hcl, hnl⟩, hb5⟩
    obtain ⟨_, hr5, hbw5⟩ := HEND.out w5 (hb4.trans (hb5.mono hb4.size))
    obtain ⟨⟨rc0, rc1, rc2, rc3⟩, rf⟩ := block4 hr5
    have rf0 := rf 0
    have rf1 := rf 1
    have rf2 := rf 2
    have rf3 := rf 3
    have hz4 := hb4.size
    have HCL2 : Hid (type_of% hcl) := hcl
    have HNL : Hid (type_of% hnl) := hnl
    clear hcl hnl rf HT hr5 hb5 HEND
    go_wp2_with fail
    refine ret_rn rfl (put4T fun j hj => ?_) ⟨l, t4, by rw [HCL2.out], HAN.out, HNL.out.putU (by omega) (by omega), put_below hbw5 (by omega)⟩
    match j, hj with
    | 0, _ => rw [rc0]; rfl
    | 1, _ => rw [rc1]; rfl
    | 2, _ => rw [rc2]; rfl
    | 3, _ => rw [rc3]; rfl
  · have HA : Hid (RnAns n mod t t) := .inl ⟨fun q => hgo ⟨HOK.out.2 q.1, q.2⟩, rfl⟩
    cases ok with
    | false =>
      clear hgo HOK HFM HNM
      go_wp2_with fail
      refine HCP.out.mono ?_
      rintro e w5 ⟨a1, c1, a2, c2, rfl, ⟨l, hcl, hnl⟩, hb5⟩
      obtain ⟨_, hr5, hbw5⟩ := HEND.out w5 hb5
      obtain ⟨⟨rc0, rc1, rc2, rc3⟩, rf⟩ := block4 hr5
      have rf0 := rf 0
      have rf1 := rf 1
      have rf2 := rf 2
      have rf3 := rf 3
      have HCL2 : Hid (type_of% hcl) := hcl
      have HNL : Hid (type_of% hnl) := hnl
      clear hcl hnl rf HCP hr5 hb5 HEND b0 b1 b2 b3
      go_wp2_with fail
      refine ret_rn rfl (put4T fun j hj => ?_) ⟨l, t, by rw [HCL2.out], HA.out, HNL.out.putU (by omega) (by omega), put_below hbw5 (by omega)⟩
      match j, hj with
      | 0, _ => rw [rc0]; rfl
      | 1, _ => rw [rc1]; rfl
      | 2, _ => rw [rc2]; rfl
      | 3, _ => rw [rc3]; rfl
    | true =>
      have hmn : Lx.nameOkP mod = false := by
        cases q : Lx.nameOkP mod with
        | false => rfl
        | true => exact absurd ⟨rfl, q⟩ hgo
      have HN2 := HNM.out w2 hbw2
      rw [hmn] at HN2
      have HN : Hid (type_of% HN2) := HN2
      clear hgo HOK HFM HNM HN2 hmn
      go_wp2_with fail
      refine HN.out.mono ?_
      rintro e w3 ⟨rfl, rfl⟩
      go_wp2_with fail
      refine HCP.out.mono ?_
      rintro e w5 ⟨a1, c1, a2, c2, rfl, ⟨l, hcl, hnl⟩, hb5⟩
      obtain ⟨_, hr5, hbw5⟩ := HEND.out w5 hb5
      obtain ⟨⟨rc0, rc1, rc2, rc3⟩, rf⟩ := block4 hr5
      have rf0 := rf 0
      have rf1 := rf 1
      have rf2 := rf 2
      have rf3 := rf 3
      have HCL2 : Hid (type_of% hcl) := hcl
      have HNL : Hid (type_of% hnl) := hnl
      clear hcl hnl rf HCP hr5 hb5 HEND b0 b1 b2 b3
      go_wp2_with fail
      refine ret_rn rfl (put4T fun j hj => ?_) ⟨l, t, by rw [HCL2.out], HA.out, HNL.out.putU (by omega) (by omega), put_below hbw5 (by omega)⟩
      match j, hj with
      | 0, _ => rw [rc0]; rfl
      | 1, _ => rw [rc1]; rfl
      | 2, _ => rw [rc2]; rfl
      | 3, _ => rw [rc3]; rfl

end Go.Proofs.YtjihkebafoajdaaGreatDoor
