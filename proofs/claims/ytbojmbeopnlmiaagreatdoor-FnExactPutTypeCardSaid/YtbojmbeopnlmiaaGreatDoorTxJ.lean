/-
  A right type is told by its text: functions and unions. No program here.
-/
import Derived.Test.YtbojmbeopnlmiaaGreatDoorTxI
namespace Go.Proofs.YtbojmbeopnlmiaaGreatDoor
open Go.RowKit

theorem head_not {n : Nat} {t : Ty} {d : Int} (h : Right n t d) {c : UInt8} (hc : c = 41 ∨ c = 125 ∨ c = 44 ∨ c = 32) (s z : List UInt8) : tb n t ++ s ≠ c :: z := fun e => by
  obtain ⟨c', r, e1, _, _, _, e2⟩ := head_cls h
  rw [e1] at e
  simp only [List.cons_append, List.cons.injEq] at e
  obtain ⟨n1, n2, n3, n4⟩ := letter_ne e2
  rw [e.1] at n1 n2 n3 n4
  rcases hc with hc | hc | hc | hc
  · exact n1 hc
  · exact n2 hc
  · exact n3 hc
  · exact n4 hc

/-- a type ahead of a bracket is the first parameter of such a list -/
theorem param_case {m q : Nat} (ih : OneAt m q) {l : Ty} {d : Int} (hl : Right m l d) {ps : List Ty} {d' : Int} (hp : ∀ p ∈ ps, Right q p d') {r1 z : List UInt8} (h : tb m l ++ (41 :: r1) = joinB [44, 32] (ps.map (tb q)) ++ (41 :: z)) : r1 = z := by
  cases ps with
  | nil =>
    simp only [List.map_nil, joinB, List.nil_append] at h
    exact absurd h (head_not hl (.inl rfl) _ _)
  | cons p ps =>
    simp only [List.map_cons, joinB, List.append_assoc] at h
    cases ps with
    | nil =>
      simp only [List.map_nil, List.flatMap_nil, List.nil_append] at h
      obtain ⟨_, e⟩ := ih _ _ _ _ _ _ hl (hp p (by simp)) (StopT.cons (.inr (.inr rfl))) (StopT.cons (.inr (.inr rfl))) h
      simpa using e
    | cons p' ps =>
      simp only [List.map_cons, List.flatMap_cons, List.append_assoc, List.cons_append] at h
      obtain ⟨_, e⟩ := ih _ _ _ _ _ _ hl (hp p (by simp)) (StopT.cons (.inr (.inr rfl))) (StopT.cons (.inl rfl)) h
      simp at e

theorem gives_case {N : Nat} (ih : ∀ a b, a ≤ N → b ≤ N → OneAt a b) {m1 m2 : Nat} (b1 : m1 ≤ N) (b2 : m2 ≤ N) {l1 l2 : Ty} {d1 d2 : Int} (h1 : Right m1 l1 d1) (h2 : Right m2 l2 d2) (u2 : l2.kind ≠ 7) {r1 r2 : List UInt8} (s1 : StopT r1)
    (h : 40 :: (tb m1 l1 ++ [41]) ++ r1 = tb m2 l2 ++ r2) : False := by
  cases m2 with
  | zero => exact h2.elim
  | succ q =>
    obtain ⟨c, r, e1, k4, k5, _, _⟩ := head_cls h2
    have hc : c = 40 := by
      rw [e1] at h
      simp only [List.cons_append, List.cons.injEq] at h
      exact h.1.symm
    have h6 : l2.kind = 6 := by
      rcases right_kinds h2 with ⟨_, a⟩ | a | a | a
      · have := k4 a
        rw [hc] at this
        exact absurd this (by decide)
      · rw [k5 a] at hc
        exact absurd hc (by decide)
      · exact a
      · exact absurd a u2
    rw [tb_fn h6] at h
    simp only [List.cons_append, List.append_assoc, List.cons.injEq, true_and, List.nil_append] at h
    have := param_case (ih m1 q b1 (by omega)) h1 (d' := d2 - 1) (fun p hp => h2.2.1 p (List.dropLast_subset _ hp)) h
    have hs := s1 32 (by rw [this]; rfl)
    exact absurd hs (by decide)

theorem fn_case {N : Nat} (ih : ∀ a b, a ≤ N → b ≤ N → OneAt a b) {m1 m2 : Nat} (b1 : m1 ≤ N) (b2 : m2 ≤ N) {t1 t2 : Ty} {d1 d2 : Int} {r1 r2 : List UInt8} (h1 : Right (m1 + 1) t1 d1) (h2 : Right (m2 + 1) t2 d2) (a1 : t1.kind = 6) (a2 : t2.kind = 6) (s1 : StopT r1) (s2 : StopT r2) (h : tb (m1 + 1) t1 ++ r1 = tb (m2 + 1) t2 ++ r2) : t1 = t2 ∧ r1 = r2 := by
  obtain ⟨n1, o1, l1⟩ := right_fn h1 a1
  obtain ⟨n2, o2, l2⟩ := right_fn h2 a2
  obtain ⟨q1, w1⟩ := lastTy_mem l1
  obtain ⟨q2, w2⟩ := lastTy_mem l2
  rw [tb_fn a1, tb_fn a2] at h
  simp only [List.cons_append, List.append_assoc, List.cons.injEq, true_and] at h
  have r1' : ∀ p ∈ t1.kids.dropLast, Right m1 p (d1 - 1) := fun p hp => h1.2.1 p (List.dropLast_subset _ hp)
  have r2' : ∀ p ∈ t2.kids.dropLast, Right m2 p (d2 - 1) := fun p hp => h2.2.1 p (List.dropLast_subset _ hp)
  obtain ⟨e1, e2⟩ := join_one (tb m1) (tb m2) [44, 32] StopT (fun z => StopT.cons (.inl rfl)) t1.kids.dropLast t2.kids.dropLast (fun x hx y hy z1 z2 => ih m1 m2 b1 b2 x y _ _ z1 z2 (r1' x hx) (r2' y hy)) _ _ (StopT.cons (.inr (.inr rfl))) (StopT.cons (.inr (.inr rfl))) (fun z e => by simp at e) (fun z e => by simp at e) (fun x hx s => head_not (r1' x hx) (.inl rfl) s _) (fun x hx s => head_not (r2' x hx) (.inl rfl) s _) h
  simp only [List.cons.injEq, true_and] at e2
  have key : lastTy t1.kids = lastTy t2.kids ∧ r1 = r2 := by
    by_cases u1 : (lastTy t1.kids).kind = 7
    · by_cases u2 : (lastTy t2.kids).kind = 7
      · rw [if_pos u1, if_pos u2] at e2
        simp only [List.cons_append, List.append_assoc, List.cons.injEq, true_and, List.nil_append] at e2
        obtain ⟨e3, e4⟩ := ih m1 m2 b1 b2 _ _ _ _ _ _ (h1.2.1 _ q1) (h2.2.1 _ q2) (StopT.cons (.inr (.inr rfl))) (StopT.cons (.inr (.inr rfl))) e2
        exact ⟨e3, by simpa using e4⟩
      · rw [if_pos u1, if_neg u2] at e2
        exact (gives_case ih b1 b2 (h1.2.1 _ q1) (h2.2.1 _ q2) u2 s1 e2).elim
    · by_cases u2 : (lastTy t2.kids).kind = 7
      · rw [if_neg u1, if_pos u2] at e2
        exact (gives_case ih b2 b1 (h2.2.1 _ q2) (h1.2.1 _ q1) u1 s2 e2.symm).elim
      · rw [if_neg u1, if_neg u2] at e2
        exact ih m1 m2 b1 b2 _ _ _ _ _ _ (h1.2.1 _ q1) (h2.2.1 _ q2) s1 s2 e2
  refine ⟨?_, key.2⟩
  have ek : t1.kids = t2.kids := by rw [← w1, ← w2, e1, key.1]
  cases t1
  cases t2
  simp_all

/-- kids of unions -/
theorem atom_case {N : Nat} (ih : ∀ a b, a ≤ N → b ≤ N → OneAt a b) {m1 m2 : Nat} (b1 : m1 ≤ N) (b2 : m2 ≤ N) {t1 t2 : Ty} {d1 d2 : Int} {r1 r2 : List UInt8} (h1 : Right m1 t1 d1) (h2 : Right m2 t2 d2) (a1 : t1.kind ≠ 7) (a2 : t2.kind ≠ 7) (s1 : StopA r1) (s2 : StopA r2) (h : ub m1 t1 ++ r1 = ub m2 t2 ++ r2) : t1 = t2 ∧ r1 = r2 := by
  obtain ⟨c1, z1, e1, k14, k15, k16, _⟩ := head_cls h1
  obtain ⟨c2, z2, e2, k24, k25, k26, _⟩ := head_cls h2
  cases m1 with
  | zero => exact h1.elim
  | succ m1 =>
    cases m2 with
    | zero => exact h2.elim
    | succ m2 =>
      have hh : c1 = c2 := by
        unfold ub at h
        by_cases x1 : t1.kind = 6
        · by_cases x2 : t2.kind = 6
          · rw [k16 x1, k26 x2]
          · rw [if_pos x1, if_neg x2, e2] at h
            simp only [List.cons_append, List.cons.injEq] at h
            rw [k16 x1, h.1]
        · by_cases x2 : t2.kind = 6
          · rw [if_neg x1, if_pos x2, e1] at h
            simp only [List.cons_append, List.cons.injEq] at h
            rw [k26 x2, h.1]
          · rw [if_neg x1, if_neg x2, e1, e2] at h
            simp only [List.cons_append, List.cons.injEq] at h
            exact h.1
      rcases right_kinds h1 with p1 | p1 | p1 | p1
      · have g := k14 p1.2
        rcases right_kinds h2 with p2 | p2 | p2 | p2
        · unfold ub at h
          rw [if_neg (by omega), if_neg (by omega)] at h
          exact words_case h1 h2 p1 p2 s1 s2 h
        · rw [hh, k25 p2] at g
          exact absurd g (by decide)
        · rw [hh, k26 p2] at g
          exact absurd g (by decide)
        · exact absurd p2 a2
      · have g := k15 p1
        rcases right_kinds h2 with p2 | p2 | p2 | p2
        · have g2 := k24 p2.2
          rw [← hh, g] at g2
          exact absurd g2 (by decide)
        · unfold ub at h
          rw [if_neg (by omega), if_neg (by omega)] at h
          exact rec_case (ih m1 m2 (by omega) (by omega)) h1 h2 p1 p2 h
        · rw [hh, k26 p2] at g
          exact absurd g (by decide)
        · exact absurd p2 a2
      · have g := k16 p1
        rcases right_kinds h2 with p2 | p2 | p2 | p2
        · have g2 := k24 p2.2
          rw [← hh, g] at g2
          exact absurd g2 (by decide)
        · rw [hh, k25 p2] at g
          exact absurd g (by decide)
        · unfold ub at h
          rw [if_pos p1, if_pos p2] at h
          simp only [List.cons_append, List.append_assoc, List.cons.injEq, true_and, List.nil_append] at h
          obtain ⟨e3, e4⟩ := ih _ _ b1 b2 _ _ _ _ _ _ h1 h2 (StopT.cons (.inr (.inr rfl))) (StopT.cons (.inr (.inr rfl))) h
          exact ⟨e3, by simpa using e4⟩
        · exact absurd p2 a2
      · exact absurd p1 a1

theorem stopT_32 {z : List UInt8} (h : StopT (32 :: z)) : False := absurd (h 32 rfl) (by decide)

/-- a union is none of the others -/
theorem mixed_case {N : Nat} (ih : ∀ a b, a ≤ N → b ≤ N → OneAt a b) {m1 m2 : Nat} (b1 : m1 ≤ N) (b2 : m2 ≤ N) {t1 t2 : Ty} {d1 d2 : Int} {r1 r2 : List UInt8} (h1 : Right (m1 + 1) t1 d1) (h2 : Right (m2 + 1) t2 d2) (a1 : t1.kind = 7) (a2 : t2.kind ≠ 7) (s2 : StopT r2) (h : tb (m1 + 1) t1 ++ r1 = tb (m2 + 1) t2 ++ r2) : False := by
  obtain ⟨_, _, hk, a, b, r, ek⟩ := right_union h1 a1
  have ha := h1.2.1 a (by rw [ek]; simp)
  have ha7 := (hk a (by rw [ek]; simp)).1
  rw [tb_un a1, ek] at h
  simp only [List.map_cons, joinB, List.flatMap_cons, List.append_assoc, List.cons_append, List.nil_append] at h
  obtain ⟨c1, z1, e1, k14, k15, k16, _⟩ := head_cls ha
  obtain ⟨c2, z2, e2, k24, k25, k26, _⟩ := head_cls h2
  cases m1 with
  | zero => exact ha.elim
  | succ m1 =>
    by_cases x2 : t2.kind = 6
    · by_cases x1 : a.kind = 6
      · unfold ub at h
        rw [if_pos x1, tb_fn x2] at h
        simp only [List.cons_append, List.append_assoc, List.cons.injEq, true_and, List.nil_append] at h
        have := param_case (ih _ m2 b1 b2) ha (d' := d2 - 1) (fun p hp => h2.2.1 p (List.dropLast_subset _ hp)) h
        simp at this
      · unfold ub at h
        rw [if_neg x1, e1, e2, k26 x2] at h
        simp only [List.cons_append, List.cons.injEq] at h
        rcases right_kinds ha with p | p | p | p
        · have := k14 p.2
          rw [h.1] at this
          exact absurd this (by decide)
        · rw [k15 p] at h
          exact absurd h.1 (by decide)
        · exact x1 p
        · exact ha7 p
    · have hu : ub (m1 + 1) a ++ (32 :: 124 :: 32 :: (ub (m1 + 1) b ++ ((List.map (ub (m1 + 1)) r).flatMap (fun x => [32, 124, 32] ++ x) ++ r1))) = ub (m2 + 1) t2 ++ r2 := by
        have e3 : ub (m2 + 1) t2 = tb (m2 + 1) t2 := by unfold ub; rw [if_neg x2]
        rw [e3]
        exact h
      have na : a.kind ≠ 6 → ub (m1 + 1) a = tb (m1 + 1) a := fun q => by unfold ub; rw [if_neg q]
      have n2 : ub (m2 + 1) t2 = tb (m2 + 1) t2 := by unfold ub; rw [if_neg x2]
      have hh : c1 = c2 := by
        rw [n2] at hu
        by_cases x1 : a.kind = 6
        · have e3 : ub (m1 + 1) a = 40 :: (tb (m1 + 1) a ++ [41]) := by unfold ub; rw [if_pos x1]
          rw [e3, e2] at hu
          simp only [List.cons_append, List.cons.injEq] at hu
          rw [k16 x1, hu.1]
        · rw [na x1, e1, e2] at hu
          simp only [List.cons_append, List.cons.injEq] at hu
          exact hu.1
      rcases right_kinds h2 with p2 | p2 | p2 | p2
      · have g2 := k24 p2.2
        rcases right_kinds ha with p | p | p | p
        · rw [n2, na (by omega)] at hu
          obtain ⟨_, e⟩ := words_case ha h2 p p2 (.inr ⟨_, rfl⟩) (.inl s2) hu
          rw [← e] at s2
          exact stopT_32 s2
        · rw [← hh, k15 p] at g2
          exact absurd g2 (by decide)
        · rw [← hh, k16 p] at g2
          exact absurd g2 (by decide)
        · exact ha7 p
      · have g2 := k25 p2
        rcases right_kinds ha with p | p | p | p
        · have := k14 p.2
          rw [hh, g2] at this
          exact absurd this (by decide)
        · rw [n2, na (by omega)] at hu
          obtain ⟨_, e⟩ := rec_case (ih m1 m2 (by omega) b2) ha h2 p p2 hu
          rw [← e] at s2
          exact stopT_32 s2
        · rw [← hh, k16 p] at g2
          exact absurd g2 (by decide)
        · exact ha7 p
      · exact x2 p2
      · exact a2 p2

theorem union_case {N : Nat} (ih : ∀ a b, a ≤ N → b ≤ N → OneAt a b) {m1 m2 : Nat} (b1 : m1 ≤ N) (b2 : m2 ≤ N) {t1 t2 : Ty} {d1 d2 : Int} {r1 r2 : List UInt8} (h1 : Right (m1 + 1) t1 d1) (h2 : Right (m2 + 1) t2 d2) (a1 : t1.kind = 7) (a2 : t2.kind = 7) (s1 : StopT r1) (s2 : StopT r2) (h : tb (m1 + 1) t1 ++ r1 = tb (m2 + 1) t2 ++ r2) : t1 = t2 ∧ r1 = r2 := by
  obtain ⟨n1, o1, k1, _⟩ := right_union h1 a1
  obtain ⟨n2, o2, k2, _⟩ := right_union h2 a2
  rw [tb_un a1, tb_un a2] at h
  have hd : ∀ (m : Nat) (x : Ty) (d : Int), Right m x d → ∀ (s e : List UInt8), StopT e → ub m x ++ s ≠ e := fun m x d hx s e he q => by
    obtain ⟨c, z, e1, _, _, k6, e2⟩ := head_cls hx
    obtain ⟨y1, y2, y3, _⟩ := letter_ne e2
    have : e.head? = some c := by
      rw [← q]
      unfold ub
      split
      · rename_i x6
        rw [k6 x6]
        rfl
      · rw [e1]
        rfl
    rcases he c this with q | q | q
    · exact y3 q
    · exact y2 q
    · exact y1 q
  obtain ⟨e1, e2⟩ := join_one (ub m1) (ub m2) [32, 124, 32] StopA (fun z => .inr ⟨z, rfl⟩) t1.kids t2.kids (fun x hx y hy z1 z2 w1 w2 e => atom_case ih b1 b2 (h1.2.1 x hx) (h2.2.1 y hy) (k1 x hx).1 (k2 y hy).1 w1 w2 e) r1 r2 (.inl s1) (.inl s2) (fun z e => by rw [e] at s1; exact stopT_32 s1) (fun z e => by rw [e] at s2; exact stopT_32 s2) (fun x hx s => hd m1 x _ (h1.2.1 x hx) s r2 s2) (fun x hx s => hd m2 x _ (h2.2.1 x hx) s r1 s1) h
  refine ⟨?_, e2⟩
  cases t1
  cases t2
  simp_all

theorem text_step {N : Nat} (ih : ∀ a b, a ≤ N → b ≤ N → OneAt a b) {m1 m2 : Nat} (b1 : m1 ≤ N) (b2 : m2 ≤ N) : OneAt (m1 + 1) (m2 + 1) := by
  intro t1 t2 d1 d2 r1 r2 h1 h2 s1 s2 h
  obtain ⟨c1, z1, e1, k14, k15, k16, _⟩ := head_cls h1
  obtain ⟨c2, z2, e2, k24, k25, k26, _⟩ := head_cls h2
  have hh : c1 = c2 := by
    rw [e1, e2] at h
    simp only [List.cons_append, List.cons.injEq] at h
    exact h.1
  by_cases u1 : t1.kind = 7
  · by_cases u2 : t2.kind = 7
    · exact union_case ih b1 b2 h1 h2 u1 u2 s1 s2 h
    · exact (mixed_case ih b1 b2 h1 h2 u1 u2 s2 h).elim
  · by_cases u2 : t2.kind = 7
    · exact (mixed_case ih b2 b1 h2 h1 u2 u1 s1 h.symm).elim
    · rcases right_kinds h1 with p1 | p1 | p1 | p1
      · have g := k14 p1.2
        rcases right_kinds h2 with p2 | p2 | p2 | p2
        · exact words_case h1 h2 p1 p2 (.inl s1) (.inl s2) h
        · rw [hh, k25 p2] at g
          exact absurd g (by decide)
        · rw [hh, k26 p2] at g
          exact absurd g (by decide)
        · exact absurd p2 u2
      · have g := k15 p1
        rcases right_kinds h2 with p2 | p2 | p2 | p2
        · have g2 := k24 p2.2
          rw [← hh, g] at g2
          exact absurd g2 (by decide)
        · exact rec_case (ih m1 m2 b1 b2) h1 h2 p1 p2 h
        · rw [hh, k26 p2] at g
          exact absurd g (by decide)
        · exact absurd p2 u2
      · have g := k16 p1
        rcases right_kinds h2 with p2 | p2 | p2 | p2
        · have g2 := k24 p2.2
          rw [← hh, g] at g2
          exact absurd g2 (by decide)
        · rw [hh, k25 p2] at g
          exact absurd g (by decide)
        · exact fn_case ih b1 b2 h1 h2 p1 p2 s1 s2 h
        · exact absurd p2 u2
      · exact absurd p1 u1
theorem text_all (N : Nat) : ∀ a b, a ≤ N → b ≤ N → OneAt a b := by
  induction N with
  | zero =>
    intro a b ha _ k1 k2 d1 d2 r1 r2 h1
    obtain rfl : a = 0 := by omega
    exact h1.elim
  | succ N ih =>
    intro a b ha hb
    cases a with
    | zero => intro k1 k2 d1 d2 r1 r2 h1; exact h1.elim
    | succ a =>
      cases b with
      | zero => intro k1 k2 d1 d2 r1 r2 _ h2; exact h2.elim
      | succ b => exact text_step ih (by omega) (by omega)
/-- right types of one text are one type -/
theorem text_one {n m : Nat} {t u : Ty} {d e : Int} (h1 : Right n t d) (h2 : Right m u e) (h : Ty.text n t = Ty.text m u) : t = u :=
  (text_all (max n m) n m (Nat.le_max_left ..) (Nat.le_max_right ..) t u d e [] [] h1 h2 (fun c hc => by cases hc) (fun c hc => by cases hc) (by unfold tb; rw [h])).1

end Go.Proofs.YtbojmbeopnlmiaaGreatDoor
