/-
  The state of the walk from a type to what it is behind all names and unions, and how each step keeps it. No program here.
-/
import Derived.Test.YteocagdlbnhpgaaLoP
import Derived.Test.YteocagdlbnhpgaaStK
import Derived.Test.YteocagdlbnhpgaaPartsW
namespace Go.Proofs.Yteocagdlbnhpgaa
open Go.RowKit

theorem texts_one {w : World} {v : Value} {a b : List ByteArray} (h : Texts w v a) (h' : Texts w v b) : a = b := by
  rcases h with ⟨rfl, x, c, rfl⟩ | ⟨g, off, c, rfl, hc⟩
  · rcases h' with ⟨rfl, _⟩ | ⟨g', off', c', e, _⟩
    · rfl
    · simp only [Value.slice.injEq] at e
      exact (List.length_eq_zero_iff.1 e.2.1.symm).symm
  · rcases h' with ⟨rfl, _, _, e⟩ | ⟨g', off', c', e, hc'⟩
    · simp only [Value.slice.injEq] at e
      exact List.length_eq_zero_iff.1 e.2.1
    · simp only [Value.slice.injEq, Option.some.injEq, Addr.mk.injEq, and_true] at e
      obtain ⟨⟨rfl, rfl⟩, hl, rfl⟩ := e
      refine List.ext_getElem hl fun j h1 h2 => ?_
      have q1 := hc j h1
      rw [hc' j h2] at q1
      simpa using q1.symm
theorem cells_one {w : World} {b o : Nat} {cs cs' : List Value} (hl : cs.length = cs'.length) (h : ∀ c u, cs[c]? = some u → w.cell? ⟨b, o + c, none⟩ = some u) (h' : ∀ c u, cs'[c]? = some u → w.cell? ⟨b, o + c, none⟩ = some u) : cs = cs' := by
  refine List.ext_getElem hl fun j h1 h2 => ?_
  have q1 := h j _ (List.getElem?_eq_getElem h1)
  rw [h' j _ (List.getElem?_eq_getElem h2)] at q1
  simpa using q1.symm
theorem tyAt_one {w : World} {n m : Nat} {cs : List Value} {t t' : Ty} (h : TyAt w n cs t) (h' : TyAt w m cs t') : t = t' := by
  induction n generalizing m cs t t' with
  | zero => exact h.elim
  | succ n ih =>
    cases m with
    | zero => exact h'.elim
    | succ m =>
      obtain ⟨vn, vk, rfl, _, _, ⟨h4, _⟩, _, h6⟩ := h
      obtain ⟨vn', vk', e, _, _, ⟨h4', _⟩, _, h6'⟩ := h'
      simp only [List.cons.injEq, Value.int.injEq, true_and, Value.string.injEq, and_true] at e
      obtain ⟨e1, e2, rfl, rfl⟩ := e
      have e3 := texts_one h4 h4'
      have e4 : t.kids = t'.kids := by
        rcases h6 with ⟨q, x, c, rfl⟩ | ⟨g, off, c, rfl, hc⟩
        · rcases h6' with ⟨q', _⟩ | ⟨g', off', c', e, _⟩
          · rw [q, q']
          · simp only [Value.slice.injEq] at e
            rw [q, List.length_eq_zero_iff.1 e.2.1.symm]
        · rcases h6' with ⟨q', _, _, e⟩ | ⟨g', off', c', e, hc'⟩
          · simp only [Value.slice.injEq] at e
            rw [q', List.length_eq_zero_iff.1 e.2.1]
          · simp only [Value.slice.injEq, Option.some.injEq, Addr.mk.injEq, and_true] at e
            obtain ⟨⟨rfl, rfl⟩, hl, rfl⟩ := e
            refine List.ext_getElem hl fun j h1 h2 => ?_
            obtain ⟨c1, r1, r2⟩ := hc j h1
            obtain ⟨c2, s1, s2⟩ := hc' j h2
            have e : c1 = c2 := cells_one (by rw [r1.len, s1.len]) r2 s2
            subst e
            exact ih r1 s1
      cases t
      cases t'
      simp_all

/-- where a walk stops -/
def keyOf (p : Ent) : Key := if p.t.kind = 4 then ⟨p.t.name, none, 0⟩ else match p.cs with
  | [_, _, _, .slice a l _] => ⟨⟨#[]⟩, a, l⟩
  | _ => ⟨⟨#[]⟩, none, 0⟩
theorem key_name {p : Ent} (h : p.t.kind = 4) : keyOf p = ⟨p.t.name, none, 0⟩ := by rw [keyOf, if_pos h]
theorem fits_kids {w : World} {p : Ent} (h : p.fits w) : ∃ vn b cap, p.cs = [.int .i64 p.t.kind, .string p.t.name, vn, .slice (some ⟨b, 0, none⟩) p.t.kids.length cap] ∧ (∃ cur e, w.heap[b]? = some (.cells cur e (0, 0))) ∧
    ∃ KS : List Ent, KS.map (·.t) = p.t.kids ∧ (∀ q ∈ KS, q.fits w ∧ q.n + 1 = p.n) ∧ ∀ j (h : j < KS.length) c u, KS[j].cs[c]? = some u → w.cell? ⟨b, j * 4 + c, none⟩ = some u := by
  obtain ⟨n, lo, hi, cs, t⟩ := p
  cases n with
  | zero => exact h.elim
  | succ n =>
    obtain ⟨vn, vk, mid, e, _, _, _, _, _, b, cap, rfl, _, _, hcl, L, _, _, h5⟩ := h
    refine ⟨vn, b, cap, e, hcl, ?_⟩
    have each : ∀ j, j < t.kids.length → ∃ q : Ent, (∃ h : j < t.kids.length, q.t = t.kids[j]) ∧ q.fits w ∧ q.n = n ∧ ∀ c u, q.cs[c]? = some u → w.cell? ⟨b, j * 4 + c, none⟩ = some u := fun j hj => by
      obtain ⟨cs', k1, k2⟩ := h5 j hj
      exact ⟨⟨n, L j, L (j + 1), cs', t.kids[j]⟩, ⟨hj, rfl⟩, k1, rfl, k2⟩
    haveI : Inhabited Ent := ⟨⟨0, 0, 0, [], t⟩⟩
    obtain ⟨q, hq⟩ := Go.Deep.choose_lt each
    refine ⟨(List.range t.kids.length).map q, ?_, fun x hx => ?_, fun j hj c u hu => ?_⟩
    · refine List.ext_getElem (by simp) fun j h1 h2 => ?_
      obtain ⟨⟨_, e⟩, _⟩ := hq j h2
      simpa using e
    · obtain ⟨j, hj, rfl⟩ := List.mem_map.1 hx
      obtain ⟨_, h1, h2, _⟩ := hq j (List.mem_range.1 hj)
      exact ⟨h1, by show (q j).n + 1 = n + 1; rw [h2]⟩
    · have hj' : j < t.kids.length := by simpa using hj
      obtain ⟨_, _, _, h3⟩ := hq j hj'
      refine h3 c u ?_
      simpa using hu
theorem key_union {p : Ent} (h7 : p.t.kind = 7) {vn : Value} {b cap l : Nat} (e : p.cs = [.int .i64 p.t.kind, .string p.t.name, vn, .slice (some ⟨b, 0, none⟩) l cap]) : keyOf p = ⟨⟨#[]⟩, some ⟨b, 0, none⟩, l⟩ := by
  rw [keyOf, if_neg (by rw [h7]; decide), e]
/-- it stands in memory of its own, or is a name that was made for it -/
def EFit (w : World) (p : Ent) : Prop := p.fits w ∨ (p.t.kind = 4 ∧ ∃ an ln cn ak lk ck, p.cs = [.int .i64 p.t.kind, .string p.t.name, .slice an ln cn, .slice ak lk ck])
theorem EFit.shape {w : World} {p : Ent} (h : EFit w p) : ∃ an ln cn ak lk ck, p.cs = [.int .i64 p.t.kind, .string p.t.name, .slice an ln cn, .slice ak lk ck] := by
  rcases h with h | ⟨_, h⟩
  · exact TyIn.shape h
  · exact h
theorem EFit.fits {w : World} {p : Ent} (h : EFit w p) (h4 : p.t.kind ≠ 4) : p.fits w := by
  rcases h with h | ⟨h, _⟩
  · exact h
  · exact absurd h h4
theorem key_same {w : World} {p q : Ent} (hp : EFit w p) (hq : EFit w q) (lp : ¬ Leafy p.t) (lq : ¬ Leafy q.t) (e : keyOf p = keyOf q) : SameStop p.t q.t := by
  by_cases c : p.t.kind = 4
  · by_cases c' : q.t.kind = 4
    · rw [key_name c, key_name c'] at e
      simp only [Key.mk.injEq, and_true] at e
      exact .inl ⟨c, c', e⟩
    · have c7 : q.t.kind = 7 := Classical.byContradiction fun x => lq ⟨c', .inl x⟩
      obtain ⟨vn', b', cap', e1', _⟩ := fits_kids (hq.fits c')
      rw [key_name c, key_union c7 e1'] at e
      simp at e
  · have c7 : p.t.kind = 7 := Classical.byContradiction fun x => lp ⟨c, .inl x⟩
    have ck : p.t.kids ≠ [] := fun x => lp ⟨c, .inr x⟩
    obtain ⟨vn, b, cap, e1, _, KS, k1, k2, k3⟩ := fits_kids (hp.fits c)
    by_cases c' : q.t.kind = 4
    · rw [key_name c', key_union c7 e1] at e
      simp at e
    · have c7' : q.t.kind = 7 := Classical.byContradiction fun x => lq ⟨c', .inl x⟩
      obtain ⟨vn', b', cap', e1', _, KS', k1', k2', k3'⟩ := fits_kids (hq.fits c')
      rw [key_union c7 e1, key_union c7' e1'] at e
      simp only [Key.mk.injEq, Option.some.injEq, Addr.mk.injEq, and_true, true_and] at e
      obtain ⟨rfl, hl⟩ := e
      have hl' : p.t.kids.length = q.t.kids.length := by omega
      refine .inr ⟨c7, c7', ?_, ck⟩
      have hlk : KS.length = KS'.length := by
        have h1 := congrArg List.length k1
        have h2 := congrArg List.length k1'
        simp only [List.length_map] at h1 h2
        omega
      rw [← k1, ← k1']
      refine List.ext_getElem (by simp [hlk]) fun j h1 h2 => ?_
      simp only [List.length_map] at h1 h2
      have f1 := (k2 _ (List.getElem_mem h1)).1
      have f2 := (k2' _ (List.getElem_mem h2)).1
      have ec : KS[j].cs = KS'[j].cs := cells_one (by rw [f1.len, f2.len]) (k3 j h1) (k3' j h2)
      simp only [List.getElem_map]
      exact tyAt_one (ec ▸ f1.at) f2.at

theorem get_app {α : Type} {A B : List α} {i : Nat} {e : α} (h : (A ++ B)[i]? = some e) : (i < A.length ∧ A[i]? = some e) ∨ (A.length ≤ i ∧ B[i - A.length]? = some e) := by
  by_cases c : i < A.length
  · rw [List.getElem?_append_left c] at h
    exact .inl ⟨c, h⟩
  · rw [List.getElem?_append_right (by omega)] at h
    exact .inr ⟨by omega, h⟩
theorem get_one {α : Type} {x e : α} {i : Nat} (h : [x][i]? = some e) : i = 0 ∧ e = x := by
  cases i with
  | zero => simp at h; exact ⟨rfl, h.symm⟩
  | succ i => simp at h
theorem app_left {α : Type} {A B : List α} {i : Nat} {e : α} (h : A[i]? = some e) : (A ++ B)[i]? = some e := by
  have : i < A.length := (List.getElem?_eq_some_iff.1 h).1
  rw [List.getElem?_append_left this]
  exact h

/-- the types of these -/
def TysOf (Ls : List Ent) (x : Ty) : Prop := ∃ p ∈ Ls, p.t = x

structure LInv (es : List (ByteArray × Ty)) (w : World) (root : Ty) (W : List (Ent × Bool)) (D : List (Key × Int)) (Ls : List Ent) : Prop where
  fit : ∀ e ∈ W, EFit w e.1
  lfit : ∀ p ∈ Ls, p.fits w
  lead : ∀ e ∈ W, ∀ K L, lvN es K root = some L → ∃ k L', lvN es k e.1.t = some L' ∧ ∀ x ∈ L', x ∈ L
  inn : ∀ p ∈ Ls, Leafy p.t ∧ ∀ K L, lvN es K root = some L → p.t ∈ L
  sub : ∀ (i j : Nat) (a b : Ent × Bool), i < j → W[i]? = some a → W[j]? = some b → a.2 = true → Sub es a.1.t b.1.t
  non : ∀ e ∈ W, e.2 = true → ¬ Leafy e.1.t ∧ (e.1.t.kind = 4 → firstTy es e.1.t.name ≠ none)
  kid : ∀ (i : Nat) (e : Ent × Bool), W[i]? = some e → e.2 = true → ∀ u, Kid es e.1.t u → Done es (TysOf Ls) u ∨ ∃ (j : Nat) (e' : Ent × Bool), i < j ∧ W[j]? = some e' ∧ e'.1.t = u
  rt : Done es (TysOf Ls) root ∨ ∃ e ∈ W, e.1.t = root
  col : ∀ k v, lookK D k = some v → ∃ p : Ent, EFit w p ∧ ¬ Leafy p.t ∧ keyOf p = k ∧ ((v = 2 ∧ Done es (TysOf Ls) p.t) ∨ (v = 1 ∧ ∃ e ∈ W, e.2 = true ∧ e.1 = p))

theorem LInv.start {es : List (ByteArray × Ty)} {w : World} {p : Ent} (h : EFit w p) : LInv es w p.t [(p, false)] [] [] where
  fit := fun e he => by simp only [List.mem_singleton] at he; subst he; exact h
  lfit := fun q hq => absurd hq (by simp)
  lead := fun e he K L hL => by simp only [List.mem_singleton] at he; subst he; exact ⟨K, L, hL, fun x hx => hx⟩
  inn := fun q hq => absurd hq (by simp)
  sub := fun i j a b hij hi hj _ => by have := (get_one hi).1; have := (get_one hj).1; omega
  non := fun e he ht => by simp only [List.mem_singleton] at he; subst he; cases ht
  kid := fun i e hi ht => by rw [(get_one hi).2] at ht; cases ht
  rt := .inr ⟨_, List.mem_singleton.2 rfl, rfl⟩
  col := fun k v h => by cases h

/-- the last one taken off, where it is told what it is -/
theorem LInv.off {es : List (ByteArray × Ty)} {w : World} {root : Ty} {W : List (Ent × Bool)} {p : Ent} {b : Bool} {D : List (Key × Int)} {Ls : List Ent} (h : LInv es w root (W ++ [(p, b)]) D Ls) {D' : List (Key × Int)} {more : List Ent}
    (hd : Done es (TysOf (Ls ++ more)) p.t) (hm : ∀ q ∈ more, q.fits w ∧ Leafy q.t ∧ ∀ K L, lvN es K root = some L → q.t ∈ L)
    (hD : ∀ k v, lookK D' k = some v → (lookK D k = some v ∧ (v = 1 → b = true → k ≠ keyOf p)) ∨ (v = 2 ∧ k = keyOf p ∧ b = true)) : LInv es w root W D' (Ls ++ more) := by
  have up : ∀ x, TysOf Ls x → TysOf (Ls ++ more) x := fun x ⟨q, h1, h2⟩ => ⟨q, List.mem_append_left _ h1, h2⟩
  exact {
    fit := fun e he => h.fit e (List.mem_append_left _ he)
    lfit := fun q hq => by
      rcases List.mem_append.1 hq with hq | hq
      · exact h.lfit q hq
      · exact (hm q hq).1
    lead := fun e he => h.lead e (List.mem_append_left _ he)
    inn := fun q hq => by
      rcases List.mem_append.1 hq with hq | hq
      · exact h.inn q hq
      · exact (hm q hq).2
    sub := fun i j a c hij hi hj => h.sub i j a c hij (app_left hi) (app_left hj)
    non := fun e he => h.non e (List.mem_append_left _ he)
    kid := fun i e hi ht u hu => by
      rcases h.kid i e (app_left hi) ht u hu with q | ⟨j, e', hij, hj, he⟩
      · exact .inl (q.mono up)
      · rcases get_app hj with ⟨_, hj⟩ | ⟨_, hj⟩
        · exact .inr ⟨j, e', hij, hj, he⟩
        · have := (get_one hj).2
          subst this
          subst he
          exact .inl hd
    rt := by
      rcases h.rt with q | ⟨e, he, q⟩
      · exact .inl (q.mono up)
      · rcases List.mem_append.1 he with he | he
        · exact .inr ⟨e, he, q⟩
        · simp only [List.mem_singleton] at he
          subst he
          subst q
          exact .inl hd
    col := fun k v hk => by
      rcases hD k v hk with ⟨hk, hne⟩ | ⟨rfl, rfl, rfl⟩
      · obtain ⟨q, q1, q2, q3, q4⟩ := h.col k v hk
        refine ⟨q, q1, q2, q3, ?_⟩
        rcases q4 with ⟨rfl, q4⟩ | ⟨rfl, e, he, q5, q6⟩
        · exact .inl ⟨rfl, q4.mono up⟩
        · rcases List.mem_append.1 he with he | he
          · exact .inr ⟨rfl, e, he, q5, q6⟩
          · simp only [List.mem_singleton] at he
            subst he
            subst q6
            exact absurd q3.symm (hne rfl q5)
      · have hn := h.non (p, true) (by simp) rfl
        exact ⟨p, h.fit (p, true) (by simp), hn.1, rfl, .inl ⟨rfl, hd⟩⟩ }

theorem LInv.leaf {es : List (ByteArray × Ty)} {w : World} {root : Ty} {W : List (Ent × Bool)} {p : Ent} {D : List (Key × Int)} {Ls : List Ent} (h : LInv es w root (W ++ [(p, false)]) D Ls) (hl : Leafy p.t) : LInv es w root W D (Ls ++ [p]) :=
  h.off ⟨1, [p.t], lv_leaf hl 0, fun x hx => by simp only [List.mem_singleton] at hx; subst hx; exact ⟨p, by simp, rfl⟩⟩ (fun q hq => by
    simp only [List.mem_singleton] at hq
    subst hq
    refine ⟨(h.fit (q, false) (by simp)).fits hl.1, hl, fun K L hL => ?_⟩
    obtain ⟨k, L', h1, h2⟩ := h.lead (q, false) (by simp) K L hL
    have := lv_one (lv_leaf hl 0) h1
    subst this
    exact h2 _ (by simp)) (fun k v hk => .inl ⟨hk, fun _ hb => by cases hb⟩)
theorem LInv.left {es : List (ByteArray × Ty)} {w : World} {root : Ty} {W : List (Ent × Bool)} {p : Ent} {D : List (Key × Int)} {Ls : List Ent} (h : LInv es w root (W ++ [(p, true)]) D Ls) : LInv es w root W (setK D (keyOf p) 2) Ls := by
  have hn := h.non (p, true) (by simp) rfl
  have hd : Done es (TysOf Ls) p.t := done_kids hn.1 hn.2 fun u hu => by
    rcases h.kid W.length (p, true) (by simp) rfl u hu with q | ⟨j, e', hij, hj, _⟩
    · exact q
    · have := (List.getElem?_eq_some_iff.1 hj).1
      simp at this
      omega
  have := h.off (D' := setK D (keyOf p) 2) (more := []) (by simpa using hd) (fun q hq => absurd hq (by simp)) (fun k v hk => by
    by_cases c : keyOf p = k
    · subst c
      rw [look_set_same] at hk
      exact .inr ⟨(Option.some.inj hk).symm, rfl, rfl⟩
    · rw [look_set_other _ _ c] at hk
      exact .inl ⟨hk, fun _ _ e => c e.symm⟩)
  simpa using this
theorem LInv.skip {es : List (ByteArray × Ty)} {w : World} {root : Ty} {W : List (Ent × Bool)} {p : Ent} {D : List (Key × Int)} {Ls : List Ent} (h : LInv es w root (W ++ [(p, false)]) D Ls) (hl : ¬ Leafy p.t) (h2 : lookK D (keyOf p) = some 2) : LInv es w root W D Ls := by
  obtain ⟨q, q1, q2, q3, q4⟩ := h.col _ _ h2
  have hd : Done es (TysOf Ls) p.t := by
    rcases q4 with ⟨_, q4⟩ | ⟨q4, _⟩
    · exact same_done (key_same q1 (h.fit (p, false) (by simp)) q2 hl q3) q4
    · cases q4
  have := h.off (D' := D) (more := []) (by simpa using hd) (fun q hq => absurd hq (by simp)) (fun k v hk => .inl ⟨hk, fun _ hb => by cases hb⟩)
  simpa using this
theorem LInv.bad {es : List (ByteArray × Ty)} {w : World} {root : Ty} {W : List (Ent × Bool)} {p : Ent} {b : Bool} {D : List (Key × Int)} {Ls : List Ent} (h : LInv es w root (W ++ [(p, b)]) D Ls) (hn : ¬ Good es p.t) : ¬ Good es root := by
  rintro ⟨k, hk⟩
  obtain ⟨L, hL⟩ := Option.ne_none_iff_exists'.1 hk
  obtain ⟨k', L', h1, _⟩ := h.lead (p, b) (by simp) k L hL
  exact hn ⟨k', by rw [h1]; simp⟩
theorem LInv.again {es : List (ByteArray × Ty)} {w : World} {root : Ty} {W : List (Ent × Bool)} {p : Ent} {D : List (Key × Int)} {Ls : List Ent} (h : LInv es w root (W ++ [(p, false)]) D Ls) (hl : ¬ Leafy p.t) (h1 : lookK D (keyOf p) = some 1) : ¬ Good es root := by
  obtain ⟨q, q1, q2, q3, q4⟩ := h.col _ _ h1
  rcases q4 with ⟨q4, _⟩ | ⟨_, e, he, q5, q6⟩
  · cases q4
  · subst q6
    have hs := key_same q1 (h.fit (p, false) (by simp)) q2 hl q3
    have heW : e ∈ W := by
      rcases List.mem_append.1 he with he | he
      · exact he
      · simp only [List.mem_singleton] at he
        subst he
        cases q5
    obtain ⟨i, hi, rfl⟩ := List.getElem_of_mem heW
    have hsub := h.sub i W.length W[i] (p, false) hi (app_left (List.getElem?_eq_getElem hi)) (by simp) q5
    have hng := not_self hsub fun k => same_lv hs k
    rintro ⟨k, hk⟩
    obtain ⟨L, hL⟩ := Option.ne_none_iff_exists'.1 hk
    obtain ⟨k', L', h1, _⟩ := h.lead W[i] (List.mem_append_left _ heW) k L hL
    exact hng ⟨k', by rw [h1]; simp⟩
theorem LInv.enter {es : List (ByteArray × Ty)} {w : World} {root : Ty} {W : List (Ent × Bool)} {p : Ent} {D : List (Key × Int)} {Ls KS : List Ent} (h : LInv es w root (W ++ [(p, false)]) D Ls) (hl : ¬ Leafy p.t) (h4 : p.t.kind = 4 → firstTy es p.t.name ≠ none)
    (hK : ∀ q ∈ KS, q.fits w) (hKS : ∀ u, Kid es p.t u ↔ u ∈ KS.map (·.t)) : LInv es w root (W ++ [(p, true)] ++ KS.map fun q => (q, false)) (setK D (keyOf p) 1) Ls := by
  have hpf := h.fit (p, false) (by simp)
  have hkid : ∀ q ∈ KS, Kid es p.t q.t := fun q hq => (hKS _).2 (List.mem_map.2 ⟨q, hq, rfl⟩)
  have hlen : (W ++ [(p, true)]).length = W.length + 1 := by simp
  exact {
    fit := fun e he => by
      rcases List.mem_append.1 he with he | he
      · rcases List.mem_append.1 he with he | he
        · exact h.fit e (List.mem_append_left _ he)
        · simp only [List.mem_singleton] at he
          subst he
          exact hpf
      · obtain ⟨q, hq, rfl⟩ := List.mem_map.1 he
        exact .inl (hK q hq)
    lfit := h.lfit
    lead := fun e he K L hL => by
      obtain ⟨k, L', h1, h2⟩ := h.lead (p, false) (by simp) K L hL
      rcases List.mem_append.1 he with he | he
      · rcases List.mem_append.1 he with he | he
        · exact h.lead e (List.mem_append_left _ he) K L hL
        · simp only [List.mem_singleton] at he
          subst he
          exact ⟨k, L', h1, h2⟩
      · obtain ⟨q, hq, rfl⟩ := List.mem_map.1 he
        cases k with
        | zero => cases h1
        | succ k =>
          obtain ⟨L'', g1, g2⟩ := lv_kid (hkid q hq) h1
          exact ⟨k, L'', g1, fun x hx => h2 x (g2 x hx)⟩
    inn := h.inn
    sub := fun i j a b hij hi hj ha => by
      -- what stands there is below the one that was taken off, or that one, or a kid of it
      rcases get_app hi with ⟨hil, hi⟩ | ⟨_, hi⟩
      · rcases get_app hi with ⟨hil', hi⟩ | ⟨hil', hi⟩
        · have hp : Sub es a.1.t p.t := h.sub i W.length a (p, false) hil' (app_left hi) (by simp) ha
          rcases get_app hj with ⟨hjl, hj⟩ | ⟨_, hj⟩
          · rcases get_app hj with ⟨_, hj⟩ | ⟨_, hj⟩
            · exact h.sub i j a b hij (app_left hi) (app_left hj) ha
            · have := (get_one hj).2
              subst this
              exact hp
          · obtain ⟨q, hq, rfl⟩ := List.mem_map.1 (List.mem_of_getElem? hj)
            exact hp.trans (sub_kid (hkid q hq))
        · have e := get_one hi
          have := e.2
          subst this
          rcases get_app hj with ⟨hjl, hj⟩ | ⟨_, hj⟩
          · omega
          · obtain ⟨q, hq, rfl⟩ := List.mem_map.1 (List.mem_of_getElem? hj)
            exact sub_kid (hkid q hq)
      · obtain ⟨q, hq, rfl⟩ := List.mem_map.1 (List.mem_of_getElem? hi)
        cases ha
    non := fun e he ht => by
      rcases List.mem_append.1 he with he | he
      · rcases List.mem_append.1 he with he | he
        · exact h.non e (List.mem_append_left _ he) ht
        · simp only [List.mem_singleton] at he
          subst he
          exact ⟨hl, h4⟩
      · obtain ⟨q, hq, rfl⟩ := List.mem_map.1 he
        cases ht
    kid := fun i e hi ht u hu => by
      rcases get_app hi with ⟨hil, hi⟩ | ⟨_, hi⟩
      · rcases get_app hi with ⟨hil', hi⟩ | ⟨hil', hi⟩
        · rcases h.kid i e (app_left hi) ht u hu with q | ⟨j, e', hij, hj, he⟩
          · exact .inl q
          · rcases get_app hj with ⟨_, hj⟩ | ⟨hjl, hj⟩
            · exact .inr ⟨j, e', hij, app_left (app_left hj), he⟩
            · have e1 := get_one hj
              have := e1.2
              subst this
              refine .inr ⟨j, (p, true), hij, ?_, he⟩
              obtain rfl : j = W.length := by omega
              simp
        · have e1 := get_one hi
          have := e1.2
          subst this
          obtain ⟨q, hq, hqt⟩ := List.mem_map.1 ((hKS u).1 hu)
          obtain ⟨m, hm, rfl⟩ := List.getElem_of_mem hq
          refine .inr ⟨W.length + 1 + m, (KS[m], false), by omega, ?_, hqt⟩
          rw [List.getElem?_append_right (by omega), hlen]
          simp [hm]
      · obtain ⟨q, hq, rfl⟩ := List.mem_map.1 (List.mem_of_getElem? hi)
        cases ht
    rt := by
      rcases h.rt with q | ⟨e, he, q⟩
      · exact .inl q
      · rcases List.mem_append.1 he with he | he
        · exact .inr ⟨e, List.mem_append_left _ (List.mem_append_left _ he), q⟩
        · simp only [List.mem_singleton] at he
          subst he
          exact .inr ⟨(p, true), List.mem_append_left _ (by simp), q⟩
    col := fun k v hk => by
      by_cases c : keyOf p = k
      · subst c
        rw [look_set_same] at hk
        refine ⟨p, hpf, hl, rfl, .inr ⟨(Option.some.inj hk).symm, (p, true), List.mem_append_left _ (by simp), rfl, rfl⟩⟩
      · rw [look_set_other _ _ c] at hk
        obtain ⟨q, q1, q2, q3, q4⟩ := h.col k v hk
        refine ⟨q, q1, q2, q3, ?_⟩
        rcases q4 with q4 | ⟨rfl, e, he, q5, q6⟩
        · exact .inl q4
        · rcases List.mem_append.1 he with he | he
          · exact .inr ⟨rfl, e, List.mem_append_left _ (List.mem_append_left _ he), q5, q6⟩
          · simp only [List.mem_singleton] at he
            subst he
            cases q5 }

/-- how many steps are left at most -/
def potE (e : Ent × Bool) : Nat := if e.2 then 1 else Ty.cost e.1.n e.1.t
def potW (W : List (Ent × Bool)) : Nat := (W.map potE).sum
def reserve (n : Nat) (es : List (ByteArray × Ty)) (D : List (Key × Int)) : Nat := (es.map fun e => if (lookK D ⟨e.1, none, 0⟩).isNone then Ty.cost n e.2 else 0).sum
theorem potW_app (A B : List (Ent × Bool)) : potW (A ++ B) = potW A + potW B := by simp [potW]
theorem potW_one (x : Ent × Bool) : potW [x] = potE x := by simp [potW]
theorem potW_len (W : List (Ent × Bool)) : W.length ≤ potW W := by
  induction W with
  | nil => exact Nat.le_refl _
  | cons e r ih =>
    have : 1 ≤ potE e := by
      unfold potE
      split
      · exact Nat.le_refl _
      · have := cost_two e.1.n e.1.t; omega
    simp only [potW, List.map_cons, List.sum_cons, List.length_cons] at ih ⊢
    omega
theorem look_set_none {D : List (Key × Int)} {k k' : Key} {v : Int} (h : (lookK (setK D k v) k').isNone = true) : (lookK D k').isNone = true ∧ k ≠ k' := by
  by_cases c : k = k'
  · subst c
    rw [look_set_same] at h
    cases h
  · rw [look_set_other _ _ c] at h
    exact ⟨h, c⟩
theorem reserve_set (n : Nat) (es : List (ByteArray × Ty)) (D : List (Key × Int)) (k : Key) (v : Int) : reserve n es (setK D k v) ≤ reserve n es D := by
  induction es with
  | nil => exact Nat.le_refl _
  | cons e r ih =>
    simp only [reserve, List.map_cons, List.sum_cons] at ih ⊢
    refine Nat.add_le_add ?_ ih
    by_cases c : (lookK (setK D k v) ⟨e.1, none, 0⟩).isNone = true
    · rw [if_pos c, if_pos (look_set_none c).1]
      exact Nat.le_refl _
    · rw [if_neg c]
      exact Nat.zero_le _
theorem reserve_name (n : Nat) {es : List (ByteArray × Ty)} {D : List (Key × Int)} {s : ByteArray} {u : Ty} (h : (s, u) ∈ es) (hn : lookK D ⟨s, none, 0⟩ = none) (v : Int) : Ty.cost n u + reserve n es (setK D ⟨s, none, 0⟩ v) ≤ reserve n es D := by
  induction es with
  | nil => simp at h
  | cons e r ih =>
    have hr := reserve_set n r D ⟨s, none, 0⟩ v
    simp only [reserve, List.map_cons, List.sum_cons] at ih hr ⊢
    rcases List.mem_cons.1 h with rfl | h
    · rw [hn, look_set_same]
      simp only [Option.isNone_none, Option.isNone_some, if_true, Bool.false_eq_true, if_false]
      omega
    · have := ih h
      have h2 : (if (lookK (setK D ⟨s, none, 0⟩ v) ⟨e.1, none, 0⟩).isNone = true then Ty.cost n e.2 else 0) ≤ (if (lookK D ⟨e.1, none, 0⟩).isNone = true then Ty.cost n e.2 else 0) := by
        by_cases c : (lookK (setK D ⟨s, none, 0⟩ v) ⟨e.1, none, 0⟩).isNone = true
        · rw [if_pos c, if_pos (look_set_none c).1]
          exact Nat.le_refl _
        · rw [if_neg c]
          exact Nat.zero_le _
      omega
theorem reserve_bulk (n : Nat) (es : List (ByteArray × Ty)) : reserve n es [] ≤ 2 * envBulk n es := by
  unfold envBulk
  induction es with
  | nil => simp [reserve]
  | cons e r ih =>
    have := cost_bulk n e.2
    simp only [reserve, List.map_cons, List.sum_cons, List.length_cons, nmBulk] at ih ⊢
    split <;> omega

end Go.Proofs.Yteocagdlbnhpgaa
