/-
  Types in memory that are read, their rows in blocks of some kind; what they are is told by the cells alone.
-/
import Derived.Test.YtpnalacdgnppmaaTyD
import Derived.Test.YtpnalacdgnppmaaToTy
namespace Go.Proofs.Ytpnalacdgnppmaa
open Go.RowKit

/-- nothing stands deeper in it than that -/
def Ty.ends : Nat → Ty → Prop
  | 0, _ => False
  | n + 1, t => ∀ k ∈ t.kids, Ty.ends n k

theorem TyAt.ends {w : World} {n : Nat} {cs : List Value} {t : Ty} (h : TyAt w n cs t) : Ty.ends n t := by
  induction n generalizing cs t with
  | zero => exact h.elim
  | succ n ih =>
    obtain ⟨vn, vk, _, _, _, _, _, hr⟩ := h
    intro k hk
    rcases hr with ⟨e, _⟩ | ⟨b, off, cap, _, hc⟩
    · rw [e] at hk; simp at hk
    · obtain ⟨j, hj, rfl⟩ := List.getElem_of_mem hk
      obtain ⟨cs, h1, _⟩ := hc j hj
      exact ih h1

theorem Ty.ends.kid {n : Nat} {t : Ty} (h : Ty.ends n t) {k : Ty} (hk : k ∈ t.kids) : ∃ m, n = m + 1 ∧ Ty.ends m k := by
  cases n with
  | zero => exact h.elim
  | succ n => exact ⟨n, rfl, h k hk⟩

theorem RowAt.det {w : World} {R R' : List Value → Ty → Prop} {v : Value} {ts us : List Ty} (h : RowAt w R v ts) (h' : RowAt w R' v us) (hl : ∀ cs t, R cs t → cs.length = 4) (hl' : ∀ cs t, R' cs t → cs.length = 4) (hd : ∀ cs t u, t ∈ ts → R cs t → R' cs u → t = u) : ts = us := by
  rcases h with ⟨e, a, cap, e2⟩ | ⟨b, off, cap, e2, hc⟩
  · rcases h' with ⟨e3, _⟩ | ⟨b', off', cap', e3, hc'⟩
    · rw [e, e3]
    · rw [e2] at e3
      simp only [Value.slice.injEq] at e3
      rw [e]
      exact (List.length_eq_zero_iff.1 e3.2.1.symm).symm
  · have hlen : ts.length = us.length := by
      rcases h' with ⟨e3, a', cap', e4⟩ | ⟨b', off', cap', e4, hc'⟩
      · rw [e2] at e4
        simp only [Value.slice.injEq] at e4
        rw [e3]; exact e4.2.1
      · rw [e2] at e4
        simp only [Value.slice.injEq] at e4
        exact e4.2.1
    refine List.ext_getElem hlen fun j h1 h2 => ?_
    rcases h' with ⟨e3, _⟩ | ⟨b', off', cap', e4, hc'⟩
    · rw [e3] at h2; simp at h2
    · rw [e2] at e4
      simp only [Value.slice.injEq, Option.some.injEq, Addr.mk.injEq] at e4
      obtain ⟨⟨rfl, rfl, _⟩, _, _⟩ := e4
      obtain ⟨cs, q1, q2⟩ := hc j h1
      obtain ⟨cs', q3, q4⟩ := hc' j h2
      have e5 : cs = cs' := by
        refine List.ext_getElem (by rw [hl _ _ q1, hl' _ _ q3]) fun c c1 c2 => ?_
        have r1 := q2 c cs[c] (List.getElem?_eq_getElem c1)
        have r2 := q4 c cs'[c] (List.getElem?_eq_getElem c2)
        rw [r1] at r2
        exact Option.some.inj r2
      subst e5
      exact hd cs _ _ (List.getElem_mem h1) q1 q3

theorem texts_det {w : World} {v : Value} {a b : List ByteArray} (h : Texts w v a) (h' : Texts w v b) : a = b := by
  rcases h with ⟨e, x, cap, e2⟩ | ⟨p, off, cap, e2, hc⟩
  · rcases h' with ⟨e3, _⟩ | ⟨b', off', cap', e3, hc'⟩
    · rw [e, e3]
    · rw [e2] at e3
      simp only [Value.slice.injEq] at e3
      rw [e]
      exact (List.length_eq_zero_iff.1 e3.2.1.symm).symm
  · rcases h' with ⟨e3, x, cap', e4⟩ | ⟨b', off', cap', e4, hc'⟩
    · rw [e2] at e4
      simp only [Value.slice.injEq] at e4
      rw [e3]
      exact List.length_eq_zero_iff.1 e4.2.1
    · rw [e2] at e4
      simp only [Value.slice.injEq, Option.some.injEq, Addr.mk.injEq] at e4
      obtain ⟨⟨rfl, rfl, _⟩, hlen, _⟩ := e4
      refine List.ext_getElem hlen fun j h1 h2 => ?_
      have r1 := hc j h1
      have r2 := hc' j h2
      rw [r1] at r2
      simpa using r2

/-- four cells hold one type alone -/
theorem TyAt.det {w : World} {n m : Nat} {cs : List Value} {t u : Ty} (h : TyAt w n cs t) (h' : TyAt w m cs u) : t = u := by
  induction n generalizing m cs t u with
  | zero => exact h.elim
  | succ n ih =>
    cases m with
    | zero => exact h'.elim
    | succ m =>
      obtain ⟨vn, vk, e1, _, _, ⟨ht, _, _⟩, _, hr⟩ := h
      obtain ⟨vn', vk', e2, _, _, ⟨ht', _, _⟩, _, hr'⟩ := h'
      rw [e1] at e2
      simp only [List.cons.injEq, Value.int.injEq, true_and, Value.string.injEq, and_true] at e2
      obtain ⟨a1, a2, rfl, rfl⟩ := e2
      have a3 := texts_det ht ht'
      have a4 := hr.det hr' (fun cs t h => TyAt.len h) (fun cs t h => TyAt.len h) fun cs t u _ q1 q2 => ih q1 q2
      cases t
      cases u
      simp only at a1 a2 a3 a4
      rw [a1, a2, a3, a4]

/-- texts in a row of such a block -/
def TextsR (A : Nat → Prop) (w : World) (v : Value) (ts : List ByteArray) : Prop :=
  (ts = [] ∧ ∃ a cap, v = .slice a 0 cap) ∨ ∃ b off cap, v = .slice (some ⟨b, off, none⟩) ts.length cap ∧ A b ∧ ∀ j (h : j < ts.length), w.cell? ⟨b, off + j, none⟩ = some (.string ts[j])

/-- types in a row of such a block -/
def RowR (A : Nat → Prop) (w : World) (R : List Value → Ty → Prop) (v : Value) (ts : List Ty) : Prop :=
  (ts = [] ∧ ∃ a cap, v = .slice a 0 cap) ∨ ∃ b off cap, v = .slice (some ⟨b, off, none⟩) ts.length cap ∧ A b ∧ (∃ cur e, w.heap[b]? = some (.cells cur e (0, 0))) ∧ ∀ j (h : j < ts.length), ∃ cs, R cs ts[j] ∧ ∀ c u, cs[c]? = some u → w.cell? ⟨b, off + j * 4 + c, none⟩ = some u

/-- these four cells hold the type, all its rows in such blocks -/
def TyR (A : Nat → Prop) (w : World) : Nat → List Value → Ty → Prop
  | 0, _, _ => False
  | n + 1, cs, t => ∃ vn vk, cs = [.int .i64 t.kind, .string t.name, vn, vk] ∧ (-9223372036854775808 ≤ t.kind ∧ t.kind ≤ 9223372036854775807) ∧ t.name.size ≤ maxLen ∧ (TextsR A w vn t.names ∧ t.names.length ≤ maxLen ∧ ∀ x ∈ t.names, x.size ≤ maxLen) ∧ t.kids.length ≤ maxLen ∧ RowR A w (TyR A w n) vk t.kids

/-- the blocks that are such are as they were -/
def SameOn (A : Nat → Prop) (w w' : World) : Prop := ∀ b, A b → w'.heap[b]? = w.heap[b]?

theorem SameOn.trans {A : Nat → Prop} {a b c : World} (h : SameOn A a b) (k : SameOn A b c) : SameOn A a c := fun x hx => (k x hx).trans (h x hx)

theorem SameOn.sub {A A' : Nat → Prop} {w w' : World} (h : SameOn A w w') (hs : ∀ b, A' b → A b) : SameOn A' w w' := fun b hb => h b (hs b hb)

theorem TextsR.at {A : Nat → Prop} {w : World} {v : Value} {ts : List ByteArray} (h : TextsR A w v ts) : Texts w v ts := by
  rcases h with h | ⟨b, off, cap, e, _, hc⟩
  · exact .inl h
  · exact .inr ⟨b, off, cap, e, hc⟩

theorem TextsR.same {A : Nat → Prop} {w w' : World} {v : Value} {ts : List ByteArray} (h : TextsR A w v ts) (hs : SameOn A w w') : TextsR A w' v ts := by
  rcases h with h | ⟨b, off, cap, e, ha, hc⟩
  · exact .inl h
  · exact .inr ⟨b, off, cap, e, ha, fun j hj => (World.cell?_of_block (a := ⟨b, off + j, none⟩) (hs b ha)).trans (hc j hj)⟩

theorem TextsR.sub {A A' : Nat → Prop} {w : World} {v : Value} {ts : List ByteArray} (h : TextsR A w v ts) (hs : ∀ b, A b → A' b) : TextsR A' w v ts := by
  rcases h with h | ⟨b, off, cap, e, ha, hc⟩
  · exact .inl h
  · exact .inr ⟨b, off, cap, e, hs b ha, hc⟩

theorem RowR.at {A : Nat → Prop} {w : World} {R R' : List Value → Ty → Prop} {v : Value} {ts : List Ty} (h : RowR A w R v ts) (hR : ∀ cs t, t ∈ ts → R cs t → R' cs t) : RowAt w R' v ts := by
  rcases h with h | ⟨b, off, cap, e, _, _, hc⟩
  · exact .inl h
  · refine .inr ⟨b, off, cap, e, fun j hj => ?_⟩
    obtain ⟨cs, h1, h2⟩ := hc j hj
    exact ⟨cs, hR _ _ (List.getElem_mem hj) h1, h2⟩

theorem RowR.same {A : Nat → Prop} {w w' : World} {R R' : List Value → Ty → Prop} {v : Value} {ts : List Ty} (h : RowR A w R v ts) (hs : SameOn A w w') (hR : ∀ cs t, t ∈ ts → R cs t → R' cs t) : RowR A w' R' v ts := by
  rcases h with h | ⟨b, off, cap, e, ha, ⟨cur, et, hb⟩, hc⟩
  · exact .inl h
  · refine .inr ⟨b, off, cap, e, ha, ⟨cur, et, (hs b ha).trans hb⟩, fun j hj => ?_⟩
    obtain ⟨cs, h1, h2⟩ := hc j hj
    exact ⟨cs, hR _ _ (List.getElem_mem hj) h1, fun c u hu => (World.cell?_of_block (a := ⟨b, off + j * 4 + c, none⟩) (hs b ha)).trans (h2 c u hu)⟩

theorem RowR.sub {A A' : Nat → Prop} {w : World} {R R' : List Value → Ty → Prop} {v : Value} {ts : List Ty} (h : RowR A w R v ts) (hs : ∀ b, A b → A' b) (hR : ∀ cs t, t ∈ ts → R cs t → R' cs t) : RowR A' w R' v ts := by
  rcases h with h | ⟨b, off, cap, e, ha, hb, hc⟩
  · exact .inl h
  · refine .inr ⟨b, off, cap, e, hs b ha, hb, fun j hj => ?_⟩
    obtain ⟨cs, h1, h2⟩ := hc j hj
    exact ⟨cs, hR _ _ (List.getElem_mem hj) h1, h2⟩

theorem TyR.at {A : Nat → Prop} {w : World} {n : Nat} {cs : List Value} {t : Ty} (h : TyR A w n cs t) : TyAt w n cs t := by
  induction n generalizing cs t with
  | zero => exact h.elim
  | succ n ih =>
    obtain ⟨vn, vk, h1, h2, h3, ⟨h4, h5, h6⟩, h7, h8⟩ := h
    exact ⟨vn, vk, h1, h2, h3, ⟨h4.at, h5, h6⟩, h7, h8.at fun cs t _ h => ih h⟩

theorem TyR.same {A : Nat → Prop} {w w' : World} {n : Nat} {cs : List Value} {t : Ty} (h : TyR A w n cs t) (hs : SameOn A w w') : TyR A w' n cs t := by
  induction n generalizing cs t with
  | zero => exact h.elim
  | succ n ih =>
    obtain ⟨vn, vk, h1, h2, h3, ⟨h4, h5, h6⟩, h7, h8⟩ := h
    exact ⟨vn, vk, h1, h2, h3, ⟨h4.same hs, h5, h6⟩, h7, h8.same hs fun cs t _ h => ih h⟩

theorem TyR.sub {A A' : Nat → Prop} {w : World} {n : Nat} {cs : List Value} {t : Ty} (h : TyR A w n cs t) (hs : ∀ b, A b → A' b) : TyR A' w n cs t := by
  induction n generalizing cs t with
  | zero => exact h.elim
  | succ n ih =>
    obtain ⟨vn, vk, h1, h2, h3, ⟨h4, h5, h6⟩, h7, h8⟩ := h
    exact ⟨vn, vk, h1, h2, h3, ⟨h4.sub hs, h5, h6⟩, h7, h8.sub hs fun cs t _ h => ih h⟩

/-- read to another depth, where it ends there -/
theorem TyR.depth {A : Nat → Prop} {w : World} {n m : Nat} {cs : List Value} {t : Ty} (h : TyR A w n cs t) (hm : Ty.ends m t) : TyR A w m cs t := by
  induction n generalizing m cs t with
  | zero => exact h.elim
  | succ n ih =>
    cases m with
    | zero => exact hm.elim
    | succ m =>
      obtain ⟨vn, vk, h1, h2, h3, h4, h7, h8⟩ := h
      exact ⟨vn, vk, h1, h2, h3, h4, h7, h8.sub (fun _ h => h) fun cs t ht h => ih h (hm t ht)⟩

theorem TyIn.reads {w : World} {n lo hi : Nat} {cs : List Value} {t : Ty} (h : TyIn w n lo hi cs t) : TyR (fun b => lo ≤ b ∧ b < hi) w n cs t := by
  induction n generalizing lo hi cs t with
  | zero => exact h.elim
  | succ n ih =>
    obtain ⟨vn, vk, mid, h1, h2, h3, ⟨h4, h5, h6⟩, h7, h8, b, cap, hv, hb1, hb2, hc, L, hL1, hL2, hk⟩ := h
    have hmid : mid ≤ hi := by omega
    refine ⟨vn, vk, h1, h2, h3, ⟨?_, h5, h6⟩, h7, ?_⟩
    · rcases h4.1.2 with ⟨e, h0⟩ | ⟨g, c, cur, e, hg, _⟩
      · exact .inl ⟨List.length_eq_zero_iff.1 h0, _, _, e⟩
      · have ht := h4.texts
        have hgh := h4.2 g (by rw [e]; rfl)
        rcases ht with q | ⟨b', off', cap', e', hc'⟩
        · exact .inl q
        · rw [e] at e'
          simp only [Value.slice.injEq, Option.some.injEq, Addr.mk.injEq] at e'
          obtain ⟨⟨rfl, rfl, _⟩, _, rfl⟩ := e'
          exact .inr ⟨g, 0, c, e, ⟨hg, by omega⟩, hc'⟩
    · refine .inr ⟨b, 0, cap, hv, ⟨by omega, hb2⟩, hc, fun j hj => ?_⟩
      obtain ⟨cs, q1, q2⟩ := hk j hj
      have l1 := hL1 j (by omega)
      have l2 := hL1 (j + 1) (by omega)
      exact ⟨cs, (ih q1).sub fun x hx => ⟨by omega, by omega⟩, fun c u hu => by rw [Nat.zero_add]; exact q2 c u hu⟩

end Go.Proofs.Ytpnalacdgnppmaa
