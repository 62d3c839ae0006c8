/-
  Lists within lists, gone through so that each comes once, behind those within it: what holds between two steps, and that each step keeps it. No program here.
-/
import Derived.Test.YtpnalacdgnppmaaWtP
import Derived.Test.YtpnalacdgnppmaaPlM
namespace Go.Proofs.Ytpnalacdgnppmaa
open Go.RowKit

/-- the key of a list -/
def LE.key (e : LE) : KeyP := match e.v with
  | .slice a n _ => if n = 0 then ⟨none, 0⟩ else ⟨a, (n : Int)⟩
  | _ => ⟨none, 0⟩
theorem LE.key_of {e : LE} {a : Option Addr} {n c : Nat} (h : e.v = .slice a n c) (hn : 0 < n) : e.key = ⟨a, (n : Int)⟩ := by
  unfold LE.key
  rw [h]
  simp only
  rw [if_neg (by omega)]
theorem LE.key_nil {e : LE} {a : Option Addr} {c : Nat} (h : e.v = .slice a 0 c) : e.key = ⟨none, 0⟩ := by
  unfold LE.key
  rw [h]
  rfl
theorem row_cap {w : World} {R : List Value → Ty → Prop} {a : Option Addr} {n c c' : Nat} {ts : List Ty} (h : RowAt w R (.slice a n c) ts) : RowAt w R (.slice a n c') ts := by
  rcases h with ⟨e, a', cap, e2⟩ | ⟨b, off, cap, e2, hc⟩
  · simp only [Value.slice.injEq] at e2
    exact .inl ⟨e, a, c', by rw [e2.2.1]⟩
  · simp only [Value.slice.injEq] at e2
    exact .inr ⟨b, off, c', by rw [e2.1, e2.2.1], hc⟩
/-- one place, one list -/
theorem key_one {A : Nat → Prop} {w : World} {e f : LE} (he : e.fits A w) (hf : f.fits A w) (hn : e.ts ≠ []) (h : e.key = f.key) : e.ts = f.ts := by
  obtain ⟨a, c, hv, _⟩ := LE.open he
  obtain ⟨a', c', hv', _⟩ := LE.open hf
  have hl : 0 < e.ts.length := List.length_pos_iff.2 hn
  rw [LE.key_of hv hl] at h
  have hl' : 0 < f.ts.length := by
    rcases Nat.eq_zero_or_pos f.ts.length with q | q
    · rw [q] at hv'
      rw [LE.key_nil hv'] at h
      have : (e.ts.length : Int) = 0 := congrArg KeyP.count h
      omega
    · exact q
  rw [LE.key_of hv' hl'] at h
  have h1 : a = a' := congrArg KeyP.place h
  have h2 : (e.ts.length : Int) = (f.ts.length : Int) := congrArg KeyP.count h
  have h3 : f.ts.length = e.ts.length := by omega
  have r1 : RowAt w (TyAt w e.n) e.v e.ts := RowR.at he fun cs t _ q => q.at
  have r2 : RowAt w (TyAt w f.n) f.v f.ts := RowR.at hf fun cs t _ q => q.at
  rw [hv] at r1
  rw [hv', ← h1, h3] at r2
  exact r1.det (row_cap r2) (fun cs t h => TyAt.len h) (fun cs t h => TyAt.len h) fun cs t u _ q1 q2 => TyAt.det q1 q2

/-- a list within a list: that of its type of that number -/
def KidAt (w : World) (e : LE) (k : Nat) (f : LE) : Prop := ∃ (hk : k < e.ts.length) (b off cap : Nat), e.v = .slice (some ⟨b, off, none⟩) e.ts.length cap ∧ w.cell? ⟨b, off + k * 4 + 3, none⟩ = some f.v ∧ f.ts = e.ts[k].kids ∧ e.n = f.n + 1
theorem KidAt.less {w : World} {e f : LE} {k : Nat} (h : KidAt w e k f) : SizeOf.sizeOf f.ts < SizeOf.sizeOf e.ts := by
  obtain ⟨hk, _, _, _, _, _, h1, _⟩ := h
  rw [h1]
  have h2 := size_kids e.ts[k]
  have h3 := size_mem (List.getElem_mem hk)
  omega
theorem KidAt.wt_le {w : World} {e f : LE} {k : Nat} (h : KidAt w e k f) : f.wt ≤ e.wt := by
  obtain ⟨hk, _, _, _, _, _, h1, h2⟩ := h
  unfold LE.wt
  rw [h1]
  have h3 := wt_step (ts := e.ts) h2 hk
  have h4 : rowWt e.n (e.ts.drop k) ≤ rowWt e.n e.ts := by
    have : rowWt e.n e.ts = rowWt e.n (e.ts.take k) + rowWt e.n (e.ts.drop k) := by
      unfold rowWt
      rw [← List.sum_append, ← List.map_append, List.take_append_drop]
    omega
  omega
/-- its value is told by the memory -/
theorem KidAt.val {w : World} {e f g : LE} {k : Nat} (h : KidAt w e k f) (h' : KidAt w e k g) : f.v = g.v := by
  obtain ⟨_, b, off, cap, e1, c1, _, _⟩ := h
  obtain ⟨_, b', off', cap', e2, c2, _, _⟩ := h'
  rw [e1] at e2
  simp only [Value.slice.injEq, Option.some.injEq, Addr.mk.injEq, true_and] at e2
  obtain ⟨⟨rfl, rfl, _⟩, rfl⟩ := e2
  rw [c1] at c2
  exact Option.some.inj c2
theorem KidAt.key {w : World} {e f g : LE} {k : Nat} (h : KidAt w e k f) (h' : KidAt w e k g) : f.key = g.key := by
  unfold LE.key
  rw [h.val h']

/-- what holds between two steps; a number beside each list of the stack: 0 not begun there, 1 begun, 2 being begun -/
structure Lw (A : Nat → Prop) (w : World) (root : LE) (D : List (KeyP × Int)) (S : List (LE × Nat)) (O : List LE) : Prop where
  fitS : ∀ x ∈ S, x.1.fits A w ∧ x.1.ts ≠ []
  fitO : ∀ e ∈ O, e.fits A w ∧ e.ts ≠ []
  zero : lookKP D ⟨none, 0⟩ = some 2
  vals : ∀ k v, lookKP D k = some v → v = 1 ∨ v = 2
  act : ∀ k, lookKP D k = some 1 ↔ ∃ x ∈ S, x.2 ≠ 0 ∧ x.1.key = k
  left : ∀ k, k ≠ ⟨none, 0⟩ → (lookKP D k = some 2 ↔ ∃ o ∈ O, o.key = k)
  rank : S.Pairwise fun x y => x.2 ≠ 0 → SizeOf.sizeOf y.1.ts < SizeOf.sizeOf x.1.ts
  kids : ∀ P x Q, S = P ++ x :: Q → x.2 = 1 → ∀ k f, f.fits A w → KidAt w x.1 k f → f.ts ≠ [] → lookKP D f.key = some 2 ∨ ∃ y ∈ Q, y.1.key = f.key
  post : ∀ P o Q, O = P ++ o :: Q → ∀ k f, f.fits A w → KidAt w o k f → f.ts ≠ [] → ∃ p ∈ P, p.key = f.key
  begun : ∀ x ∈ S, x.2 ≠ 0 → lookKP D x.1.key = some 1
  bottom : S ≠ [] → ∃ b Q, S = (root, b) :: Q ∧ (Q ≠ [] → b ≠ 0)
  last : (S = [] ∨ lookKP D root.key = some 2) → ∃ P, O = P ++ [root]
  alone : lookKP D root.key = some 2 → ∀ x ∈ S, x = (root, 0)
  flag : ∀ x ∈ S, x.2 ≤ 2
  small : (∀ x ∈ S, x.1.wt ≤ root.wt) ∧ ∀ o ∈ O, o.wt ≤ root.wt

theorem key_ne {A : Nat → Prop} {w : World} {e : LE} (h : e.fits A w) (hn : e.ts ≠ []) : e.key ≠ ⟨none, 0⟩ := by
  obtain ⟨a, c, hv, _⟩ := LE.open h
  have hl : 0 < e.ts.length := List.length_pos_iff.2 hn
  rw [LE.key_of hv hl]
  intro q
  have : (e.ts.length : Int) = 0 := congrArg KeyP.count q
  omega

/-- at the beginning -/
theorem Lw.start {A : Nat → Prop} {w : World} {root : LE} (hf : root.fits A w) (hn : root.ts ≠ []) : Lw A w root [(⟨none, 0⟩, 2)] [(root, 0)] [] := by
  have hz : ∀ k v, lookKP [((⟨none, 0⟩ : KeyP), (2 : Int))] k = some v → k = ⟨none, 0⟩ ∧ v = 2 := fun k v h => by
    by_cases c : (⟨none, 0⟩ : KeyP) = k
    · rw [lookK_yesP c] at h
      exact ⟨c.symm, (Option.some.inj h).symm⟩
    · rw [lookK_noP c] at h
      cases h
  refine ⟨fun x hx => ?_, fun e he => by simp at he, lookK_yesP rfl, fun k v h => .inr (hz k v h).2, fun k => ⟨fun h => ?_, fun ⟨x, hx, h1, _⟩ => ?_⟩, fun k hk => ⟨fun h => absurd (hz k 2 h).1 hk, fun ⟨o, ho, _⟩ => by simp at ho⟩, by simp, fun P x Q h hx => ?_, fun P o Q h => by simp at h, fun x hx h => ?_, fun _ => ⟨0, [], rfl, fun q => absurd rfl q⟩, fun h => ?_, fun h => absurd (hz _ 2 h).1 (key_ne hf hn), fun x hx => by rw [List.mem_singleton] at hx; rw [hx]; exact Nat.zero_le _, fun x hx => by rw [List.mem_singleton] at hx; rw [hx]; exact Nat.le_refl _, fun o ho => by simp at ho⟩
  · rw [List.mem_singleton] at hx
    rw [hx]
    exact ⟨hf, hn⟩
  · have := (hz k 1 h).2
    omega
  · rw [List.mem_singleton] at hx
    rw [hx] at h1
    exact absurd rfl h1
  · have : x ∈ [(root, 0)] := by rw [h]; simp
    rw [List.mem_singleton] at this
    rw [this] at hx
    cases hx
  · rw [List.mem_singleton] at hx
    rw [hx] at h
    exact absurd rfl h
  · rcases h with h | h
    · cases h
    · exact absurd (hz _ 2 h).1 (key_ne hf hn)

/-- a list that was left is taken off -/
theorem Lw.pop {A : Nat → Prop} {w : World} {root e : LE} {b : Nat} {D : List (KeyP × Int)} {S : List (LE × Nat)} {O : List LE} (h : Lw A w root D (S ++ [(e, b)]) O) (hl : lookKP D e.key = some 2) : Lw A w root D S O := by
  have hb : b = 0 := by
    by_cases c : b = 0
    · exact c
    · have := h.begun (e, b) (by simp) c
      rw [hl] at this
      cases this
  subst hb
  refine ⟨fun x hx => h.fitS x (List.mem_append_left _ hx), h.fitO, h.zero, h.vals, fun k => ⟨fun q => ?_, fun ⟨x, hx, q⟩ => (h.act k).2 ⟨x, List.mem_append_left _ hx, q⟩⟩, h.left, (List.pairwise_append.1 h.rank).1, fun P x Q hS hx k f hf hk hn => ?_, h.post, fun x hx => h.begun x (List.mem_append_left _ hx), fun hS => ?_, fun hS => ?_, fun hr x hx => h.alone hr x (List.mem_append_left _ hx), fun x hx => h.flag x (List.mem_append_left _ hx), fun x hx => h.small.1 x (List.mem_append_left _ hx), h.small.2⟩
  · obtain ⟨x, hx, h1, h2⟩ := (h.act k).1 q
    rcases List.mem_append.1 hx with hx | hx
    · exact ⟨x, hx, h1, h2⟩
    · rw [List.mem_singleton] at hx
      rw [hx] at h1
      exact absurd rfl h1
  · rcases h.kids P x (Q ++ [(e, 0)]) (by rw [hS]; simp) hx k f hf hk hn with q | ⟨y, hy, q⟩
    · exact .inl q
    · rcases List.mem_append.1 hy with hy | hy
      · exact .inr ⟨y, hy, q⟩
      · rw [List.mem_singleton] at hy
        rw [hy] at q
        exact .inl (by rw [← q]; exact hl)
  · obtain ⟨b, Q, hQ, hQ2⟩ := h.bottom (by simp)
    cases S with
    | nil => exact absurd rfl hS
    | cons x S =>
      simp only [List.cons_append, List.cons.injEq] at hQ
      exact ⟨b, S, by rw [hQ.1], fun _ => hQ2 (by rw [← hQ.2]; simp)⟩
  · rcases hS with hS | hS
    · obtain ⟨b, Q, hQ, _⟩ := h.bottom (by simp)
      rw [hS] at hQ
      simp only [List.nil_append, List.cons.injEq, Prod.mk.injEq] at hQ
      exact h.last (.inr (by rw [← hQ.1.1]; exact hl))
    · exact h.last (.inr hS)

/-- nothing that was begun below is that list -/
theorem Lw.other {A : Nat → Prop} {w : World} {root e : LE} {b : Nat} {D : List (KeyP × Int)} {S : List (LE × Nat)} {O : List LE} (h : Lw A w root D (S ++ [(e, b)]) O) : ∀ x ∈ S, x.2 ≠ 0 → x.1.key ≠ e.key := fun x hx h0 q => by
  have h1 := (List.pairwise_append.1 h.rank).2.2 x hx (e, b) (by simp) h0
  have h2 := h.fitS x (List.mem_append_left _ hx)
  have h3 := h.fitS (e, b) (by simp)
  have := key_one h2.1 h3.1 h2.2 q
  rw [this] at h1
  exact absurd h1 (Nat.lt_irrefl _)

/-- a list that was begun is left: it comes behind those within it -/
theorem Lw.finish {A : Nat → Prop} {w : World} {root e : LE} {b : Nat} {D : List (KeyP × Int)} {S : List (LE × Nat)} {O : List LE} (h : Lw A w root D (S ++ [(e, b)]) O) (hb : b ≠ 2) (hl : lookKP D e.key = some 1) : Lw A w root (setKP D e.key 2) (S ++ [(e, 0)]) (O ++ [e]) := by
  have hfe := h.fitS (e, b) (by simp)
  have hne := key_ne hfe.1 hfe.2
  have hb1 : b = 1 := by
    obtain ⟨x, hx, h1, h2⟩ := (h.act e.key).1 hl
    rcases List.mem_append.1 hx with hx | hx
    · exact absurd h2 (h.other x hx h1)
    · rw [List.mem_singleton] at hx
      rw [hx] at h1
      have := h.flag (e, b) (by simp)
      simp only at h1 this
      omega
  subst hb1
  have hsm : (∀ x ∈ S ++ [(e, 0)], x.1.wt ≤ root.wt) ∧ ∀ o ∈ O ++ [e], o.wt ≤ root.wt := ⟨fun x hx => by
    rcases List.mem_append.1 hx with hx | hx
    · exact h.small.1 x (List.mem_append_left _ hx)
    · rw [List.mem_singleton] at hx; rw [hx]; exact h.small.1 (e, 1) (by simp), fun o ho => by
    rcases List.mem_append.1 ho with ho | ho
    · exact h.small.2 o ho
    · rw [List.mem_singleton] at ho; rw [ho]; exact h.small.1 (e, 1) (by simp)⟩
  have hset : ∀ k, k ≠ e.key → lookKP (setKP D e.key 2) k = lookKP D k := fun k hk => look_set_otherP D 2 (Ne.symm hk)
  have hsame : lookKP (setKP D e.key 2) e.key = some 2 := look_set_sameP D e.key 2
  have two : ∀ k, lookKP D k = some 2 → lookKP (setKP D e.key 2) k = some 2 := fun k q => by
    by_cases c : k = e.key
    · rw [c]; exact hsame
    · rw [hset k c]; exact q
  have hroot : lookKP D root.key = some 2 → False := fun q => by
    have := h.alone q (e, 1) (by simp)
    simp at this
  have hfirst : root.key = e.key → S = [] ∧ root = e := fun c => by
    obtain ⟨b, Q, hQ, hQ2⟩ := h.bottom (by simp)
    cases S with
    | nil =>
      simp only [List.nil_append, List.cons.injEq, Prod.mk.injEq] at hQ
      exact ⟨rfl, hQ.1.1.symm⟩
    | cons x S' =>
      exfalso
      simp only [List.cons_append, List.cons.injEq] at hQ
      have hb0 : b ≠ 0 := hQ2 (by rw [← hQ.2]; simp)
      exact h.other x (by simp) (by rw [hQ.1]; exact hb0) (by rw [hQ.1]; exact c)
  refine ⟨fun x hx => ?_, fun x hx => ?_, two _ h.zero, fun k v q => ?_, fun k => ⟨fun q => ?_, fun ⟨x, hx, h1, h2⟩ => ?_⟩, fun k hk => ⟨fun q => ?_, fun ⟨o, ho, q⟩ => ?_⟩, ?_, fun P x Q hS hx k f hf hk hn => ?_, fun P o Q hO k f hf hk hn => ?_, fun x hx h0 => ?_, fun _ => ?_, fun q => ?_, fun q x hx => ?_, fun x hx => ?_, hsm⟩
  · rcases List.mem_append.1 hx with hx | hx
    · exact h.fitS x (List.mem_append_left _ hx)
    · rw [List.mem_singleton] at hx; rw [hx]; exact hfe
  · rcases List.mem_append.1 hx with hx | hx
    · exact h.fitO x hx
    · rw [List.mem_singleton] at hx; rw [hx]; exact hfe
  · by_cases c : k = e.key
    · rw [c, hsame] at q
      exact .inr (Option.some.inj q).symm
    · rw [hset k c] at q
      exact h.vals k v q
  · by_cases c : k = e.key
    · rw [c, hsame] at q
      cases q
    · rw [hset k c] at q
      obtain ⟨x, hx, h1, h2⟩ := (h.act k).1 q
      rcases List.mem_append.1 hx with hx | hx
      · exact ⟨x, List.mem_append_left _ hx, h1, h2⟩
      · rw [List.mem_singleton] at hx
        rw [hx] at h2
        exact absurd h2.symm c
  · rcases List.mem_append.1 hx with hx | hx
    · have c : k ≠ e.key := fun c => h.other x hx h1 (h2.trans c)
      rw [hset k c]
      exact (h.act k).2 ⟨x, List.mem_append_left _ hx, h1, h2⟩
    · rw [List.mem_singleton] at hx
      rw [hx] at h1
      exact absurd rfl h1
  · by_cases c : k = e.key
    · exact ⟨e, by simp, c.symm⟩
    · rw [hset k c] at q
      obtain ⟨o, ho, q2⟩ := (h.left k hk).1 q
      exact ⟨o, List.mem_append_left _ ho, q2⟩
  · rcases List.mem_append.1 ho with ho | ho
    · exact two k ((h.left k hk).2 ⟨o, ho, q⟩)
    · rw [List.mem_singleton] at ho
      rw [← q, ho]
      exact hsame
  · obtain ⟨r1, _, r3⟩ := List.pairwise_append.1 h.rank
    refine List.pairwise_append.2 ⟨r1, by simp, fun x hx y hy h0 => ?_⟩
    rw [List.mem_singleton] at hy
    rw [hy]
    exact r3 x hx (e, 1) (by simp) h0
  · -- one that was begun below it
    have hS2 : S ++ [(e, 0)] = P ++ x :: Q := hS
    rcases List.eq_nil_or_concat Q with hQ | ⟨Q', y, hQ⟩
    · rw [hQ] at hS2
      have := (List.append_inj' hS2 rfl).2
      simp only [List.cons.injEq, and_true] at this
      rw [← this] at hx
      cases hx
    · rw [List.concat_eq_append] at hQ
      rw [hQ] at hS2
      have e2 : P ++ x :: (Q' ++ [y]) = (P ++ x :: Q') ++ [y] := by simp
      rw [e2] at hS2
      obtain ⟨q1, q2⟩ := List.append_inj' hS2 rfl
      simp only [List.cons.injEq, and_true] at q2
      rcases h.kids P x (Q' ++ [(e, 1)]) (by rw [q1]; simp) hx k f hf hk hn with q | ⟨z, hz, q⟩
      · exact .inl (two _ q)
      · rcases List.mem_append.1 hz with hz | hz
        · exact .inr ⟨z, by rw [hQ]; exact List.mem_append_left _ hz, q⟩
        · rw [List.mem_singleton] at hz
          rw [hz] at q
          exact .inl (by rw [← q]; exact hsame)
  · -- those within it came ahead
    rcases List.eq_nil_or_concat Q with hQ | ⟨Q', y, hQ⟩
    · rw [hQ] at hO
      obtain ⟨q1, q2⟩ := List.append_inj' hO rfl
      simp only [List.cons.injEq, and_true] at q2
      rw [← q2] at hk
      rcases h.kids S (e, 1) [] (by simp) rfl k f hf hk hn with q | ⟨z, hz, _⟩
      · obtain ⟨o', ho', q'⟩ := (h.left _ (key_ne hf hn)).1 q
        exact ⟨o', by rw [← q1]; exact ho', q'⟩
      · simp at hz
    · rw [List.concat_eq_append] at hQ
      rw [hQ] at hO
      have e2 : P ++ o :: (Q' ++ [y]) = (P ++ o :: Q') ++ [y] := by simp
      rw [e2] at hO
      obtain ⟨q1, _⟩ := List.append_inj' hO rfl
      exact h.post P o Q' q1 k f hf hk hn
  · rcases List.mem_append.1 hx with hx | hx
    · rw [hset _ (h.other x hx h0)]
      exact h.begun x (List.mem_append_left _ hx) h0
    · rw [List.mem_singleton] at hx
      rw [hx] at h0
      exact absurd rfl h0
  · obtain ⟨b, Q, hQ, hQ2⟩ := h.bottom (by simp)
    cases S with
    | nil =>
      simp only [List.nil_append, List.cons.injEq, Prod.mk.injEq] at hQ
      exact ⟨0, [], by rw [hQ.1.1]; rfl, fun q => absurd rfl q⟩
    | cons x S =>
      simp only [List.cons_append, List.cons.injEq] at hQ
      exact ⟨b, S ++ [(e, 0)], by rw [hQ.1]; rfl, fun _ => hQ2 (by rw [← hQ.2]; simp)⟩
  · rcases q with q | q
    · simp at q
    · by_cases c : root.key = e.key
      · obtain ⟨hS0, hre⟩ := hfirst c
        exact ⟨O, by rw [hre]⟩
      · rw [hset _ c] at q
        exact (hroot q).elim
  · by_cases c : root.key = e.key
    · obtain ⟨hS0, hre⟩ := hfirst c
      rw [hS0, List.nil_append, List.mem_singleton] at hx
      rw [hx, hre]
    · rw [hset _ c] at q
      exact (hroot q).elim
  · rcases List.mem_append.1 hx with hx | hx
    · exact h.flag x (List.mem_append_left _ hx)
    · rw [List.mem_singleton] at hx; rw [hx]; exact Nat.zero_le _

/-- a list is begun -/
theorem Lw.enter {A : Nat → Prop} {w : World} {root e : LE} {b : Nat} {D : List (KeyP × Int)} {S : List (LE × Nat)} {O : List LE} (h : Lw A w root D (S ++ [(e, b)]) O) (hl : lookKP D e.key = none) : b = 0 ∧ Lw A w root (setKP D e.key 1) (S ++ (e, 2) :: []) O := by
  have hfe := h.fitS (e, b) (by simp)
  have hne := key_ne hfe.1 hfe.2
  have hb : b = 0 := by
    by_cases c : b = 0
    · exact c
    · have := h.begun (e, b) (by simp) c
      rw [hl] at this
      cases this
  subst hb
  have hsm : (∀ x ∈ S ++ (e, 2) :: [], x.1.wt ≤ root.wt) ∧ ∀ o ∈ O, o.wt ≤ root.wt := ⟨fun x hx => by
    rcases List.mem_append.1 hx with hx | hx
    · exact h.small.1 x (List.mem_append_left _ hx)
    · rw [List.mem_singleton] at hx; rw [hx]; exact h.small.1 (e, 0) (by simp), h.small.2⟩
  have hset : ∀ k, k ≠ e.key → lookKP (setKP D e.key 1) k = lookKP D k := fun k hk => look_set_otherP D 1 (Ne.symm hk)
  have hsame : lookKP (setKP D e.key 1) e.key = some 1 := look_set_sameP D e.key 1
  have two : ∀ k, lookKP (setKP D e.key 1) k = some 2 ↔ lookKP D k = some 2 := fun k => by
    by_cases c : k = e.key
    · rw [c, hsame, hl]; simp
    · rw [hset k c]
  have hroot : lookKP D root.key = some 2 → False := fun q => by
    have := h.alone q (e, 0) (by simp)
    simp only [Prod.mk.injEq, and_true] at this
    rw [← this, hl] at q
    cases q
  refine ⟨rfl, fun x hx => ?_, h.fitO, (two _).2 h.zero, fun k v q => ?_, fun k => ⟨fun q => ?_, fun ⟨x, hx, h1, h2⟩ => ?_⟩, fun k hk => (two k).trans (h.left k hk), ?_, fun P x Q hS hx k f hf hk hn => ?_, h.post, fun x hx h0 => ?_, fun _ => ?_, fun q => ?_, fun q => (hroot ((two _).1 q)).elim, fun x hx => ?_, hsm⟩
  · rcases List.mem_append.1 hx with hx | hx
    · exact h.fitS x (List.mem_append_left _ hx)
    · rw [List.mem_singleton] at hx; rw [hx]; exact hfe
  · by_cases c : k = e.key
    · rw [c, hsame] at q
      exact .inl (Option.some.inj q).symm
    · rw [hset k c] at q
      exact h.vals k v q
  · by_cases c : k = e.key
    · exact ⟨(e, 2), by simp, by simp, c.symm⟩
    · rw [hset k c] at q
      obtain ⟨x, hx, h1, h2⟩ := (h.act k).1 q
      rcases List.mem_append.1 hx with hx | hx
      · exact ⟨x, List.mem_append_left _ hx, h1, h2⟩
      · rw [List.mem_singleton] at hx
        rw [hx] at h1
        exact absurd rfl h1
  · rcases List.mem_append.1 hx with hx | hx
    · have c : k ≠ e.key := fun c => h.other x hx h1 (h2.trans c)
      rw [hset k c]
      exact (h.act k).2 ⟨x, List.mem_append_left _ hx, h1, h2⟩
    · rw [List.mem_singleton] at hx
      rw [hx] at h2
      rw [← h2]
      exact hsame
  · obtain ⟨r1, _, r3⟩ := List.pairwise_append.1 h.rank
    refine List.pairwise_append.2 ⟨r1, by simp, fun x hx y hy h0 => ?_⟩
    rw [List.mem_singleton] at hy
    rw [hy]
    exact r3 x hx (e, 0) (by simp) h0
  · have hS2 : S ++ [(e, 2)] = P ++ x :: Q := hS
    rcases List.eq_nil_or_concat Q with hQ | ⟨Q', y, hQ⟩
    · rw [hQ] at hS2
      have := (List.append_inj' hS2 rfl).2
      simp only [List.cons.injEq, and_true] at this
      rw [← this] at hx
      cases hx
    · rw [List.concat_eq_append] at hQ
      rw [hQ] at hS2
      have e2 : P ++ x :: (Q' ++ [y]) = (P ++ x :: Q') ++ [y] := by simp
      rw [e2] at hS2
      obtain ⟨q1, q2⟩ := List.append_inj' hS2 rfl
      simp only [List.cons.injEq, and_true] at q2
      rcases h.kids P x (Q' ++ [(e, 0)]) (by rw [q1]; simp) hx k f hf hk hn with q | ⟨z, hz, q⟩
      · exact .inl ((two _).2 q)
      · rcases List.mem_append.1 hz with hz | hz
        · exact .inr ⟨z, by rw [hQ]; exact List.mem_append_left _ hz, q⟩
        · rw [List.mem_singleton] at hz
          rw [hz] at q
          exact .inr ⟨y, by rw [hQ]; simp, by rw [← q2]; exact q⟩
  · rcases List.mem_append.1 hx with hx | hx
    · rw [hset _ (h.other x hx h0)]
      exact h.begun x (List.mem_append_left _ hx) h0
    · rw [List.mem_singleton] at hx
      rw [hx]
      exact hsame
  · obtain ⟨b, Q, hQ, hQ2⟩ := h.bottom (by simp)
    cases S with
    | nil =>
      simp only [List.nil_append, List.cons.injEq, Prod.mk.injEq] at hQ
      exact ⟨2, [], by rw [hQ.1.1]; rfl, fun q => absurd rfl q⟩
    | cons x S =>
      simp only [List.cons_append, List.cons.injEq] at hQ
      exact ⟨b, S ++ [(e, 2)], by rw [hQ.1]; rfl, fun _ => hQ2 (by rw [← hQ.2]; simp)⟩
  · rcases q with q | q
    · simp at q
    · exact (hroot ((two _).1 q)).elim
  · rcases List.mem_append.1 hx with hx | hx
    · exact h.flag x (List.mem_append_left _ hx)
    · rw [List.mem_singleton] at hx; rw [hx]; exact Nat.le_refl _

/-- one within it was not begun: it would be within itself -/
theorem Lw.notIn {A : Nat → Prop} {w : World} {root e f : LE} {k : Nat} {D : List (KeyP × Int)} {S K : List (LE × Nat)} {O : List LE} (h : Lw A w root D (S ++ (e, 2) :: K) O) (hK : ∀ y ∈ K, y.2 = 0) (hk : KidAt w e k f) (hf : f.fits A w) : lookKP D f.key ≠ some 1 := fun q => by
  obtain ⟨x, hx, h1, h2⟩ := (h.act f.key).1 q
  have hless := hk.less
  rcases List.mem_append.1 hx with hx | hx
  · have h3 := (List.pairwise_append.1 h.rank).2.2 x hx (e, 2) (by simp) h1
    have h4 := h.fitS x (List.mem_append_left _ hx)
    have := key_one h4.1 hf h4.2 h2
    rw [this] at h3
    simp only at h3
    omega
  · rcases List.mem_cons.1 hx with hx | hx
    · have h4 := h.fitS (e, 2) (by simp)
      rw [hx] at h2
      have := key_one h4.1 hf h4.2 h2
      simp only at this
      rw [this] at hless
      omega
    · exact h1 (hK x hx)

/-- one within it is put on the stack -/
theorem Lw.push {A : Nat → Prop} {w : World} {root e f : LE} {k : Nat} {D : List (KeyP × Int)} {S K : List (LE × Nat)} {O : List LE} (h : Lw A w root D (S ++ (e, 2) :: K) O) (hK : ∀ y ∈ K, y.2 = 0) (hk : KidAt w e k f) (hf : f.fits A w) (hn : f.ts ≠ []) : Lw A w root D (S ++ (e, 2) :: (K ++ [(f, 0)])) O := by
  have eS : S ++ (e, 2) :: (K ++ [(f, 0)]) = (S ++ (e, 2) :: K) ++ [(f, 0)] := by simp
  have hless := hk.less
  have hsm : (∀ x ∈ S ++ (e, 2) :: K ++ [(f, 0)], x.1.wt ≤ root.wt) ∧ ∀ o ∈ O, o.wt ≤ root.wt := ⟨fun x hx => by
    rcases List.mem_append.1 hx with hx | hx
    · exact h.small.1 x hx
    · rw [List.mem_singleton] at hx; rw [hx]; exact Nat.le_trans hk.wt_le (h.small.1 (e, 2) (by simp)), h.small.2⟩
  rw [eS]
  refine ⟨fun x hx => ?_, h.fitO, h.zero, h.vals, fun k => ⟨fun q => ?_, fun ⟨x, hx, h1, h2⟩ => ?_⟩, h.left, ?_, fun P x Q hS hx k f' hf' hk' hn' => ?_, h.post, fun x hx h0 => ?_, fun _ => ?_, fun q => ?_, fun q x hx => ?_, fun x hx => ?_, hsm⟩
  · rcases List.mem_append.1 hx with hx | hx
    · exact h.fitS x hx
    · rw [List.mem_singleton] at hx; rw [hx]; exact ⟨hf, hn⟩
  · obtain ⟨x, hx, h1, h2⟩ := (h.act k).1 q
    exact ⟨x, List.mem_append_left _ hx, h1, h2⟩
  · rcases List.mem_append.1 hx with hx | hx
    · exact (h.act k).2 ⟨x, hx, h1, h2⟩
    · rw [List.mem_singleton] at hx
      rw [hx] at h1
      exact absurd rfl h1
  · refine List.pairwise_append.2 ⟨h.rank, by simp, fun x hx y hy h0 => ?_⟩
    rw [List.mem_singleton] at hy
    rw [hy]
    rcases List.mem_append.1 hx with hx | hx
    · have h3 := (List.pairwise_append.1 h.rank).2.2 x hx (e, 2) (by simp) h0
      simp only at h3 ⊢
      omega
    · rcases List.mem_cons.1 hx with hx | hx
      · rw [hx]; exact hless
      · exact absurd (hK x hx) h0
  · rcases List.eq_nil_or_concat Q with hQ | ⟨Q', y, hQ⟩
    · rw [hQ] at hS
      have := (List.append_inj' hS rfl).2
      simp only [List.cons.injEq, and_true] at this
      rw [← this] at hx
      cases hx
    · rw [List.concat_eq_append] at hQ
      rw [hQ] at hS
      have e2 : P ++ x :: (Q' ++ [y]) = (P ++ x :: Q') ++ [y] := by simp
      rw [e2] at hS
      obtain ⟨q1, q2⟩ := List.append_inj' hS rfl
      rcases h.kids P x Q' q1 hx k f' hf' hk' hn' with q | ⟨z, hz, q⟩
      · exact .inl q
      · exact .inr ⟨z, by rw [hQ]; exact List.mem_append_left _ hz, q⟩
  · rcases List.mem_append.1 hx with hx | hx
    · exact h.begun x hx h0
    · rw [List.mem_singleton] at hx
      rw [hx] at h0
      exact absurd rfl h0
  · obtain ⟨b, Q, hQ, hQ2⟩ := h.bottom (by simp)
    refine ⟨b, Q ++ [(f, 0)], by rw [hQ]; rfl, fun _ => ?_⟩
    cases S with
    | nil =>
      simp only [List.nil_append, List.cons.injEq, Prod.mk.injEq] at hQ
      omega
    | cons x S =>
      simp only [List.cons_append, List.cons.injEq] at hQ
      exact hQ2 (by rw [← hQ.2]; simp)
  · rcases q with q | q
    · simp at q
    · exact h.last (.inr q)
  · have := h.alone q (e, 2) (by simp)
    simp at this
  · rcases List.mem_append.1 hx with hx | hx
    · exact h.flag x hx
    · rw [List.mem_singleton] at hx; rw [hx]; exact Nat.zero_le _

/-- all within it were asked for -/
theorem Lw.close {A : Nat → Prop} {w : World} {root e : LE} {D : List (KeyP × Int)} {S K : List (LE × Nat)} {O : List LE} (h : Lw A w root D (S ++ (e, 2) :: K) O) (hK : ∀ y ∈ K, y.2 = 0) (ha : ∀ k f, f.fits A w → KidAt w e k f → f.ts ≠ [] → lookKP D f.key = some 2 ∨ ∃ y ∈ K, y.1.key = f.key) : Lw A w root D (S ++ (e, 1) :: K) O := by
  have mem : ∀ x, x ∈ S ++ (e, 1) :: K → ∃ y ∈ S ++ (e, 2) :: K, y.1 = x.1 ∧ (y.2 ≠ 0 ↔ x.2 ≠ 0) ∧ (x.2 = 2 → False ∨ x = y) := fun x hx => by
    rcases List.mem_append.1 hx with hx | hx
    · exact ⟨x, List.mem_append_left _ hx, rfl, Iff.rfl, fun _ => .inr rfl⟩
    · rcases List.mem_cons.1 hx with hx | hx
      · exact ⟨(e, 2), by simp, by rw [hx], by rw [hx]; simp, fun q => by rw [hx] at q; cases q⟩
      · exact ⟨x, by simp [hx], rfl, Iff.rfl, fun _ => .inr rfl⟩
  refine ⟨fun x hx => ?_, h.fitO, h.zero, h.vals, fun k => ⟨fun q => ?_, fun ⟨x, hx, h1, h2⟩ => ?_⟩, h.left, ?_, fun P x Q hS hx k f hf hk hn => ?_, h.post, fun x hx h0 => ?_, fun _ => ?_, fun q => ?_, fun q x hx => ?_, fun x hx => ?_, fun x hx => ?_, h.small.2⟩
  · obtain ⟨y, hy, e1, _⟩ := mem x hx
    rw [← e1]
    exact h.fitS y hy
  · obtain ⟨x, hx, h1, h2⟩ := (h.act k).1 q
    rcases List.mem_append.1 hx with hx | hx
    · exact ⟨x, List.mem_append_left _ hx, h1, h2⟩
    · rcases List.mem_cons.1 hx with hx | hx
      · exact ⟨(e, 1), by simp, by simp, by rw [hx] at h2; exact h2⟩
      · exact ⟨x, by simp [hx], h1, h2⟩
  · obtain ⟨y, hy, e1, e2, _⟩ := mem x hx
    exact (h.act k).2 ⟨y, hy, e2.2 h1, by rw [e1]; exact h2⟩
  · obtain ⟨r1, r2, r3⟩ := List.pairwise_append.1 h.rank
    obtain ⟨r4, r5⟩ := List.pairwise_cons.1 r2
    refine List.pairwise_append.2 ⟨r1, List.pairwise_cons.2 ⟨fun y hy _ => r4 y hy (by simp), r5⟩, fun x hx y hy h0 => ?_⟩
    rcases List.mem_cons.1 hy with hy | hy
    · rw [hy]; exact r3 x hx (e, 2) (by simp) h0
    · exact r3 x hx y (List.mem_cons_of_mem _ hy) h0
  · rcases List.append_eq_append_iff.1 hS with ⟨a', q1, q2⟩ | ⟨c', q1, q2⟩
    · cases a' with
      | nil =>
        simp only [List.nil_append, List.cons.injEq] at q2
        obtain ⟨q3, q4⟩ := q2
        subst q3
        rw [← q4]
        exact ha k f hf hk hn
      | cons z a' =>
        simp only [List.cons_append, List.cons.injEq] at q2
        have hxK : x ∈ K := by rw [q2.2]; simp
        rw [hK x hxK] at hx
        cases hx
    · cases c' with
      | nil =>
        simp only [List.nil_append, List.cons.injEq] at q2
        obtain ⟨q3, q4⟩ := q2
        subst q3
        rw [q4]
        exact ha k f hf hk hn
      | cons z c' =>
        simp only [List.cons_append, List.cons.injEq] at q2
        rcases h.kids P x (c' ++ (e, 2) :: K) (by rw [q1, q2.1]; simp) hx k f hf hk hn with q | ⟨y, hy, q⟩
        · exact .inl q
        · right
          rw [q2.2]
          rcases List.mem_append.1 hy with hy | hy
          · exact ⟨y, List.mem_append_left _ hy, q⟩
          · rcases List.mem_cons.1 hy with hy | hy
            · exact ⟨(e, 1), by simp, by rw [hy] at q; exact q⟩
            · exact ⟨y, by simp [hy], q⟩
  · obtain ⟨y, hy, e1, e2, _⟩ := mem x hx
    rw [← e1]
    exact h.begun y hy (e2.2 h0)
  · obtain ⟨b, Q, hQ, hQ2⟩ := h.bottom (by simp)
    cases S with
    | nil =>
      simp only [List.nil_append, List.cons.injEq, Prod.mk.injEq] at hQ
      exact ⟨1, K, by rw [hQ.1.1]; rfl, fun _ => by simp⟩
    | cons x S =>
      simp only [List.cons_append, List.cons.injEq] at hQ
      exact ⟨b, S ++ (e, 1) :: K, by rw [hQ.1]; rfl, fun _ => hQ2 (by rw [← hQ.2]; simp)⟩
  · rcases q with q | q
    · simp at q
    · exact h.last (.inr q)
  · have := h.alone q (e, 2) (by simp)
    simp at this
  · rcases List.mem_append.1 hx with hx | hx
    · exact h.flag x (List.mem_append_left _ hx)
    · rcases List.mem_cons.1 hx with hx | hx
      · rw [hx]; simp
      · exact h.flag x (by simp [hx])
  · obtain ⟨y, hy, e1, _⟩ := mem x hx
    rw [← e1]
    exact h.small.1 y hy

/-- how much there is to do at one of the stack -/
def mOf (D : List (KeyP × Int)) (x : LE × Nat) : Nat := if lookKP D x.1.key = some 2 then 1 else if x.2 ≠ 0 then 2 else x.1.cost
def mSum (D : List (KeyP × Int)) (S : List (LE × Nat)) : Nat := (S.map (mOf D)).sum
theorem mSum_app (D : List (KeyP × Int)) (S T : List (LE × Nat)) : mSum D (S ++ T) = mSum D S + mSum D T := by simp [mSum]
theorem mSum_one (D : List (KeyP × Int)) (x : LE × Nat) : mSum D [x] = mOf D x := by simp [mSum]
theorem cost_pos (e : LE) : 3 ≤ e.cost := by unfold LE.cost; omega
theorem mOf_pos (D : List (KeyP × Int)) (x : LE × Nat) : 1 ≤ mOf D x := by
  unfold mOf
  have := cost_pos x.1
  split
  · omega
  split <;> omega
theorem mOf_le (D : List (KeyP × Int)) (x : LE × Nat) : mOf D x ≤ x.1.cost := by
  unfold mOf
  have := cost_pos x.1
  split
  · omega
  split <;> omega
theorem mSum_len (D : List (KeyP × Int)) (S : List (LE × Nat)) : S.length ≤ mSum D S := by
  induction S with
  | nil => simp
  | cons x S ih =>
    have := mOf_pos D x
    simp only [mSum, List.map_cons, List.sum_cons, List.length_cons] at ih ⊢
    omega
theorem mSum_mono {D D' : List (KeyP × Int)} {S : List (LE × Nat)} (h : ∀ x ∈ S, mOf D' x ≤ mOf D x) : mSum D' S ≤ mSum D S := by
  induction S with
  | nil => simp [mSum]
  | cons x S ih =>
    have h1 := h x (by simp)
    have h2 := ih fun y hy => h y (List.mem_cons_of_mem _ hy)
    simp only [mSum, List.map_cons, List.sum_cons] at h2 ⊢
    omega
theorem m_pop (D : List (KeyP × Int)) (S : List (LE × Nat)) (x : LE × Nat) : mSum D S < mSum D (S ++ [x]) := by
  have := mOf_pos D x
  rw [mSum_app, mSum_one]
  omega
theorem m_finish {e : LE} {b : Nat} {D : List (KeyP × Int)} {S : List (LE × Nat)} (hl : lookKP D e.key = some 1) : mSum (setKP D e.key 2) (S ++ [(e, 0)]) < mSum D (S ++ [(e, b)]) := by
  rw [mSum_app, mSum_app, mSum_one, mSum_one]
  have h1 : mSum (setKP D e.key 2) S ≤ mSum D S := mSum_mono fun x _ => by
    by_cases c : x.1.key = e.key
    · have : mOf (setKP D e.key 2) x = 1 := by
        unfold mOf
        rw [c, look_set_sameP, if_pos rfl]
      have := mOf_pos D x
      omega
    · unfold mOf
      rw [look_set_otherP D 2 (Ne.symm c)]
      exact Nat.le_refl _
  have h2 : mOf (setKP D e.key 2) (e, 0) = 1 := by
    unfold mOf
    simp only
    rw [look_set_sameP, if_pos rfl]
  have h3 : 2 ≤ mOf D (e, b) := by
    unfold mOf
    simp only
    rw [hl, if_neg (by simp)]
    have := cost_pos e
    split <;> omega
  omega
theorem m_enter {e : LE} {D : List (KeyP × Int)} {S K : List (LE × Nat)} (hl : lookKP D e.key = none) (hK : (K.map fun y => y.1.cost).sum ≤ 3 * ndRow e.n e.ts) : mSum (setKP D e.key 1) (S ++ (e, 1) :: K) < mSum D (S ++ [(e, 0)]) := by
  have e1 : S ++ (e, 1) :: K = S ++ [(e, 1)] ++ K := by simp
  rw [e1, mSum_app, mSum_app, mSum_app, mSum_one, mSum_one]
  have h1 : mSum (setKP D e.key 1) S ≤ mSum D S := mSum_mono fun x _ => by
    by_cases c : x.1.key = e.key
    · unfold mOf
      rw [c, look_set_sameP, hl, if_neg (show ¬ (some (1 : Int) = some 2) by simp), if_neg (show ¬ (none = some (2 : Int)) by simp)]
      exact Nat.le_refl _
    · unfold mOf
      rw [look_set_otherP D 1 (Ne.symm c)]
      exact Nat.le_refl _
  have h2 : mOf (setKP D e.key 1) (e, 1) = 2 := by
    unfold mOf
    simp only
    rw [look_set_sameP, if_neg (by simp), if_pos (by simp)]
  have h3 : mOf D (e, 0) = e.cost := by
    unfold mOf
    simp only
    rw [hl, if_neg (by simp), if_neg (by simp)]
  have h4 : mSum (setKP D e.key 1) K ≤ (K.map fun y => y.1.cost).sum := by
    clear hK
    induction K with
    | nil => simp [mSum]
    | cons x K ih =>
      have := mOf_le (setKP D e.key 1) x
      have h5 := ih (by simp)
      simp only [mSum, List.map_cons, List.sum_cons] at h5 ⊢
      omega
  have h5 : e.cost = 3 * (1 + ndRow e.n e.ts) := rfl
  omega

end Go.Proofs.Ytpnalacdgnppmaa
