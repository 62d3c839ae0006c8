/-
  All that a type is made of, plainly; and a queue of types that stand in memory of their own, gone through one by one.
-/
import Derived.Test.YtikoacgfnojoeaaGreatDoorToTy
namespace Go.Proofs.YtikoacgfnojoeaaGreatDoor
open Go.RowKit

/-- all that it is made of, itself among them: to a depth -/
def Ty.nodes : Nat → Ty → List Ty
  | 0, _ => []
  | n + 1, t => t :: t.kids.flatMap (Ty.nodes n)

theorem any_nodes (n : Nat) (t : Ty) : Ty.hasAny n t = (Ty.nodes n t).any (fun u => decide (u.kind = 3)) := by
  induction n generalizing t with
  | zero => rfl
  | succ n ih =>
    rw [Ty.hasAny, Ty.nodes, List.any_cons, List.any_flatMap, Bool.or_comm]
    congr 1
    congr 1
    funext u
    exact ih u

theorem nodes_len (n : Nat) (t : Ty) : (Ty.nodes n t).length ≤ 1 + Ty.bulk n t := by
  induction n generalizing t with
  | zero => simp [Ty.nodes]
  | succ n ih =>
    rw [Ty.nodes, List.length_cons, List.length_flatMap, Ty.bulk]
    have : ∀ ks : List Ty, (ks.map fun k => (Ty.nodes n k).length).sum ≤ ks.length + (ks.map (Ty.bulk n)).sum := fun ks => by
      induction ks with
      | nil => simp
      | cons k r ihr =>
        have := ih k
        simp only [List.map_cons, List.sum_cons, List.length_cons]
        omega
    have := this t.kids
    omega

/-- a type that stands in memory of its own -/
structure Ent where
  n : Nat
  lo : Nat
  hi : Nat
  cs : List Value
  t : Ty

def Ent.fits (w : World) (p : Ent) : Prop := TyIn w p.n p.lo p.hi p.cs p.t
/-- a type whose kids stand in memory of their own; its own row may lie anywhere among them, or nowhere, where it has none -/
def TyUp (w : World) (n lo hi : Nat) (cs : List Value) (t : Ty) : Prop := ∃ (m : Nat) (vn : Value) (a : Option Addr) (b cap : Nat), n = m + 1 ∧ cs = [.int .i64 t.kind, .string t.name, vn, .slice a t.kids.length cap] ∧ (∃ an ln cn, vn = .slice an ln cn) ∧ t.kids.length ≤ maxLen ∧ (0 < t.kids.length → a = some ⟨b, 0, none⟩ ∧ lo ≤ b ∧ b < hi ∧ ∃ cur e, w.heap[b]? = some (.cells cur e (0, 0))) ∧
  ∃ L : Nat → Nat, (∀ j, j ≤ t.kids.length → lo ≤ L j ∧ L j ≤ hi) ∧ (∀ i j, i ≤ j → j ≤ t.kids.length → L i ≤ L j) ∧ (∀ j, j < t.kids.length → b < L j ∨ L (j + 1) ≤ b) ∧ ∀ j (h : j < t.kids.length), ∃ cs, TyIn w m (L j) (L (j + 1)) cs t.kids[j] ∧ ∀ c u, cs[c]? = some u → w.cell? ⟨b, j * 4 + c, none⟩ = some u
def Ent.up (w : World) (p : Ent) : Prop := TyUp w p.n p.lo p.hi p.cs p.t
theorem TyIn.up {w : World} {n lo hi : Nat} {cs : List Value} {t : Ty} (h : TyIn w n lo hi cs t) : TyUp w n lo hi cs t := by
  cases n with
  | zero => exact h.elim
  | succ m =>
    obtain ⟨vn, vk, mid, h1, h2, h3, h4, h5, hmid, b, cap, e, g1, g2, g0, L, g3, g4, g5⟩ := h
    refine ⟨m, vn, some ⟨b, 0, none⟩, b, cap, rfl, by rw [h1, e], ?_, h5, fun _ => ⟨rfl, by omega, g2, g0⟩, L, fun j hj => ⟨by have := (g3 j hj).1; omega, (g3 j hj).2⟩, g4, fun j hj => .inl (g3 j (by omega)).1, g5⟩
    rcases h4.1.1.2 with ⟨q, h0⟩ | ⟨g, c, cur, q, _⟩
    · exact ⟨none, 0, 0, q⟩
    · exact ⟨_, _, c, q⟩
theorem TyUp.len {w : World} {n lo hi : Nat} {cs : List Value} {t : Ty} (h : TyUp w n lo hi cs t) : cs.length = 4 := by
  obtain ⟨m, vn, a, b, cap, _, e, _⟩ := h
  rw [e]; rfl
theorem TyUp.shape {w : World} {n lo hi : Nat} {cs : List Value} {t : Ty} (h : TyUp w n lo hi cs t) : ∃ an ln cn ak lk ck, cs = [.int .i64 t.kind, .string t.name, .slice an ln cn, .slice ak lk ck] := by
  obtain ⟨m, vn, a, b, cap, _, e, ⟨an, ln, cn, q⟩, _⟩ := h
  exact ⟨an, ln, cn, a, _, cap, by rw [e, q]⟩
theorem TyUp.below {w w' : World} {n lo hi B : Nat} {cs : List Value} {t : Ty} (h : TyUp w n lo hi cs t) (hb : Below B w w') (hB : w.heap.size ≤ B) : TyUp w' n lo hi cs t := by
  obtain ⟨m, vn, a, b, cap, h1, h2, h3, h4, h5, L, g1, g2, g3, g4⟩ := h
  have hbb : Below w.heap.size w w' := hb.mono hB
  refine ⟨m, vn, a, b, cap, h1, h2, h3, h4, fun h0 => ?_, L, g1, g2, g3, fun j hj => ?_⟩
  · obtain ⟨q1, q2, q3, cur, e, q4⟩ := h5 h0
    exact ⟨q1, q2, q3, cur, e, (hbb.block b (Array.getElem?_eq_some_iff.1 q4).1).trans q4⟩
  · obtain ⟨cs, k1, k2⟩ := g4 j hj
    refine ⟨cs, TyIn.below k1 hbb, fun c u hc => ?_⟩
    have := k2 c u hc
    exact (hbb.cell (p := ⟨b, j * 4 + c, none⟩) (World.block_lt_of_cell? w ⟨b, j * 4 + c, none⟩ this)).trans this
def Ent.apart (p q : Ent) : Prop := p.hi ≤ q.lo ∨ q.hi ≤ p.lo
def flatE (l : List Ent) : List Value := l.flatMap (·.cs)
def nodesE (l : List Ent) : List Ty := l.flatMap fun p => Ty.nodes p.n p.t

theorem flatE_len {w : World} {l : List Ent} (h : ∀ p ∈ l, p.up w) : (flatE l).length = l.length * 4 := by
  induction l with
  | nil => rfl
  | cons p r ih =>
    have h1 := (h p (List.mem_cons_self ..)).len
    have h2 := ih fun q hq => h q (List.mem_cons_of_mem _ hq)
    unfold flatE at h2 ⊢
    rw [List.flatMap_cons, List.length_append, h1, h2, List.length_cons]
    omega
theorem flatE_at {w : World} {l : List Ent} (h : ∀ p ∈ l, p.up w) (j c : Nat) (hj : j < l.length) (hc : c < 4) : (flatE l)[j * 4 + c]? = l[j].cs[c]? := by
  induction l generalizing j with
  | nil => simp at hj
  | cons p r ih =>
    have h1 := (h p (List.mem_cons_self ..)).len
    unfold flatE at ih ⊢
    rw [List.flatMap_cons]
    cases j with
    | zero =>
      rw [List.getElem?_append_left (by omega)]
      simp
    | succ j =>
      rw [List.getElem?_append_right (by omega), h1, show (j + 1) * 4 + c - 4 = j * 4 + c by omega, ih (fun q hq => h q (List.mem_cons_of_mem _ hq)) j (by simpa using hj)]
      simp
theorem nodesE_len {w : World} {l : List Ent} (h : ∀ p ∈ l, p.up w) : l.length ≤ (nodesE l).length := by
  induction l with
  | nil => simp
  | cons p r ih =>
    have h1 : 1 ≤ (Ty.nodes p.n p.t).length := by
      have := h p (List.mem_cons_self ..)
      obtain ⟨m, _, _, _, _, hp, _⟩ := this
      rw [hp]
      simp [Ty.nodes]
    have h2 := ih fun q hq => h q (List.mem_cons_of_mem _ hq)
    unfold nodesE at h2 ⊢
    rw [List.flatMap_cons, List.length_append, List.length_cons]
    omega

/-- a queue: V is gone through, P is not; S are the blocks of the rows that were gone through -/
structure Queue (w : World) (ts : List Ty) (V P : List Ent) (S : List Nat) : Prop where
  fits : ∀ p ∈ V ++ P, p.up w
  apart : P.Pairwise Ent.apart
  seen : ∀ s ∈ S, ∀ p ∈ P, s < p.lo ∨ p.hi ≤ s
  all : ts.Perm (V.map (·.t) ++ nodesE P)

theorem Queue.start {w : World} {n lo hi : Nat} {cs : List Value} {t : Ty} (h : TyUp w n lo hi cs t) : Queue w (Ty.nodes n t) [] [⟨n, lo, hi, cs, t⟩] [] where
  fits := fun p hp => by
    simp only [List.nil_append, List.mem_singleton] at hp
    subst hp
    exact h
  apart := List.pairwise_singleton _ _
  seen := fun s hs => by simp at hs
  all := by simp [nodesE]

theorem Queue.lenV {w : World} {ts : List Ty} {V P : List Ent} {S : List Nat} (h : Queue w ts V P S) : V.length + P.length ≤ ts.length := by
  have h1 := h.all.length_eq
  have h2 := nodesE_len (w := w) (l := P) fun p hp => h.fits p (List.mem_append_right _ hp)
  rw [List.length_append, List.length_map] at h1
  omega

/-- the first of what is left: its row, and the entries of that row -/
theorem Queue.head {w : World} {ts : List Ty} {V R : List Ent} {p : Ent} {S : List Nat} (h : Queue w ts V (p :: R) S) :
    ∃ (vn : Value) (a : Option Addr) (b cap : Nat) (K : List Ent) (S1 : List Nat), p.cs = [.int .i64 p.t.kind, .string p.t.name, vn, .slice a K.length cap] ∧ (0 < K.length → a = some ⟨b, 0, none⟩ ∧ b ∉ S ∧ b ∈ S1 ∧ ∃ cur e, w.heap[b]? = some (.cells cur e (0, 0))) ∧ (∀ s ∈ S1, s < w.heap.size) ∧ K.length ≤ maxLen ∧
      (∀ j (hj : j < K.length), K[j].up w ∧ ∀ c u, K[j].cs[c]? = some u → w.cell? ⟨b, j * 4 + c, none⟩ = some u) ∧ Queue w ts (V ++ [p]) (R ++ K) (S1 ++ S) := by
  have hf := h.fits p (List.mem_append_right _ (List.mem_cons_self ..))
  obtain ⟨n, lo, hi, cs, t⟩ := p
  unfold Ent.up at hf
  obtain ⟨m, vn, a, b, cap, hn, h1, hvn, h5, g0, L, g3, g4, gb, g5⟩ := hf
  replace hn : n = m + 1 := hn
  replace h1 : cs = [.int .i64 t.kind, .string t.name, vn, .slice a t.kids.length cap] := h1
  replace g0 : 0 < t.kids.length → a = some ⟨b, 0, none⟩ ∧ lo ≤ b ∧ b < hi ∧ ∃ cur e, w.heap[b]? = some (.cells cur e (0, 0)) := g0
  replace g3 : ∀ j, j ≤ t.kids.length → lo ≤ L j ∧ L j ≤ hi := g3
  replace g4 : ∀ i j, i ≤ j → j ≤ t.kids.length → L i ≤ L j := g4
  replace gb : ∀ j, j < t.kids.length → b < L j ∨ L (j + 1) ≤ b := gb
  subst hn
  by_cases hk0 : True
  · obtain ⟨S1, hS1, hS2⟩ : ∃ S1 : List Nat, (∀ s ∈ S1, s = b ∧ 0 < t.kids.length) ∧ (0 < t.kids.length → b ∈ S1) := by
      by_cases c : 0 < t.kids.length
      · exact ⟨[b], fun s hs => ⟨List.mem_singleton.1 hs, c⟩, fun _ => by simp⟩
      · exact ⟨[], fun s hs => by simp at hs, fun q => absurd q c⟩
    have each : ∀ j, j < t.kids.length → ∃ q : Ent, q.n = m ∧ q.lo = L j ∧ q.hi = L (j + 1) ∧ t.kids[j]? = some q.t ∧ q.up w ∧ ∀ c u, q.cs[c]? = some u → w.cell? ⟨b, j * 4 + c, none⟩ = some u := fun j hj => by
      obtain ⟨cs', k1, k2⟩ := g5 j hj
      exact ⟨⟨m, L j, L (j + 1), cs', t.kids[j]⟩, rfl, rfl, rfl, List.getElem?_eq_getElem hj, TyIn.up k1, k2⟩
    haveI : Inhabited Ent := ⟨⟨0, 0, 0, [], .mk 0 ByteArray.empty [] []⟩⟩
    obtain ⟨q, hq⟩ := Go.Deep.choose_lt each
    have hK : ((List.range t.kids.length).map q).length = t.kids.length := by simp
    have hKj : ∀ j (hj : j < ((List.range t.kids.length).map q).length), ((List.range t.kids.length).map q)[j] = q j := fun j hj => by simp
    have memK : ∀ x ∈ (List.range t.kids.length).map q, ∃ j, j < t.kids.length ∧ x = q j := fun x hx => by
      obtain ⟨j, hj, rfl⟩ := List.mem_map.1 hx
      exact ⟨j, by simpa using hj, rfl⟩
    have apR := List.pairwise_cons.1 h.apart
    refine ⟨vn, a, b, cap, (List.range t.kids.length).map q, S1, ?_, ?_, ?_, by rw [hK]; exact h5, fun j hj => ?_, ?_, ?_, ?_, ?_⟩
    · rw [hK]
      exact h1
    · rw [hK]
      intro h0
      obtain ⟨q1, q2, q3, q4⟩ := g0 h0
      refine ⟨q1, fun hb => ?_, hS2 h0, q4⟩
      have := h.seen b hb _ (List.mem_cons_self ..)
      simp only at this
      omega
    · intro s hs
      obtain ⟨rfl, h0⟩ := hS1 s hs
      obtain ⟨_, _, _, cur, e, q4⟩ := g0 h0
      exact (Array.getElem?_eq_some_iff.1 q4).1
    · rw [hKj j hj]
      obtain ⟨_, _, _, _, k5, k6⟩ := hq j (by omega)
      exact ⟨k5, k6⟩
    · intro x hx
      simp only [List.mem_append, List.mem_singleton] at hx
      rcases hx with (hx | hx) | hx | hx
      · exact h.fits x (by simp [hx])
      · exact h.fits x (by simp [hx])
      · exact h.fits x (by simp [hx])
      · obtain ⟨j, hj, rfl⟩ := memK x hx
        exact (hq j hj).2.2.2.2.1
    · rw [List.pairwise_append]
      refine ⟨apR.2, ?_, ?_⟩
      · rw [List.pairwise_map]
        refine List.Pairwise.imp_of_mem ?_ List.pairwise_lt_range
        intro i j hi hj hij
        have hi : i < t.kids.length := by simpa using hi
        have hj : j < t.kids.length := by simpa using hj
        obtain ⟨_, _, a1, _⟩ := hq i hi
        obtain ⟨_, a2, _⟩ := hq j hj
        left
        rw [a1, a2]
        exact g4 (i + 1) j (by omega) (by omega)
      · intro r hr x hx
        obtain ⟨j, hj, rfl⟩ := memK x hx
        obtain ⟨_, a1, a2, _⟩ := hq j hj
        have b1 := g3 j (by omega)
        have b2 := g3 (j + 1) (by omega)
        have := apR.1 r hr
        unfold Ent.apart at this ⊢
        simp only at this
        rw [a1, a2]
        omega
    · intro s hs x hx
      rw [List.mem_append] at hs
      simp only [List.mem_append] at hx
      rcases hx with hx | hx
      · rcases hs with hs | hs
        · obtain ⟨rfl, h0⟩ := hS1 s hs
          obtain ⟨_, q2, q3, _⟩ := g0 h0
          have := apR.1 x hx
          unfold Ent.apart at this
          simp only at this
          omega
        · exact h.seen s hs x (List.mem_cons_of_mem _ hx)
      · obtain ⟨j, hj, rfl⟩ := memK x hx
        obtain ⟨_, a1, a2, _⟩ := hq j hj
        have b1 := g3 j (by omega)
        have b2 := g3 (j + 1) (by omega)
        rw [a1, a2]
        rcases hs with hs | hs
        · obtain ⟨rfl, h0⟩ := hS1 s hs
          exact gb j hj
        · have := h.seen s hs _ (List.mem_cons_self ..)
          simp only at this
          omega
    · have hk : nodesE ((List.range t.kids.length).map q) = t.kids.flatMap (Ty.nodes m) := by
        unfold nodesE
        have : t.kids = (List.range t.kids.length).map fun j => (q j).t := by
          apply List.ext_getElem?
          intro j
          by_cases hj : j < t.kids.length
          · rw [(hq j hj).2.2.2.1]
            simp [hj]
          · rw [List.getElem?_eq_none (by omega), List.getElem?_eq_none (by simp; omega)]
        conv => rhs; rw [this]
        have cong : ∀ l : List Nat, (∀ j ∈ l, j < t.kids.length) → (l.map q).flatMap (fun p => Ty.nodes p.n p.t) = (l.map fun j => (q j).t).flatMap (Ty.nodes m) := fun l hl => by
          induction l with
          | nil => rfl
          | cons j r ih =>
            rw [List.map_cons, List.map_cons, List.flatMap_cons, List.flatMap_cons, ih (fun k hk => hl k (List.mem_cons_of_mem _ hk)), (hq j (hl j (List.mem_cons_self ..))).1]
        exact cong _ fun j hj => by simpa using hj
      have := h.all
      refine this.trans ?_
      rw [List.map_append, List.map_cons, List.map_nil]
      unfold nodesE at hk ⊢
      rw [List.flatMap_cons, List.flatMap_append, hk]
      simp only [Ty.nodes, List.append_assoc, List.cons_append]
      refine List.Perm.append_left _ (List.Perm.cons _ ?_)
      exact List.perm_append_comm
  · exact absurd trivial hk0

end Go.Proofs.YtikoacgfnojoeaaGreatDoor
