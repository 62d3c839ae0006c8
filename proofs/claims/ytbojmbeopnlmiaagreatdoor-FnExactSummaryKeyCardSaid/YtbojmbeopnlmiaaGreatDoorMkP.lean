/-
 The key by which a maker finds a form, plainly: kinds, names and numbers are told apart by it. No program here.
-/
import Derived.Lib.ItoaNum
import Derived.Test.YtbojmbeopnlmiaaGreatDoorTxI
import Derived.Maps.OwnOps
import Derived.MapKept
import Derived.LaidEql
import Derived.Lib.OthersKept
import Derived.Laws.StructEq
namespace Go.Proofs.YtbojmbeopnlmiaaGreatDoor
open Go.Lib
def unDec (l : List UInt8) : Nat := l.foldl (fun a b => a * 10 + (b.toNat - 48)) 0
theorem dig_toNat (u : Nat) : (UInt8.ofNat (48 + u % 10)).toNat = 48 + u % 10 := by
 rw [UInt8.toNat_ofNat']
 exact Nat.mod_eq_of_lt (by omega)
theorem unDec_dec (u : Nat) : unDec (decDigits u) = u := by
 induction u using Nat.strongRecOn with
 | _ u ih =>
  rw [decDigits]
  split
  ·rename_i h
   have h1 := dig_toNat u
   rw [Nat.mod_eq_of_lt h] at h1
   show 0 * 10 + ((UInt8.ofNat (48 + u)).toNat - 48) = u
   omega
  ·have h1 := dig_toNat u
   have h2 := ih (u / 10) (by omega)
   unfold unDec at h2 ⊢
   rw [List.foldl_append, h2]
   show u / 10 * 10 + ((UInt8.ofNat (48 + u % 10)).toNat - 48) = u
   omega
theorem dec_inj {u v : Nat} (h : decDigits u = decDigits v) : u = v := by rw [← unDec_dec u, h, unDec_dec]
theorem dec_digit {u : Nat} {b : UInt8} (h : b ∈ decDigits u) : 48 ≤ b.toNat ∧ b.toNat ≤ 57 := by
 induction u using Nat.strongRecOn with
 | _ u ih =>
  rw [decDigits] at h
  split at h
  ·rename_i hu
   rw [List.mem_singleton] at h
   have h1 := dig_toNat u
   rw [Nat.mod_eq_of_lt hu] at h1
   subst h
   omega
  ·rw [List.mem_append, List.mem_singleton] at h
   rcases h with h | h
   ·exact ih (u / 10) (by omega) h
   ·have h1 := dig_toNat u
    subst h
    omega
theorem dec_ne (u : Nat) : decDigits u ≠ [] := by
 rw [decDigits]
 split <;> simp
def tailK (l : List (List UInt8)) : List UInt8 := l.flatMap fun t => 32 :: t
theorem tailK_app (a b : List (List UInt8)) : tailK (a ++ b) = tailK a ++ tailK b := by simp [tailK]
theorem tailK_one (a : List UInt8) : tailK [a] = 32 :: a := by simp [tailK]
theorem first_word (t : List UInt8) (r : List (List UInt8)) (h : (32 : UInt8) ∉ t) : (t ++ tailK r).takeWhile (fun b => b != 32) = t := by
 induction t with
 | nil =>
  cases r with
  | nil => rfl
  | cons x y => simp [tailK]
 | cons b t ih =>
  rw [List.mem_cons, not_or] at h
  have hb : (b != 32) = true := by rw [bne_iff_ne]; exact fun e => h.1 e.symm
  rw [List.cons_append, List.takeWhile_cons, hb]
  simp only [if_true]
  rw [ih h.2]
theorem tailK_inj : ∀ (l l' : List (List UInt8)), (∀ t ∈ l, (32 : UInt8) ∉ t) → (∀ t ∈ l', (32 : UInt8) ∉ t) → tailK l = tailK l' → l = l' := by
 intro l
 induction l with
 | nil =>
  intro l' _ _ h
  cases l' with
  | nil => rfl
  | cons a r => simp [tailK] at h
 | cons t r ih =>
  intro l' h1 h2 h
  cases l' with
  | nil => simp [tailK] at h
  | cons t' r' =>
   have e : t ++ tailK r = t' ++ tailK r' := by
    have e1 : tailK (t :: r) = 32 :: (t ++ tailK r) := rfl
    have e2 : tailK (t' :: r') = 32 :: (t' ++ tailK r') := rfl
    rw [e1, e2] at h
    exact (List.cons.inj h).2
   have e1 := first_word t r (h1 t (List.mem_cons_self ..))
   have e2 := first_word t' r' (h2 t' (List.mem_cons_self ..))
   rw [e, e2] at e1
   subst e1
   rw [ih r' (fun x hx => h1 x (List.mem_cons_of_mem _ hx)) (fun x hx => h2 x (List.mem_cons_of_mem _ hx)) (List.append_cancel_left e)]
theorem split_by {α : Type} (P : α → Prop) : ∀ (A A' B B' : List α), (∀ x ∈ A, P x) → (∀ x ∈ A', P x) → (∀ x ∈ B, ¬ P x) → (∀ x ∈ B', ¬ P x) → A ++ B = A' ++ B' → A = A' ∧ B = B' := by
 intro A
 induction A with
 | nil =>
  intro A' B B' _ h2 h3 _ h
  cases A' with
  | nil => exact ⟨rfl, h⟩
  | cons a r =>
   rw [List.nil_append] at h
   subst h
   exact absurd (h2 a (List.mem_cons_self ..)) (h3 a (by simp))
 | cons a r ih =>
  intro A' B B' h1 h2 h3 h4 h
  cases A' with
  | nil =>
   rw [List.nil_append] at h
   subst h
   exact absurd (h1 a (List.mem_cons_self ..)) (h4 a (by simp))
  | cons a' r' =>
   rw [List.cons_append, List.cons_append, List.cons.injEq] at h
   obtain ⟨rfl, h⟩ := h
   obtain ⟨q1, q2⟩ := ih r' B B' (fun x hx => h1 x (List.mem_cons_of_mem _ hx)) (fun x hx => h2 x (List.mem_cons_of_mem _ hx)) h3 h4 h
   exact ⟨by rw [q1], q2⟩
def keyF (k : Int) (nms : List ByteArray) (ks : List Nat) : List UInt8 := itoa k ++ tailK (nms.map fun x => x.data.toList) ++ tailK (ks.map decDigits)
def keyName (x : ByteArray) : Prop := (32 : UInt8) ∉ x.data.toList ∧ ∃ b r, x.data.toList = b :: r ∧ 57 < b.toNat
theorem keyF_inj {k k' : Int} {a a' : List ByteArray} {s s' : List Nat} (h0 : 0 ≤ k ∧ k ≤ 7) (h1 : 0 ≤ k' ∧ k' ≤ 7) (ha : ∀ x ∈ a, keyName x) (ha' : ∀ x ∈ a', keyName x) (h : keyF k a s = keyF k' a' s') : k = k' ∧ a = a' ∧ s = s' := by
 have hk : ∀ z : Int, 0 ≤ z ∧ z ≤ 7 → itoa z = [UInt8.ofNat (48 + z.toNat)] := fun z hz => by
  unfold itoa
  rw [if_neg (by omega), decDigits_one (by omega)]
 unfold keyF at h
 rw [hk k h0, hk k' h1, List.append_assoc, List.append_assoc, List.singleton_append, List.singleton_append, List.cons.injEq, ← tailK_app, ← tailK_app] at h
 obtain ⟨e1, e2⟩ := h
 have ek : k = k' := by
  have e3 := congrArg UInt8.toNat e1
  rw [UInt8.toNat_ofNat', UInt8.toNat_ofNat', Nat.mod_eq_of_lt (by omega), Nat.mod_eq_of_lt (by omega)] at e3
  omega
 have hn : ∀ (l : List ByteArray), (∀ x ∈ l, keyName x) → ∀ t ∈ l.map (fun x => x.data.toList), ∃ b r, t = b :: r ∧ 57 < b.toNat := fun l hl t ht => by
  obtain ⟨x, hx, rfl⟩ := List.mem_map.1 ht
  exact (hl x hx).2
 have hd : ∀ (l : List Nat), ∀ t ∈ l.map decDigits, ¬ ∃ b r, t = b :: r ∧ 57 < b.toNat := fun l t ht => by
  obtain ⟨x, _, rfl⟩ := List.mem_map.1 ht
  rintro ⟨b, r, e, hb⟩
  have := dec_digit (u := x) (b := b) (by rw [e]; simp)
  omega
 have hb : ∀ (l : List ByteArray) (m : List Nat), (∀ x ∈ l, keyName x) → ∀ t ∈ l.map (fun x => x.data.toList) ++ m.map decDigits, (32 : UInt8) ∉ t := fun l m hl t ht => by
  rcases List.mem_append.1 ht with h | h
  ·obtain ⟨x, hx, rfl⟩ := List.mem_map.1 h
   exact (hl x hx).1
  ·obtain ⟨x, _, rfl⟩ := List.mem_map.1 h
   intro h32
   have := dec_digit h32
   simp at this
 have e4 := tailK_inj _ _ (hb a s ha) (hb a' s' ha') e2
 obtain ⟨q1, q2⟩ := split_by (fun t : List UInt8 => ∃ b r, t = b :: r ∧ 57 < b.toNat) _ _ _ _ (hn a ha) (hn a' ha') (hd s) (hd s') e4
 refine ⟨ek, ?_, ?_⟩
 ·refine (List.map_inj_right ?_).1 q1
  intro x y hxy
  obtain ⟨⟨x⟩⟩ := x
  obtain ⟨⟨y⟩⟩ := y
  exact congrArg _ (congrArg _ hxy)
 ·exact (List.map_inj_right fun x y hxy => dec_inj hxy).1 q2
end Go.Proofs.YtbojmbeopnlmiaaGreatDoor
namespace Go.Proofs.YtbojmbeopnlmiaaGreatDoor
open Go.RowKit
def Ty.nodes : Nat → Ty → List Ty
 | 0, _ => []
 | n + 1, t => t :: t.kids.flatMap (Ty.nodes n)
theorem nodes_len (n : Nat) (t : Ty) : (Ty.nodes n t).length ≤ 1 + Ty.bulk n t := by
 induction n generalizing t with
 | zero => simp [Ty.nodes]
 | succ n ih =>
  rw [Ty.nodes, List.length_cons, List.length_flatMap, Ty.bulk]
  have : ∀ ks : List Ty, (ks.map fun k => (Ty.nodes n k).length).sum ≤ ks.length + (ks.map (Ty.bulk n)).sum := fun ks => by
   induction ks with
   | nil => simp
   | cons k r ihr =>
    have := ih k
    simp only [List.map_cons, List.sum_cons, List.length_cons]
    omega
  have := this t.kids
  omega
structure Ent where
 n : Nat
 lo : Nat
 hi : Nat
 cs : List Value
 t : Ty
def Ent.fits (w : World) (p : Ent) : Prop := TyIn w p.n p.lo p.hi p.cs p.t
def TyUp (w : World) (n lo hi : Nat) (cs : List Value) (t : Ty) : Prop := ∃ (m : Nat) (vn : Value) (a : Option Addr) (b cap : Nat), n = m + 1 ∧ cs = [.int .i64 t.kind, .string t.name, vn, .slice a t.kids.length cap] ∧ (∃ an ln cn, vn = .slice an ln cn) ∧ t.kids.length ≤ maxLen ∧ (0 < t.kids.length → a = some ⟨b, 0, none⟩ ∧ lo ≤ b ∧ b < hi ∧ ∃ cur e, w.heap[b]? = some (.cells cur e (0, 0))) ∧
 ∃ L : Nat → Nat, (∀ j, j ≤ t.kids.length → lo ≤ L j ∧ L j ≤ hi) ∧ (∀ i j, i ≤ j → j ≤ t.kids.length → L i ≤ L j) ∧ (∀ j, j < t.kids.length → b < L j ∨ L (j + 1) ≤ b) ∧ ∀ j (h : j < t.kids.length), ∃ cs, TyIn w m (L j) (L (j + 1)) cs t.kids[j] ∧ ∀ c u, cs[c]? = some u → w.cell? ⟨b, j * 4 + c, none⟩ = some u
def Ent.up (w : World) (p : Ent) : Prop := TyUp w p.n p.lo p.hi p.cs p.t
theorem TyIn.up {w : World} {n lo hi : Nat} {cs : List Value} {t : Ty} (h : TyIn w n lo hi cs t) : TyUp w n lo hi cs t := by
 cases n with
 | zero => exact h.elim
 | succ m =>
  obtain ⟨vn, vk, mid, h1, h2, h3, h4, h5, hmid, b, cap, e, g1, g2, g0, L, g3, g4, g5⟩ := h
  refine ⟨m, vn, some ⟨b, 0, none⟩, b, cap, rfl, by rw [h1, e], ?_, h5, fun _ => ⟨rfl, by omega, g2, g0⟩, L, fun j hj => ⟨by have := (g3 j hj).1; omega, (g3 j hj).2⟩, g4, fun j hj => .inl (g3 j (by omega)).1, g5⟩
  rcases h4.1.1.2 with ⟨q, h0⟩ | ⟨g, c, cur, q, _⟩
  ·exact ⟨none, 0, 0, q⟩
  ·exact ⟨_, _, c, q⟩
theorem TyUp.len {w : World} {n lo hi : Nat} {cs : List Value} {t : Ty} (h : TyUp w n lo hi cs t) : cs.length = 4 := by
 obtain ⟨m, vn, a, b, cap, _, e, _⟩ := h
 rw [e]; rfl
theorem TyUp.shape {w : World} {n lo hi : Nat} {cs : List Value} {t : Ty} (h : TyUp w n lo hi cs t) : ∃ an ln cn ak lk ck, cs = [.int .i64 t.kind, .string t.name, .slice an ln cn, .slice ak lk ck] := by
 obtain ⟨m, vn, a, b, cap, _, e, ⟨an, ln, cn, q⟩, _⟩ := h
 exact ⟨an, ln, cn, a, _, cap, by rw [e, q]⟩
theorem TyUp.below {w w' : World} {n lo hi B : Nat} {cs : List Value} {t : Ty} (h : TyUp w n lo hi cs t) (hb : Below B w w') (hB : w.heap.size ≤ B) : TyUp w' n lo hi cs t := by
 obtain ⟨m, vn, a, b, cap, h1, h2, h3, h4, h5, L, g1, g2, g3, g4⟩ := h
 have hbb : Below w.heap.size w w' := hb.mono hB
 refine ⟨m, vn, a, b, cap, h1, h2, h3, h4, fun h0 => ?_, L, g1, g2, g3, fun j hj => ?_⟩
 ·obtain ⟨q1, q2, q3, cur, e, q4⟩ := h5 h0
  exact ⟨q1, q2, q3, cur, e, (hbb.block b (Array.getElem?_eq_some_iff.1 q4).1).trans q4⟩
 ·obtain ⟨cs, k1, k2⟩ := g4 j hj
  refine ⟨cs, TyIn.below k1 hbb, fun c u hc => ?_⟩
  have := k2 c u hc
  exact (hbb.cell (p := ⟨b, j * 4 + c, none⟩) (World.block_lt_of_cell? w ⟨b, j * 4 + c, none⟩ this)).trans this
def Ent.apart (p q : Ent) : Prop := p.hi ≤ q.lo ∨ q.hi ≤ p.lo
def flatE (l : List Ent) : List Value := l.flatMap (·.cs)
def nodesE (l : List Ent) : List Ty := l.flatMap fun p => Ty.nodes p.n p.t
theorem flatE_len {w : World} {l : List Ent} (h : ∀ p ∈ l, p.up w) : (flatE l).length = l.length * 4 := by
 induction l with
 | nil => rfl
 | cons p r ih =>
  have h1 := (h p (List.mem_cons_self ..)).len
  have h2 := ih fun q hq => h q (List.mem_cons_of_mem _ hq)
  unfold flatE at h2 ⊢
  rw [List.flatMap_cons, List.length_append, h1, h2, List.length_cons]
  omega
theorem flatE_at {w : World} {l : List Ent} (h : ∀ p ∈ l, p.up w) (j c : Nat) (hj : j < l.length) (hc : c < 4) : (flatE l)[j * 4 + c]? = l[j].cs[c]? := by
 induction l generalizing j with
 | nil => simp at hj
 | cons p r ih =>
  have h1 := (h p (List.mem_cons_self ..)).len
  unfold flatE at ih ⊢
  rw [List.flatMap_cons]
  cases j with
  | zero =>
   rw [List.getElem?_append_left (by omega)]
   simp
  | succ j =>
   rw [List.getElem?_append_right (by omega), h1, show (j + 1) * 4 + c - 4 = j * 4 + c by omega, ih (fun q hq => h q (List.mem_cons_of_mem _ hq)) j (by simpa using hj)]
   simp
theorem nodesE_len {w : World} {l : List Ent} (h : ∀ p ∈ l, p.up w) : l.length ≤ (nodesE l).length := by
 induction l with
 | nil => simp
 | cons p r ih =>
  have h1 : 1 ≤ (Ty.nodes p.n p.t).length := by
   have := h p (List.mem_cons_self ..)
   obtain ⟨m, _, _, _, _, hp, _⟩ := this
   rw [hp]
   simp [Ty.nodes]
  have h2 := ih fun q hq => h q (List.mem_cons_of_mem _ hq)
  unfold nodesE at h2 ⊢
  rw [List.flatMap_cons, List.length_append, List.length_cons]
  omega
structure Queue (w : World) (ts : List Ty) (V P : List Ent) (S : List Nat) : Prop where
 fits : ∀ p ∈ V ++ P, p.up w
 apart : P.Pairwise Ent.apart
 seen : ∀ s ∈ S, ∀ p ∈ P, s < p.lo ∨ p.hi ≤ s
 all : ts.Perm (V.map (·.t) ++ nodesE P)
theorem Queue.start {w : World} {n lo hi : Nat} {cs : List Value} {t : Ty} (h : TyUp w n lo hi cs t) : Queue w (Ty.nodes n t) [] [⟨n, lo, hi, cs, t⟩] [] where
 fits := fun p hp => by
  simp only [List.nil_append, List.mem_singleton] at hp
  subst hp
  exact h
 apart := List.pairwise_singleton _ _
 seen := fun s hs => by simp at hs
 all := by simp [nodesE]
theorem Queue.lenV {w : World} {ts : List Ty} {V P : List Ent} {S : List Nat} (h : Queue w ts V P S) : V.length + P.length ≤ ts.length := by
 have h1 := h.all.length_eq
 have h2 := nodesE_len (w := w) (l := P) fun p hp => h.fits p (List.mem_append_right _ hp)
 rw [List.length_append, List.length_map] at h1
 omega
theorem Queue.head {w : World} {ts : List Ty} {V R : List Ent} {p : Ent} {S : List Nat} (h : Queue w ts V (p :: R) S) :
  ∃ (vn : Value) (a : Option Addr) (b cap : Nat) (K : List Ent) (S1 : List Nat), p.cs = [.int .i64 p.t.kind, .string p.t.name, vn, .slice a K.length cap] ∧ (0 < K.length → a = some ⟨b, 0, none⟩ ∧ b ∉ S ∧ b ∈ S1 ∧ ∃ cur e, w.heap[b]? = some (.cells cur e (0, 0))) ∧ (∀ s ∈ S1, s < w.heap.size) ∧ K.length ≤ maxLen ∧
   (∀ j (hj : j < K.length), K[j].up w ∧ ∀ c u, K[j].cs[c]? = some u → w.cell? ⟨b, j * 4 + c, none⟩ = some u) ∧ Queue w ts (V ++ [p]) (R ++ K) (S1 ++ S) := by
 have hf := h.fits p (List.mem_append_right _ (List.mem_cons_self ..))
 obtain ⟨n, lo, hi, cs, t⟩ := p
 unfold Ent.up at hf
 obtain ⟨m, vn, a, b, cap, hn, h1, hvn, h5, g0, L, g3, g4, gb, g5⟩ := hf
 replace hn : n = m + 1 := hn
 replace h1 : cs = [.int .i64 t.kind, .string t.name, vn, .slice a t.kids.length cap] := h1
 replace g0 : 0 < t.kids.length → a = some ⟨b, 0, none⟩ ∧ lo ≤ b ∧ b < hi ∧ ∃ cur e, w.heap[b]? = some (.cells cur e (0, 0)) := g0
 replace g3 : ∀ j, j ≤ t.kids.length → lo ≤ L j ∧ L j ≤ hi := g3
 replace g4 : ∀ i j, i ≤ j → j ≤ t.kids.length → L i ≤ L j := g4
 replace gb : ∀ j, j < t.kids.length → b < L j ∨ L (j + 1) ≤ b := gb
 subst hn
 by_cases hk0 : True
 ·obtain ⟨S1, hS1, hS2⟩ : ∃ S1 : List Nat, (∀ s ∈ S1, s = b ∧ 0 < t.kids.length) ∧ (0 < t.kids.length → b ∈ S1) := by
   by_cases c : 0 < t.kids.length
   ·exact ⟨[b], fun s hs => ⟨List.mem_singleton.1 hs, c⟩, fun _ => by simp⟩
   ·exact ⟨[], fun s hs => by simp at hs, fun q => absurd q c⟩
  have each : ∀ j, j < t.kids.length → ∃ q : Ent, q.n = m ∧ q.lo = L j ∧ q.hi = L (j + 1) ∧ t.kids[j]? = some q.t ∧ q.up w ∧ ∀ c u, q.cs[c]? = some u → w.cell? ⟨b, j * 4 + c, none⟩ = some u := fun j hj => by
   obtain ⟨cs', k1, k2⟩ := g5 j hj
   exact ⟨⟨m, L j, L (j + 1), cs', t.kids[j]⟩, rfl, rfl, rfl, List.getElem?_eq_getElem hj, TyIn.up k1, k2⟩
  haveI : Inhabited Ent := ⟨⟨0, 0, 0, [], .mk 0 ByteArray.empty [] []⟩⟩
  obtain ⟨q, hq⟩ := Go.Deep.choose_lt each
  have hK : ((List.range t.kids.length).map q).length = t.kids.length := by simp
  have hKj : ∀ j (hj : j < ((List.range t.kids.length).map q).length), ((List.range t.kids.length).map q)[j] = q j := fun j hj => by simp
  have memK : ∀ x ∈ (List.range t.kids.length).map q, ∃ j, j < t.kids.length ∧ x = q j := fun x hx => by
   obtain ⟨j, hj, rfl⟩ := List.mem_map.1 hx
   exact ⟨j, by simpa using hj, rfl⟩
  have apR := List.pairwise_cons.1 h.apart
  refine ⟨vn, a, b, cap, (List.range t.kids.length).map q, S1, ?_, ?_, ?_, by rw [hK]; exact h5, fun j hj => ?_, ?_, ?_, ?_, ?_⟩
  ·rw [hK]
   exact h1
  ·rw [hK]
   intro h0
   obtain ⟨q1, q2, q3, q4⟩ := g0 h0
   refine ⟨q1, fun hb => ?_, hS2 h0, q4⟩
   have := h.seen b hb _ (List.mem_cons_self ..)
   simp only at this
   omega
  ·intro s hs
   obtain ⟨rfl, h0⟩ := hS1 s hs
   obtain ⟨_, _, _, cur, e, q4⟩ := g0 h0
   exact (Array.getElem?_eq_some_iff.1 q4).1
  ·rw [hKj j hj]
   obtain ⟨_, _, _, _, k5, k6⟩ := hq j (by omega)
   exact ⟨k5, k6⟩
  ·intro x hx
   simp only [List.mem_append, List.mem_singleton] at hx
   rcases hx with (hx | hx) | hx | hx
   ·exact h.fits x (by simp [hx])
   ·exact h.fits x (by simp [hx])
   ·exact h.fits x (by simp [hx])
   ·obtain ⟨j, hj, rfl⟩ := memK x hx
    exact (hq j hj).2.2.2.2.1
  ·rw [List.pairwise_append]
   refine ⟨apR.2, ?_, ?_⟩
   ·rw [List.pairwise_map]
    refine List.Pairwise.imp_of_mem ?_ List.pairwise_lt_range
    intro i j hi hj hij
    have hi : i < t.kids.length := by simpa using hi
    have hj : j < t.kids.length := by simpa using hj
    obtain ⟨_, _, a1, _⟩ := hq i hi
    obtain ⟨_, a2, _⟩ := hq j hj
    left
    rw [a1, a2]
    exact g4 (i + 1) j (by omega) (by omega)
   ·intro r hr x hx
    obtain ⟨j, hj, rfl⟩ := memK x hx
    obtain ⟨_, a1, a2, _⟩ := hq j hj
    have b1 := g3 j (by omega)
    have b2 := g3 (j + 1) (by omega)
    have := apR.1 r hr
    unfold Ent.apart at this ⊢
    simp only at this
    rw [a1, a2]
    omega
  ·intro s hs x hx
   rw [List.mem_append] at hs
   simp only [List.mem_append] at hx
   rcases hx with hx | hx
   ·rcases hs with hs | hs
    ·obtain ⟨rfl, h0⟩ := hS1 s hs
     obtain ⟨_, q2, q3, _⟩ := g0 h0
     have := apR.1 x hx
     unfold Ent.apart at this
     simp only at this
     omega
    ·exact h.seen s hs x (List.mem_cons_of_mem _ hx)
   ·obtain ⟨j, hj, rfl⟩ := memK x hx
    obtain ⟨_, a1, a2, _⟩ := hq j hj
    have b1 := g3 j (by omega)
    have b2 := g3 (j + 1) (by omega)
    rw [a1, a2]
    rcases hs with hs | hs
    ·obtain ⟨rfl, h0⟩ := hS1 s hs
     exact gb j hj
    ·have := h.seen s hs _ (List.mem_cons_self ..)
     simp only at this
     omega
  ·have hk : nodesE ((List.range t.kids.length).map q) = t.kids.flatMap (Ty.nodes m) := by
    unfold nodesE
    have : t.kids = (List.range t.kids.length).map fun j => (q j).t := by
     apply List.ext_getElem?
     intro j
     by_cases hj : j < t.kids.length
     ·rw [(hq j hj).2.2.2.1]
      simp [hj]
     ·rw [List.getElem?_eq_none (by omega), List.getElem?_eq_none (by simp; omega)]
    conv => rhs; rw [this]
    have cong : ∀ l : List Nat, (∀ j ∈ l, j < t.kids.length) → (l.map q).flatMap (fun p => Ty.nodes p.n p.t) = (l.map fun j => (q j).t).flatMap (Ty.nodes m) := fun l hl => by
     induction l with
     | nil => rfl
     | cons j r ih =>
      rw [List.map_cons, List.map_cons, List.flatMap_cons, List.flatMap_cons, ih (fun k hk => hl k (List.mem_cons_of_mem _ hk)), (hq j (hl j (List.mem_cons_self ..))).1]
    exact cong _ fun j hj => by simpa using hj
   have := h.all
   refine this.trans ?_
   rw [List.map_append, List.map_cons, List.map_nil]
   unfold nodesE at hk ⊢
   rw [List.flatMap_cons, List.flatMap_append, hk]
   simp only [Ty.nodes, List.append_assoc, List.cons_append]
   refine List.Perm.append_left _ (List.Perm.cons _ ?_)
   exact List.perm_append_comm
 ·exact absurd trivial hk0
def Places (w : World) (M : Nat) (S : Addr → Prop) : Prop := ∃ es clock, w.heap[M]? = some (.map es clock) ∧ ∀ x ∈ es.toList, ∃ a cur e, x.key = .pointer (some a) ∧ S a ∧ w.heap[a.block]? = some (.cells cur e (0, 0))
theorem run_equalIn_place (d : Nat) {P : Program} {w : World} {kt te : TypeId} {j : TypeInfo} {a b : Addr} {ca cb : Array Value} {ta tb : TypeId} (hp : P.underlying kt = some (.pointer te)) (hte : P.info? te = some j) (hsz : j.size ≠ 0) (hne : a ≠ b)
  (ha : w.heap[a.block]? = some (.cells ca ta (0, 0))) (hb : w.heap[b.block]? = some (.cells cb tb (0, 0))) : (Op.equalIn (d + 1) kt (.pointer (some a)) (.pointer (some b))).run P w = .ok false w := by
 simp [Op.equalIn, run_underlying hp, typeInfo, sizeOf, hte, hsz]
 exact run_sameAddr_other _ hne ha hb
theorem run_equal_place {P : Program} {w : World} {kt te : TypeId} {j : TypeInfo} {a b : Addr} {ca cb : Array Value} {ta tb : TypeId} (hp : P.underlying kt = some (.pointer te)) (hte : P.info? te = some j) (hsz : j.size ≠ 0) (hne : a ≠ b)
  (ha : w.heap[a.block]? = some (.cells ca ta (0, 0))) (hb : w.heap[b.block]? = some (.cells cb tb (0, 0))) : (Op.equal kt (.pointer (some a)) (.pointer (some b))).run P w = .ok false w :=
 run_equalIn_place 9999 hp hte hsz hne ha hb
theorem run_findAsking_place {P : Program} {w : World} {kt te : TypeId} {j : TypeInfo} {a : Addr} {ca : Array Value} {ta : TypeId} (hp : P.underlying kt = some (.pointer te)) (hte : P.info? te = some j) (hsz : j.size ≠ 0) (ha : w.heap[a.block]? = some (.cells ca ta (0, 0))) :
  ∀ (es : List MapEntry) (i : Nat), (∀ x ∈ es, ∃ b cur e, x.key = .pointer (some b) ∧ b ≠ a ∧ w.heap[b.block]? = some (.cells cur e (0, 0))) → (Instr.findAsking kt (.pointer (some a)) es i).run P w = .ok none w := by
 intro es
 induction es with
 | nil => intro i _; rfl
 | cons x r ih =>
  intro i h
  obtain ⟨b, cur, e, hk, hne, hb⟩ := h x (List.mem_cons_self ..)
  have h1 := run_equal_place (P := P) hp hte hsz (fun e => hne e.symm) ha hb
  have h2 := ih (i + 1) fun y hy => h y (List.mem_cons_of_mem _ hy)
  simp only [Instr.findAsking, hk]
  simp [h1, h2, Result.andThen]
theorem run_findKey_place {P : Program} {w : World} {kt te : TypeId} {j : TypeInfo} {a : Addr} {ca : Array Value} {ta : TypeId} (hp : P.underlying kt = some (.pointer te)) (hte : P.info? te = some j) (hsz : j.size ≠ 0) (ha : w.heap[a.block]? = some (.cells ca ta (0, 0)))
  (es : List MapEntry) (h : ∀ x ∈ es, ∃ b cur e, x.key = .pointer (some b) ∧ b ≠ a ∧ w.heap[b.block]? = some (.cells cur e (0, 0))) : (Instr.findKey kt (.pointer (some a)) es).run P w = .ok none w := by
 cases es with
 | nil => simp [Instr.findKey, run_underlying hp, Instr.findNow]
 | cons x r =>
  have h2 := run_findAsking_place (P := P) hp hte hsz ha (x :: r) 0 h
  obtain ⟨b, cur, e, hk, hne, hb⟩ := h x (List.mem_cons_self ..)
  simp [Instr.findKey, run_underlying hp, Instr.findNow, hk, Instr.sameNow, h2, Result.andThen]
theorem run_checkKeyN_place (n : Nat) {P : Program} {w : World} {kt te : TypeId} {a : Addr} (hp : P.underlying kt = some (.pointer te)) (e : Bool) : (Instr.checkKey e (n + 1) kt (.pointer (some a))).run P w = .ok () w := by
 simp [Instr.checkKey, run_underlying hp]
theorem run_checkKey_place {P : Program} {w : World} {kt te : TypeId} {a : Addr} (hp : P.underlying kt = some (.pointer te)) (e : Bool) : (Instr.checkKey e 10000 kt (.pointer (some a))).run P w = .ok () w := run_checkKeyN_place 9999 hp e
theorem wpList_lookup_place {P : Program} (w : World) {ops : Array Oper} {rest : List Oper} {o : Oper} {a : Act} {Q : Exit → Act → World → Prop}
  (hg : o.guard = none) (m x : Operand) (t : TypeId) (hop : o.op = Op.lookup t m x false)
  (k e te : TypeId) (ht : P.underlying t = some (.map k e)) (hp : P.underlying k = some (.pointer te)) (j : TypeInfo) (hte : P.info? te = some j) (hsz : j.size ≠ 0) (hz : (zeroValue e).run P w = .ok (.int .i64 0) w)
  (M : Nat) (S : Addr → Prop) (hS : Places w M S) (p : Addr) (hpS : ¬ S p) (hpc : ∃ cur e, w.heap[p.block]? = some (.cells cur e (0, 0))) (hm : a.eval m = .map (some M)) (hx : a.eval x = .pointer (some p))
  (hK : wpList P ops Q rest (a.put o.dst (.int .i64 0)) w) :
  wpList P ops Q (o :: rest) a w := by
 refine wpList_plain hg fun K' hK' => ?_
 obtain ⟨es, clock, hb, hes⟩ := hS
 obtain ⟨cur, et, hc⟩ := hpc
 have h1 := run_findKey_place (P := P) hp hte hsz hc es.toList fun y hy => by
  obtain ⟨b, c, e, q1, q2, q3⟩ := hes y hy
  exact ⟨b, c, e, q1, fun e => hpS (e ▸ q2), q3⟩
 have h2 : (Instr.lookup t (.map (some M)) (.pointer (some p)) false).run P w = .ok (.int .i64 0) w := by
  simp [Instr.lookup, run_underlying ht, MapKept.run_getObj_map hb, run_checkKey_place hp, h1, hz, Result.andThen]
 unfold Oper.wp
 simp [execOp, hop, hm, hx, h2, Result.andThen]
 exact hK' _ _ hK
def But (M : Nat) (w w' : World) : Prop := w'.os = w.os ∧ w'.tape = w.tape ∧ w'.output = w.output ∧ w'.heap.size = w.heap.size ∧ ∀ b, b ≠ M → w'.heap[b]? = w.heap[b]?
theorem But.below {M B : Nat} {w w' : World} (h : But M w w') (hB : B ≤ M) : Below B w w' := ⟨h.1, h.2.1, h.2.2.1, by rw [h.2.2.2.1]; exact Nat.le_refl _, fun k hk => h.2.2.2.2 k (by omega)⟩
theorem But.owns {M B e z n : Nat} {w w' : World} {v : Value} {xs : List Value} (h : But M w w') {es : Array MapEntry} {clock : Nat} (hM : w.heap[M]? = some (.map es clock)) (ho : w.ownsRow B e z v n xs) : w'.ownsRow B e z v n xs := by
 refine ⟨ho.1, ?_⟩
 rcases ho.2 with g | ⟨g, cap, cur, hv, hg, hh, r⟩
 ·exact .inl g
 ·refine .inr ⟨g, cap, cur, hv, hg, ?_, r⟩
  rw [h.2.2.2.2 g (fun e => by subst e; rw [hM] at hh; simp at hh)]
  exact hh
theorem wpList_mapUpdate_place {P : Program} (w : World) {ops : Array Oper} {rest : List Oper} {o : Oper} {a : Act} {Q : Exit → Act → World → Prop}
  (hg : o.guard = none) (m x v : Operand) (t : TypeId) (hop : o.op = Op.mapUpdate t m x v)
  (k e te : TypeId) (ht : P.underlying t = some (.map k e)) (hp : P.underlying k = some (.pointer te)) (j : TypeInfo) (hte : P.info? te = some j) (hsz : j.size ≠ 0)
  (M : Nat) (S : Addr → Prop) (hS : Places w M S) (p : Addr) (hpS : ¬ S p) (hpc : ∃ cur e, w.heap[p.block]? = some (.cells cur e (0, 0))) (hm : a.eval m = .map (some M)) (hx : a.eval x = .pointer (some p))
  (hK : ∀ w', Places w' M (fun q => S q ∨ q = p) → But M w w' → wpList P ops Q rest (a.put o.dst undef) w') :
  wpList P ops Q (o :: rest) a w := by
 refine wpList_plain hg fun K' hK' => ?_
 obtain ⟨es, clock, hb, hes⟩ := hS
 obtain ⟨cur, et, hc⟩ := hpc
 have h1 := run_findKey_place (P := P) hp hte hsz hc es.toList fun y hy => by
  obtain ⟨b, c, e, q1, q2, q3⟩ := hes y hy
  exact ⟨b, c, e, q1, fun e => hpS (e ▸ q2), q3⟩
 have h2 : (Instr.mapUpdate t (.map (some M)) (.pointer (some p)) (a.eval v)).run P w = .ok () { w with heap := w.heap.setIfInBounds M (.map (es.push { key := .pointer (some p), val := a.eval v, born := clock }) (clock + 1)) } := by
  simp [Instr.mapUpdate, run_underlying ht, MapKept.run_getObj_map hb, run_checkKey_place hp, h1, MapKept.run_setObj_map _ hb, Result.andThen]
 obtain ⟨n1, n2⟩ := MapKept.heap_set (o' := .map (es.push { key := .pointer (some p), val := a.eval v, born := clock }) (clock + 1)) hb
 unfold Oper.wp
 simp [execOp, hop, hm, hx, h2, Result.andThen]
 refine hK' _ _ (hK _ ⟨_, _, n1, fun y hy => ?_⟩ ⟨rfl, rfl, rfl, by simp, fun b hb => n2 b hb⟩)
 have far : ∀ (b : Nat) (c : Array Value) (e : TypeId), w.heap[b]? = some (Obj.cells c e (0, 0)) → (w.heap.setIfInBounds M (.map (es.push { key := .pointer (some p), val := a.eval v, born := clock }) (clock + 1)))[b]? = some (Obj.cells c e (0, 0)) := fun b c e h => by
  rw [n2 b (fun e => by subst e; rw [hb] at h; simp at h)]
  exact h
 simp only [Array.toList_push, List.mem_append, List.mem_singleton] at hy
 rcases hy with hy | rfl
 ·obtain ⟨b, c, e, q1, q2, q3⟩ := hes y hy
  exact ⟨b, c, e, q1, .inl q2, far _ _ _ q3⟩
 ·exact ⟨p, cur, et, rfl, .inr rfl, far _ _ _ hc⟩
theorem Places.made {w : World} {M : Nat} (h : w.heap[M]? = some (.map #[] 0)) (S : Addr → Prop) : Places w M S := ⟨#[], 0, h, fun x hx => by simp at hx⟩
theorem Places.mono {w : World} {M : Nat} {S S' : Addr → Prop} (h : Places w M S) (hS : ∀ a, S a → S' a) : Places w M S' := by
 obtain ⟨es, clock, hb, hes⟩ := h
 exact ⟨es, clock, hb, fun x hx => by obtain ⟨a, c, e, q1, q2, q3⟩ := hes x hx; exact ⟨a, c, e, q1, hS a q2, q3⟩⟩
theorem Places.kept {w w' : World} {M B : Nat} {S : Addr → Prop} (h : Places w M S) (hM : w'.heap[M]? = w.heap[M]?) (hS : ∀ a, S a → a.block < B) (hb : ∀ b, b < B → w'.heap[b]? = w.heap[b]?) : Places w' M S := by
 obtain ⟨es, clock, h1, hes⟩ := h
 exact ⟨es, clock, hM.trans h1, fun x hx => by obtain ⟨a, c, e, q1, q2, q3⟩ := hes x hx; exact ⟨a, c, e, q1, q2, (hb _ (hS a q2)).trans q3⟩⟩
theorem Places.map {w : World} {M : Nat} {S : Addr → Prop} (h : Places w M S) : ∃ es clock, w.heap[M]? = some (.map es clock) := by
 obtain ⟨es, clock, h1, _⟩ := h
 exact ⟨es, clock, h1⟩
def lookD : List (ByteArray × Value) → ByteArray → Option Value
 | [], _ => none
 | p :: r, s => if p.1 = s then some p.2 else lookD r s
theorem lookD_app (D E : List (ByteArray × Value)) (s : ByteArray) : lookD (D ++ E) s = (lookD D s).or (lookD E s) := by
 induction D with
 | nil => rfl
 | cons p r ih =>
  show (if p.1 = s then some p.2 else lookD (r ++ E) s) = (if p.1 = s then some p.2 else lookD r s).or _
  split
  ·rfl
  ·exact ih
def SMap (w : World) (M : Nat) (D : List (ByteArray × Value)) : Prop := ∃ es clock, w.heap[M]? = some (.map es clock) ∧ es.toList.map (fun x => (x.key, x.val)) = D.map fun p => (Value.string p.1, p.2)
theorem beq_textD (a b : ByteArray) : (a == b) = decide (a = b) := by
 by_cases h : a = b
 ·subst h
  rw [beq_toListBytes, decide_eq_true rfl]
  exact beq_self_eq_true _
 ·rw [beq_toListBytes, decide_eq_false h, beq_eq_false_iff_ne]
  intro e
  refine h ?_
  rw [ByteArray.toList_eq, ByteArray.toList_eq] at e
  obtain ⟨⟨x⟩⟩ := a
  obtain ⟨⟨y⟩⟩ := b
  exact congrArg _ (congrArg _ e)
theorem findNow_text (s : ByteArray) : ∀ (es : List MapEntry) (D : List (ByteArray × Value)) (i : Nat), es.map (fun x => (x.key, x.val)) = D.map (fun p => (Value.string p.1, p.2)) → ∃ r, Instr.findNow .string (.string s) es i = some r ∧ r.map (·.2) = lookD D s := by
 intro es
 induction es with
 | nil =>
  intro D i h
  cases D with
  | nil => exact ⟨none, rfl, rfl⟩
  | cons p q => simp at h
 | cons x r ih =>
  intro D i h
  cases D with
  | nil => simp at h
  | cons p q =>
   simp only [List.map_cons, List.cons.injEq, Prod.mk.injEq] at h
   obtain ⟨⟨hk, hv⟩, hr⟩ := h
   obtain ⟨u, hu1, hu2⟩ := ih q (i + 1) hr
   by_cases c : p.1 = s
   ·refine ⟨some (i, x.val), ?_, ?_⟩
    ·simp only [Instr.findNow, hk, Instr.sameNow, beq_textD, c, decide_true]
    ·show some x.val = if p.1 = s then some p.2 else lookD q s
     rw [if_pos c, hv]
   ·refine ⟨u, ?_, ?_⟩
    ·have c' : ¬ s = p.1 := fun e => c e.symm
     simp only [Instr.findNow, hk, Instr.sameNow, beq_textD, c', decide_false]
     exact hu1
    ·show u.map (·.2) = if p.1 = s then some p.2 else lookD q s
     rw [if_neg c]
     exact hu2
theorem run_checkKey_text (n : Nat) {P : Program} {w : World} {k : TypeId} {s : ByteArray} (hk : P.underlying k = some .string) (e : Bool) : (Instr.checkKey e (n + 1) k (.string s)).run P w = .ok () w := by
 simp [Instr.checkKey, run_underlying hk]
theorem run_lookup_text {P : Program} {w : World} {T k e : TypeId} {M : Nat} {D : List (ByteArray × Value)} {z : Value} (hT : P.underlying T = some (.map k e)) (hk : P.underlying k = some .string) (hz : (zeroValue e).run P w = .ok z w) (hM : SMap w M D) (s : ByteArray) (ck : Bool) :
  (Instr.lookup T (.map (some M)) (.string s) ck).run P w = .ok (match lookD D s with | some v => (if ck then .tuple #[v, .bool true] else v) | none => (if ck then .tuple #[z, .bool false] else z)) w := by
 obtain ⟨es, clock, hb, hes⟩ := hM
 obtain ⟨r, h1, h2⟩ := findNow_text s es.toList D 0 hes
 have hf : (Instr.findKey k (.string s) es.toList).run P w = .ok r w := by simp [Instr.findKey, run_underlying hk, h1]
 have hc : (Instr.checkKey es.isEmpty 10000 k (.string s)).run P w = .ok () w := run_checkKey_text 9999 hk _
 rw [← h2]
 cases r with
 | none => simp [Instr.lookup, run_underlying hT, MapKept.run_getObj_map hb, hc, hf, hz, Result.andThen]
 | some p => simp [Instr.lookup, run_underlying hT, MapKept.run_getObj_map hb, hc, hf, Result.andThen]
theorem run_update_text {P : Program} {w : World} {T k e : TypeId} {M : Nat} {D : List (ByteArray × Value)} (hT : P.underlying T = some (.map k e)) (hk : P.underlying k = some .string) (hM : SMap w M D) (s : ByteArray) (hs : lookD D s = none) (v : Value) :
  ∃ w', (Instr.mapUpdate T (.map (some M)) (.string s) v).run P w = .ok () w' ∧ SMap w' M (D ++ [(s, v)]) ∧ But M w w' := by
 obtain ⟨es, clock, hb, hes⟩ := hM
 obtain ⟨r, h1, h2⟩ := findNow_text s es.toList D 0 hes
 rw [hs] at h2
 obtain rfl : r = none := by cases r <;> simp_all
 have hf : (Instr.findKey k (.string s) es.toList).run P w = .ok none w := by simp [Instr.findKey, run_underlying hk, h1]
 have hc : ∀ b, (Instr.checkKey b 10000 k (.string s)).run P w = .ok () w := fun b => run_checkKey_text 9999 hk _
 have hr : (Instr.mapUpdate T (.map (some M)) (.string s) v).run P w = .ok () { w with heap := w.heap.setIfInBounds M (.map (es.push { key := .string s, val := v, born := clock }) (clock + 1)) } := by
  simp [Instr.mapUpdate, run_underlying hT, MapKept.run_getObj_map hb, hc, hf, MapKept.run_setObj_map _ hb, Result.andThen]
 obtain ⟨n1, n2⟩ := MapKept.heap_set (o' := .map (es.push { key := .string s, val := v, born := clock }) (clock + 1)) hb
 refine ⟨_, hr, ⟨_, _, n1, ?_⟩, ⟨rfl, rfl, rfl, by simp, fun b hb => n2 b hb⟩⟩
 rw [Array.toList_push, List.map_append, List.map_append, hes]
 rfl
theorem SMap.made {w : World} {M : Nat} (h : w.heap[M]? = some (.map #[] 0)) : SMap w M [] := ⟨#[], 0, h, rfl⟩
theorem SMap.same {w w' : World} {M : Nat} {D : List (ByteArray × Value)} (h : SMap w M D) (hM : w'.heap[M]? = w.heap[M]?) : SMap w' M D := by
 obtain ⟨es, clock, hb, hes⟩ := h
 exact ⟨es, clock, hM.trans hb, hes⟩
theorem SMap.lt {w : World} {M : Nat} {D : List (ByteArray × Value)} (h : SMap w M D) : M < w.heap.size := by
 obtain ⟨es, clock, hb, _⟩ := h
 exact (Array.getElem?_eq_some_iff.1 hb).1
def stT (k : Int) : TypeId := if k = 0 then 192 else if k = 1 then 194 else if k = 2 then 196 else if k = 3 then 206 else if k = 4 then 199 else if k = 5 then 202 else if k = 6 then 204 else 205
def ptT (k : Int) : TypeId := if k = 0 then 190 else if k = 1 then 193 else if k = 2 then 195 else if k = 3 then 187 else if k = 4 then 197 else if k = 5 then 200 else if k = 6 then 203 else 188
def mkT (T : TypeId) : Prop := T = 5 ∨ T = 92 ∨ T = 192 ∨ T = 194 ∨ T = 196 ∨ T = 206 ∨ T = 199 ∨ T = 202 ∨ T = 204 ∨ T = 205
def extT (T : TypeId) : Prop := T = 94 ∨ T = 9 ∨ T = 30 ∨ T = 211
theorem ext_not_mk {T : TypeId} (h : extT T) : ¬ mkT T := by
 unfold extT at h
 unfold mkT
 rcases h with rfl | rfl | rfl | rfl <;> decide
theorem st_mk (k : Int) : mkT (stT k) := by
 unfold stT mkT
 repeat' split
 all_goals simp
structure MkC where
 B : Nat
 mb : Nat
 fb : Nat
 lb : Nat
 tb : Nat
def Mine (C : MkC) (w : World) (b : Nat) : Prop := C.B ≤ b ∧ ((∃ es clk, w.heap[b]? = some (.map es clk) ∧ (b = C.fb ∨ b = C.lb ∨ b = C.tb)) ∨ ∃ c T fz, w.heap[b]? = some (.cells c T fz) ∧ mkT T)
structure MkF (C : MkC) (w w' : World) : Prop where
 os : w'.os = w.os
 tape : w'.tape = w.tape
 output : w'.output = w.output
 size : w.heap.size ≤ w'.heap.size
 old : ∀ b, b < w.heap.size → ¬ Mine C w b → w'.heap[b]? = w.heap[b]?
theorem MkF.refl (C : MkC) (w : World) : MkF C w w := ⟨rfl, rfl, rfl, Nat.le_refl _, fun _ _ _ => rfl⟩
theorem Mine.same {C : MkC} {w w' : World} {b : Nat} (e : w'.heap[b]? = w.heap[b]?) : Mine C w' b ↔ Mine C w b := by unfold Mine; rw [e]
theorem MkF.trans {C : MkC} {a b c : World} (h : MkF C a b) (k : MkF C b c) : MkF C a c :=
 ⟨k.os.trans h.os, k.tape.trans h.tape, k.output.trans h.output, Nat.le_trans h.size k.size, fun x hx hm => by
  have e := h.old x hx hm
  exact (k.old x (Nat.lt_of_lt_of_le hx h.size) fun q => hm ((Mine.same e).1 q)).trans e⟩
theorem MkF.ofBelow {C : MkC} {w w' : World} (h : Below w.heap.size w w') : MkF C w w' := ⟨h.os, h.tape, h.output, h.size, fun b hb _ => h.block b hb⟩
theorem MkF.below {C : MkC} {w w' : World} (h : MkF C w w') (hB : C.B ≤ w.heap.size) : Below C.B w w' := ⟨h.os, h.tape, h.output, h.size, fun b hb => h.old b (by omega) fun q => by have := q.1; omega⟩
theorem MkF.drew {C : MkC} {a w : World} (h : MkF C a w) : MkF C a w.drew := ⟨h.os, h.tape, h.output, h.size, h.old⟩
theorem MkF.row {C : MkC} {w w' : World} (h : MkF C w w') {b : Nat} {c : Array Value} {T : TypeId} {fz : Nat × Nat} (hb : w.heap[b]? = some (.cells c T fz)) (hT : ¬ mkT T) : w'.heap[b]? = some (.cells c T fz) :=
 (h.old b (Array.getElem?_eq_some_iff.1 hb).1 fun q => by
  rcases q.2 with ⟨es, clk, e, _⟩ | ⟨c', T', fz', e, hm⟩
  ·rw [hb] at e; simp at e
  ·rw [hb] at e
   simp only [Option.some.injEq, Obj.cells.injEq] at e
   rw [← e.2.1] at hm
   exact hT hm).trans hb
theorem MkF.owns {C : MkC} {w w' : World} (h : MkF C w w') {base e z n : Nat} {v : Value} {xs : List Value} (ho : w.ownsRow base e z v n xs) (he : ¬ mkT e) : w'.ownsRow base e z v n xs := by
 refine ⟨ho.1, ?_⟩
 rcases ho.2 with q | ⟨g, cap, cur, hv, hg, hh, r⟩
 ·exact .inl q
 ·exact .inr ⟨g, cap, cur, hv, hg, h.row hh he, r⟩
theorem MkF.wrote {C : MkC} {a w w' : World} {b : Nat} (h : MkF C a w) (hb : But b w w') (hm : Mine C w b) : MkF C a w' := h.trans
 ⟨hb.1, hb.2.1, hb.2.2.1, Nat.le_of_eq hb.2.2.2.1.symm, fun x _ hx => hb.2.2.2.2 x fun e => hx (e ▸ hm)⟩
structure Pc where
 s : ByteArray
 f : Option Nat
def pcT (s : ByteArray) : Pc := ⟨s, none⟩
def pcF (i : Nat) : Pc := ⟨⟨#[]⟩, some i⟩
def commaB (i : Nat) : ByteArray := if 0 < i then ⟨#[44, 32]⟩ else ⟨#[]⟩
def recPcs : Nat → List ByteArray → List Nat → List Pc
 | i, x :: xs, k :: ks => pcT (commaB i) :: pcT x :: pcT ⟨#[58, 32]⟩ :: pcF k :: recPcs (i + 1) xs ks
 | _, _, _ => []
def parPcs : Nat → List Nat → List Pc
 | i, k :: ks => pcT (commaB i) :: pcF k :: parPcs (i + 1) ks
 | _, [] => []
def brPcs (b : Bool) (k : Nat) : List Pc := if b then [pcT ⟨#[40]⟩, pcF k, pcT ⟨#[41]⟩] else [pcF k]
def uniPcs : Nat → List Ty → List Nat → List Pc
 | i, t :: ts, k :: ks => (if 0 < i then [pcT ⟨#[32, 124, 32]⟩] else []) ++ brPcs (decide (t.kind = 6)) k ++ uniPcs (i + 1) ts ks
 | _, _, _ => []
def pcsOf (t : Ty) (ks : List Nat) : List Pc :=
 if t.kind = 0 then [pcT ⟨#[105, 110, 116]⟩] else if t.kind = 1 then [pcT ⟨#[116, 101, 120, 116]⟩] else if t.kind = 2 then [pcT ⟨#[98, 111, 111, 108]⟩] else if t.kind = 3 then [pcT ⟨#[97, 110, 121]⟩]
 else if t.kind = 4 then [pcT t.name]
 else if t.kind = 5 then pcT ⟨#[123]⟩ :: recPcs 0 t.names ks ++ [pcT ⟨#[125]⟩]
 else if t.kind = 6 then pcT ⟨#[40]⟩ :: parPcs 0 ks.dropLast ++ [pcT ⟨#[41, 32, 45, 62, 32]⟩] ++ brPcs (decide ((lastTy t.kids).kind = 7)) (ks.getLastD 0)
 else uniPcs 0 t.kids ks
structure FRec where
 blk : Nat
 ty : Ty
 kids : List Nat
 vk : Value
 vn : Value
def FRec.val (r : FRec) : Value := .iface (ptT r.ty.kind) (.pointer (some ⟨r.blk, 0, none⟩))
def FRec.more (r : FRec) : List Value := if r.ty.kind = 4 then [.string r.ty.name] else if r.ty.kind = 5 then [r.vn] else []
def FRec.cells (r : FRec) (k : Nat) (vp : Value) (sz : Nat) : Array Value := ([.int .i64 k, r.vk, .int .i64 (Ty.hi r.ty), vp, .int .i64 sz] ++ r.more).toArray
def Ty.keyNames (t : Ty) : List ByteArray := if t.kind = 4 then [t.name] else t.names
def FRec.key (r : FRec) : ByteArray := ⟨(keyF r.ty.kind r.ty.keyNames r.kids).toArray⟩
def valAt (F : List FRec) (i : Nat) : Value := match F[i]? with
 | some r => r.val
 | none => .nilIface
theorem valAt_some {F : List FRec} {i : Nat} {r : FRec} (h : F[i]? = some r) : valAt F i = r.val := by unfold valAt; rw [h]
theorem valAt_app {F G : List FRec} {i : Nat} (h : i < F.length) : valAt (F ++ G) i = valAt F i := by unfold valAt; rw [List.getElem?_append_left h]
def KidsOf (F : List FRec) (ks : List Nat) (ts : List Ty) : Prop := ks.length = ts.length ∧ ∀ j (h : j < ks.length), ∃ r, F[ks[j]]? = some r ∧ ts[j]? = some r.ty
theorem get_app {α : Type} {F G : List α} {i : Nat} {r : α} (h : F[i]? = some r) : (F ++ G)[i]? = some r := by
 rw [List.getElem?_append_left (List.getElem?_eq_some_iff.1 h).1]
 exact h
theorem get_lt {α : Type} {F : List α} {i : Nat} {r : α} (h : F[i]? = some r) : i < F.length := (List.getElem?_eq_some_iff.1 h).1
theorem KidsOf.app {F G : List FRec} {ks : List Nat} {ts : List Ty} (h : KidsOf F ks ts) : KidsOf (F ++ G) ks ts := ⟨h.1, fun j hj => by obtain ⟨r, h1, h2⟩ := h.2 j hj; exact ⟨r, get_app h1, h2⟩⟩
theorem KidsOf.lt {F : List FRec} {ks : List Nat} {ts : List Ty} (h : KidsOf F ks ts) : ∀ i ∈ ks, i < F.length := fun i hi => by
 obtain ⟨j, hj, rfl⟩ := List.getElem_of_mem hi
 obtain ⟨r, h1, _⟩ := h.2 j hj
 exact get_lt h1
theorem KidsOf.vals {F G : List FRec} {ks : List Nat} {ts : List Ty} (h : KidsOf F ks ts) : ks.map (valAt (F ++ G)) = ks.map (valAt F) := List.map_congr_left fun i hi => valAt_app (h.lt i hi)
def VRow (A : Nat → Prop) (w : World) (v : Value) (l : List Value) : Prop :=
 (l = [] ∧ ∃ a cap, v = .slice a 0 cap) ∨ ∃ b cap, v = .slice (some ⟨b, 0, none⟩) l.length cap ∧ l.length ≤ cap ∧ A b ∧ ∀ j (h : j < l.length), w.cell? ⟨b, j, none⟩ = some l[j]
theorem VRow.same {A : Nat → Prop} {w w' : World} {v : Value} {l : List Value} (h : VRow A w v l) (hs : SameOn A w w') : VRow A w' v l := by
 rcases h with h | ⟨b, cap, e, hle, ha, hc⟩
 ·exact .inl h
 ·exact .inr ⟨b, cap, e, hle, ha, fun j hj => (World.cell?_of_block (a := ⟨b, j, none⟩) (hs b ha)).trans (hc j hj)⟩
theorem VRow.sub {A A' : Nat → Prop} {w : World} {v : Value} {l : List Value} (h : VRow A w v l) (hs : ∀ b, A b → A' b) : VRow A' w v l := by
 rcases h with h | ⟨b, cap, e, hle, ha, hc⟩
 ·exact .inl h
 ·exact .inr ⟨b, cap, e, hle, hs b ha, hc⟩
def pcV (F : List FRec) : Option Nat → Value
 | none => .nilIface
 | some i => valAt F i
def PRow (A : Nat → Prop) (w : World) (F : List FRec) (v : Value) (ps : List Pc) : Prop :=
 ∃ b cap, v = .slice (some ⟨b, 0, none⟩) ps.length cap ∧ A b ∧ ∀ j (h : j < ps.length), w.cell? ⟨b, j * 2, none⟩ = some (.string ps[j].s) ∧ w.cell? ⟨b, j * 2 + 1, none⟩ = some (pcV F ps[j].f)
theorem PRow.same {A : Nat → Prop} {w w' : World} {F : List FRec} {v : Value} {ps : List Pc} (h : PRow A w F v ps) (hs : SameOn A w w') : PRow A w' F v ps := by
 obtain ⟨b, cap, e, ha, hc⟩ := h
 exact ⟨b, cap, e, ha, fun j hj => ⟨(World.cell?_of_block (a := ⟨b, j * 2, none⟩) (hs b ha)).trans (hc j hj).1, (World.cell?_of_block (a := ⟨b, j * 2 + 1, none⟩) (hs b ha)).trans (hc j hj).2⟩⟩
theorem PRow.sub {A A' : Nat → Prop} {w : World} {F : List FRec} {v : Value} {ps : List Pc} (h : PRow A w F v ps) (hs : ∀ b, A b → A' b) : PRow A' w F v ps := by
 obtain ⟨b, cap, e, ha, hc⟩ := h
 exact ⟨b, cap, e, hs b ha, hc⟩
theorem recPcs_mem {i : Nat} {xs : List ByteArray} {ks : List Nat} {p : Pc} (h : p ∈ recPcs i xs ks) : ∀ k, p.f = some k → k ∈ ks := by
 induction xs generalizing i ks with
 | nil => simp [recPcs] at h
 | cons x xs ih =>
  cases ks with
  | nil => simp [recPcs] at h
  | cons y ks =>
   simp only [recPcs, List.mem_cons] at h
   intro k hk
   rcases h with rfl | rfl | rfl | rfl | h
   ·simp [pcT] at hk
   ·simp [pcT] at hk
   ·simp [pcT] at hk
   ·simp [pcF] at hk; simp [hk]
   ·exact List.mem_cons_of_mem _ (ih h k hk)
theorem parPcs_mem {i : Nat} {ks : List Nat} {p : Pc} (h : p ∈ parPcs i ks) : ∀ k, p.f = some k → k ∈ ks := by
 induction ks generalizing i with
 | nil => simp [parPcs] at h
 | cons y ks ih =>
  simp only [parPcs, List.mem_cons] at h
  intro k hk
  rcases h with rfl | rfl | h
  ·simp [pcT] at hk
  ·simp [pcF] at hk; simp [hk]
  ·exact List.mem_cons_of_mem _ (ih h k hk)
theorem brPcs_mem {b : Bool} {y : Nat} {p : Pc} (h : p ∈ brPcs b y) : ∀ k, p.f = some k → k = y := by
 intro k hk
 unfold brPcs at h
 split at h
 ·simp only [List.mem_cons, List.not_mem_nil, or_false] at h
  rcases h with rfl | rfl | rfl
  ·simp [pcT] at hk
  ·simp [pcF] at hk; exact hk.symm
  ·simp [pcT] at hk
 ·simp only [List.mem_cons, List.not_mem_nil, or_false] at h
  subst h
  simp [pcF] at hk; exact hk.symm
theorem uniPcs_mem {i : Nat} {ts : List Ty} {ks : List Nat} {p : Pc} (h : p ∈ uniPcs i ts ks) : ∀ k, p.f = some k → k ∈ ks := by
 induction ts generalizing i ks with
 | nil => simp [uniPcs] at h
 | cons t ts ih =>
  cases ks with
  | nil => simp [uniPcs] at h
  | cons y ks =>
   simp only [uniPcs, List.mem_append] at h
   intro k hk
   rcases h with (h | h) | h
   ·split at h
    ·simp only [List.mem_cons, List.not_mem_nil, or_false] at h
     subst h
     simp [pcT] at hk
    ·simp at h
   ·rw [brPcs_mem h k hk]; simp
   ·exact List.mem_cons_of_mem _ (ih h k hk)
theorem pcsOf_mem {t : Ty} {ks : List Nat} {p : Pc} (hk6 : t.kind = 6 → ks ≠ []) (h : p ∈ pcsOf t ks) : ∀ k, p.f = some k → k ∈ ks := by
 intro k hk
 have one : ∀ s, p ∈ [pcT s] → False := fun s hs => by
  rw [List.mem_singleton] at hs
  subst hs
  simp [pcT] at hk
 unfold pcsOf at h
 split at h
 ·exact (one _ h).elim
 split at h
 ·exact (one _ h).elim
 split at h
 ·exact (one _ h).elim
 split at h
 ·exact (one _ h).elim
 split at h
 ·exact (one _ h).elim
 split at h
 ·rcases List.mem_append.1 h with h | h
  ·rcases List.mem_cons.1 h with h | h
   ·exact (one _ (List.mem_singleton.2 h)).elim
   ·exact recPcs_mem h k hk
  ·exact (one _ h).elim
 split at h
 ·rename_i h6
  rcases List.mem_append.1 h with h | h
  ·rcases List.mem_append.1 h with h | h
   ·rcases List.mem_cons.1 h with h | h
    ·exact (one _ (List.mem_singleton.2 h)).elim
    ·exact List.dropLast_subset _ (parPcs_mem h k hk)
   ·exact (one _ h).elim
  ·rw [brPcs_mem h k hk]
   have hne := hk6 h6
   rw [List.getLastD_eq_getLast?, List.getLast?_eq_some_getLast hne]
   exact List.getLast_mem hne
 ·exact uniPcs_mem h k hk
structure LRec where
 pl : Addr
 ts : List Ty
 ks : List Nat
 v : Value
structure Mk where
 F : List FRec
 L : List LRec
 T : List (Nat × List Value)
 ext : Nat → Prop
def plKey (a : Addr) (m : Int) : Value := .agg #[.pointer (some a), .int .i64 m]
def LMapAt (w : World) (lb : Nat) (L : List LRec) : Prop := ∃ es clock, w.heap[lb]? = some (.map es clock) ∧ es.toList.map (fun x => (x.key, x.val)) = L.map fun r => (plKey r.pl r.ts.length, r.v)
def TMapAt (w : World) (tb : Nat) (T : List (Nat × List Value)) : Prop := ∃ es clock, w.heap[tb]? = some (.map es clock) ∧ es.toList.map (fun x => (x.key, x.val)) = T.map fun p => (Value.int .i64 p.1, .agg p.2.toArray)
theorem LMapAt.same {w w' : World} {b : Nat} {L : List LRec} (h : LMapAt w b L) (e : w'.heap[b]? = w.heap[b]?) : LMapAt w' b L := by
 obtain ⟨es, c, h1, h2⟩ := h
 exact ⟨es, c, e.trans h1, h2⟩
theorem TMapAt.same {w w' : World} {b : Nat} {L : List (Nat × List Value)} (h : TMapAt w b L) (e : w'.heap[b]? = w.heap[b]?) : TMapAt w' b L := by
 obtain ⟨es, c, h1, h2⟩ := h
 exact ⟨es, c, e.trans h1, h2⟩
def CacheOk (w : World) (M : Mk) (r : FRec) (vp : Value) (sz : Nat) : Prop := (vp = .slice none 0 0 ∨ PRow M.ext w M.F vp (pcsOf r.ty r.kids)) ∧ (sz = 0 ∨ sz = min r.ty.txt.size 8589934593)
structure FormOk (C : MkC) (w : World) (M : Mk) (k : Nat) (r : FRec) : Prop where
 ok : Ty.ok r.ty
 base : C.B ≤ r.blk
 kids : KidsOf M.F r.kids r.ty.kids
 less : ∀ i ∈ r.kids, i < k
 row : VRow M.ext w r.vk (r.kids.map (valAt M.F))
 names : r.ty.kind = 5 → TextsR M.ext w r.vn r.ty.names
 obj : ∃ vp sz, w.heap[r.blk]? = some (.cells (r.cells k vp sz) (stT r.ty.kind) (0, 0)) ∧ CacheOk w M r vp sz
structure ListOk (w : World) (M : Mk) (r : LRec) : Prop where
 pos : 0 < r.ts.length
 types : ∃ cap, RowR M.ext w (TyR M.ext w 13) (.slice (some r.pl) r.ts.length cap) r.ts
 kids : KidsOf M.F r.ks r.ts
 row : VRow M.ext w r.v (r.ks.map (valAt M.F))
structure MkAt (C : MkC) (w : World) (M : Mk) : Prop where
 geo : C.B ≤ C.fb ∧ C.B ≤ C.lb ∧ C.B ≤ C.tb ∧ C.B ≤ C.mb ∧ C.fb ≠ C.lb ∧ C.lb ≠ C.tb ∧ C.fb ≠ C.tb
 self : ∃ vkey nk xs, w.heap[C.mb]? = some (.cells #[vkey, .map (some C.fb), .map (some C.lb), .map (some C.tb)] 92 (0, 0)) ∧ w.ownsRow C.B 5 1 vkey nk xs
 forms : SMap w C.fb (M.F.map fun r => (r.key, r.val))
 lists : LMapAt w C.lb M.L
 types : TMapAt w C.tb M.T
 tys : ∀ p ∈ M.T, ∃ r, M.F[p.1]? = some r ∧ TyR M.ext w 13 p.2 r.ty
 each : ∀ k r, M.F[k]? = some r → FormOk C w M k r
 uniq : ∀ (i j : Nat) (r q : FRec), M.F[i]? = some r → M.F[j]? = some q → r.ty = q.ty → i = j
 blks : ∀ (i j : Nat) (r q : FRec), M.F[i]? = some r → M.F[j]? = some q → r.blk = q.blk → i = j
 ls : ∀ r ∈ M.L, ListOk w M r
 extok : ∀ b, M.ext b → b < w.heap.size ∧ (b < C.B ∨ ∃ c T, w.heap[b]? = some (.cells c T (0, 0)) ∧ extT T)
 small : ∀ (k : Nat) (r : FRec), M.F[k]? = some r → r.ty.txt.size ≤ 1099511627776 ∧ r.kids.length ≤ 1048577
theorem ext_free {C : MkC} {w : World} {b : Nat} (h : b < C.B ∨ ∃ c T, w.heap[b]? = some (.cells c T (0, 0)) ∧ extT T) : ¬ Mine C w b := by
 intro q
 rcases h with h | ⟨c, T, e, hT⟩
 ·have := q.1; omega
 ·rcases q.2 with ⟨es, clk, e2, _⟩ | ⟨c', T', fz', e2, hm⟩
  ·rw [e] at e2; simp at e2
  ·rw [e] at e2
   simp only [Option.some.injEq, Obj.cells.injEq] at e2
   rw [← e2.2.1] at hm
   exact ext_not_mk hT hm
theorem MkAt.mineMb {C : MkC} {w : World} {M : Mk} (h : MkAt C w M) : Mine C w C.mb := by
 obtain ⟨vkey, nk, xs, h1, _⟩ := h.self
 exact ⟨h.geo.2.2.2.1, .inr ⟨_, _, _, h1, .inr (.inl rfl)⟩⟩
theorem MkAt.mineFb {C : MkC} {w : World} {M : Mk} (h : MkAt C w M) : Mine C w C.fb := by
 obtain ⟨es, c, h1, _⟩ := h.forms
 exact ⟨h.geo.1, .inl ⟨_, _, h1, .inl rfl⟩⟩
theorem MkAt.mineLb {C : MkC} {w : World} {M : Mk} (h : MkAt C w M) : Mine C w C.lb := by
 obtain ⟨es, c, h1, _⟩ := h.lists
 exact ⟨h.geo.2.1, .inl ⟨_, _, h1, .inr (.inl rfl)⟩⟩
theorem MkAt.mineTb {C : MkC} {w : World} {M : Mk} (h : MkAt C w M) : Mine C w C.tb := by
 obtain ⟨es, c, h1, _⟩ := h.types
 exact ⟨h.geo.2.2.1, .inl ⟨_, _, h1, .inr (.inr rfl)⟩⟩
theorem MkAt.mineForm {C : MkC} {w : World} {M : Mk} (h : MkAt C w M) {k : Nat} {r : FRec} (hr : M.F[k]? = some r) : Mine C w r.blk := by
 obtain ⟨vp, sz, h1, _⟩ := (h.each k r hr).obj
 exact ⟨(h.each k r hr).base, .inr ⟨_, _, _, h1, st_mk _⟩⟩
theorem FormOk.same {C : MkC} {w w' : World} {M : Mk} {k : Nat} {r : FRec} (h : FormOk C w M k r) (hs : SameOn M.ext w w') (hb : w'.heap[r.blk]? = w.heap[r.blk]?) : FormOk C w' M k r := by
 obtain ⟨vp, sz, h1, h2, h3⟩ := h.obj
 exact ⟨h.ok, h.base, h.kids, h.less, h.row.same hs, fun q => (h.names q).same hs, vp, sz, hb.trans h1, h2.imp id fun q => q.same hs, h3⟩
theorem ListOk.same {w w' : World} {M : Mk} {r : LRec} (h : ListOk w M r) (hs : SameOn M.ext w w') : ListOk w' M r := by
 obtain ⟨cap, h1⟩ := h.types
 exact ⟨h.pos, ⟨cap, h1.same hs fun cs t _ q => q.same hs⟩, h.kids, h.row.same hs⟩
theorem MkAt.same {C : MkC} {w w' : World} {M : Mk} (h : MkAt C w M) (hm : ∀ b, Mine C w b → w'.heap[b]? = w.heap[b]?) (hs : SameOn M.ext w w') (hz : w.heap.size ≤ w'.heap.size) : MkAt C w' M := by
 obtain ⟨vkey, nk, xs, h1, h2⟩ := h.self
 refine ⟨h.geo, ⟨vkey, nk, xs, (hm _ h.mineMb).trans h1, h2.1, ?_⟩, h.forms.same (hm _ h.mineFb), h.lists.same (hm _ h.mineLb), h.types.same (hm _ h.mineTb), fun p hp => ?_, fun k r hr => (h.each k r hr).same hs (hm _ (h.mineForm hr)), h.uniq, h.blks, fun r hr => (h.ls r hr).same hs, fun b hb => ?_, h.small⟩
 ·rcases h2.2 with q | ⟨g, cap, cur, hv, hg, hh, q⟩
  ·exact .inl q
  ·exact .inr ⟨g, cap, cur, hv, hg, (hm g ⟨hg, .inr ⟨_, _, _, hh, .inl rfl⟩⟩).trans hh, q⟩
 ·obtain ⟨r, q1, q2⟩ := h.tys p hp
  exact ⟨r, q1, q2.same hs⟩
 ·obtain ⟨q1, q2⟩ := h.extok b hb
  refine ⟨Nat.lt_of_lt_of_le q1 hz, q2.imp id fun ⟨c, T, e, hT⟩ => ⟨c, T, (hs b hb).trans e, hT⟩⟩
theorem MkAt.below {C : MkC} {w w' : World} {M : Mk} (h : MkAt C w M) (hb : Below w.heap.size w w') : MkAt C w' M := by
 refine h.same (fun b hm => hb.block b ?_) (fun b hb' => hb.block b (h.extok b hb').1) hb.size
 rcases hm.2 with ⟨es, clk, e, _⟩ | ⟨c, T, fz, e, _⟩
 ·exact (Array.getElem?_eq_some_iff.1 e).1
 ·exact (Array.getElem?_eq_some_iff.1 e).1
def ExtOk (C : MkC) (w : World) (A : Nat → Prop) : Prop := ∀ b, A b → b < w.heap.size ∧ (b < C.B ∨ ∃ c T, w.heap[b]? = some (.cells c T (0, 0)) ∧ extT T)
theorem ExtOk.sameF {C : MkC} {w w' : World} {A : Nat → Prop} (h : ExtOk C w A) (hf : MkF C w w') : SameOn A w w' := fun b hb => hf.old b (h b hb).1 (ext_free (h b hb).2)
theorem ExtOk.step {C : MkC} {w w' : World} {A : Nat → Prop} (h : ExtOk C w A) (hf : MkF C w w') : ExtOk C w' A := fun b hb => by
 obtain ⟨h1, h2⟩ := h b hb
 exact ⟨Nat.lt_of_lt_of_le h1 hf.size, h2.imp id fun ⟨c, T, e, hT⟩ => ⟨c, T, (h.sameF hf b hb).trans e, hT⟩⟩
def Mk.more (M : Mk) (A : Nat → Prop) : Mk := { M with ext := fun b => M.ext b ∨ A b }
theorem FormOk.wider {C : MkC} {w : World} {M : Mk} {k : Nat} {r : FRec} (h : FormOk C w M k r) (A : Nat → Prop) : FormOk C w (M.more A) k r := by
 obtain ⟨vp, sz, h1, h2, h3⟩ := h.obj
 exact ⟨h.ok, h.base, h.kids, h.less, h.row.sub fun b hb => .inl hb, fun q => (h.names q).sub fun b hb => .inl hb, vp, sz, h1, h2.imp id fun q => q.sub fun b hb => .inl hb, h3⟩
theorem MkAt.wider {C : MkC} {w : World} {M : Mk} (h : MkAt C w M) {A : Nat → Prop} (hA : ExtOk C w A) : MkAt C w (M.more A) := by
 refine ⟨h.geo, h.self, h.forms, h.lists, h.types, fun p hp => ?_, fun k r hr => (h.each k r hr).wider A, h.uniq, h.blks, fun r hr => ?_, fun b hb => hb.elim (h.extok b) (hA b), h.small⟩
 ·obtain ⟨r, q1, q2⟩ := h.tys p hp
  exact ⟨r, q1, q2.sub fun b hb => .inl hb⟩
 ·obtain ⟨q1, ⟨cap, q2⟩, q3, q4⟩ := h.ls r hr
  exact ⟨q1, ⟨cap, q2.sub (fun b hb => .inl hb) fun cs t _ q => q.sub fun b hb => .inl hb⟩, q3, q4.sub fun b hb => .inl hb⟩
def RowsOf (w : World) (a : Option Addr) : Prop := ∀ x, a = some x → ∃ cur e, w.heap[x.block]? = some (.cells cur e (0, 0))
theorem Tryz.fieldsKs : Tryz.prog.fieldsOf 105 = #[{ name := "first", type := 103, offset := 0, embedded := false, tag := "", pkgPath := "loop.example/g00276/impl", byteOffset := 0 }, { name := "count", type := 3, offset := 1, embedded := false, tag := "", pkgPath := "loop.example/g00276/impl", byteOffset := 8 }] := by kernel_rfl
theorem Tryz.stoodKs : Tryz.prog.stoodInHeld 105 = false := by kernel_rfl
theorem Tryz.underKs : Tryz.prog.underlying 105 = some (.struct (Tryz.prog.fieldsOf 105)) := by kernel_rfl
theorem run_partP {w : World} {xs : Array Value} {v : Value} (h : xs[0]? = some v) : (part 103 xs 0).run Tryz.prog w = .ok v w := by
 have hi : (isAgg 103).run Tryz.prog w = .ok false w := by kernel_rfl
 simp [part, hi, h]
theorem run_partI {w : World} {xs : Array Value} {v : Value} (h : xs[1]? = some v) : (part 3 xs 1).run Tryz.prog w = .ok v w := by
 have hi : (isAgg 3).run Tryz.prog w = .ok false w := by kernel_rfl
 simp [part, hi, h]
theorem run_eq_ptr (d : Nat) {w : World} {a b : Option Addr} (ha : RowsOf w a) (hb : RowsOf w b) : (Op.equalIn (d + 1) 103 (.pointer a) (.pointer b)).run Tryz.prog w = .ok (decide (a = b)) w := by
 obtain ⟨j, hj, _, hz1, _⟩ := info_parts Tryz.infoType
 have hp : Tryz.prog.underlying 103 = some (.pointer 30) := Tryz.underlying103
 cases a with
 | none => cases b <;> simp [Op.equalIn, run_underlying hp]
 | some x =>
  cases b with
  | none => simp [Op.equalIn, run_underlying hp]
  | some y =>
   by_cases c : x = y
   ·subst c
    simp [Op.equalIn, run_underlying hp, typeInfo, sizeOf, hj, run_sameAddr_same]
   ·obtain ⟨ca, ta, h1⟩ := ha x rfl
    obtain ⟨cb, tb, h2⟩ := hb y rfl
    rw [run_equalIn_place d (P := Tryz.prog) (w := w) hp hj (by rw [hz1]; decide) c h1 h2]
    simp [c]
theorem run_eq_int (d : Nat) {w : World} {m k : Int} : (Op.equalIn (d + 1) 3 (.int .i64 m) (.int .i64 k)).run Tryz.prog w = .ok (decide (m = k)) w := by
 simp [Op.equalIn, run_underlying Tryz.underlying3]
 by_cases c : m = k <;> simp [c]
theorem run_equal_ks (d : Nat) {w : World} {a b : Option Addr} {m k : Int} (ha : RowsOf w a) (hb : RowsOf w b) : (Op.equalIn (d + 1 + 1) 105 (.agg #[.pointer a, .int .i64 m]) (.agg #[.pointer b, .int .i64 k])).run Tryz.prog w = .ok (decide (a = b ∧ m = k)) w := by
 rw [run_equalIn_struct (P := Tryz.prog) w (d + 1) 105 _ _ Tryz.underKs Tryz.stoodKs, Tryz.fieldsKs]
 have p1 := run_partP (w := w) (xs := #[.pointer a, .int .i64 m]) (v := .pointer a) rfl
 have p2 := run_partP (w := w) (xs := #[.pointer b, .int .i64 k]) (v := .pointer b) rfl
 have q1 := run_partI (w := w) (xs := #[.pointer a, .int .i64 m]) (v := .int .i64 m) rfl
 have q2 := run_partI (w := w) (xs := #[.pointer b, .int .i64 k]) (v := .int .i64 k) rfl
 have e1 := run_eq_ptr d (w := w) ha hb
 have e2 := run_eq_int d (w := w) (m := m) (k := k)
 by_cases c : a = b
 ·rw [decide_eq_true c] at e1
  by_cases c2 : m = k
  ·rw [decide_eq_true c2] at e2
   rw [decide_eq_true ⟨c, c2⟩]
   simp [Op.eqFields, p1, p2, q1, q2, e1, e2]
  ·rw [decide_eq_false c2] at e2
   rw [decide_eq_false (fun h => c2 h.2)]
   simp [Op.eqFields, p1, p2, q1, q2, e1, e2]
 ·rw [decide_eq_false c] at e1
  rw [decide_eq_false (fun h => c h.1)]
  simp [Op.eqFields, p1, p2, e1]
theorem run_checkKeyI (n : Nat) {w : World} {m : Int} (e : Bool) : (Instr.checkKey e (n + 1) 3 (.int .i64 m)).run Tryz.prog w = .ok () w := by simp [Instr.checkKey, run_underlying Tryz.underlying3]
theorem run_checkKeyP (n : Nat) {w : World} {a : Option Addr} (e : Bool) : (Instr.checkKey e (n + 1) 103 (.pointer a)).run Tryz.prog w = .ok () w := by simp [Instr.checkKey, run_underlying Tryz.underlying103]
theorem run_checkKey_ks (n : Nat) {w : World} {a : Option Addr} {m : Int} (e : Bool) : (Instr.checkKey e (n + 1 + 1) 105 (.agg #[.pointer a, .int .i64 m])).run Tryz.prog w = .ok () w := by
 have p1 := run_partP (w := w) (xs := #[.pointer a, .int .i64 m]) (v := .pointer a) rfl
 have p2 := run_partI (w := w) (xs := #[.pointer a, .int .i64 m]) (v := .int .i64 m) rfl
 rw [Instr.checkKey.eq_2]
 simp only [Sem.run_bind, run_underlying Tryz.underKs, Result.andThen_ok]
 rw [Tryz.fieldsKs]
 simp [p1, p2, run_checkKeyP n, run_checkKeyI n, Result.andThen]
end Go.Proofs.YtbojmbeopnlmiaaGreatDoor
