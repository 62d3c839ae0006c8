/-
 Where a type lies in memory: a layout of its rows. What is changed, and what is as it was.
-/
import Derived.Test.YtbojmbeopnlmiaaGreatDoorSuR
namespace Go.Proofs.YtbojmbeopnlmiaaGreatDoor
open Go.RowKit
structure Lay where
 vn : Value
 vk : Value
 ks : List Lay
def blk : Value → List Nat
 | .slice (some a) (_ + 1) _ => [a.block]
 | _ => []
theorem mem_blk {a : Addr} {n c b : Nat} (hn : 0 < n) : b ∈ blk (.slice (some a) n c) ↔ b = a.block := by
 cases n with
 | zero => omega
 | succ n => unfold blk; simp
def OwnS (w : World) (e : TypeId) (z : Nat) (v : Value) (n : Nat) (xs : List Value) : Prop := (n = 0 ∧ xs = [] ∧ ∃ a cap, v = .slice a 0 cap) ∨ (0 < n ∧ w.ownsRow 0 e z v n xs)
theorem OwnS.pos {w : World} {e : TypeId} {z : Nat} {v : Value} {n : Nat} {xs : List Value} (h : OwnS w e z v n xs) (hn : 0 < n) : w.ownsRow 0 e z v n xs := by
 rcases h with ⟨h, _⟩ | ⟨_, h⟩
 ·omega
 ·exact h
theorem OwnS.slice {w : World} {e : TypeId} {z : Nat} {v : Value} {n : Nat} {xs : List Value} (h : OwnS w e z v n xs) : ∃ a cap, v = .slice a n cap := by
 rcases h with ⟨h, _, a, cap, e⟩ | ⟨_, h⟩
 ·exact ⟨a, cap, by rw [h]; exact e⟩
 ·exact slice_ownM h
def Lay.blocks : Nat → Lay → List Nat
 | 0, _ => []
 | n + 1, l => blk l.vn ++ (blk l.vk ++ l.ks.flatMap (Lay.blocks n))
def rowBlocks (n : Nat) (v : Value) (ls : List Lay) : List Nat := blk v ++ ls.flatMap (Lay.blocks n)
def cellsK (q : Ty) (l : Lay) : List Value := [.int .i64 q.kind, .string q.name, l.vn, l.vk]
def flatK : List Ty → List Lay → List Value
 | q :: qs, l :: ls => cellsK q l ++ flatK qs ls
 | _, _ => []
theorem flatK_get (ks : List Ty) (ls : List Lay) (j c : Nat) (h1 : j < ks.length) (h2 : j < ls.length) (hc : c < 4) : (flatK ks ls)[j * 4 + c]? = (cellsK ks[j] ls[j])[c]? := by
 induction ks generalizing ls j with
 | nil => simp at h1
 | cons q qs ih =>
  cases ls with
  | nil => simp at h2
  | cons l ls =>
   have hl : (cellsK q l).length = 4 := rfl
   cases j with
   | zero => simp only [flatK, Nat.zero_mul, Nat.zero_add, List.getElem_cons_zero]; rw [List.getElem?_append_left (by omega)]
   | succ j =>
    simp only [flatK, List.getElem_cons_succ]
    rw [List.getElem?_append_right (by omega), hl, show (j + 1) * 4 + c - 4 = j * 4 + c from by omega]
    exact ih ls j (by simpa using h1) (by simpa using h2)
def LayAt (w : World) : Nat → Lay → Ty → Prop
 | 0, _, _ => False
 | n + 1, l, t => OwnS w 9 1 l.vn t.names.length (strV t.names) ∧ l.ks.length = t.kids.length ∧ OwnS w 30 4 l.vk t.kids.length (flatK t.kids l.ks) ∧ ∀ j (h1 : j < l.ks.length) (h2 : j < t.kids.length), LayAt w n l.ks[j] t.kids[j]
def RowL (w : World) (n : Nat) (v : Value) (ls : List Lay) (ks : List Ty) : Prop := ls.length = ks.length ∧ OwnS w 30 4 v ks.length (flatK ks ls) ∧ ∀ j (h1 : j < ls.length) (h2 : j < ks.length), LayAt w n ls[j] ks[j]
theorem owns_same {w w' : World} {e : TypeId} {z : Nat} {v : Value} {n : Nat} {xs : List Value} (h : OwnS w e z v n xs) (hs : ∀ b ∈ blk v, w'.heap[b]? = w.heap[b]?) : OwnS w' e z v n xs := by
 rcases h with h | ⟨hn, h⟩
 ·exact .inl h
 ·refine .inr ⟨hn, h.1, ?_⟩
  rcases h.2 with h | ⟨g, cap, cur, h1, h2, h3, h4⟩
  ·exact .inl h
  ·refine .inr ⟨g, cap, cur, h1, h2, ?_, h4⟩
   rw [hs g (by rw [h1]; exact (mem_blk hn).2 rfl)]
   exact h3
theorem OwnS.of {w : World} {B : Nat} {e : TypeId} {z : Nat} {v : Value} {n : Nat} {xs : List Value} (h : w.ownsRow B e z v n xs) : OwnS w e z v n xs := by
 by_cases hn : n = 0
 ·subst hn
  obtain ⟨a, cap, e⟩ := slice_ownM h
  have := h.1
  exact .inl ⟨rfl, List.length_eq_zero_iff.1 (by omega), a, cap, e⟩
 ·refine .inr ⟨by omega, h.1, ?_⟩
  rcases h.2 with h | ⟨g, cap, cur, h1, _, h3⟩
  ·exact .inl h
  ·exact .inr ⟨g, cap, cur, h1, Nat.zero_le _, h3⟩
theorem owns_lt {w : World} {e : TypeId} {z : Nat} {v : Value} {n : Nat} {xs : List Value} (h : OwnS w e z v n xs) {b : Nat} (hb : b ∈ blk v) : b < w.heap.size := by
 rcases h with ⟨_, _, a, cap, rfl⟩ | ⟨hn, h⟩
 ·cases a <;> simp [blk] at hb
 ·rcases h.2 with ⟨_, h0⟩ | ⟨g, cap, cur, h1, h2, h3, h4⟩
  ·omega
  ·rw [h1, mem_blk hn] at hb
   subst hb
   exact (Array.getElem?_eq_some_iff.1 h3).1
theorem OwnS.below {w w' : World} {e : TypeId} {z : Nat} {v : Value} {n : Nat} {xs : List Value} (h : OwnS w e z v n xs) (hb : Below w.heap.size w w') : OwnS w' e z v n xs := owns_same h fun b hm => hb.block b (owns_lt h hm)
theorem mem_blocks_kid {n : Nat} {l : Lay} {j : Nat} (h : j < l.ks.length) {b : Nat} (hb : b ∈ Lay.blocks n l.ks[j]) : b ∈ Lay.blocks (n + 1) l := by
 rw [Lay.blocks]
 exact List.mem_append_right _ (List.mem_append_right _ (List.mem_flatMap.2 ⟨_, List.getElem_mem h, hb⟩))
theorem LayAt.same {w w' : World} {n : Nat} {l : Lay} {t : Ty} (h : LayAt w n l t) (hs : ∀ b ∈ Lay.blocks n l, w'.heap[b]? = w.heap[b]?) : LayAt w' n l t := by
 induction n generalizing l t with
 | zero => exact h.elim
 | succ n ih =>
  obtain ⟨h1, h2, h3, h4⟩ := h
  refine ⟨owns_same h1 fun b hb => hs b ?_, h2, owns_same h3 fun b hb => hs b ?_, fun j q1 q2 => ih (h4 j q1 q2) fun b hb => hs b (mem_blocks_kid q1 hb)⟩
  ·rw [Lay.blocks]; exact List.mem_append_left _ hb
  ·rw [Lay.blocks]; exact List.mem_append_right _ (List.mem_append_left _ hb)
theorem LayAt.lt {w : World} {n : Nat} {l : Lay} {t : Ty} (h : LayAt w n l t) {b : Nat} (hb : b ∈ Lay.blocks n l) : b < w.heap.size := by
 induction n generalizing l t with
 | zero => exact h.elim
 | succ n ih =>
  obtain ⟨h1, h2, h3, h4⟩ := h
  rw [Lay.blocks] at hb
  rcases List.mem_append.1 hb with hb | hb
  ·exact owns_lt h1 hb
  ·rcases List.mem_append.1 hb with hb | hb
   ·exact owns_lt h3 hb
   ·obtain ⟨l', hl', hb⟩ := List.mem_flatMap.1 hb
    obtain ⟨j, hj, rfl⟩ := List.getElem_of_mem hl'
    exact ih (h4 j hj (by omega)) hb
theorem LayAt.row {w : World} {n : Nat} {l : Lay} {t : Ty} (h : LayAt w (n + 1) l t) : RowL w n l.vk l.ks t.kids := ⟨h.2.1, h.2.2.1, h.2.2.2⟩
theorem row_apart {n : Nat} {v : Value} {ls : List Lay} (h : (rowBlocks n v ls).Nodup) : (∀ x ∈ blk v, ∀ i (hi : i < ls.length), x ∉ Lay.blocks n ls[i]) ∧ (∀ i j (hi : i < ls.length) (hj : j < ls.length), i ≠ j → ∀ x ∈ Lay.blocks n ls[i], x ∉ Lay.blocks n ls[j]) ∧ ∀ i (hi : i < ls.length), (Lay.blocks n ls[i]).Nodup := by
 obtain ⟨_, h2, h3⟩ := List.pairwise_append.1 h
 obtain ⟨h4, h5⟩ := List.pairwise_flatMap.1 h2
 have h6 := List.pairwise_iff_getElem.1 h5
 refine ⟨fun x hx i hi hm => h3 x hx x (List.mem_flatMap.2 ⟨_, List.getElem_mem hi, hm⟩) rfl, fun i j hi hj hne x hx hm => ?_, fun i hi => h4 _ (List.getElem_mem hi)⟩
 rcases Nat.lt_or_gt_of_ne hne with c | c
 ·exact h6 i j hi hj c x hx x hm rfl
 ·exact h6 j i hj hi c x hm x hx rfl
theorem mem_rowBlocks {n : Nat} {v : Value} {ls : List Lay} {j : Nat} (h : j < ls.length) {b : Nat} (hb : b ∈ Lay.blocks n ls[j]) : b ∈ rowBlocks n v ls := List.mem_append_right _ (List.mem_flatMap.2 ⟨_, List.getElem_mem h, hb⟩)
def Ty.sized : Nat → Ty → Prop
 | 0, _ => False
 | n + 1, t => (-9223372036854775808 ≤ t.kind ∧ t.kind ≤ 9223372036854775807) ∧ t.name.size ≤ maxLen ∧ (t.names.length ≤ maxLen ∧ ∀ x ∈ t.names, x.size ≤ maxLen) ∧ t.kids.length ≤ maxLen ∧ ∀ k ∈ t.kids, Ty.sized n k
theorem TyAt.sized {w : World} {n : Nat} {cs : List Value} {t : Ty} (h : TyAt w n cs t) : Ty.sized n t := by
 induction n generalizing cs t with
 | zero => exact h.elim
 | succ n ih =>
  obtain ⟨vn, vk, _, h1, h2, ⟨_, h3, h4⟩, h5, h6⟩ := h
  refine ⟨h1, h2, ⟨h3, h4⟩, h5, fun k hk => ?_⟩
  rcases h6 with ⟨e, _⟩ | ⟨b, off, cap, _, hc⟩
  ·rw [e] at hk; simp at hk
  ·obtain ⟨j, hj, rfl⟩ := List.getElem_of_mem hk
   obtain ⟨cs', h7, _⟩ := hc j hj
   exact ih h7
theorem texts_owns {w : World} {v : Value} {ts : List ByteArray} (h : OwnS w 9 1 v ts.length (strV ts)) : Texts w v ts := by
 rcases h with ⟨h0, _, a, cap, e⟩ | ⟨hn, h⟩
 ·exact .inl ⟨List.length_eq_zero_iff.1 h0, _, _, e⟩
 ·rcases h.2 with ⟨_, h0⟩ | ⟨g, c, cur, e, _⟩
  ·omega
  ·rw [e] at h ⊢
   exact Texts.own h
theorem RowL.rowAt {w : World} {n : Nat} {v : Value} {ls : List Lay} {ks : List Ty} (h : RowL w n v ls ks) (hk : ∀ l q, q ∈ ks → LayAt w n l q → TyAt w n (cellsK q l) q) : RowAt w (TyAt w n) v ks := by
 obtain ⟨h1, h2, h3⟩ := h
 rcases h2 with ⟨h0, _, a, cap, e⟩ | ⟨hn, h2⟩
 ·exact .inl ⟨List.length_eq_zero_iff.1 h0, _, _, e⟩
 rcases h2.2 with ⟨_, h0⟩ | ⟨g, c, cur, e, _⟩
 ·omega
 ·subst e
  refine .inr ⟨g, 0, c, rfl, fun j hj => ⟨cellsK ks[j] (ls[j]'(by omega)), hk _ _ (List.getElem_mem hj) (h3 j (by omega) hj), fun cc u hu => ?_⟩⟩
  have hcc : cc < 4 := (List.getElem?_eq_some_iff.1 hu).1
  rw [Nat.zero_add, h2.cellAt (j * 4 + cc) (by omega), flatK_get ks ls j cc hj (by omega) hcc]
  exact hu
theorem LayAt.at {w : World} {n : Nat} {l : Lay} {t : Ty} (h : LayAt w n l t) (hs : Ty.sized n t) : TyAt w n (cellsK t l) t := by
 induction n generalizing l t with
 | zero => exact h.elim
 | succ n ih =>
  obtain ⟨s1, s2, s3, s4, s5⟩ := hs
  exact ⟨l.vn, l.vk, rfl, s1, s2, ⟨texts_owns h.1, s3⟩, s4, h.row.rowAt fun l q hq hl => ih hl (s5 q hq)⟩
theorem textsOpen {w : World} {v : Value} {ts : List ByteArray} (h : Texts w v ts) : ∃ a cap, v = .slice a ts.length cap ∧ ∀ j (h : j < ts.length), ∃ b off, a = some ⟨b, off, none⟩ ∧ w.cell? ⟨b, off + j, none⟩ = some (.string ts[j]) := by
 rcases h with ⟨h, a, cap, e⟩ | ⟨b, off, cap, e, hc⟩
 ·subst h; exact ⟨a, cap, e, fun j hj => absurd hj (by simp)⟩
 ·exact ⟨_, cap, e, fun j hj => ⟨b, off, rfl, hc j hj⟩⟩
theorem slice_ownL {w : World} {e z : Nat} {v : Value} {n : Nat} {xs : List Value} (h0 : OwnS w e z v n xs) (hn : 0 < n) : ∃ g cap, v = .slice (some ⟨g, 0, none⟩) n cap := by
 have h := h0.pos hn
 rcases h.2 with ⟨_, h0⟩ | ⟨g, cap, cur, hv, _⟩
 ·omega
 ·exact ⟨g, cap, hv⟩
def NewLay (B : Nat) (w : World) (n : Nat) (l : Lay) (t : Ty) : Prop := LayAt w n l t ∧ (Lay.blocks n l).Nodup ∧ ∀ b ∈ Lay.blocks n l, B ≤ b
structure Kids (w : World) (B n : Nat) (vn : Value) (ks : List Ty) (k : Nat) (v : Value) (ls : List Lay) : Prop where
 len : ls.length = k
 void : k = 0 → v = .slice none 0 0
 own : w.ownsRow B 30 4 v k (flatK (ks.take k) ls)
 lay : ∀ j (h1 : j < ls.length) (h2 : j < ks.length), LayAt w n ls[j] ks[j]
 nodup : (rowBlocks n v ls).Nodup
 new : ∀ b ∈ rowBlocks n v ls, B ≤ b ∧ b ∉ blk vn
theorem Kids.lt {w : World} {B n : Nat} {vn : Value} {ks : List Ty} {k : Nat} {v : Value} {ls : List Lay} (h : Kids w B n vn ks k v ls) (hk : k ≤ ks.length) {b : Nat} (hb : b ∈ rowBlocks n v ls) : b < w.heap.size := by
 rcases List.mem_append.1 hb with hb | hb
 ·exact owns_lt (OwnS.of h.own) hb
 ·obtain ⟨l', hl', hb⟩ := List.mem_flatMap.1 hb
  obtain ⟨j, hj, rfl⟩ := List.getElem_of_mem hl'
  exact (h.lay j hj (by have := h.len; omega)).lt hb
theorem Kids.same {w w' : World} {B n : Nat} {vn : Value} {ks : List Ty} {k : Nat} {v : Value} {ls : List Lay} (h : Kids w B n vn ks k v ls) (hv : w'.ownsRow B 30 4 v k (flatK (ks.take k) ls)) (hs : ∀ b ∈ rowBlocks n v ls, w'.heap[b]? = w.heap[b]?) : Kids w' B n vn ks k v ls :=
 ⟨h.len, h.void, hv, fun j h1 h2 => (h.lay j h1 h2).same fun b hb => hs b (mem_rowBlocks h1 hb), h.nodup, h.new⟩
theorem Kids.nil (w : World) (B n : Nat) (vn : Value) (ks : List Ty) : Kids w B n vn ks 0 (.slice none 0 0) [] :=
 ⟨rfl, fun _ => rfl, World.ownsRow_nil _ _ _ _, fun j h1 _ => absurd h1 (by simp), List.Pairwise.nil, fun b hb => by simp [rowBlocks, blk] at hb⟩
theorem flatK_snoc (ks : List Ty) (ls : List Lay) (k : Nat) (l : Lay) (hl : ls.length = k) (hk : k < ks.length) : flatK (ks.take (k + 1)) (ls ++ [l]) = flatK (ks.take k) ls ++ cellsK ks[k] l := by
 induction ks generalizing ls k with
 | nil => simp at hk
 | cons q qs ih =>
  cases k with
  | zero =>
   have : ls = [] := List.length_eq_zero_iff.1 hl
   subst this
   simp [flatK]
  | succ k =>
   cases ls with
   | nil => simp at hl
   | cons l0 ls =>
    have := ih ls k (by simpa using hl) (by simpa using hk)
    simp only [List.take_succ_cons, List.cons_append, flatK, List.getElem_cons_succ, this, List.append_assoc]
theorem flatMap_snoc {α β : Type} (f : α → List β) (l : List α) (x : α) : (l ++ [x]).flatMap f = l.flatMap f ++ f x := by simp
theorem Kids.more {wr w2 w4 : World} {B n : Nat} {vn v : Value} {ks : List Ty} {k gg cap : Nat} {ls : List Lay} {l : Lay} {o : Obj} (h : Kids wr B n vn ks k v ls) (hk : k < ks.length) (hB : B ≤ wr.heap.size) (hvn : ∀ b ∈ blk vn, b < wr.heap.size)
  (hb2 : Below wr.heap.size wr w2) (hl : NewLay wr.heap.size w2 n l ks[k]) (hg : (w2.alloc o).grownBy w4 v.ownBlock) (hat : v.ownBlock = some gg ∨ gg = w2.heap.size + 1)
  (hown : w4.ownsRow B 30 4 (.slice (some ⟨gg, 0, none⟩) (k + 1) cap) (k + 1) (flatK (ks.take k) ls ++ cellsK ks[k] l)) :
  Kids w4 B n vn ks (k + 1) (.slice (some ⟨gg, 0, none⟩) (k + 1) cap) (ls ++ [l]) := by
 have hz2 := hb2.size
 have hvl : ∀ g, v.ownBlock = some g → B ≤ g ∧ g < wr.heap.size := fun g hg => h.own.lt g hg
 have hsz : (w2.alloc o).heap.size = w2.heap.size + 1 := by simp
 have hbl : blk (.slice (some ⟨gg, 0, none⟩) (k + 1) cap) = [gg] := rfl
 have keep : ∀ b, b < w2.heap.size → v.ownBlock ≠ some b → w4.heap[b]? = w2.heap[b]? := fun b hb hne => (hg.block b (by omega) fun e => hne e.symm).trans ((MapKept.heap_alloc w2 o).2 b hb)
 obtain ⟨a1, a2, a3⟩ := row_apart h.nodup
 have old : ∀ j (hj : j < ls.length), ∀ b ∈ Lay.blocks n ls[j], v.ownBlock ≠ some b := fun j hj b hb e => by
  have hkp : 0 < k := by have := h.len; omega
  obtain ⟨g0, c0, e0⟩ := slice_ownL (OwnS.of h.own) hkp
  rw [e0] at e
  simp only [Value.ownBlock, Option.some.injEq] at e
  exact a1 b (by rw [e0]; exact (mem_blk hkp).2 e.symm) j hj hb
 have hnl : ∀ b ∈ Lay.blocks n l, wr.heap.size ≤ b ∧ b < w2.heap.size := fun b hb => ⟨hl.2.2 b hb, hl.1.lt hb⟩
 have hol : ∀ j (hj : j < ls.length), ∀ b ∈ Lay.blocks n ls[j], b < wr.heap.size := fun j hj b hb => h.lt (by omega) (mem_rowBlocks hj hb)
 have hggB : B ≤ gg := by rcases hat with e | e; exact (hvl gg e).1; omega
 refine ⟨by rw [List.length_append, List.length_singleton, h.len], fun e => absurd e (by omega), ?_, fun j h1 h2 => ?_, ?_, fun b hb => ?_⟩
 ·rw [flatK_snoc ks ls k l h.len hk]
  exact hown
 ·by_cases c : j < ls.length
  ·rw [List.getElem_append_left c]
   refine ((h.lay j c h2).same fun b hb => ?_)
   rw [keep b (by have := hol j c b hb; omega) (old j c b hb), hb2.block b (hol j c b hb)]
  ·have e : j = k := by rw [List.length_append, List.length_singleton] at h1; have := h.len; omega
   subst e
   have e2 : (ls ++ [l])[j] = l := by rw [List.getElem_append_right (by omega)]; simp [h.len]
   rw [e2]
   exact hl.1.same fun b hb => keep b (hnl b hb).2 fun e => by have := (hvl b e).2; have := (hnl b hb).1; omega
 ·unfold rowBlocks
  rw [hbl, flatMap_snoc]
  refine List.pairwise_append.2 ⟨List.pairwise_singleton _ _, List.pairwise_append.2 ⟨(List.pairwise_append.1 h.nodup).2.1, hl.2.1, fun x hx y hy e => ?_⟩, fun x hx y hy e => ?_⟩
  ·obtain ⟨l', hl', hx⟩ := List.mem_flatMap.1 hx
   obtain ⟨j, hj, rfl⟩ := List.getElem_of_mem hl'
   have := hol j hj x hx
   have := (hnl y hy).1
   omega
  ·simp only [List.mem_singleton] at hx
   subst hx
   subst e
   rcases List.mem_append.1 hy with hy | hy
   ·obtain ⟨l', hl', hy⟩ := List.mem_flatMap.1 hy
    obtain ⟨j, hj, rfl⟩ := List.getElem_of_mem hl'
    rcases hat with e | e
    ·exact old j hj x hy e
    ·have := hol j hj x hy; omega
   ·rcases hat with e | e
    ·have := (hvl x e).2; have := (hnl x hy).1; omega
    ·have := (hnl x hy).2; omega
 ·unfold rowBlocks at hb
  rw [hbl, flatMap_snoc] at hb
  rcases List.mem_append.1 hb with hb | hb
  ·simp only [List.mem_singleton] at hb
   subst hb
   refine ⟨hggB, fun hm => ?_⟩
   rcases hat with e | e
   ·by_cases hkp : 0 < k
    ·obtain ⟨g0, c0, e0⟩ := slice_ownL (OwnS.of h.own) hkp
     have e' := e
     rw [e0] at e'
     simp only [Value.ownBlock, Option.some.injEq] at e'
     exact (h.new b (List.mem_append_left _ (by rw [e0]; exact (mem_blk hkp).2 e'.symm))).2 hm
    ·rw [h.void (by omega)] at e; cases e
   ·have := hvn b hm; omega
  ·rcases List.mem_append.1 hb with hb | hb
   ·exact h.new b (List.mem_append_right _ hb)
   ·exact ⟨Nat.le_trans hB (hnl b hb).1, fun hm => by have := hvn b hm; have := (hnl b hb).1; omega⟩
def LookAns (es : List (ByteArray × Ty)) (nm : ByteArray) (t : Ty) (ok : Bool) : Prop :=
 (ok = true ∧ ∃ j, ∃ h : j < es.length, es[j].1 = nm ∧ (∀ i (hi : i < j), (es[i]'(by omega)).1 ≠ nm) ∧ t = es[j].2) ∨ (ok = false ∧ t = .mk 0 ⟨#[]⟩ [] [] ∧ ∀ j (h : j < es.length), es[j].1 ≠ nm)
theorem eq_no {a b : ByteArray} (h : a ≠ b) : (a.toList == b.toList) = false := by
 rw [beq_eq_false_iff_ne, Lib.toList_data, Lib.toList_data]
 intro e
 exact h (by
  cases a
  cases b
  exact congrArg ByteArray.mk (Array.toList_inj.1 e))
theorem zeroLayL {B : Nat} {w : World} {n : Nat} : NewLay B w (n + 1) (.mk (.slice none 0 0) (.slice none 0 0) []) (.mk 0 ⟨#[]⟩ [] []) := by
 refine ⟨⟨.inl ⟨rfl, rfl, _, _, rfl⟩, rfl, .inl ⟨rfl, rfl, _, _, rfl⟩, fun j h => absurd h (by simp)⟩, ?_, fun b hb => ?_⟩
 ·show ([] ++ ([] ++ [] : List Nat)).Nodup
  simp
 ·have : b ∈ ([] : List Nat) := hb
  simp at this
theorem look_bulk {es : List (ByteArray × Ty)} {nm : ByteArray} {t : Ty} {ok : Bool} {n : Nat} (h : LookAns es nm t ok) (hb : envBulk (n + 1) es ≤ 1048576) : Ty.bulk (n + 1) t ≤ 1048576 := by
 rcases h with ⟨_, j, hj, _, _, rfl⟩ | ⟨_, rfl, _⟩
 ·have := env_bulk (n + 1) es j hj; omega
 ·show (0 : Nat) + (0 + 0) + (0 + 0) ≤ _; omega
theorem zero_sizedL (n : Nat) : Ty.sized (n + 1) (.mk 0 ⟨#[]⟩ [] []) := ⟨⟨by show (-9223372036854775808 : Int) ≤ 0; omega, by show (0 : Int) ≤ 9223372036854775807; omega⟩, by show (0 : Nat) ≤ _; omega, ⟨by show (0 : Nat) ≤ _; omega, fun x hx => by simp at hx⟩, by show (0 : Nat) ≤ _; omega, fun k hk => by simp at hk⟩
theorem look_sized {es : List (ByteArray × Ty)} {nm : ByteArray} {t : Ty} {ok : Bool} {n : Nat} (h : LookAns es nm t ok) (hs : ∀ j (hj : j < es.length), Ty.sized (n + 1) es[j].2) : Ty.sized (n + 1) t := by
 rcases h with ⟨_, j, hj, _, _, rfl⟩ | ⟨_, rfl, _⟩
 ·exact hs j hj
 ·exact zero_sizedL n
theorem block4 {W : World} {b : Nat} {x0 x1 x2 x3 : Value} (h : W.heap[b]? = some (.cells #[x0, x1, x2, x3] 30 (0, 0))) :
  (W.cell? ⟨b, 0, none⟩ = some x0 ∧ W.cell? ⟨b, 1, none⟩ = some x1 ∧ W.cell? ⟨b, 2, none⟩ = some x2 ∧ W.cell? ⟨b, 3, none⟩ = some x3) ∧ ∀ j, W.frozen? ⟨b, j, none⟩ = false := by
 refine ⟨⟨?_, ?_, ?_, ?_⟩, fun j => frozen_of_row W b j _ _ h⟩
 ·rw [cell_of_row W b 0 _ _ (0, 0) h]; rfl
 ·rw [cell_of_row W b 1 _ _ (0, 0) h]; rfl
 ·rw [cell_of_row W b 2 _ _ (0, 0) h]; rfl
 ·rw [cell_of_row W b 3 _ _ (0, 0) h]; rfl
theorem put_below {B b : Nat} {w0 w : World} {x0 x1 x2 x3 : Value} (h : Below B w w0) (hb : B ≤ b) : Below B w ((((w0.setCell ⟨b, 0, none⟩ x0).setCell ⟨b, 1, none⟩ x1).setCell ⟨b, 2, none⟩ x2).setCell ⟨b, 3, none⟩ x3) := (((h.setCell hb _).setCell hb _).setCell hb _).setCell hb _
theorem put_other {b c : Nat} {w0 : World} {x0 x1 x2 x3 : Value} (h : c ≠ b) : ((((w0.setCell ⟨b, 0, none⟩ x0).setCell ⟨b, 1, none⟩ x1).setCell ⟨b, 2, none⟩ x2).setCell ⟨b, 3, none⟩ x3).heap[c]? = w0.heap[c]? := by
 rw [Below.heap_setCell _ _ _ _ (by simpa using h), Below.heap_setCell _ _ _ _ (by simpa using h), Below.heap_setCell _ _ _ _ (by simpa using h), Below.heap_setCell _ _ _ _ (by simpa using h)]
theorem boxes {w W : World} {A B : Obj} {C : Obj} (h : Below (w.heap.size + 1 + 1 + 1) (((w.alloc A).alloc B).alloc C) W) : W.heap[w.heap.size]? = some A ∧ W.heap[w.heap.size + 1]? = some B := by
 refine ⟨(h.block _ (by omega)).trans ?_, (h.block _ (by omega)).trans ?_⟩
 ·exact ((MapKept.heap_alloc ((w.alloc A).alloc B) C).2 _ (by simp; omega)).trans (heap_first w A B)
 ·exact ((MapKept.heap_alloc ((w.alloc A).alloc B) C).2 _ (by simp)).trans (heap_second w A B)
end Go.Proofs.YtbojmbeopnlmiaaGreatDoor
