/-
  A type that is made kid by kid, in memory of its own.
-/
import Derived.Test.YtikoacgfnojoeaaGreatDoorLayD
import Derived.Test.YtikoacgfnojoeaaGreatDoorStepA
import Derived.Deep.AppendLies
namespace Go.Proofs.YtikoacgfnojoeaaGreatDoor
open Go.RowKit

/-- memory holds the type, laid so, in new blocks, none twice -/
def NewLay (B : Nat) (w : World) (n : Nat) (l : Lay) (t : Ty) : Prop := LayAt w n l t ∧ (Lay.blocks n l).Nodup ∧ ∀ b ∈ Lay.blocks n l, B ≤ b
theorem NewLay.below {B : Nat} {w w' : World} {n : Nat} {l : Lay} {t : Ty} (h : NewLay B w n l t) (hb : Below w.heap.size w w') : NewLay B w' n l t := ⟨h.1.below hb, h.2⟩
theorem NewLay.mono {B B' : Nat} {w : World} {n : Nat} {l : Lay} {t : Ty} (h : NewLay B w n l t) (hB : B' ≤ B) : NewLay B' w n l t := ⟨h.1, h.2.1, fun b hb => Nat.le_trans hB (h.2.2 b hb)⟩

/-- kids that were gathered into a row, with what lies in memory apart from it -/
structure Kids (w : World) (B n : Nat) (vn : Value) (ks : List Ty) (k : Nat) (v : Value) (ls : List Lay) : Prop where
  len : ls.length = k
  void : k = 0 → v = .slice none 0 0
  own : w.ownsRow B 131 4 v k (flatK (ks.take k) ls)
  lay : ∀ j (h1 : j < ls.length) (h2 : j < ks.length), LayAt w n ls[j] ks[j]
  nodup : (rowBlocks n v ls).Nodup
  new : ∀ b ∈ rowBlocks n v ls, B ≤ b ∧ b ∉ blk vn

theorem Kids.lt {w : World} {B n : Nat} {vn : Value} {ks : List Ty} {k : Nat} {v : Value} {ls : List Lay} (h : Kids w B n vn ks k v ls) (hk : k ≤ ks.length) {b : Nat} (hb : b ∈ rowBlocks n v ls) : b < w.heap.size := by
  rcases List.mem_append.1 hb with hb | hb
  · exact owns_lt (OwnS.of h.own) hb
  · obtain ⟨l', hl', hb⟩ := List.mem_flatMap.1 hb
    obtain ⟨j, hj, rfl⟩ := List.getElem_of_mem hl'
    exact (h.lay j hj (by have := h.len; omega)).lt hb

theorem Kids.same {w w' : World} {B n : Nat} {vn : Value} {ks : List Ty} {k : Nat} {v : Value} {ls : List Lay} (h : Kids w B n vn ks k v ls) (hv : w'.ownsRow B 131 4 v k (flatK (ks.take k) ls)) (hs : ∀ b ∈ rowBlocks n v ls, w'.heap[b]? = w.heap[b]?) : Kids w' B n vn ks k v ls :=
  ⟨h.len, h.void, hv, fun j h1 h2 => (h.lay j h1 h2).same fun b hb => hs b (mem_rowBlocks h1 hb), h.nodup, h.new⟩

theorem Kids.nil (w : World) (B n : Nat) (vn : Value) (ks : List Ty) : Kids w B n vn ks 0 (.slice none 0 0) [] :=
  ⟨rfl, fun _ => rfl, World.ownsRow_nil _ _ _ _, fun j h1 _ => absurd h1 (by simp), List.Pairwise.nil, fun b hb => by simp [rowBlocks, blk] at hb⟩

theorem flatK_snoc (ks : List Ty) (ls : List Lay) (k : Nat) (l : Lay) (hl : ls.length = k) (hk : k < ks.length) : flatK (ks.take (k + 1)) (ls ++ [l]) = flatK (ks.take k) ls ++ cellsK ks[k] l := by
  induction ks generalizing ls k with
  | nil => simp at hk
  | cons q qs ih =>
    cases k with
    | zero =>
      have : ls = [] := List.length_eq_zero_iff.1 hl
      subst this
      simp [flatK]
    | succ k =>
      cases ls with
      | nil => simp at hl
      | cons l0 ls =>
        have := ih ls k (by simpa using hl) (by simpa using hk)
        simp only [List.take_succ_cons, List.cons_append, flatK, List.getElem_cons_succ, this, List.append_assoc]

theorem flatMap_snoc {α β : Type} (f : α → List β) (l : List α) (x : α) : (l ++ [x]).flatMap f = l.flatMap f ++ f x := by simp

/-- one more is gathered -/
theorem Kids.more {wr w2 w4 : World} {B n : Nat} {vn v : Value} {ks : List Ty} {k gg cap : Nat} {ls : List Lay} {l : Lay} {o : Obj} (h : Kids wr B n vn ks k v ls) (hk : k < ks.length) (hB : B ≤ wr.heap.size) (hvn : ∀ b ∈ blk vn, b < wr.heap.size)
    (hb2 : Below wr.heap.size wr w2) (hl : NewLay wr.heap.size w2 n l ks[k]) (hg : (w2.alloc o).grownBy w4 v.ownBlock) (hat : v.ownBlock = some gg ∨ gg = w2.heap.size + 1)
    (hown : w4.ownsRow B 131 4 (.slice (some ⟨gg, 0, none⟩) (k + 1) cap) (k + 1) (flatK (ks.take k) ls ++ cellsK ks[k] l)) :
    Kids w4 B n vn ks (k + 1) (.slice (some ⟨gg, 0, none⟩) (k + 1) cap) (ls ++ [l]) := by
  have hz2 := hb2.size
  have hvl : ∀ g, v.ownBlock = some g → B ≤ g ∧ g < wr.heap.size := fun g hg => h.own.lt g hg
  have hsz : (w2.alloc o).heap.size = w2.heap.size + 1 := by simp
  have hbl : blk (.slice (some ⟨gg, 0, none⟩) (k + 1) cap) = [gg] := rfl
  have keep : ∀ b, b < w2.heap.size → v.ownBlock ≠ some b → w4.heap[b]? = w2.heap[b]? := fun b hb hne => (hg.block b (by omega) fun e => hne e.symm).trans ((MapKept.heap_alloc w2 o).2 b hb)
  obtain ⟨a1, a2, a3⟩ := row_apart h.nodup
  have old : ∀ j (hj : j < ls.length), ∀ b ∈ Lay.blocks n ls[j], v.ownBlock ≠ some b := fun j hj b hb e => by
    have hkp : 0 < k := by have := h.len; omega
    obtain ⟨g0, c0, e0⟩ := slice_ownL (OwnS.of h.own) hkp
    rw [e0] at e
    simp only [Value.ownBlock, Option.some.injEq] at e
    exact a1 b (by rw [e0]; exact (mem_blk hkp).2 e.symm) j hj hb
  have hnl : ∀ b ∈ Lay.blocks n l, wr.heap.size ≤ b ∧ b < w2.heap.size := fun b hb => ⟨hl.2.2 b hb, hl.1.lt hb⟩
  have hol : ∀ j (hj : j < ls.length), ∀ b ∈ Lay.blocks n ls[j], b < wr.heap.size := fun j hj b hb => h.lt (by omega) (mem_rowBlocks hj hb)
  have hggB : B ≤ gg := by rcases hat with e | e; exact (hvl gg e).1; omega
  refine ⟨by rw [List.length_append, List.length_singleton, h.len], fun e => absurd e (by omega), ?_, fun j h1 h2 => ?_, ?_, fun b hb => ?_⟩
  · rw [flatK_snoc ks ls k l h.len hk]
    exact hown
  · by_cases c : j < ls.length
    · rw [List.getElem_append_left c]
      refine ((h.lay j c h2).same fun b hb => ?_)
      rw [keep b (by have := hol j c b hb; omega) (old j c b hb), hb2.block b (hol j c b hb)]
    · have e : j = k := by rw [List.length_append, List.length_singleton] at h1; have := h.len; omega
      subst e
      have e2 : (ls ++ [l])[j] = l := by rw [List.getElem_append_right (by omega)]; simp [h.len]
      rw [e2]
      exact hl.1.same fun b hb => keep b (hnl b hb).2 fun e => by have := (hvl b e).2; have := (hnl b hb).1; omega
  · unfold rowBlocks
    rw [hbl, flatMap_snoc]
    refine List.pairwise_append.2 ⟨List.pairwise_singleton _ _, List.pairwise_append.2 ⟨(List.pairwise_append.1 h.nodup).2.1, hl.2.1, fun x hx y hy e => ?_⟩, fun x hx y hy e => ?_⟩
    · obtain ⟨l', hl', hx⟩ := List.mem_flatMap.1 hx
      obtain ⟨j, hj, rfl⟩ := List.getElem_of_mem hl'
      have := hol j hj x hx
      have := (hnl y hy).1
      omega
    · simp only [List.mem_singleton] at hx
      subst hx
      subst e
      rcases List.mem_append.1 hy with hy | hy
      · obtain ⟨l', hl', hy⟩ := List.mem_flatMap.1 hy
        obtain ⟨j, hj, rfl⟩ := List.getElem_of_mem hl'
        rcases hat with e | e
        · exact old j hj x hy e
        · have := hol j hj x hy; omega
      · rcases hat with e | e
        · have := (hvl x e).2; have := (hnl x hy).1; omega
        · have := (hnl x hy).2; omega
  · unfold rowBlocks at hb
    rw [hbl, flatMap_snoc] at hb
    rcases List.mem_append.1 hb with hb | hb
    · simp only [List.mem_singleton] at hb
      subst hb
      refine ⟨hggB, fun hm => ?_⟩
      rcases hat with e | e
      · by_cases hkp : 0 < k
        · obtain ⟨g0, c0, e0⟩ := slice_ownL (OwnS.of h.own) hkp
          have e' := e
          rw [e0] at e'
          simp only [Value.ownBlock, Option.some.injEq] at e'
          exact (h.new b (List.mem_append_left _ (by rw [e0]; exact (mem_blk hkp).2 e'.symm))).2 hm
        · rw [h.void (by omega)] at e; cases e
      · have := hvn b hm; omega
    · rcases List.mem_append.1 hb with hb | hb
      · exact h.new b (List.mem_append_right _ hb)
      · exact ⟨Nat.le_trans hB (hnl b hb).1, fun hm => by have := hvn b hm; have := (hnl b hb).1; omega⟩

end Go.Proofs.YtikoacgfnojoeaaGreatDoor
