/-
  A type that is made kid by kid, in memory of its own.
  Four cells of a block; boxes.
  The walk of impl.typeOf at forms without kids.
-/
import Derived.Test.YtpaamlniicipbaaDoorLayD
import Derived.Test.YtpaamlniicipbaaDoorStepA
import Derived.Deep.AppendLies
import Derived.Test.YtpaamlniicipbaaDoorFormT
namespace Go.Proofs.YtpaamlniicipbaaDoor
open Go.RowKit

/-- memory holds the type, laid so, in new blocks, none twice -/
def NewLay (B : Nat) (w : World) (n : Nat) (l : Lay) (t : Ty) : Prop := LayAt w n l t ∧ (Lay.blocks n l).Nodup ∧ ∀ b ∈ Lay.blocks n l, B ≤ b
theorem NewLay.below {B : Nat} {w w' : World} {n : Nat} {l : Lay} {t : Ty} (h : NewLay B w n l t) (hb : Below w.heap.size w w') : NewLay B w' n l t := ⟨h.1.below hb, h.2⟩
theorem NewLay.mono {B B' : Nat} {w : World} {n : Nat} {l : Lay} {t : Ty} (h : NewLay B w n l t) (hB : B' ≤ B) : NewLay B' w n l t := ⟨h.1, h.2.1, fun b hb => Nat.le_trans hB (h.2.2 b hb)⟩

/-- kids that were gathered into a row, with what lies in memory apart from it -/
structure Kids (w : World) (B n : Nat) (vn : Value) (ks : List Ty) (k : Nat) (v : Value) (ls : List Lay) : Prop where
  len : ls.length = k
  void : k = 0 → v = .slice none 0 0
  own : w.ownsRow B 32 4 v k (flatK (ks.take k) ls)
  lay : ∀ j (h1 : j < ls.length) (h2 : j < ks.length), LayAt w n ls[j] ks[j]
  nodup : (rowBlocks n v ls).Nodup
  new : ∀ b ∈ rowBlocks n v ls, B ≤ b ∧ b ∉ blk vn

theorem Kids.lt {w : World} {B n : Nat} {vn : Value} {ks : List Ty} {k : Nat} {v : Value} {ls : List Lay} (h : Kids w B n vn ks k v ls) (hk : k ≤ ks.length) {b : Nat} (hb : b ∈ rowBlocks n v ls) : b < w.heap.size := by
  rcases List.mem_append.1 hb with hb | hb
  · exact owns_lt (OwnS.of h.own) hb
  · obtain ⟨l', hl', hb⟩ := List.mem_flatMap.1 hb
    obtain ⟨j, hj, rfl⟩ := List.getElem_of_mem hl'
    exact (h.lay j hj (by have := h.len; omega)).lt hb

theorem Kids.same {w w' : World} {B n : Nat} {vn : Value} {ks : List Ty} {k : Nat} {v : Value} {ls : List Lay} (h : Kids w B n vn ks k v ls) (hv : w'.ownsRow B 32 4 v k (flatK (ks.take k) ls)) (hs : ∀ b ∈ rowBlocks n v ls, w'.heap[b]? = w.heap[b]?) : Kids w' B n vn ks k v ls :=
  ⟨h.len, h.void, hv, fun j h1 h2 => (h.lay j h1 h2).same fun b hb => hs b (mem_rowBlocks h1 hb), h.nodup, h.new⟩

theorem Kids.nil (w : World) (B n : Nat) (vn : Value) (ks : List Ty) : Kids w B n vn ks 0 (.slice none 0 0) [] :=
  ⟨rfl, fun _ => rfl, World.ownsRow_nil _ _ _ _, fun j h1 _ => absurd h1 (by simp), List.Pairwise.nil, fun b hb => by simp [rowBlocks, blk] at hb⟩

theorem flatK_snoc (ks : List Ty) (ls : List Lay) (k : Nat) (l : Lay) (hl : ls.length = k) (hk : k < ks.length) : flatK (ks.take (k + 1)) (ls ++ [l]) = flatK (ks.take k) ls ++ cellsK ks[k] l := by
  induction ks generalizing ls k with
  | nil => simp at hk
  | cons q qs ih =>
    cases k with
    | zero =>
      have : ls = [] := List.length_eq_zero_iff.1 hl
      subst this
      simp [flatK]
    | succ k =>
      cases ls with
      | nil => simp at hl
      | cons l0 ls =>
        have := ih ls k (by simpa using hl) (by simpa using hk)
        simp only [List.take_succ_cons, List.cons_append, flatK, List.getElem_cons_succ, this, List.append_assoc]

theorem flatMap_snoc {α β : Type} (f : α → List β) (l : List α) (x : α) : (l ++ [x]).flatMap f = l.flatMap f ++ f x := by simp

/-- one more is gathered -/
theorem Kids.more {wr w2 w4 : World} {B n : Nat} {vn v : Value} {ks : List Ty} {k gg cap : Nat} {ls : List Lay} {l : Lay} {o : Obj} (h : Kids wr B n vn ks k v ls) (hk : k < ks.length) (hB : B ≤ wr.heap.size) (hvn : ∀ b ∈ blk vn, b < wr.heap.size)
    (hb2 : Below wr.heap.size wr w2) (hl : NewLay wr.heap.size w2 n l ks[k]) (hg : (w2.alloc o).grownBy w4 v.ownBlock) (hat : v.ownBlock = some gg ∨ gg = w2.heap.size + 1)
    (hown : w4.ownsRow B 32 4 (.slice (some ⟨gg, 0, none⟩) (k + 1) cap) (k + 1) (flatK (ks.take k) ls ++ cellsK ks[k] l)) :
    Kids w4 B n vn ks (k + 1) (.slice (some ⟨gg, 0, none⟩) (k + 1) cap) (ls ++ [l]) := by
  have hz2 := hb2.size
  have hvl : ∀ g, v.ownBlock = some g → B ≤ g ∧ g < wr.heap.size := fun g hg => h.own.lt g hg
  have hsz : (w2.alloc o).heap.size = w2.heap.size + 1 := by simp
  have hbl : blk (.slice (some ⟨gg, 0, none⟩) (k + 1) cap) = [gg] := rfl
  have keep : ∀ b, b < w2.heap.size → v.ownBlock ≠ some b → w4.heap[b]? = w2.heap[b]? := fun b hb hne => (hg.block b (by omega) fun e => hne e.symm).trans ((MapKept.heap_alloc w2 o).2 b hb)
  obtain ⟨a1, a2, a3⟩ := row_apart h.nodup
  have old : ∀ j (hj : j < ls.length), ∀ b ∈ Lay.blocks n ls[j], v.ownBlock ≠ some b := fun j hj b hb e => by
    have hkp : 0 < k := by have := h.len; omega
    obtain ⟨g0, c0, e0⟩ := slice_ownL (OwnS.of h.own) hkp
    rw [e0] at e
    simp only [Value.ownBlock, Option.some.injEq] at e
    exact a1 b (by rw [e0]; exact (mem_blk hkp).2 e.symm) j hj hb
  have hnl : ∀ b ∈ Lay.blocks n l, wr.heap.size ≤ b ∧ b < w2.heap.size := fun b hb => ⟨hl.2.2 b hb, hl.1.lt hb⟩
  have hol : ∀ j (hj : j < ls.length), ∀ b ∈ Lay.blocks n ls[j], b < wr.heap.size := fun j hj b hb => h.lt (by omega) (mem_rowBlocks hj hb)
  have hggB : B ≤ gg := by rcases hat with e | e; exact (hvl gg e).1; omega
  refine ⟨by rw [List.length_append, List.length_singleton, h.len], fun e => absurd e (by omega), ?_, fun j h1 h2 => ?_, ?_, fun b hb => ?_⟩
  · rw [flatK_snoc ks ls k l h.len hk]
    exact hown
  · by_cases c : j < ls.length
    · rw [List.getElem_append_left c]
      refine ((h.lay j c h2).same fun b hb => ?_)
      rw [keep b (by have := hol j c b hb; omega) (old j c b hb), hb2.block b (hol j c b hb)]
    · have e : j = k := by rw [List.length_append, List.length_singleton] at h1; have := h.len; omega
      subst e
      have e2 : (ls ++ [l])[j] = l := by rw [List.getElem_append_right (by omega)]; simp [h.len]
      rw [e2]
      exact hl.1.same fun b hb => keep b (hnl b hb).2 fun e => by have := (hvl b e).2; have := (hnl b hb).1; omega
  · unfold rowBlocks
    rw [hbl, flatMap_snoc]
    refine List.pairwise_append.2 ⟨List.pairwise_singleton _ _, List.pairwise_append.2 ⟨(List.pairwise_append.1 h.nodup).2.1, hl.2.1, fun x hx y hy e => ?_⟩, fun x hx y hy e => ?_⟩
    · obtain ⟨l', hl', hx⟩ := List.mem_flatMap.1 hx
      obtain ⟨j, hj, rfl⟩ := List.getElem_of_mem hl'
      have := hol j hj x hx
      have := (hnl y hy).1
      omega
    · simp only [List.mem_singleton] at hx
      subst hx
      subst e
      rcases List.mem_append.1 hy with hy | hy
      · obtain ⟨l', hl', hy⟩ := List.mem_flatMap.1 hy
        obtain ⟨j, hj, rfl⟩ := List.getElem_of_mem hl'
        rcases hat with e | e
        · exact old j hj x hy e
        · have := hol j hj x hy; omega
      · rcases hat with e | e
        · have := (hvl x e).2; have := (hnl x hy).1; omega
        · have := (hnl x hy).2; omega
  · unfold rowBlocks at hb
    rw [hbl, flatMap_snoc] at hb
    rcases List.mem_append.1 hb with hb | hb
    · simp only [List.mem_singleton] at hb
      subst hb
      refine ⟨hggB, fun hm => ?_⟩
      rcases hat with e | e
      · by_cases hkp : 0 < k
        · obtain ⟨g0, c0, e0⟩ := slice_ownL (OwnS.of h.own) hkp
          have e' := e
          rw [e0] at e'
          simp only [Value.ownBlock, Option.some.injEq] at e'
          exact (h.new b (List.mem_append_left _ (by rw [e0]; exact (mem_blk hkp).2 e'.symm))).2 hm
        · rw [h.void (by omega)] at e; cases e
      · have := hvn b hm; omega
    · rcases List.mem_append.1 hb with hb | hb
      · exact h.new b (List.mem_append_right _ hb)
      · exact ⟨Nat.le_trans hB (hnl b hb).1, fun hm => by have := hvn b hm; have := (hnl b hb).1; omega⟩

end Go.Proofs.YtpaamlniicipbaaDoor

namespace Go.Proofs.YtpaamlniicipbaaDoor
open Go.RowKit

theorem below3 {w : World} (A B C D : Obj) : Below (w.heap.size + 1) (w.alloc A) ((((w.alloc A).alloc B).alloc C).alloc D) := (((Below.refl _ _).alloc (by simp) _).alloc (by simp) _).alloc (by simp) _

theorem block4 {W : World} {b : Nat} {x0 x1 x2 x3 : Value} (h : W.heap[b]? = some (.cells #[x0, x1, x2, x3] 32 (0, 0))) :
    (W.cell? ⟨b, 0, none⟩ = some x0 ∧ W.cell? ⟨b, 1, none⟩ = some x1 ∧ W.cell? ⟨b, 2, none⟩ = some x2 ∧ W.cell? ⟨b, 3, none⟩ = some x3) ∧ ∀ j, W.frozen? ⟨b, j, none⟩ = false := by
  refine ⟨⟨?_, ?_, ?_, ?_⟩, fun j => frozen_of_row W b j _ _ h⟩
  · rw [cell_of_row W b 0 _ _ (0, 0) h]; rfl
  · rw [cell_of_row W b 1 _ _ (0, 0) h]; rfl
  · rw [cell_of_row W b 2 _ _ (0, 0) h]; rfl
  · rw [cell_of_row W b 3 _ _ (0, 0) h]; rfl
theorem put_below {B b : Nat} {w0 w : World} {x0 x1 x2 x3 : Value} (h : Below B w w0) (hb : B ≤ b) : Below B w ((((w0.setCell ⟨b, 0, none⟩ x0).setCell ⟨b, 1, none⟩ x1).setCell ⟨b, 2, none⟩ x2).setCell ⟨b, 3, none⟩ x3) := (((h.setCell hb _).setCell hb _).setCell hb _).setCell hb _
theorem put_other {b c : Nat} {w0 : World} {x0 x1 x2 x3 : Value} (h : c ≠ b) : ((((w0.setCell ⟨b, 0, none⟩ x0).setCell ⟨b, 1, none⟩ x1).setCell ⟨b, 2, none⟩ x2).setCell ⟨b, 3, none⟩ x3).heap[c]? = w0.heap[c]? := by
  rw [Below.heap_setCell _ _ _ _ (by simpa using h), Below.heap_setCell _ _ _ _ (by simpa using h), Below.heap_setCell _ _ _ _ (by simpa using h), Below.heap_setCell _ _ _ _ (by simpa using h)]
/-- the two boxes of the function, in a later world -/
theorem boxes {w W : World} {A B : Obj} {C : Obj} (h : Below (w.heap.size + 1 + 1 + 1) (((w.alloc A).alloc B).alloc C) W) : W.heap[w.heap.size]? = some A ∧ W.heap[w.heap.size + 1]? = some B := by
  refine ⟨(h.block _ (by omega)).trans ?_, (h.block _ (by omega)).trans ?_⟩
  · exact ((MapKept.heap_alloc ((w.alloc A).alloc B) C).2 _ (by simp; omega)).trans (heap_first w A B)
  · exact ((MapKept.heap_alloc ((w.alloc A).alloc B) C).2 _ (by simp)).trans (heap_second w A B)

end Go.Proofs.YtpaamlniicipbaaDoor

namespace Go.Proofs.YtpaamlniicipbaaDoor
open Go.RowKit

theorem ret_cells {R : Ending → World → Prop} {W : World} {tmps : Array Value} {b : Nat} {x0 x1 x2 x3 : Value} (hp : tmps[2]?.getD undef = .pointer (some ⟨b, 0, none⟩))
    (h : W.cell? ⟨b, 0, none⟩ = some x0 ∧ W.cell? ⟨b, 1, none⟩ = some x1 ∧ W.cell? ⟨b, 2, none⟩ = some x2 ∧ W.cell? ⟨b, 3, none⟩ = some x3) (hR : R (.returned (.agg #[x0, x1, x2, x3])) W) :
    bodyPost Tryd.prog Tryd.f42 R .ret { tmps := tmps, defers := [] } W := by
  obtain ⟨h0, h1, h2, h3⟩ := h
  refine bodyPost_ret (v := .agg #[x0, x1, x2, x3]) ?_ rfl hR
  simp [results, Tryd.results42, go_sem, hp, h0, h1, h2, h3]
theorem ret_done {R : Ending → World → Prop} {w W : World} {tmps : Array Value} {x0 x1 x2 x3 : Value} (hp : tmps[2]?.getD undef = .pointer (some ⟨w.heap.size, 0, none⟩))
    (hb : Below (w.heap.size + 1) (w.alloc (.cells #[x0, x1, x2, x3] 32)) W) (hR : Below w.heap.size w W → R (.returned (.agg #[x0, x1, x2, x3])) W) :
    bodyPost Tryd.prog Tryd.f42 R .ret { tmps := tmps, defers := [] } W := by
  obtain ⟨h, h2, _⟩ := boxedR hb
  exact ret_cells hp h (hR h2)
theorem ret_put {R : Ending → World → Prop} {w0 : World} {tmps : Array Value} {b : Nat} {x0 x1 x2 x3 : Value} (hp : tmps[2]?.getD undef = .pointer (some ⟨b, 0, none⟩))
    (h : ∀ j, j < 4 → (w0.cell? ⟨b, j, none⟩).isSome = true) (hR : R (.returned (.agg #[x0, x1, x2, x3])) ((((w0.setCell ⟨b, 0, none⟩ x0).setCell ⟨b, 1, none⟩ x1).setCell ⟨b, 2, none⟩ x2).setCell ⟨b, 3, none⟩ x3)) :
    bodyPost Tryd.prog Tryd.f42 R .ret { tmps := tmps, defers := [] } ((((w0.setCell ⟨b, 0, none⟩ x0).setCell ⟨b, 1, none⟩ x1).setCell ⟨b, 2, none⟩ x2).setCell ⟨b, 3, none⟩ x3) := ret_cells hp (put4T h) hR
set_option maxHeartbeats 1600000 in
set_option maxRecDepth 100000 in
/-- the cells of a block of four -/
theorem implTypeOf0 (a : Option Addr) (c : Nat) (w : World) :
    Calls Tryd.prog 42 #[.iface 85 (.agg #[.slice a 0 c])] w fun e w' => e = .returned (.agg #[.int .i64 0, .string ⟨#[]⟩, .slice none 0 0, .slice none 0 0]) ∧ Below w.heap.size w w' := by
  have t0 : ∀ w : World, (Instr.typeAssert (.iface 85 (.agg #[.slice a 0 c])) 66 85 true).run Tryd.prog w = .ok (.tuple #[.agg #[.slice a 0 c], .bool true]) w := fun w => by kernel_rfl
  have hm : ∀ w : World, Sem.run Tryd.prog (method 254 85 (.agg #[.slice a 0 c]) "loop.example/g00276/impl.kids") w = .ok (86, .agg #[.slice a 0 c]) w := fun w => by kernel_rfl
  have HK1 : Hid (∀ wx : World, Calls Tryd.prog 86 #[.agg #[.slice a 0 c]] wx fun e w' => e = .returned (.slice a 0 c) ∧ w' = wx.alloc (.cells #[.slice a 0 c] 83)) := fun wx => implKids a 0 c wx
  go_enter Tryd.func42, Tryd.ntmps42
  go_wp2_with fail
  refine (HK1.out _).mono ?_
  rintro e w1 ⟨rfl, rfl⟩
  clear HK1 hm
  go_wp2_with fail
  refine wp_loop_rounds 1 ?_
  rw [rounds_succ]
  go_wp2
  exact ret_done rfl (below3 _ _ _ _) fun h => ⟨rfl, h⟩

set_option maxHeartbeats 1600000 in
set_option maxRecDepth 100000 in
theorem implTypeOf1 (a : Option Addr) (c : Nat) (w : World) :
    Calls Tryd.prog 42 #[.iface 86 (.agg #[.slice a 0 c])] w fun e w' => e = .returned (.agg #[.int .i64 1, .string ⟨#[]⟩, .slice none 0 0, .slice none 0 0]) ∧ Below w.heap.size w w' := by
  have t0 : ∀ w : World, (Instr.typeAssert (.iface 86 (.agg #[.slice a 0 c])) 66 85 true).run Tryd.prog w = .ok (.tuple #[.agg #[.slice none 0 0], .bool false]) w := fun w => by kernel_rfl
  have t1 : ∀ w : World, (Instr.typeAssert (.iface 86 (.agg #[.slice a 0 c])) 66 86 true).run Tryd.prog w = .ok (.tuple #[.agg #[.slice a 0 c], .bool true]) w := fun w => by kernel_rfl
  have hm : ∀ w : World, Sem.run Tryd.prog (method 254 86 (.agg #[.slice a 0 c]) "loop.example/g00276/impl.kids") w = .ok (86, .agg #[.slice a 0 c]) w := fun w => by kernel_rfl
  have HK1 : Hid (∀ wx : World, Calls Tryd.prog 86 #[.agg #[.slice a 0 c]] wx fun e w' => e = .returned (.slice a 0 c) ∧ w' = wx.alloc (.cells #[.slice a 0 c] 83)) := fun wx => implKids a 0 c wx
  go_enter Tryd.func42, Tryd.ntmps42
  go_wp2_with fail
  refine (HK1.out _).mono ?_
  rintro e w1 ⟨rfl, rfl⟩
  clear HK1 hm
  go_wp2_with fail
  refine wp_loop_rounds 1 ?_
  rw [rounds_succ]
  go_wp2
  exact ret_done rfl (below3 _ _ _ _) fun h => ⟨rfl, h⟩

set_option maxHeartbeats 1600000 in
set_option maxRecDepth 100000 in
theorem implTypeOf2 (a : Option Addr) (c : Nat) (w : World) :
    Calls Tryd.prog 42 #[.iface 87 (.agg #[.slice a 0 c])] w fun e w' => e = .returned (.agg #[.int .i64 2, .string ⟨#[]⟩, .slice none 0 0, .slice none 0 0]) ∧ Below w.heap.size w w' := by
  have t0 : ∀ w : World, (Instr.typeAssert (.iface 87 (.agg #[.slice a 0 c])) 66 85 true).run Tryd.prog w = .ok (.tuple #[.agg #[.slice none 0 0], .bool false]) w := fun w => by kernel_rfl
  have t1 : ∀ w : World, (Instr.typeAssert (.iface 87 (.agg #[.slice a 0 c])) 66 86 true).run Tryd.prog w = .ok (.tuple #[.agg #[.slice none 0 0], .bool false]) w := fun w => by kernel_rfl
  have t2 : ∀ w : World, (Instr.typeAssert (.iface 87 (.agg #[.slice a 0 c])) 66 87 true).run Tryd.prog w = .ok (.tuple #[.agg #[.slice a 0 c], .bool true]) w := fun w => by kernel_rfl
  have hm : ∀ w : World, Sem.run Tryd.prog (method 254 87 (.agg #[.slice a 0 c]) "loop.example/g00276/impl.kids") w = .ok (86, .agg #[.slice a 0 c]) w := fun w => by kernel_rfl
  have HK1 : Hid (∀ wx : World, Calls Tryd.prog 86 #[.agg #[.slice a 0 c]] wx fun e w' => e = .returned (.slice a 0 c) ∧ w' = wx.alloc (.cells #[.slice a 0 c] 83)) := fun wx => implKids a 0 c wx
  go_enter Tryd.func42, Tryd.ntmps42
  go_wp2_with fail
  refine (HK1.out _).mono ?_
  rintro e w1 ⟨rfl, rfl⟩
  clear HK1 hm
  go_wp2_with fail
  refine wp_loop_rounds 1 ?_
  rw [rounds_succ]
  go_wp2
  exact ret_done rfl (below3 _ _ _ _) fun h => ⟨rfl, h⟩

set_option maxHeartbeats 1600000 in
set_option maxRecDepth 100000 in
theorem implTypeOf3 (a : Option Addr) (c : Nat) (w : World) :
    Calls Tryd.prog 42 #[.iface 88 (.agg #[.slice a 0 c])] w fun e w' => e = .returned (.agg #[.int .i64 3, .string ⟨#[]⟩, .slice none 0 0, .slice none 0 0]) ∧ Below w.heap.size w w' := by
  have t0 : ∀ w : World, (Instr.typeAssert (.iface 88 (.agg #[.slice a 0 c])) 66 85 true).run Tryd.prog w = .ok (.tuple #[.agg #[.slice none 0 0], .bool false]) w := fun w => by kernel_rfl
  have t1 : ∀ w : World, (Instr.typeAssert (.iface 88 (.agg #[.slice a 0 c])) 66 86 true).run Tryd.prog w = .ok (.tuple #[.agg #[.slice none 0 0], .bool false]) w := fun w => by kernel_rfl
  have t2 : ∀ w : World, (Instr.typeAssert (.iface 88 (.agg #[.slice a 0 c])) 66 87 true).run Tryd.prog w = .ok (.tuple #[.agg #[.slice none 0 0], .bool false]) w := fun w => by kernel_rfl
  have t3 : ∀ w : World, (Instr.typeAssert (.iface 88 (.agg #[.slice a 0 c])) 66 88 true).run Tryd.prog w = .ok (.tuple #[.agg #[.slice a 0 c], .bool true]) w := fun w => by kernel_rfl
  have hm : ∀ w : World, Sem.run Tryd.prog (method 254 88 (.agg #[.slice a 0 c]) "loop.example/g00276/impl.kids") w = .ok (86, .agg #[.slice a 0 c]) w := fun w => by kernel_rfl
  have HK1 : Hid (∀ wx : World, Calls Tryd.prog 86 #[.agg #[.slice a 0 c]] wx fun e w' => e = .returned (.slice a 0 c) ∧ w' = wx.alloc (.cells #[.slice a 0 c] 83)) := fun wx => implKids a 0 c wx
  go_enter Tryd.func42, Tryd.ntmps42
  go_wp2_with fail
  refine (HK1.out _).mono ?_
  rintro e w1 ⟨rfl, rfl⟩
  clear HK1 hm
  go_wp2_with fail
  refine wp_loop_rounds 1 ?_
  rw [rounds_succ]
  go_wp2
  exact ret_done rfl (below3 _ _ _ _) fun h => ⟨rfl, h⟩

set_option maxHeartbeats 1600000 in
set_option maxRecDepth 100000 in
theorem implTypeOf4 (a : Option Addr) (c : Nat) (nm : ByteArray) (w : World) (hs : nm.size ≤ 281474976710656) :
    Calls Tryd.prog 42 #[.iface 90 (.agg #[.slice a 0 c, .string nm])] w fun e w' => e = .returned (.agg #[.int .i64 4, .string nm, .slice none 0 0, .slice none 0 0]) ∧ Below w.heap.size w w' := by
  have t0 : ∀ w : World, (Instr.typeAssert (.iface 90 (.agg #[.slice a 0 c, .string nm])) 66 85 true).run Tryd.prog w = .ok (.tuple #[.agg #[.slice none 0 0], .bool false]) w := fun w => by kernel_rfl
  have t1 : ∀ w : World, (Instr.typeAssert (.iface 90 (.agg #[.slice a 0 c, .string nm])) 66 86 true).run Tryd.prog w = .ok (.tuple #[.agg #[.slice none 0 0], .bool false]) w := fun w => by kernel_rfl
  have t2 : ∀ w : World, (Instr.typeAssert (.iface 90 (.agg #[.slice a 0 c, .string nm])) 66 87 true).run Tryd.prog w = .ok (.tuple #[.agg #[.slice none 0 0], .bool false]) w := fun w => by kernel_rfl
  have t3 : ∀ w : World, (Instr.typeAssert (.iface 90 (.agg #[.slice a 0 c, .string nm])) 66 88 true).run Tryd.prog w = .ok (.tuple #[.agg #[.slice none 0 0], .bool false]) w := fun w => by kernel_rfl
  have t4 : ∀ w : World, (Instr.typeAssert (.iface 90 (.agg #[.slice a 0 c, .string nm])) 66 90 true).run Tryd.prog w = .ok (.tuple #[.agg #[.slice a 0 c, .string nm], .bool true]) w := fun w => by kernel_rfl
  have hm : ∀ w : World, Sem.run Tryd.prog (method 254 90 (.agg #[.slice a 0 c, .string nm]) "loop.example/g00276/impl.kids") w = .ok (86, .agg #[.slice a 0 c]) w := fun w => by kernel_rfl
  have HK1 : Hid (∀ wx : World, Calls Tryd.prog 86 #[.agg #[.slice a 0 c]] wx fun e w' => e = .returned (.slice a 0 c) ∧ w' = wx.alloc (.cells #[.slice a 0 c] 83)) := fun wx => implKids a 0 c wx
  have HC : Hid (∀ wx : World, Calls Tryd.prog 62 #[.string nm] wx fun e w' => e = .returned (.string nm) ∧ Below wx.heap.size wx w') := fun wx => stringsClone nm wx hs
  go_enter Tryd.func42, Tryd.ntmps42
  go_wp2_with fail
  refine (HC.out _).mono ?_
  rintro e w1 ⟨rfl, hb1⟩
  have hz1 : w.heap.size + 1 + 1 + 1 ≤ w1.heap.size := by have := hb1.size; simpa using this
  have hbw : Below w.heap.size w w1 := ((((Below.refl _ _).alloc (Nat.le_refl _) _).alloc (by simp) _).alloc (by simp; omega) _).trans (hb1.mono (by simp; omega))
  obtain ⟨r1, t1⟩ := boxes (hb1.mono (by simp))
  obtain ⟨⟨tc0, tc1, tc2, tc3⟩, tf⟩ := block4 t1
  have tf1 := tf 1
  have t2 := heap_setCell_same w1 (w.heap.size + 1) 1 _ _ (.string nm) t1
  have r2 := (Below.heap_setCell w1 ⟨w.heap.size + 1, 1, none⟩ (.string nm) w.heap.size (by simp)).trans r1
  have hbw2 : Below w.heap.size w (w1.setCell ⟨w.heap.size + 1, 1, none⟩ (.string nm)) := hbw.setCell (by simp) _
  clear hb1 HC r1
  go_wp2_with fail
  refine (HK1.out _).mono ?_
  rintro e w4 ⟨rfl, rfl⟩
  have hbw3 := hbw2.alloc (by simp; omega) (.cells #[.slice a 0 c] 83)
  have r3 := ((MapKept.heap_alloc (w1.setCell ⟨w.heap.size + 1, 1, none⟩ (.string nm)) (.cells #[.slice a 0 c] 83)).2 w.heap.size (by simp; omega)).trans r2
  have t3 := ((MapKept.heap_alloc (w1.setCell ⟨w.heap.size + 1, 1, none⟩ (.string nm)) (.cells #[.slice a 0 c] 83)).2 (w.heap.size + 1) (by simp; omega)).trans t2
  clear r2 t2 t1 hbw2 hbw tc0 tc1 tc2 tc3 tf tf1 HK1 hm
  generalize ((w1.setCell ⟨w.heap.size + 1, 1, none⟩ (.string nm)).alloc (.cells #[.slice a 0 c] 83)) = W at *
  obtain ⟨⟨tc0, tc1, tc2, tc3⟩, tf⟩ := block4 t3
  obtain ⟨⟨rc0, rc1, rc2, rc3⟩, rf⟩ := block4 r3
  have rf0 := rf 0
  have rf1 := rf 1
  have rf2 := rf 2
  have rf3 := rf 3
  clear tf rf
  go_wp2_with fail
  refine wp_loop_rounds 1 ?_
  rw [rounds_succ]
  go_wp2_with fail
  refine ret_put rfl (fun j hj => ?_) ⟨rfl, put_below hbw3 (Nat.le_refl _)⟩
  match j, hj with
  | 0, _ => rw [rc0]; rfl
  | 1, _ => rw [rc1]; rfl
  | 2, _ => rw [rc2]; rfl
  | 3, _ => rw [rc3]; rfl

end Go.Proofs.YtpaamlniicipbaaDoor
