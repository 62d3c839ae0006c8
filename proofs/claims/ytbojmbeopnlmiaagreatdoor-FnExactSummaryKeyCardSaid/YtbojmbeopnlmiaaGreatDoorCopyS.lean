/-
 The walk of spec.l03Copy: a type once more, in memory of its own.
-/
import Derived.Test.YtbojmbeopnlmiaaGreatDoorLayD
namespace Go.Proofs.YtbojmbeopnlmiaaGreatDoor
open Go.RowKit
theorem frozen_sameC {w w' : World} {b : Nat} (o : Nat) (h : w'.heap[b]? = w.heap[b]?) : w'.frozen? ⟨b, o, none⟩ = w.frozen? ⟨b, o, none⟩ := by simp only [World.frozen?, h]
theorem Tryz.infoTypeC : (Tryz.prog.info? 30).map (fun i => (i.zero, i.size, i.bytes)) = some (some (.agg #[.int .i64 0, .string ⟨#[]⟩, .slice none 0 0, .slice none 0 0]), 4, 72) := by kernel_rfl
theorem step_openC {P : Program} {ops : Array Oper} {o : Oper} {a : Act} {w : World} {K : Act → World → Prop} {Q : Exit → Act → World → Prop} {E : Prop} (hg : o.guard = none) (h : Oper.wp P o a w K Q) : if Region.wanted o (yielded ops a.tmps) = true then Oper.wp P o a w K Q else E := by
 have hw : Region.wanted o (yielded ops a.tmps) = true := by simp [Region.wanted, hg]
 rw [if_pos hw]
 exact h
structure Copying (R T B BK : Nat) (wr : World) (kd : Int) (nm : ByteArray) (n : Nat) (vn : Value) (nms : List ByteArray) (ks : List Ty) (k : Nat) (v : Value) (ls : List Lay) : Prop where
 res : wr.heap[R]? = some (.cells #[.int .i64 0, .string ⟨#[]⟩, .slice none 0 0, .slice none 0 0] 30 (0, 0))
 box : wr.heap[T]? = some (.cells #[.int .i64 kd, .string nm, vn, v] 30 (0, 0))
 names : OwnS wr 9 1 vn nms.length (strV nms)
 fresh : ∀ b ∈ blk vn, B ≤ b ∧ b ≠ T ∧ b ≠ R
 kids : Kids wr BK n vn ks k v ls
 lo : R < BK ∧ T < BK ∧ R ≠ T ∧ B ≤ BK ∧ BK ≤ wr.heap.size
theorem Copying.step {R T B BK : Nat} {wr w2 w4 : World} {kd : Int} {nm : ByteArray} {n : Nat} {vn : Value} {nms : List ByteArray} {ks : List Ty} {k gg cap : Nat} {v : Value} {ls : List Lay} {l : Lay} {o : Obj} (h : Copying R T B BK wr kd nm n vn nms ks k v ls) (hk : k < ks.length)
  (hb2 : Below wr.heap.size wr w2) (hl : NewLay wr.heap.size w2 n l ks[k]) (hg : (w2.alloc o).grownBy w4 v.ownBlock) (hat : v.ownBlock = some gg ∨ gg = w2.heap.size + 1)
  (hown : w4.ownsRow BK 30 4 (.slice (some ⟨gg, 0, none⟩) (k + 1) cap) (k + 1) (flatK (ks.take k) ls ++ cellsK ks[k] l)) :
  Copying R T B BK (w4.setCell ⟨T, 3, none⟩ (.slice (some ⟨gg, 0, none⟩) (k + 1) cap)) kd nm n vn nms ks (k + 1) (.slice (some ⟨gg, 0, none⟩) (k + 1) cap) (ls ++ [l]) := by
 have lt1 : T < wr.heap.size := (Array.getElem?_eq_some_iff.1 h.box).1
 obtain ⟨lo1, lo2, lo3, lo4, lo5⟩ := h.lo
 have hz2 := hb2.size
 have hz4 : w2.heap.size + 1 ≤ w4.heap.size := by have := hg.size; simpa using this
 have hvl : ∀ g, v.ownBlock = some g → BK ≤ g := fun g hg => (h.kids.own.lt g hg).1
 have keep : ∀ b, b < wr.heap.size → v.ownBlock ≠ some b → w4.heap[b]? = wr.heap[b]? := fun b hb hne => ((hg.block b (by simp; omega) fun e => hne e.symm).trans ((MapKept.heap_alloc w2 o).2 b (by omega))).trans (hb2.block b hb)
 have hK := h.kids.more hk lo5 (fun b hb => owns_lt h.names hb) hb2 hl hg hat hown
 have hset : ∀ b, b ≠ T → (w4.setCell ⟨T, 3, none⟩ (.slice (some ⟨gg, 0, none⟩) (k + 1) cap)).heap[b]? = w4.heap[b]? := fun b hb => Below.heap_setCell _ _ _ _ (by simpa using hb)
 have hnv : ∀ b ∈ blk vn, v.ownBlock ≠ some b := fun b hb e => by
  by_cases hkp : 0 < k
  ·obtain ⟨g0, c0, e0⟩ := slice_ownL (OwnS.of h.kids.own) hkp
   have e' := e
   rw [e0] at e'
   simp only [Value.ownBlock, Option.some.injEq] at e'
   exact (h.kids.new b (List.mem_append_left _ (by rw [e0]; exact (mem_blk hkp).2 e'.symm))).2 hb
  ·rw [h.kids.void (by omega)] at e; cases e
 refine ⟨?_, ?_, ?_, h.fresh, ?_, lo1, lo2, lo3, lo4, by simp; omega⟩
 ·rw [hset _ (by omega), keep _ (by omega) fun e => by have := hvl _ e; omega]
  exact h.res
 ·have hb : w4.heap[T]? = some (.cells #[.int .i64 kd, .string nm, vn, v] 30 (0, 0)) := by
   rw [keep _ lt1 fun e => by have := hvl _ e; omega]
   exact h.box
  exact heap_setCell_same w4 T 3 _ _ (.slice (some ⟨gg, 0, none⟩) (k + 1) cap) hb
 ·refine owns_same h.names fun b hb => ?_
  have := h.fresh b hb
  rw [hset b this.2.1, keep b (owns_lt h.names hb) (hnv b hb)]
 ·refine hK.same ?_ fun b hb => hset b (by have := (hK.new b hb).1; omega)
  exact ownsRow_setCell_other hK.own (by
   intro e
   have h9 := (hK.own.lt _ e).1
   simp at h9
   omega) _
theorem Copying.done {R T B BK : Nat} {wr : World} {kd : Int} {nm : ByteArray} {n : Nat} {vn : Value} {nms : List ByteArray} {ks : List Ty} {v : Value} {ls : List Lay} {x0 x1 x2 x3 : Value} (h : Copying R T B BK wr kd nm n vn nms ks ks.length v ls) :
  NewLay B ((((wr.setCell ⟨R, 0, none⟩ x0).setCell ⟨R, 1, none⟩ x1).setCell ⟨R, 2, none⟩ x2).setCell ⟨R, 3, none⟩ x3) (n + 1) (.mk vn v ls) (.mk kd nm nms ks) := by
 have hl := h.kids.len
 have hown := h.kids.own
 obtain ⟨lo1, lo2, lo3, lo4, lo5⟩ := h.lo
 rw [List.take_of_length_le (Nat.le_refl _)] at hown
 have hL : LayAt wr (n + 1) (.mk vn v ls) (.mk kd nm nms ks) := ⟨h.names, hl, OwnS.of hown, h.kids.lay⟩
 have hbl : ∀ b ∈ Lay.blocks (n + 1) (.mk vn v ls), B ≤ b ∧ b ≠ R := fun b hb => by
  rcases List.mem_append.1 hb with hb | hb
  ·exact ⟨(h.fresh b hb).1, (h.fresh b hb).2.2⟩
  ·have := (h.kids.new b hb).1
   exact ⟨by omega, by omega⟩
 refine ⟨hL.same fun b hb => put_other (hbl b hb).2, ?_, fun b hb => (hbl b hb).1⟩
 refine List.pairwise_append.2 ⟨?_, h.kids.nodup, fun x hx y hy e => (h.kids.new y hy).2 (e ▸ hx)⟩
 show (blk vn).Nodup
 unfold blk
 split
 ·exact List.pairwise_singleton _ _
 ·exact List.Pairwise.nil
theorem Copying.drew {R T B BK : Nat} {wr : World} {kd : Int} {nm : ByteArray} {n : Nat} {vn : Value} {nms : List ByteArray} {ks : List Ty} {k : Nat} {v : Value} {ls : List Lay} (h : Copying R T B BK wr kd nm n vn nms ks k v ls) : Copying R T B BK wr.drew kd nm n vn nms ks k v ls := ⟨h.res, h.box, h.names, h.fresh, h.kids.same h.kids.own fun _ _ => rfl, h.lo⟩
theorem ret_putC {R : Ending → World → Prop} {w0 : World} {tmps : Array Value} {b : Nat} {x0 x1 x2 x3 : Value} (hp : tmps[2]?.getD undef = .pointer (some ⟨b, 0, none⟩))
  (h : ∀ j, j < 4 → (w0.cell? ⟨b, j, none⟩).isSome = true) (hR : R (.returned (.agg #[x0, x1, x2, x3])) ((((w0.setCell ⟨b, 0, none⟩ x0).setCell ⟨b, 1, none⟩ x1).setCell ⟨b, 2, none⟩ x2).setCell ⟨b, 3, none⟩ x3)) :
  bodyPost Tryz.prog Tryz.f125 R .ret { tmps := tmps, defers := [] } ((((w0.setCell ⟨b, 0, none⟩ x0).setCell ⟨b, 1, none⟩ x1).setCell ⟨b, 2, none⟩ x2).setCell ⟨b, 3, none⟩ x3) := by
 obtain ⟨h0, h1, h2, h3⟩ := put4T (x0 := x0) (x1 := x1) (x2 := x2) (x3 := x3) h
 generalize ((((w0.setCell ⟨b, 0, none⟩ x0).setCell ⟨b, 1, none⟩ x1).setCell ⟨b, 2, none⟩ x2).setCell ⟨b, 3, none⟩ x3) = W at *
 refine bodyPost_ret (v := .agg #[x0, x1, x2, x3]) ?_ rfl hR
 simp [results, Tryz.results125, go_sem, hp, h0, h1, h2, h3]
theorem blk_base {w : World} {B e z : Nat} {v : Value} {n : Nat} {xs : List Value} (h : w.ownsRow B e z v n xs) : ∀ b ∈ blk v, B ≤ b := fun b hb => by
 by_cases hn : 0 < n
 ·obtain ⟨g0, c0, e0⟩ := slice_ownL (OwnS.of h) hn
  have hlt := (h.lt g0 (by rw [e0]; rfl)).1
  rw [e0, mem_blk hn] at hb
  subst hb
  exact hlt
 ·obtain ⟨a, cap, e0⟩ := slice_ownM h
  rw [e0, show n = 0 by omega] at hb
  cases a <;> simp [blk] at hb
theorem blk_owned {w : World} {B e z : Nat} {v : Value} {n : Nat} {xs : List Value} (h : w.ownsRow B e z v n xs) : ∀ b ∈ blk v, ∃ cur, w.heap[b]? = some (.cells cur e (0, 0)) := fun b hb => by
 by_cases hn : 0 < n
 ·rcases h.2 with ⟨_, h0⟩ | ⟨g, cap, cur, e0, _, hh, _⟩
  ·omega
  ·rw [e0, mem_blk hn] at hb
   subst hb
   exact ⟨cur, hh⟩
 ·obtain ⟨a, cap, e0⟩ := slice_ownM h
  rw [e0, show n = 0 by omega] at hb
  cases a <;> simp [blk] at hb
theorem put_block {w0 : World} {b : Nat} {z0 z1 z2 z3 x0 x1 x2 x3 : Value} (h : w0.heap[b]? = some (.cells #[z0, z1, z2, z3] 30 (0, 0))) : ((((w0.setCell ⟨b, 0, none⟩ x0).setCell ⟨b, 1, none⟩ x1).setCell ⟨b, 2, none⟩ x2).setCell ⟨b, 3, none⟩ x3).heap[b]? = some (.cells #[x0, x1, x2, x3] 30 (0, 0)) :=
 heap_setCell_same _ b 3 _ _ x3 (heap_setCell_same _ b 2 _ _ x2 (heap_setCell_same _ b 1 _ _ x1 (heap_setCell_same w0 b 0 _ _ x0 h)))
def CopyAtN (n : Nat) : Prop := ∀ (cs : List Value) (t : Ty) (w : World), TyAt w n cs t → Ty.bulk n t ≤ 1048576 →
  Calls Tryz.prog 125 #[.agg cs.toArray] w fun e w' => ∃ l, e = .returned (.agg (cellsK t l).toArray) ∧ (NewLay w.heap.size w' n l t ∧ (t.kids = [] → l.vk = .slice none 0 0)) ∧ Below w.heap.size w w'
def CopyAt (n : Nat) : Prop := ∀ (cs : List Value) (t : Ty) (w : World), TyAt w n cs t → Ty.bulk n t ≤ 1048576 →
  Calls Tryz.prog 125 #[.agg cs.toArray] w fun e w' => ∃ l, e = .returned (.agg (cellsK t l).toArray) ∧ NewLay w.heap.size w' n l t ∧ Below w.heap.size w w'
theorem CopyAt.told {n : Nat} (h : CopyAt n) (cs : List Value) (t : Ty) (w : World) (hf : TyAt w n cs t) (hb : Ty.bulk n t ≤ 1048576) :
  Calls Tryz.prog 125 #[.agg cs.toArray] w fun e w' => ∃ (an : Option Addr) (ln cn : Nat) (ak : Option Addr) (lk ck : Nat), e = .returned (.agg #[.int .i64 t.kind, .string t.name, .slice an ln cn, .slice ak lk ck]) ∧ (∃ l, cellsK t l = [.int .i64 t.kind, .string t.name, .slice an ln cn, .slice ak lk ck] ∧ NewLay w.heap.size w' n l t) ∧ Below w.heap.size w w' := by
 refine (h cs t w hf hb).mono fun e w' hh => ?_
 obtain ⟨l, he, hl, hbl⟩ := hh
 cases n with
 | zero => exact hl.1.elim
 | succ n =>
  obtain ⟨an, cn, e1⟩ := hl.1.1.slice
  obtain ⟨ak, ck, e2⟩ := hl.1.2.2.1.slice
  have e3 : cellsK t l = [.int .i64 t.kind, .string t.name, .slice an t.names.length cn, .slice ak t.kids.length ck] := by unfold cellsK; rw [e1, e2]
  exact ⟨an, _, cn, ak, _, ck, by rw [he, e3], ⟨l, e3, hl⟩, hbl⟩
set_option maxHeartbeats 6400000 in
set_option maxRecDepth 100000 in
theorem specCopyStep (n : Nat) (ih : CopyAt n) (kd : Int) (nm : ByteArray) (nms : List ByteArray) (ks : List Ty) (an ak : Option Addr) (cn ck : Nat) (w : World) (hT : Texts w (.slice an nms.length cn) nms) (hrow : RowAt w (TyAt w n) (.slice ak ks.length ck) ks) (hbk : rowBulk n ks ≤ 1048576) (hnl : nms.length ≤ 1048576) :
  Calls Tryz.prog 125 #[.agg #[.int .i64 kd, .string nm, .slice an nms.length cn, .slice ak ks.length ck]] w fun e w' => ∃ l, e = .returned (.agg (cellsK (.mk kd nm nms ks) l).toArray) ∧ (NewLay w.heap.size w' (n + 1) l (.mk kd nm nms ks) ∧ (ks = [] → l.vk = .slice none 0 0)) ∧ Below w.heap.size w w' := by
 obtain ⟨i0, hi0, hz0, hz1, hz2⟩ := info_parts Tryz.infoTypeC
 obtain ⟨j0, hj0, hy0, hy1, hy2⟩ := info_parts Tryz.infoString
 have hlen : ks.length ≤ 1048576 := by unfold rowBulk at hbk; omega
 obtain ⟨ak', ck', ek', hel⟩ := rowOpen hrow
 simp only [Value.slice.injEq, true_and] at ek'
 obtain ⟨rfl, rfl⟩ := ek'
 have HEL : Hid (type_of% hel) := hel
 have HTO : Hid (∀ k (hk : k < ks.length) (cs : List Value) (wx : World), TyAt wx n cs ks[k] → Calls Tryz.prog 125 #[.agg cs.toArray] wx fun e w' => ∃ (an : Option Addr) (ln cn : Nat) (ak : Option Addr) (lk ck : Nat), e = .returned (.agg #[.int .i64 ks[k].kind, .string ks[k].name, .slice an ln cn, .slice ak lk ck]) ∧ (∃ l, cellsK ks[k] l = [.int .i64 ks[k].kind, .string ks[k].name, .slice an ln cn, .slice ak lk ck] ∧ NewLay wx.heap.size w' n l ks[k]) ∧ Below wx.heap.size wx w') := fun k hk cs wx h => ih.told cs ks[k] wx h (by have := kid_bulk n ks k hk; unfold rowBulk at hbk; omega)
 clear hrow hel ih hbk
 cases an with
 | none =>
  have hn0 : nms = [] := by
   obtain ⟨a', c', e', hc⟩ := textsOpen hT
   simp only [Value.slice.injEq] at e'
   cases hh : nms with
   | nil => rfl
   | cons x r =>
    obtain ⟨b, off, e, _⟩ := hc 0 (by rw [hh]; simp)
    rw [← e'.1] at e
    cases e
  subst hn0
  have hBW : Below w.heap.size w ((w.alloc (.cells #[.int .i64 kd, .string nm, .slice none 0 cn, .slice ak ks.length ck] 30)).alloc (.cells #[.int .i64 0, .string ⟨#[]⟩, .slice none 0 0, .slice none 0 0] 30)) := ((Below.refl _ _).alloc (Nat.le_refl _) _).alloc (by simp) _
  have hbx : ((w.alloc (.cells #[.int .i64 kd, .string nm, .slice none 0 cn, .slice ak ks.length ck] 30)).alloc (.cells #[.int .i64 0, .string ⟨#[]⟩, .slice none 0 0, .slice none 0 0] 30)).heap[w.heap.size]? = some (.cells #[.int .i64 kd, .string nm, .slice none 0 cn, .slice ak ks.length ck] 30) := heap_first w _ _
  have hrs : ((w.alloc (.cells #[.int .i64 kd, .string nm, .slice none 0 cn, .slice ak ks.length ck] 30)).alloc (.cells #[.int .i64 0, .string ⟨#[]⟩, .slice none 0 0, .slice none 0 0] 30)).heap[w.heap.size + 1]? = some (.cells #[.int .i64 0, .string ⟨#[]⟩, .slice none 0 0, .slice none 0 0] 30) := heap_second w _ _
  have hWz : ((w.alloc (.cells #[.int .i64 kd, .string nm, .slice none 0 cn, .slice ak ks.length ck] 30)).alloc (.cells #[.int .i64 0, .string ⟨#[]⟩, .slice none 0 0, .slice none 0 0] 30)).heap.size = w.heap.size + 1 + 1 := by simp
  go_enter Tryz.func125, Tryz.ntmps125
  go_wp2_with fail
  generalize ((w.alloc (.cells #[.int .i64 kd, .string nm, .slice none 0 cn, .slice ak ks.length ck] 30)).alloc (.cells #[.int .i64 0, .string ⟨#[]⟩, .slice none 0 0, .slice none 0 0] 30)) = W0 at *
  obtain ⟨⟨b0, b1, b2, b3⟩, _⟩ := block4 hbx
  have HWz : Hid (W0.heap.size = w.heap.size + 1 + 1) := hWz
  have hle : w.heap.size + 1 < W0.heap.size := by omega
  clear hWz
  have HBX : Hid (∀ wx : World, Below W0.heap.size W0 wx → wx.cell? ⟨w.heap.size, 0, none⟩ = some (.int .i64 kd) ∧ wx.cell? ⟨w.heap.size, 1, none⟩ = some (.string nm) ∧ wx.cell? ⟨w.heap.size, 2, none⟩ = some (.slice none 0 cn)) := fun wx hx => by
   have hlt : w.heap.size < W0.heap.size := by omega
   exact ⟨(hx.cell (p := ⟨w.heap.size, 0, none⟩) hlt).trans b0, (hx.cell (p := ⟨w.heap.size, 1, none⟩) hlt).trans b1, (hx.cell (p := ⟨w.heap.size, 2, none⟩) hlt).trans b2⟩
  go_region_held3 (fun w' => w'.cell? ⟨w.heap.size, 0, none⟩ = some (.int .i64 kd) ∧ w'.cell? ⟨w.heap.size, 1, none⟩ = some (.string nm) ∧ w'.cell? ⟨w.heap.size, 2, none⟩ = some (.slice none 0 cn))
   (first
    | exact HBX.out _ (Below.refl _ _)
    | exact HBX.out _ ((Below.refl _ _).drew)
    | exact HBX.out _ ((Below.refl _ _).alloc (Nat.le_refl _) _)
    | exact HBX.out _ ((Below.refl _ _).alloc (Nat.le_refl _) _).drew
    | exact HBX.out _ (((Below.refl _ _).alloc (Nat.le_refl _) _).drew.alloc (by simp) _)
    | exact HBX.out _ (((Below.refl _ _).alloc (Nat.le_refl _) _).alloc (by simp) _)
    | exact HBX.out _ (((Below.refl _ _).alloc (Nat.le_refl _) _).alloc (by simp) _).drew)
   (fail)
  ·have hbX : Below W0.heap.size W0 ((W0.alloc (.cells #[] 9)).alloc (.cells #[.int .i64 kd, .string nm, .slice (some ⟨W0.heap.size, 0, none⟩) 0 0, .slice none 0 0] 30)) := ((Below.refl _ _).alloc (Nat.le_refl _) _).alloc (by simp) _
   have tbox : ((W0.alloc (.cells #[] 9)).alloc (.cells #[.int .i64 kd, .string nm, .slice (some ⟨W0.heap.size, 0, none⟩) 0 0, .slice none 0 0] 30)).heap[(W0.heap.size + 1)]? = some (.cells #[.int .i64 kd, .string nm, .slice (some ⟨W0.heap.size, 0, none⟩) 0 0, .slice none 0 0] 30 (0, 0)) := heap_second W0 _ _
   have hnam : OwnS ((W0.alloc (.cells #[] 9)).alloc (.cells #[.int .i64 kd, .string nm, .slice (some ⟨W0.heap.size, 0, none⟩) 0 0, .slice none 0 0] 30)) 9 1 (.slice (some ⟨W0.heap.size, 0, none⟩) 0 0) 0 [] := .inl ⟨rfl, rfl, _, _, rfl⟩
   have hfre : ∀ b ∈ blk (.slice (some ⟨W0.heap.size, 0, none⟩) 0 0), W0.heap.size ≤ b ∧ b ≠ (W0.heap.size + 1) := fun b hb => by simp [blk] at hb
   have hBK : (W0.heap.size + 1) < (W0.heap.size + 1 + 1) ∧ W0.heap.size ≤ (W0.heap.size + 1) ∧ (W0.heap.size + 1 + 1) ≤ ((W0.alloc (.cells #[] 9)).alloc (.cells #[.int .i64 kd, .string nm, .slice (some ⟨W0.heap.size, 0, none⟩) 0 0, .slice none 0 0] 30)).heap.size := ⟨by omega, by omega, by simp⟩
   have hC0 : Copying (w.heap.size + 1) (W0.heap.size + 1) w.heap.size (W0.heap.size + 1 + 1) ((W0.alloc (.cells #[] 9)).alloc (.cells #[.int .i64 kd, .string nm, .slice (some ⟨W0.heap.size, 0, none⟩) 0 0, .slice none 0 0] 30)) kd nm n (.slice (some ⟨W0.heap.size, 0, none⟩) 0 0) [] ks 0 (.slice none 0 0) [] := ⟨(hbX.block (w.heap.size + 1) hle).trans hrs, tbox, hnam, fun b hb => ⟨by have := (hfre b hb).1; omega, (hfre b hb).2, by have := (hfre b hb).1; omega⟩, Kids.nil _ _ _ _ _, by omega, hBK.1, by omega, by omega, hBK.2.2⟩
   have hTW := hBK.2.1
   clear tbox hnam hfre hBK  b0 b1 b2 b3 HBX
   generalize ((W0.alloc (.cells #[] 9)).alloc (.cells #[.int .i64 kd, .string nm, .slice (some ⟨W0.heap.size, 0, none⟩) 0 0, .slice none 0 0] 30)) = WX at *
   generalize (W0.heap.size + 1 + 1) = BB at *
   generalize (W0.heap.size + 1) = TT at *
   go_wp2_with fail
   go_loopw [4] (fun i wr => ∃ (k : Nat) (v : Value) (ls : List Lay), k ≤ ks.length ∧ i = .int .i64 k ∧ Copying (w.heap.size + 1) TT w.heap.size BB wr kd nm n (.slice (some ⟨W0.heap.size, 0, none⟩) 0 0) [] ks k v ls ∧ Below W0.heap.size W0 wr) (fun i _ => ks.length - (intOf i).toNat)
   case atStart => first | exact ⟨0, _, [], Nat.zero_le _, rfl, hC0, hbX⟩ | exact ⟨0, _, [], Nat.zero_le _, rfl, hC0.drew, hbX.drew⟩
   case round =>
    obtain ⟨k, v, ls, hk, rfl, hM, hbe⟩ := hrel
    clear hC0 hbX
    have HM : Hid (type_of% hM) := hM
    obtain ⟨⟨tc0, tc1, tc2, tc3⟩, tf⟩ := block4 hM.box
    obtain ⟨⟨rc0, rc1, rc2, rc3⟩, rf⟩ := block4 hM.res
    obtain ⟨⟨e0, e1, e2, e3⟩, _⟩ := block4 ((hbe.block w.heap.size (by omega)).trans hbx)
    have lt1 : TT < wr.heap.size := (Array.getElem?_eq_some_iff.1 hM.box).1
    have hown := hM.kids.own
    have hlo := hM.lo
    have hzw : W0.heap.size ≤ wr.heap.size := hbe.size
    obtain ⟨av, cv, hv⟩ := slice_ownM hown
    subst hv
    have tf3 := tf 3
    have hnT : (Value.slice av k cv).ownBlock ≠ some TT := fun e => by have := (hown.lt _ e).1; omega
    have hbw : Below w.heap.size w wr := hBW.trans (hbe.mono (by omega))
    clear hM
    by_cases hlt : k < ks.length
    ·obtain ⟨b, off, x0, x1, x2, x3', rfl, hb, hta, z0, z1, z2, z3'⟩ := HEL.out k hlt
     obtain ⟨an2, ln2, cn2, ak2, lk2, ck2, ee⟩ := hta.shape
     simp only [List.cons.injEq, and_true] at ee
     obtain ⟨rfl, rfl, rfl, rfl⟩ := ee
     have A0 := (hbw.cell (p := ⟨b, off + k * 4, none⟩) hb).trans z0
     have A1 := (hbw.cell (p := ⟨b, off + k * 4 + 1, none⟩) hb).trans z1
     have A2 := (hbw.cell (p := ⟨b, off + k * 4 + 2, none⟩) hb).trans z2
     have A3 := (hbw.cell (p := ⟨b, off + k * 4 + 3, none⟩) hb).trans z3'
     have HC0 : Hid (∀ wx : World, Below wr.heap.size wr wx → Calls Tryz.prog 125 #[.agg #[.int .i64 ks[k].kind, .string ks[k].name, .slice an2 ln2 cn2, .slice ak2 lk2 ck2]] wx fun e w' => ∃ (an : Option Addr) (ln cn : Nat) (ak : Option Addr) (lk ck : Nat), e = .returned (.agg #[.int .i64 ks[k].kind, .string ks[k].name, .slice an ln cn, .slice ak lk ck]) ∧ (∃ l, cellsK ks[k] l = [.int .i64 ks[k].kind, .string ks[k].name, .slice an ln cn, .slice ak lk ck] ∧ NewLay wx.heap.size w' n l ks[k]) ∧ Below wx.heap.size wx w') := fun wx hx => HTO.out k hlt _ wx (hta.below (hbw.trans (hx.mono hbw.size)))
     have hk0 : (0 : Int) ≤ (k : Int) := by omega
     have hk1 : (k : Int) < (ks.length : Int) := by omega
     clear z0 z1 z2 z3' hta HEL HTO rc0 rc1 rc2 rc3 rf tf
     go_wp2_with fail
     go_region_law
      (first
       | (refine step_openC (by rfl) ?_; go_simp; go_at_call 125; refine (HC0.out _ (by first | exact (Below.refl _ _).drew | exact Below.refl _ _)).mono ?_; rintro e w2 ⟨an, ln, cn, ak, lk, ck, rfl, ⟨l, hcl, hnl⟩, hb2'⟩; have hb2 : Below wr.heap.size wr w2 := (by first | exact hb2' | exact ((Below.refl wr.heap.size wr).drew).trans hb2'); have x3 := (hb2.cell (p := ⟨TT, 3, none⟩) lt1).trans tc3; have xf := (hb2.frozen (p := ⟨TT, 3, none⟩) lt1).trans tf3; have lt2 : TT < w2.heap.size := Nat.lt_of_lt_of_le lt1 hb2.size; have y3 : ∀ o, (w2.alloc o).cell? ⟨TT, 3, none⟩ = some (.slice av k cv) := (fun o => (cellOld 3 lt2).trans x3); have yf : ∀ o, (w2.alloc o).frozen? ⟨TT, 3, none⟩ = false := (fun o => (frozenOld 3 lt2).trans xf); have ho2 := kept_belowT hown hb2)
       | (revert hb2; intro hb2; (refine step_append_lies _ (by rfl) _ _ _ (by rfl) BB 30 i0 _ 4 72 Tryz.underlying28 hi0 hz0 hz1 hz2 rfl (by omega) (.slice av k cv) k _ (by rfl) (by first | exact (ho2.alloc _) | exact (ho2.alloc _).drew) ⟨w2.heap.size, 0, none⟩ 1 1 [.int .i64 ks[k].kind, .string ks[k].name, .slice an ln cn, .slice ak lk ck] (by rfl) (by rfl) (World.news_of_block (cs := #[.int .i64 ks[k].kind, .string ks[k].name, .slice an ln cn, .slice ak lk ck]) (t := 30) (fr := (0, 0)) (heap_alloc_new w2 _)) (by simp [Value.oneCell']) (by omega) (by unfold maxLen; omega) (by omega) (by have := hb2.size; simp; omega) (w2.heap.size + 1) (by simp) ?_; intro gg cap w4 hown1 hgrow hat hlt4); have hT4 := hgrow.block TT (by simp; omega) (fun e => hnT e.symm); have z3 := cell_same (y3 _) hT4; have zf := (frozen_sameC 3 hT4).trans (yf _)))
     all_goals
      rw [← hcl] at hown1
      have R1 := HM.out.step hlt hb2 hnl hgrow hat hown1
      have HR1 : Hid (type_of% R1) := R1
      have R2 : Below W0.heap.size W0 (w4.setCell ⟨TT, 3, none⟩ (.slice (some ⟨gg, 0, none⟩) (k + 1) cap)) := (((hbe.trans (hb2.mono hzw)).alloc (by have := hb2.size; omega) _).grown hgrow (by have := hb2.size; simp; omega) (fun j hj => by have := (hown.lt j hj).1; omega)).setCell hTW _
      clear R1 HM hown hown1 hgrow hnl hcl hb2 hb2' ho2 x3 xf y3 yf z3 zf hT4 HC0
      go_wp2_with fail
      go_roundw
      case rel => exact ⟨k + 1, _, ls ++ [l], by omega, by go_num, HR1.out, R2⟩
      case measure => simp [intOf]; omega
    ·have hke : k = ks.length := by omega
     subst hke
     have rf0 := rf 0
     have rf1 := rf 1
     have rf2 := rf 2
     have rf3 := rf 3
     clear tf rf HEL HTO hown
     go_wp2_with fail
     refine ret_putC rfl (fun j hj => ?_) ⟨.mk (.slice (some ⟨W0.heap.size, 0, none⟩) 0 0) (.slice av ks.length cv) ls, rfl, ⟨HM.out.done, fun q => HM.out.kids.void (by rw [q]; rfl)⟩, put_below hbw (by omega)⟩
     match j, hj with
     | 0, _ => rw [rc0]; rfl
     | 1, _ => rw [rc1]; rfl
     | 2, _ => rw [rc2]; rfl
     | 3, _ => rw [rc3]; rfl
  ·have hbX : Below W0.heap.size W0 ((W0.alloc (.cells #[] 9)).alloc (.cells #[.int .i64 kd, .string nm, .slice (some ⟨W0.heap.size, 0, none⟩) 0 0, .slice none 0 0] 30)) := ((Below.refl _ _).alloc (Nat.le_refl _) _).alloc (by simp) _
   have tbox : ((W0.alloc (.cells #[] 9)).alloc (.cells #[.int .i64 kd, .string nm, .slice (some ⟨W0.heap.size, 0, none⟩) 0 0, .slice none 0 0] 30)).heap[(W0.heap.size + 1)]? = some (.cells #[.int .i64 kd, .string nm, .slice (some ⟨W0.heap.size, 0, none⟩) 0 0, .slice none 0 0] 30 (0, 0)) := heap_second W0 _ _
   have hnam : OwnS ((W0.alloc (.cells #[] 9)).alloc (.cells #[.int .i64 kd, .string nm, .slice (some ⟨W0.heap.size, 0, none⟩) 0 0, .slice none 0 0] 30)) 9 1 (.slice (some ⟨W0.heap.size, 0, none⟩) 0 0) 0 [] := .inl ⟨rfl, rfl, _, _, rfl⟩
   have hfre : ∀ b ∈ blk (.slice (some ⟨W0.heap.size, 0, none⟩) 0 0), W0.heap.size ≤ b ∧ b ≠ (W0.heap.size + 1) := fun b hb => by simp [blk] at hb
   have hBK : (W0.heap.size + 1) < (W0.heap.size + 1 + 1) ∧ W0.heap.size ≤ (W0.heap.size + 1) ∧ (W0.heap.size + 1 + 1) ≤ ((W0.alloc (.cells #[] 9)).alloc (.cells #[.int .i64 kd, .string nm, .slice (some ⟨W0.heap.size, 0, none⟩) 0 0, .slice none 0 0] 30)).heap.size := ⟨by omega, by omega, by simp⟩
   have hC0 : Copying (w.heap.size + 1) (W0.heap.size + 1) w.heap.size (W0.heap.size + 1 + 1) ((W0.alloc (.cells #[] 9)).alloc (.cells #[.int .i64 kd, .string nm, .slice (some ⟨W0.heap.size, 0, none⟩) 0 0, .slice none 0 0] 30)) kd nm n (.slice (some ⟨W0.heap.size, 0, none⟩) 0 0) [] ks 0 (.slice none 0 0) [] := ⟨(hbX.block (w.heap.size + 1) hle).trans hrs, tbox, hnam, fun b hb => ⟨by have := (hfre b hb).1; omega, (hfre b hb).2, by have := (hfre b hb).1; omega⟩, Kids.nil _ _ _ _ _, by omega, hBK.1, by omega, by omega, hBK.2.2⟩
   have hTW := hBK.2.1
   clear tbox hnam hfre hBK  b0 b1 b2 b3 HBX
   generalize ((W0.alloc (.cells #[] 9)).alloc (.cells #[.int .i64 kd, .string nm, .slice (some ⟨W0.heap.size, 0, none⟩) 0 0, .slice none 0 0] 30)) = WX at *
   generalize (W0.heap.size + 1 + 1) = BB at *
   generalize (W0.heap.size + 1) = TT at *
   go_wp2_with fail
   go_loopw [4] (fun i wr => ∃ (k : Nat) (v : Value) (ls : List Lay), k ≤ ks.length ∧ i = .int .i64 k ∧ Copying (w.heap.size + 1) TT w.heap.size BB wr kd nm n (.slice (some ⟨W0.heap.size, 0, none⟩) 0 0) [] ks k v ls ∧ Below W0.heap.size W0 wr) (fun i _ => ks.length - (intOf i).toNat)
   case atStart => first | exact ⟨0, _, [], Nat.zero_le _, rfl, hC0, hbX⟩ | exact ⟨0, _, [], Nat.zero_le _, rfl, hC0.drew, hbX.drew⟩
   case round =>
    obtain ⟨k, v, ls, hk, rfl, hM, hbe⟩ := hrel
    clear hC0 hbX
    have HM : Hid (type_of% hM) := hM
    obtain ⟨⟨tc0, tc1, tc2, tc3⟩, tf⟩ := block4 hM.box
    obtain ⟨⟨rc0, rc1, rc2, rc3⟩, rf⟩ := block4 hM.res
    obtain ⟨⟨e0, e1, e2, e3⟩, _⟩ := block4 ((hbe.block w.heap.size (by omega)).trans hbx)
    have lt1 : TT < wr.heap.size := (Array.getElem?_eq_some_iff.1 hM.box).1
    have hown := hM.kids.own
    have hlo := hM.lo
    have hzw : W0.heap.size ≤ wr.heap.size := hbe.size
    obtain ⟨av, cv, hv⟩ := slice_ownM hown
    subst hv
    have tf3 := tf 3
    have hnT : (Value.slice av k cv).ownBlock ≠ some TT := fun e => by have := (hown.lt _ e).1; omega
    have hbw : Below w.heap.size w wr := hBW.trans (hbe.mono (by omega))
    clear hM
    by_cases hlt : k < ks.length
    ·obtain ⟨b, off, x0, x1, x2, x3', rfl, hb, hta, z0, z1, z2, z3'⟩ := HEL.out k hlt
     obtain ⟨an2, ln2, cn2, ak2, lk2, ck2, ee⟩ := hta.shape
     simp only [List.cons.injEq, and_true] at ee
     obtain ⟨rfl, rfl, rfl, rfl⟩ := ee
     have A0 := (hbw.cell (p := ⟨b, off + k * 4, none⟩) hb).trans z0
     have A1 := (hbw.cell (p := ⟨b, off + k * 4 + 1, none⟩) hb).trans z1
     have A2 := (hbw.cell (p := ⟨b, off + k * 4 + 2, none⟩) hb).trans z2
     have A3 := (hbw.cell (p := ⟨b, off + k * 4 + 3, none⟩) hb).trans z3'
     have HC0 : Hid (∀ wx : World, Below wr.heap.size wr wx → Calls Tryz.prog 125 #[.agg #[.int .i64 ks[k].kind, .string ks[k].name, .slice an2 ln2 cn2, .slice ak2 lk2 ck2]] wx fun e w' => ∃ (an : Option Addr) (ln cn : Nat) (ak : Option Addr) (lk ck : Nat), e = .returned (.agg #[.int .i64 ks[k].kind, .string ks[k].name, .slice an ln cn, .slice ak lk ck]) ∧ (∃ l, cellsK ks[k] l = [.int .i64 ks[k].kind, .string ks[k].name, .slice an ln cn, .slice ak lk ck] ∧ NewLay wx.heap.size w' n l ks[k]) ∧ Below wx.heap.size wx w') := fun wx hx => HTO.out k hlt _ wx (hta.below (hbw.trans (hx.mono hbw.size)))
     have hk0 : (0 : Int) ≤ (k : Int) := by omega
     have hk1 : (k : Int) < (ks.length : Int) := by omega
     clear z0 z1 z2 z3' hta HEL HTO rc0 rc1 rc2 rc3 rf tf
     go_wp2_with fail
     go_region_law
      (first
       | (refine step_openC (by rfl) ?_; go_simp; go_at_call 125; refine (HC0.out _ (by first | exact (Below.refl _ _).drew | exact Below.refl _ _)).mono ?_; rintro e w2 ⟨an, ln, cn, ak, lk, ck, rfl, ⟨l, hcl, hnl⟩, hb2'⟩; have hb2 : Below wr.heap.size wr w2 := (by first | exact hb2' | exact ((Below.refl wr.heap.size wr).drew).trans hb2'); have x3 := (hb2.cell (p := ⟨TT, 3, none⟩) lt1).trans tc3; have xf := (hb2.frozen (p := ⟨TT, 3, none⟩) lt1).trans tf3; have lt2 : TT < w2.heap.size := Nat.lt_of_lt_of_le lt1 hb2.size; have y3 : ∀ o, (w2.alloc o).cell? ⟨TT, 3, none⟩ = some (.slice av k cv) := (fun o => (cellOld 3 lt2).trans x3); have yf : ∀ o, (w2.alloc o).frozen? ⟨TT, 3, none⟩ = false := (fun o => (frozenOld 3 lt2).trans xf); have ho2 := kept_belowT hown hb2)
       | (revert hb2; intro hb2; (refine step_append_lies _ (by rfl) _ _ _ (by rfl) BB 30 i0 _ 4 72 Tryz.underlying28 hi0 hz0 hz1 hz2 rfl (by omega) (.slice av k cv) k _ (by rfl) (by first | exact (ho2.alloc _) | exact (ho2.alloc _).drew) ⟨w2.heap.size, 0, none⟩ 1 1 [.int .i64 ks[k].kind, .string ks[k].name, .slice an ln cn, .slice ak lk ck] (by rfl) (by rfl) (World.news_of_block (cs := #[.int .i64 ks[k].kind, .string ks[k].name, .slice an ln cn, .slice ak lk ck]) (t := 30) (fr := (0, 0)) (heap_alloc_new w2 _)) (by simp [Value.oneCell']) (by omega) (by unfold maxLen; omega) (by omega) (by have := hb2.size; simp; omega) (w2.heap.size + 1) (by simp) ?_; intro gg cap w4 hown1 hgrow hat hlt4); have hT4 := hgrow.block TT (by simp; omega) (fun e => hnT e.symm); have z3 := cell_same (y3 _) hT4; have zf := (frozen_sameC 3 hT4).trans (yf _)))
     all_goals
      rw [← hcl] at hown1
      have R1 := HM.out.step hlt hb2 hnl hgrow hat hown1
      have HR1 : Hid (type_of% R1) := R1
      have R2 : Below W0.heap.size W0 (w4.setCell ⟨TT, 3, none⟩ (.slice (some ⟨gg, 0, none⟩) (k + 1) cap)) := (((hbe.trans (hb2.mono hzw)).alloc (by have := hb2.size; omega) _).grown hgrow (by have := hb2.size; simp; omega) (fun j hj => by have := (hown.lt j hj).1; omega)).setCell hTW _
      clear R1 HM hown hown1 hgrow hnl hcl hb2 hb2' ho2 x3 xf y3 yf z3 zf hT4 HC0
      go_wp2_with fail
      go_roundw
      case rel => exact ⟨k + 1, _, ls ++ [l], by omega, by go_num, HR1.out, R2⟩
      case measure => simp [intOf]; omega
    ·have hke : k = ks.length := by omega
     subst hke
     have rf0 := rf 0
     have rf1 := rf 1
     have rf2 := rf 2
     have rf3 := rf 3
     clear tf rf HEL HTO hown
     go_wp2_with fail
     refine ret_putC rfl (fun j hj => ?_) ⟨.mk (.slice (some ⟨W0.heap.size, 0, none⟩) 0 0) (.slice av ks.length cv) ls, rfl, ⟨HM.out.done, fun q => HM.out.kids.void (by rw [q]; rfl)⟩, put_below hbw (by omega)⟩
     match j, hj with
     | 0, _ => rw [rc0]; rfl
     | 1, _ => rw [rc1]; rfl
     | 2, _ => rw [rc2]; rfl
     | 3, _ => rw [rc3]; rfl
  ·have hbX : Below W0.heap.size W0 ((W0.alloc (.cells #[.int .i64 kd, .string nm, .slice (some ⟨W0.heap.size + 1, 0, none⟩) 0 0, .slice none 0 0] 30)).alloc (.cells #[] 9)) := ((Below.refl _ _).alloc (Nat.le_refl _) _).alloc (by simp) _
   have tbox : ((W0.alloc (.cells #[.int .i64 kd, .string nm, .slice (some ⟨W0.heap.size + 1, 0, none⟩) 0 0, .slice none 0 0] 30)).alloc (.cells #[] 9)).heap[W0.heap.size]? = some (.cells #[.int .i64 kd, .string nm, .slice (some ⟨W0.heap.size + 1, 0, none⟩) 0 0, .slice none 0 0] 30 (0, 0)) := heap_first W0 _ _
   have hnam : OwnS ((W0.alloc (.cells #[.int .i64 kd, .string nm, .slice (some ⟨W0.heap.size + 1, 0, none⟩) 0 0, .slice none 0 0] 30)).alloc (.cells #[] 9)) 9 1 (.slice (some ⟨W0.heap.size + 1, 0, none⟩) 0 0) 0 [] := .inl ⟨rfl, rfl, _, _, rfl⟩
   have hfre : ∀ b ∈ blk (.slice (some ⟨W0.heap.size + 1, 0, none⟩) 0 0), W0.heap.size ≤ b ∧ b ≠ W0.heap.size := fun b hb => by simp [blk] at hb
   have hBK : W0.heap.size < (W0.heap.size + 1 + 1) ∧ W0.heap.size ≤ W0.heap.size ∧ (W0.heap.size + 1 + 1) ≤ ((W0.alloc (.cells #[.int .i64 kd, .string nm, .slice (some ⟨W0.heap.size + 1, 0, none⟩) 0 0, .slice none 0 0] 30)).alloc (.cells #[] 9)).heap.size := ⟨by omega, by omega, by simp⟩
   have hC0 : Copying (w.heap.size + 1) W0.heap.size w.heap.size (W0.heap.size + 1 + 1) ((W0.alloc (.cells #[.int .i64 kd, .string nm, .slice (some ⟨W0.heap.size + 1, 0, none⟩) 0 0, .slice none 0 0] 30)).alloc (.cells #[] 9)) kd nm n (.slice (some ⟨W0.heap.size + 1, 0, none⟩) 0 0) [] ks 0 (.slice none 0 0) [] := ⟨(hbX.block (w.heap.size + 1) hle).trans hrs, tbox, hnam, fun b hb => ⟨by have := (hfre b hb).1; omega, (hfre b hb).2, by have := (hfre b hb).1; omega⟩, Kids.nil _ _ _ _ _, by omega, hBK.1, by omega, by omega, hBK.2.2⟩
   have hTW := hBK.2.1
   clear tbox hnam hfre hBK  b0 b1 b2 b3 HBX
   generalize ((W0.alloc (.cells #[.int .i64 kd, .string nm, .slice (some ⟨W0.heap.size + 1, 0, none⟩) 0 0, .slice none 0 0] 30)).alloc (.cells #[] 9)) = WX at *
   generalize (W0.heap.size + 1 + 1) = BB at *
   go_wp2_with fail
   go_loopw [4] (fun i wr => ∃ (k : Nat) (v : Value) (ls : List Lay), k ≤ ks.length ∧ i = .int .i64 k ∧ Copying (w.heap.size + 1) W0.heap.size w.heap.size BB wr kd nm n (.slice (some ⟨W0.heap.size + 1, 0, none⟩) 0 0) [] ks k v ls ∧ Below W0.heap.size W0 wr) (fun i _ => ks.length - (intOf i).toNat)
   case atStart => first | exact ⟨0, _, [], Nat.zero_le _, rfl, hC0, hbX⟩ | exact ⟨0, _, [], Nat.zero_le _, rfl, hC0.drew, hbX.drew⟩
   case round =>
    obtain ⟨k, v, ls, hk, rfl, hM, hbe⟩ := hrel
    clear hC0 hbX
    have HM : Hid (type_of% hM) := hM
    obtain ⟨⟨tc0, tc1, tc2, tc3⟩, tf⟩ := block4 hM.box
    obtain ⟨⟨rc0, rc1, rc2, rc3⟩, rf⟩ := block4 hM.res
    obtain ⟨⟨e0, e1, e2, e3⟩, _⟩ := block4 ((hbe.block w.heap.size (by omega)).trans hbx)
    have lt1 : W0.heap.size < wr.heap.size := (Array.getElem?_eq_some_iff.1 hM.box).1
    have hown := hM.kids.own
    have hlo := hM.lo
    have hzw : W0.heap.size ≤ wr.heap.size := hbe.size
    obtain ⟨av, cv, hv⟩ := slice_ownM hown
    subst hv
    have tf3 := tf 3
    have hnT : (Value.slice av k cv).ownBlock ≠ some W0.heap.size := fun e => by have := (hown.lt _ e).1; omega
    have hbw : Below w.heap.size w wr := hBW.trans (hbe.mono (by omega))
    clear hM
    by_cases hlt : k < ks.length
    ·obtain ⟨b, off, x0, x1, x2, x3', rfl, hb, hta, z0, z1, z2, z3'⟩ := HEL.out k hlt
     obtain ⟨an2, ln2, cn2, ak2, lk2, ck2, ee⟩ := hta.shape
     simp only [List.cons.injEq, and_true] at ee
     obtain ⟨rfl, rfl, rfl, rfl⟩ := ee
     have A0 := (hbw.cell (p := ⟨b, off + k * 4, none⟩) hb).trans z0
     have A1 := (hbw.cell (p := ⟨b, off + k * 4 + 1, none⟩) hb).trans z1
     have A2 := (hbw.cell (p := ⟨b, off + k * 4 + 2, none⟩) hb).trans z2
     have A3 := (hbw.cell (p := ⟨b, off + k * 4 + 3, none⟩) hb).trans z3'
     have HC0 : Hid (∀ wx : World, Below wr.heap.size wr wx → Calls Tryz.prog 125 #[.agg #[.int .i64 ks[k].kind, .string ks[k].name, .slice an2 ln2 cn2, .slice ak2 lk2 ck2]] wx fun e w' => ∃ (an : Option Addr) (ln cn : Nat) (ak : Option Addr) (lk ck : Nat), e = .returned (.agg #[.int .i64 ks[k].kind, .string ks[k].name, .slice an ln cn, .slice ak lk ck]) ∧ (∃ l, cellsK ks[k] l = [.int .i64 ks[k].kind, .string ks[k].name, .slice an ln cn, .slice ak lk ck] ∧ NewLay wx.heap.size w' n l ks[k]) ∧ Below wx.heap.size wx w') := fun wx hx => HTO.out k hlt _ wx (hta.below (hbw.trans (hx.mono hbw.size)))
     have hk0 : (0 : Int) ≤ (k : Int) := by omega
     have hk1 : (k : Int) < (ks.length : Int) := by omega
     clear z0 z1 z2 z3' hta HEL HTO rc0 rc1 rc2 rc3 rf tf
     go_wp2_with fail
     go_region_law
      (first
       | (refine step_openC (by rfl) ?_; go_simp; go_at_call 125; refine (HC0.out _ (by first | exact (Below.refl _ _).drew | exact Below.refl _ _)).mono ?_; rintro e w2 ⟨an, ln, cn, ak, lk, ck, rfl, ⟨l, hcl, hnl⟩, hb2'⟩; have hb2 : Below wr.heap.size wr w2 := (by first | exact hb2' | exact ((Below.refl wr.heap.size wr).drew).trans hb2'); have x3 := (hb2.cell (p := ⟨W0.heap.size, 3, none⟩) lt1).trans tc3; have xf := (hb2.frozen (p := ⟨W0.heap.size, 3, none⟩) lt1).trans tf3; have lt2 : W0.heap.size < w2.heap.size := Nat.lt_of_lt_of_le lt1 hb2.size; have y3 : ∀ o, (w2.alloc o).cell? ⟨W0.heap.size, 3, none⟩ = some (.slice av k cv) := (fun o => (cellOld 3 lt2).trans x3); have yf : ∀ o, (w2.alloc o).frozen? ⟨W0.heap.size, 3, none⟩ = false := (fun o => (frozenOld 3 lt2).trans xf); have ho2 := kept_belowT hown hb2)
       | (revert hb2; intro hb2; (refine step_append_lies _ (by rfl) _ _ _ (by rfl) BB 30 i0 _ 4 72 Tryz.underlying28 hi0 hz0 hz1 hz2 rfl (by omega) (.slice av k cv) k _ (by rfl) (by first | exact (ho2.alloc _) | exact (ho2.alloc _).drew) ⟨w2.heap.size, 0, none⟩ 1 1 [.int .i64 ks[k].kind, .string ks[k].name, .slice an ln cn, .slice ak lk ck] (by rfl) (by rfl) (World.news_of_block (cs := #[.int .i64 ks[k].kind, .string ks[k].name, .slice an ln cn, .slice ak lk ck]) (t := 30) (fr := (0, 0)) (heap_alloc_new w2 _)) (by simp [Value.oneCell']) (by omega) (by unfold maxLen; omega) (by omega) (by have := hb2.size; simp; omega) (w2.heap.size + 1) (by simp) ?_; intro gg cap w4 hown1 hgrow hat hlt4); have hT4 := hgrow.block W0.heap.size (by simp; omega) (fun e => hnT e.symm); have z3 := cell_same (y3 _) hT4; have zf := (frozen_sameC 3 hT4).trans (yf _)))
     all_goals
      rw [← hcl] at hown1
      have R1 := HM.out.step hlt hb2 hnl hgrow hat hown1
      have HR1 : Hid (type_of% R1) := R1
      have R2 : Below W0.heap.size W0 (w4.setCell ⟨W0.heap.size, 3, none⟩ (.slice (some ⟨gg, 0, none⟩) (k + 1) cap)) := (((hbe.trans (hb2.mono hzw)).alloc (by have := hb2.size; omega) _).grown hgrow (by have := hb2.size; simp; omega) (fun j hj => by have := (hown.lt j hj).1; omega)).setCell hTW _
      clear R1 HM hown hown1 hgrow hnl hcl hb2 hb2' ho2 x3 xf y3 yf z3 zf hT4 HC0
      go_wp2_with fail
      go_roundw
      case rel => exact ⟨k + 1, _, ls ++ [l], by omega, by go_num, HR1.out, R2⟩
      case measure => simp [intOf]; omega
    ·have hke : k = ks.length := by omega
     subst hke
     have rf0 := rf 0
     have rf1 := rf 1
     have rf2 := rf 2
     have rf3 := rf 3
     clear tf rf HEL HTO hown
     go_wp2_with fail
     refine ret_putC rfl (fun j hj => ?_) ⟨.mk (.slice (some ⟨W0.heap.size + 1, 0, none⟩) 0 0) (.slice av ks.length cv) ls, rfl, ⟨HM.out.done, fun q => HM.out.kids.void (by rw [q]; rfl)⟩, put_below hbw (by omega)⟩
     match j, hj with
     | 0, _ => rw [rc0]; rfl
     | 1, _ => rw [rc1]; rfl
     | 2, _ => rw [rc2]; rfl
     | 3, _ => rw [rc3]; rfl
 | some ad =>
  have HC : Hid (∀ X : World, Below w.heap.size w X → ∀ j u, (strV nms)[j]? = some u → X.cell? (ad.add j) = some u) := fun X hX j u hu => by
   have hj : j < nms.length := by
    have := (List.getElem?_eq_some_iff.1 hu).1
    rwa [strV_length] at this
   obtain ⟨a', c', e', hc⟩ := textsOpen hT
   simp only [Value.slice.injEq] at e'
   obtain ⟨b, off, e, h⟩ := hc j hj
   rw [← e'.1] at e
   simp only [Option.some.injEq] at e
   subst e
   rw [strV_get nms j hj] at hu
   rw [← hu, ← h, Addr.add_lit]
   exact hX.cell (p := ⟨b, off + j, none⟩) (World.block_lt_of_cell? w ⟨b, off + j, none⟩ h)
  have hBW : Below w.heap.size w ((w.alloc (.cells #[.int .i64 kd, .string nm, .slice (some ad) nms.length cn, .slice ak ks.length ck] 30)).alloc (.cells #[.int .i64 0, .string ⟨#[]⟩, .slice none 0 0, .slice none 0 0] 30)) := ((Below.refl _ _).alloc (Nat.le_refl _) _).alloc (by simp) _
  have hbx : ((w.alloc (.cells #[.int .i64 kd, .string nm, .slice (some ad) nms.length cn, .slice ak ks.length ck] 30)).alloc (.cells #[.int .i64 0, .string ⟨#[]⟩, .slice none 0 0, .slice none 0 0] 30)).heap[w.heap.size]? = some (.cells #[.int .i64 kd, .string nm, .slice (some ad) nms.length cn, .slice ak ks.length ck] 30) := heap_first w _ _
  have hrs : ((w.alloc (.cells #[.int .i64 kd, .string nm, .slice (some ad) nms.length cn, .slice ak ks.length ck] 30)).alloc (.cells #[.int .i64 0, .string ⟨#[]⟩, .slice none 0 0, .slice none 0 0] 30)).heap[w.heap.size + 1]? = some (.cells #[.int .i64 0, .string ⟨#[]⟩, .slice none 0 0, .slice none 0 0] 30) := heap_second w _ _
  have hWz : ((w.alloc (.cells #[.int .i64 kd, .string nm, .slice (some ad) nms.length cn, .slice ak ks.length ck] 30)).alloc (.cells #[.int .i64 0, .string ⟨#[]⟩, .slice none 0 0, .slice none 0 0] 30)).heap.size = w.heap.size + 1 + 1 := by simp
  go_enter Tryz.func125, Tryz.ntmps125
  go_wp2_with fail
  generalize ((w.alloc (.cells #[.int .i64 kd, .string nm, .slice (some ad) nms.length cn, .slice ak ks.length ck] 30)).alloc (.cells #[.int .i64 0, .string ⟨#[]⟩, .slice none 0 0, .slice none 0 0] 30)) = W0 at *
  obtain ⟨⟨b0, b1, b2, b3⟩, _⟩ := block4 hbx
  have HWz : Hid (W0.heap.size = w.heap.size + 1 + 1) := hWz
  have hle : w.heap.size + 1 < W0.heap.size := by omega
  clear hWz
  have HBX : Hid (∀ wx : World, Below W0.heap.size W0 wx → wx.cell? ⟨w.heap.size, 0, none⟩ = some (.int .i64 kd) ∧ wx.cell? ⟨w.heap.size, 1, none⟩ = some (.string nm) ∧ wx.cell? ⟨w.heap.size, 2, none⟩ = some (.slice (some ad) nms.length cn)) := fun wx hx => by
   have hlt : w.heap.size < W0.heap.size := by omega
   exact ⟨(hx.cell (p := ⟨w.heap.size, 0, none⟩) hlt).trans b0, (hx.cell (p := ⟨w.heap.size, 1, none⟩) hlt).trans b1, (hx.cell (p := ⟨w.heap.size, 2, none⟩) hlt).trans b2⟩
  go_region_held3 (fun w' => w'.cell? ⟨w.heap.size, 0, none⟩ = some (.int .i64 kd) ∧ w'.cell? ⟨w.heap.size, 1, none⟩ = some (.string nm) ∧ w'.cell? ⟨w.heap.size, 2, none⟩ = some (.slice (some ad) nms.length cn))
   (first
    | exact HBX.out _ hb1
    | exact HBX.out _ (hb1.alloc hb1.size _)
    | exact HBX.out _ ((((hb1.setCell hT1 _).setCell hT1 _).setCell hT1 _).setCell hT1 _)
    | exact HBX.out _ ((Below.refl _ _).drew)
    | exact HBX.out _ ((Below.refl _ _).alloc (Nat.le_refl _) _)
    | exact HBX.out _ (((Below.refl _ _).alloc (Nat.le_refl _) _).alloc (by simp) _)
    | exact HBX.out _ ((Below.refl _ _).drew.alloc (Nat.le_refl _) _)
    | exact HBX.out _ (((Below.refl _ _).drew.alloc (Nat.le_refl _) _).alloc (by simp) _))
   (first
    | ((refine step_append_own rfl (.tmp 9) (.tmp 11) 22 rfl W0.heap.size 9 j0 (.string ⟨#[]⟩) 1 16 Tryz.underlying22 hj0 hy0 hy1 hy2 rfl (by decide) (.slice (some ⟨W0.heap.size, 0, none⟩) 0 0) 0 [] rfl (by exact own_empty (MapKept.heap_alloc W0 _).1 (Nat.le_refl _)) ad nms.length cn (strV nms) rfl (by rw [strV_length]; omega) (by exact HC.out _ (hBW.trans (((Below.refl _ _).alloc (Nat.le_refl _) _).mono (by omega))).drew) (strV_one _) (by unfold maxLen; omega) (by omega) (by simp) ?_; intro v1 w1 o1' g1 n1); have o1 : w1.ownsRow W0.heap.size 9 1 v1 nms.length (strV nms) := (by simpa using o1'); obtain ⟨a1, c1, e1⟩ := slice_ownM o1; subst e1; clear o1' n1; have hb1 : Below W0.heap.size W0 w1 := ((Below.refl _ _).alloc (Nat.le_refl _) _).drew.grown g1 (by simp) (fun j hj => by simp [Value.ownBlock] at hj; omega); have hway : True := trivial)
    | ((refine step_append_own rfl (.tmp 9) (.tmp 11) 22 rfl W0.heap.size 9 j0 (.string ⟨#[]⟩) 1 16 Tryz.underlying22 hj0 hy0 hy1 hy2 rfl (by decide) (.slice (some ⟨W0.heap.size, 0, none⟩) 0 0) 0 [] rfl (by exact own_empty (heap_first W0 _ _) (Nat.le_refl _)) ad nms.length cn (strV nms) rfl (by rw [strV_length]; omega) (by exact HC.out _ (hBW.trans ((((Below.refl _ _).alloc (Nat.le_refl _) _).alloc (by simp) _).mono (by omega))).drew) (strV_one _) (by unfold maxLen; omega) (by omega) (by simp <;> omega) ?_; intro v1 w1 o1' g1 n1); have o1 : w1.ownsRow W0.heap.size 9 1 v1 nms.length (strV nms) := (by simpa using o1'); obtain ⟨a1, c1, e1⟩ := slice_ownM o1; subst e1; clear o1' n1; have hb1 : Below W0.heap.size W0 w1 := (((Below.refl _ _).alloc (Nat.le_refl _) _).alloc (by simp) _).drew.grown g1 (by simp <;> omega) (fun j hj => by simp [Value.ownBlock] at hj; omega); have hT1 : W0.heap.size ≤ W0.heap.size + 1 := Nat.le_succ _; obtain ⟨⟨q0, q1, q2, q3⟩, qf⟩ := block4 ((g1.block (W0.heap.size + 1) (by simp) (by simp [Value.ownBlock])).trans (heap_second W0 _ _)); have f0 := qf 0; have f1 := qf 1; have f2 := qf 2; have f3 := qf 3)
    | ((refine step_append_own rfl (.tmp 9) (.tmp 11) 22 rfl W0.heap.size 9 j0 (.string ⟨#[]⟩) 1 16 Tryz.underlying22 hj0 hy0 hy1 hy2 rfl (by decide) (.slice (some ⟨W0.heap.size + 1, 0, none⟩) 0 0) 0 [] rfl (by exact own_empty (heap_second W0 _ _) (by omega)) ad nms.length cn (strV nms) rfl (by rw [strV_length]; omega) (by exact HC.out _ (hBW.trans ((((Below.refl _ _).alloc (Nat.le_refl _) _).alloc (by simp) _).mono (by omega))).drew) (strV_one _) (by unfold maxLen; omega) (by omega) (by simp <;> omega) ?_; intro v1 w1 o1' g1 n1); have o1 : w1.ownsRow W0.heap.size 9 1 v1 nms.length (strV nms) := (by simpa using o1'); obtain ⟨a1, c1, e1⟩ := slice_ownM o1; subst e1; clear o1' n1; have hb1 : Below W0.heap.size W0 w1 := (((Below.refl _ _).alloc (Nat.le_refl _) _).alloc (by simp) _).drew.grown g1 (by simp <;> omega) (fun j hj => by simp [Value.ownBlock] at hj; omega); have hT1 : W0.heap.size ≤ W0.heap.size := Nat.le_refl _; obtain ⟨⟨q0, q1, q2, q3⟩, qf⟩ := block4 ((g1.block W0.heap.size (by simp <;> omega) (by simp [Value.ownBlock])).trans (heap_first W0 _ _)); have f0 := qf 0; have f1 := qf 1; have f2 := qf 2; have f3 := qf 3))
  ·have hbX : Below W0.heap.size W0 (w1.alloc (.cells #[.int .i64 kd, .string nm, .slice a1 nms.length c1, .slice none 0 0] 30)) := hb1.alloc hb1.size _
   have tbox : (w1.alloc (.cells #[.int .i64 kd, .string nm, .slice a1 nms.length c1, .slice none 0 0] 30)).heap[w1.heap.size]? = some (.cells #[.int .i64 kd, .string nm, .slice a1 nms.length c1, .slice none 0 0] 30 (0, 0)) := (MapKept.heap_alloc w1 _).1
   have hnam : OwnS (w1.alloc (.cells #[.int .i64 kd, .string nm, .slice a1 nms.length c1, .slice none 0 0] 30)) 9 1 (.slice a1 nms.length c1) nms.length (strV nms) := (OwnS.of o1).below ((Below.refl _ _).alloc (Nat.le_refl _) _)
   have hfre : ∀ b ∈ blk (.slice a1 nms.length c1), W0.heap.size ≤ b ∧ b ≠ w1.heap.size := fun b hb => by
    have h5 := owns_lt (OwnS.of o1) hb
    have h6 := blk_base o1 b hb
    exact ⟨h6, by omega⟩
   have hBK : w1.heap.size < (w1.heap.size + 1) ∧ W0.heap.size ≤ w1.heap.size ∧ (w1.heap.size + 1) ≤ (w1.alloc (.cells #[.int .i64 kd, .string nm, .slice a1 nms.length c1, .slice none 0 0] 30)).heap.size := ⟨by omega, hb1.size, by simp⟩
   have hC0 : Copying (w.heap.size + 1) w1.heap.size w.heap.size (w1.heap.size + 1) (w1.alloc (.cells #[.int .i64 kd, .string nm, .slice a1 nms.length c1, .slice none 0 0] 30)) kd nm n (.slice a1 nms.length c1) nms ks 0 (.slice none 0 0) [] := ⟨(hbX.block (w.heap.size + 1) hle).trans hrs, tbox, hnam, fun b hb => ⟨by have := (hfre b hb).1; omega, (hfre b hb).2, by have := (hfre b hb).1; omega⟩, Kids.nil _ _ _ _ _, by omega, hBK.1, by omega, by omega, hBK.2.2⟩
   have hTW := hBK.2.1
   clear tbox hnam hfre hBK o1 g1 hb1 HC b0 b1 b2 b3 HBX
   generalize (w1.alloc (.cells #[.int .i64 kd, .string nm, .slice a1 nms.length c1, .slice none 0 0] 30)) = WX at *
   generalize (w1.heap.size + 1) = BB at *
   generalize w1.heap.size = TT at *
   go_wp2_with fail
   go_loopw [4] (fun i wr => ∃ (k : Nat) (v : Value) (ls : List Lay), k ≤ ks.length ∧ i = .int .i64 k ∧ Copying (w.heap.size + 1) TT w.heap.size BB wr kd nm n (.slice a1 nms.length c1) nms ks k v ls ∧ Below W0.heap.size W0 wr) (fun i _ => ks.length - (intOf i).toNat)
   case atStart => first | exact ⟨0, _, [], Nat.zero_le _, rfl, hC0, hbX⟩ | exact ⟨0, _, [], Nat.zero_le _, rfl, hC0.drew, hbX.drew⟩
   case round =>
    obtain ⟨k, v, ls, hk, rfl, hM, hbe⟩ := hrel
    clear hC0 hbX
    have HM : Hid (type_of% hM) := hM
    obtain ⟨⟨tc0, tc1, tc2, tc3⟩, tf⟩ := block4 hM.box
    obtain ⟨⟨rc0, rc1, rc2, rc3⟩, rf⟩ := block4 hM.res
    obtain ⟨⟨e0, e1, e2, e3⟩, _⟩ := block4 ((hbe.block w.heap.size (by omega)).trans hbx)
    have lt1 : TT < wr.heap.size := (Array.getElem?_eq_some_iff.1 hM.box).1
    have hown := hM.kids.own
    have hlo := hM.lo
    have hzw : W0.heap.size ≤ wr.heap.size := hbe.size
    obtain ⟨av, cv, hv⟩ := slice_ownM hown
    subst hv
    have tf3 := tf 3
    have hnT : (Value.slice av k cv).ownBlock ≠ some TT := fun e => by have := (hown.lt _ e).1; omega
    have hbw : Below w.heap.size w wr := hBW.trans (hbe.mono (by omega))
    clear hM
    by_cases hlt : k < ks.length
    ·obtain ⟨b, off, x0, x1, x2, x3', rfl, hb, hta, z0, z1, z2, z3'⟩ := HEL.out k hlt
     obtain ⟨an2, ln2, cn2, ak2, lk2, ck2, ee⟩ := hta.shape
     simp only [List.cons.injEq, and_true] at ee
     obtain ⟨rfl, rfl, rfl, rfl⟩ := ee
     have A0 := (hbw.cell (p := ⟨b, off + k * 4, none⟩) hb).trans z0
     have A1 := (hbw.cell (p := ⟨b, off + k * 4 + 1, none⟩) hb).trans z1
     have A2 := (hbw.cell (p := ⟨b, off + k * 4 + 2, none⟩) hb).trans z2
     have A3 := (hbw.cell (p := ⟨b, off + k * 4 + 3, none⟩) hb).trans z3'
     have HC0 : Hid (∀ wx : World, Below wr.heap.size wr wx → Calls Tryz.prog 125 #[.agg #[.int .i64 ks[k].kind, .string ks[k].name, .slice an2 ln2 cn2, .slice ak2 lk2 ck2]] wx fun e w' => ∃ (an : Option Addr) (ln cn : Nat) (ak : Option Addr) (lk ck : Nat), e = .returned (.agg #[.int .i64 ks[k].kind, .string ks[k].name, .slice an ln cn, .slice ak lk ck]) ∧ (∃ l, cellsK ks[k] l = [.int .i64 ks[k].kind, .string ks[k].name, .slice an ln cn, .slice ak lk ck] ∧ NewLay wx.heap.size w' n l ks[k]) ∧ Below wx.heap.size wx w') := fun wx hx => HTO.out k hlt _ wx (hta.below (hbw.trans (hx.mono hbw.size)))
     have hk0 : (0 : Int) ≤ (k : Int) := by omega
     have hk1 : (k : Int) < (ks.length : Int) := by omega
     clear z0 z1 z2 z3' hta HEL HTO rc0 rc1 rc2 rc3 rf tf
     go_wp2_with fail
     go_region_law
      (first
       | (refine step_openC (by rfl) ?_; go_simp; go_at_call 125; refine (HC0.out _ (by first | exact (Below.refl _ _).drew | exact Below.refl _ _)).mono ?_; rintro e w2 ⟨an, ln, cn, ak, lk, ck, rfl, ⟨l, hcl, hnl⟩, hb2'⟩; have hb2 : Below wr.heap.size wr w2 := (by first | exact hb2' | exact ((Below.refl wr.heap.size wr).drew).trans hb2'); have x3 := (hb2.cell (p := ⟨TT, 3, none⟩) lt1).trans tc3; have xf := (hb2.frozen (p := ⟨TT, 3, none⟩) lt1).trans tf3; have lt2 : TT < w2.heap.size := Nat.lt_of_lt_of_le lt1 hb2.size; have y3 : ∀ o, (w2.alloc o).cell? ⟨TT, 3, none⟩ = some (.slice av k cv) := (fun o => (cellOld 3 lt2).trans x3); have yf : ∀ o, (w2.alloc o).frozen? ⟨TT, 3, none⟩ = false := (fun o => (frozenOld 3 lt2).trans xf); have ho2 := kept_belowT hown hb2)
       | (revert hb2; intro hb2; (refine step_append_lies _ (by rfl) _ _ _ (by rfl) BB 30 i0 _ 4 72 Tryz.underlying28 hi0 hz0 hz1 hz2 rfl (by omega) (.slice av k cv) k _ (by rfl) (by first | exact (ho2.alloc _) | exact (ho2.alloc _).drew) ⟨w2.heap.size, 0, none⟩ 1 1 [.int .i64 ks[k].kind, .string ks[k].name, .slice an ln cn, .slice ak lk ck] (by rfl) (by rfl) (World.news_of_block (cs := #[.int .i64 ks[k].kind, .string ks[k].name, .slice an ln cn, .slice ak lk ck]) (t := 30) (fr := (0, 0)) (heap_alloc_new w2 _)) (by simp [Value.oneCell']) (by omega) (by unfold maxLen; omega) (by omega) (by have := hb2.size; simp; omega) (w2.heap.size + 1) (by simp) ?_; intro gg cap w4 hown1 hgrow hat hlt4); have hT4 := hgrow.block TT (by simp; omega) (fun e => hnT e.symm); have z3 := cell_same (y3 _) hT4; have zf := (frozen_sameC 3 hT4).trans (yf _)))
     all_goals
      rw [← hcl] at hown1
      have R1 := HM.out.step hlt hb2 hnl hgrow hat hown1
      have HR1 : Hid (type_of% R1) := R1
      have R2 : Below W0.heap.size W0 (w4.setCell ⟨TT, 3, none⟩ (.slice (some ⟨gg, 0, none⟩) (k + 1) cap)) := (((hbe.trans (hb2.mono hzw)).alloc (by have := hb2.size; omega) _).grown hgrow (by have := hb2.size; simp; omega) (fun j hj => by have := (hown.lt j hj).1; omega)).setCell hTW _
      clear R1 HM hown hown1 hgrow hnl hcl hb2 hb2' ho2 x3 xf y3 yf z3 zf hT4 HC0
      go_wp2_with fail
      go_roundw
      case rel => exact ⟨k + 1, _, ls ++ [l], by omega, by go_num, HR1.out, R2⟩
      case measure => simp [intOf]; omega
    ·have hke : k = ks.length := by omega
     subst hke
     have rf0 := rf 0
     have rf1 := rf 1
     have rf2 := rf 2
     have rf3 := rf 3
     clear tf rf HEL HTO hown
     go_wp2_with fail
     refine ret_putC rfl (fun j hj => ?_) ⟨.mk (.slice a1 nms.length c1) (.slice av ks.length cv) ls, rfl, ⟨HM.out.done, fun q => HM.out.kids.void (by rw [q]; rfl)⟩, put_below hbw (by omega)⟩
     match j, hj with
     | 0, _ => rw [rc0]; rfl
     | 1, _ => rw [rc1]; rfl
     | 2, _ => rw [rc2]; rfl
     | 3, _ => rw [rc3]; rfl
  ·have hbX : Below W0.heap.size W0 ((((w1.setCell ⟨W0.heap.size + 1, 0, none⟩ (.int .i64 kd)).setCell ⟨W0.heap.size + 1, 1, none⟩ (.string nm)).setCell ⟨W0.heap.size + 1, 2, none⟩ (.slice a1 nms.length c1)).setCell ⟨W0.heap.size + 1, 3, none⟩ (.slice none 0 0)) := (((hb1.setCell hT1 _).setCell hT1 _).setCell hT1 _).setCell hT1 _
   have tbox : ((((w1.setCell ⟨W0.heap.size + 1, 0, none⟩ (.int .i64 kd)).setCell ⟨W0.heap.size + 1, 1, none⟩ (.string nm)).setCell ⟨W0.heap.size + 1, 2, none⟩ (.slice a1 nms.length c1)).setCell ⟨W0.heap.size + 1, 3, none⟩ (.slice none 0 0)).heap[(W0.heap.size + 1)]? = some (.cells #[.int .i64 kd, .string nm, .slice a1 nms.length c1, .slice none 0 0] 30 (0, 0)) := put_block ((g1.block (W0.heap.size + 1) (by simp) (by simp [Value.ownBlock])).trans (heap_second W0 _ _))
   have hgn : ∀ b ∈ blk (.slice a1 nms.length c1), b ≠ (W0.heap.size + 1) := fun b hb e => by
    subst e
    have h8 := blk_owned o1 _ hb
    rw [((g1.block (W0.heap.size + 1) (by simp) (by simp [Value.ownBlock])).trans (heap_second W0 _ _))] at h8
    obtain ⟨cur, h8⟩ := h8
    simp at h8
   have hnam : OwnS ((((w1.setCell ⟨W0.heap.size + 1, 0, none⟩ (.int .i64 kd)).setCell ⟨W0.heap.size + 1, 1, none⟩ (.string nm)).setCell ⟨W0.heap.size + 1, 2, none⟩ (.slice a1 nms.length c1)).setCell ⟨W0.heap.size + 1, 3, none⟩ (.slice none 0 0)) 9 1 (.slice a1 nms.length c1) nms.length (strV nms) := owns_same (OwnS.of o1) fun b hb => put_other (hgn b hb)
   have hfre : ∀ b ∈ blk (.slice a1 nms.length c1), W0.heap.size ≤ b ∧ b ≠ (W0.heap.size + 1) := fun b hb => ⟨blk_base o1 b hb, hgn b hb⟩
   have hz9 : W0.heap.size + 1 + 1 ≤ w1.heap.size := by have := g1.size; simpa using this
   have hBK : (W0.heap.size + 1) < (W0.heap.size + 1 + 1) ∧ W0.heap.size ≤ (W0.heap.size + 1) ∧ (W0.heap.size + 1 + 1) ≤ ((((w1.setCell ⟨W0.heap.size + 1, 0, none⟩ (.int .i64 kd)).setCell ⟨W0.heap.size + 1, 1, none⟩ (.string nm)).setCell ⟨W0.heap.size + 1, 2, none⟩ (.slice a1 nms.length c1)).setCell ⟨W0.heap.size + 1, 3, none⟩ (.slice none 0 0)).heap.size := ⟨by omega, by omega, by simpa using hz9⟩
   clear q0 q1 q2 q3 qf f0 f1 f2 f3
   have hC0 : Copying (w.heap.size + 1) (W0.heap.size + 1) w.heap.size (W0.heap.size + 1 + 1) ((((w1.setCell ⟨W0.heap.size + 1, 0, none⟩ (.int .i64 kd)).setCell ⟨W0.heap.size + 1, 1, none⟩ (.string nm)).setCell ⟨W0.heap.size + 1, 2, none⟩ (.slice a1 nms.length c1)).setCell ⟨W0.heap.size + 1, 3, none⟩ (.slice none 0 0)) kd nm n (.slice a1 nms.length c1) nms ks 0 (.slice none 0 0) [] := ⟨(hbX.block (w.heap.size + 1) hle).trans hrs, tbox, hnam, fun b hb => ⟨by have := (hfre b hb).1; omega, (hfre b hb).2, by have := (hfre b hb).1; omega⟩, Kids.nil _ _ _ _ _, by omega, hBK.1, by omega, by omega, hBK.2.2⟩
   have hTW := hBK.2.1
   clear tbox hnam hfre hBK o1 g1 hb1 HC b0 b1 b2 b3 HBX
   generalize ((((w1.setCell ⟨W0.heap.size + 1, 0, none⟩ (.int .i64 kd)).setCell ⟨W0.heap.size + 1, 1, none⟩ (.string nm)).setCell ⟨W0.heap.size + 1, 2, none⟩ (.slice a1 nms.length c1)).setCell ⟨W0.heap.size + 1, 3, none⟩ (.slice none 0 0)) = WX at *
   generalize (W0.heap.size + 1 + 1) = BB at *
   generalize (W0.heap.size + 1) = TT at *
   go_wp2_with fail
   go_loopw [4] (fun i wr => ∃ (k : Nat) (v : Value) (ls : List Lay), k ≤ ks.length ∧ i = .int .i64 k ∧ Copying (w.heap.size + 1) TT w.heap.size BB wr kd nm n (.slice a1 nms.length c1) nms ks k v ls ∧ Below W0.heap.size W0 wr) (fun i _ => ks.length - (intOf i).toNat)
   case atStart => first | exact ⟨0, _, [], Nat.zero_le _, rfl, hC0, hbX⟩ | exact ⟨0, _, [], Nat.zero_le _, rfl, hC0.drew, hbX.drew⟩
   case round =>
    obtain ⟨k, v, ls, hk, rfl, hM, hbe⟩ := hrel
    clear hC0 hbX
    have HM : Hid (type_of% hM) := hM
    obtain ⟨⟨tc0, tc1, tc2, tc3⟩, tf⟩ := block4 hM.box
    obtain ⟨⟨rc0, rc1, rc2, rc3⟩, rf⟩ := block4 hM.res
    obtain ⟨⟨e0, e1, e2, e3⟩, _⟩ := block4 ((hbe.block w.heap.size (by omega)).trans hbx)
    have lt1 : TT < wr.heap.size := (Array.getElem?_eq_some_iff.1 hM.box).1
    have hown := hM.kids.own
    have hlo := hM.lo
    have hzw : W0.heap.size ≤ wr.heap.size := hbe.size
    obtain ⟨av, cv, hv⟩ := slice_ownM hown
    subst hv
    have tf3 := tf 3
    have hnT : (Value.slice av k cv).ownBlock ≠ some TT := fun e => by have := (hown.lt _ e).1; omega
    have hbw : Below w.heap.size w wr := hBW.trans (hbe.mono (by omega))
    clear hM
    by_cases hlt : k < ks.length
    ·obtain ⟨b, off, x0, x1, x2, x3', rfl, hb, hta, z0, z1, z2, z3'⟩ := HEL.out k hlt
     obtain ⟨an2, ln2, cn2, ak2, lk2, ck2, ee⟩ := hta.shape
     simp only [List.cons.injEq, and_true] at ee
     obtain ⟨rfl, rfl, rfl, rfl⟩ := ee
     have A0 := (hbw.cell (p := ⟨b, off + k * 4, none⟩) hb).trans z0
     have A1 := (hbw.cell (p := ⟨b, off + k * 4 + 1, none⟩) hb).trans z1
     have A2 := (hbw.cell (p := ⟨b, off + k * 4 + 2, none⟩) hb).trans z2
     have A3 := (hbw.cell (p := ⟨b, off + k * 4 + 3, none⟩) hb).trans z3'
     have HC0 : Hid (∀ wx : World, Below wr.heap.size wr wx → Calls Tryz.prog 125 #[.agg #[.int .i64 ks[k].kind, .string ks[k].name, .slice an2 ln2 cn2, .slice ak2 lk2 ck2]] wx fun e w' => ∃ (an : Option Addr) (ln cn : Nat) (ak : Option Addr) (lk ck : Nat), e = .returned (.agg #[.int .i64 ks[k].kind, .string ks[k].name, .slice an ln cn, .slice ak lk ck]) ∧ (∃ l, cellsK ks[k] l = [.int .i64 ks[k].kind, .string ks[k].name, .slice an ln cn, .slice ak lk ck] ∧ NewLay wx.heap.size w' n l ks[k]) ∧ Below wx.heap.size wx w') := fun wx hx => HTO.out k hlt _ wx (hta.below (hbw.trans (hx.mono hbw.size)))
     have hk0 : (0 : Int) ≤ (k : Int) := by omega
     have hk1 : (k : Int) < (ks.length : Int) := by omega
     clear z0 z1 z2 z3' hta HEL HTO rc0 rc1 rc2 rc3 rf tf
     go_wp2_with fail
     go_region_law
      (first
       | (refine step_openC (by rfl) ?_; go_simp; go_at_call 125; refine (HC0.out _ (by first | exact (Below.refl _ _).drew | exact Below.refl _ _)).mono ?_; rintro e w2 ⟨an, ln, cn, ak, lk, ck, rfl, ⟨l, hcl, hnl⟩, hb2'⟩; have hb2 : Below wr.heap.size wr w2 := (by first | exact hb2' | exact ((Below.refl wr.heap.size wr).drew).trans hb2'); have x3 := (hb2.cell (p := ⟨TT, 3, none⟩) lt1).trans tc3; have xf := (hb2.frozen (p := ⟨TT, 3, none⟩) lt1).trans tf3; have lt2 : TT < w2.heap.size := Nat.lt_of_lt_of_le lt1 hb2.size; have y3 : ∀ o, (w2.alloc o).cell? ⟨TT, 3, none⟩ = some (.slice av k cv) := (fun o => (cellOld 3 lt2).trans x3); have yf : ∀ o, (w2.alloc o).frozen? ⟨TT, 3, none⟩ = false := (fun o => (frozenOld 3 lt2).trans xf); have ho2 := kept_belowT hown hb2)
       | (revert hb2; intro hb2; (refine step_append_lies _ (by rfl) _ _ _ (by rfl) BB 30 i0 _ 4 72 Tryz.underlying28 hi0 hz0 hz1 hz2 rfl (by omega) (.slice av k cv) k _ (by rfl) (by first | exact (ho2.alloc _) | exact (ho2.alloc _).drew) ⟨w2.heap.size, 0, none⟩ 1 1 [.int .i64 ks[k].kind, .string ks[k].name, .slice an ln cn, .slice ak lk ck] (by rfl) (by rfl) (World.news_of_block (cs := #[.int .i64 ks[k].kind, .string ks[k].name, .slice an ln cn, .slice ak lk ck]) (t := 30) (fr := (0, 0)) (heap_alloc_new w2 _)) (by simp [Value.oneCell']) (by omega) (by unfold maxLen; omega) (by omega) (by have := hb2.size; simp; omega) (w2.heap.size + 1) (by simp) ?_; intro gg cap w4 hown1 hgrow hat hlt4); have hT4 := hgrow.block TT (by simp; omega) (fun e => hnT e.symm); have z3 := cell_same (y3 _) hT4; have zf := (frozen_sameC 3 hT4).trans (yf _)))
     all_goals
      rw [← hcl] at hown1
      have R1 := HM.out.step hlt hb2 hnl hgrow hat hown1
      have HR1 : Hid (type_of% R1) := R1
      have R2 : Below W0.heap.size W0 (w4.setCell ⟨TT, 3, none⟩ (.slice (some ⟨gg, 0, none⟩) (k + 1) cap)) := (((hbe.trans (hb2.mono hzw)).alloc (by have := hb2.size; omega) _).grown hgrow (by have := hb2.size; simp; omega) (fun j hj => by have := (hown.lt j hj).1; omega)).setCell hTW _
      clear R1 HM hown hown1 hgrow hnl hcl hb2 hb2' ho2 x3 xf y3 yf z3 zf hT4 HC0
      go_wp2_with fail
      go_roundw
      case rel => exact ⟨k + 1, _, ls ++ [l], by omega, by go_num, HR1.out, R2⟩
      case measure => simp [intOf]; omega
    ·have hke : k = ks.length := by omega
     subst hke
     have rf0 := rf 0
     have rf1 := rf 1
     have rf2 := rf 2
     have rf3 := rf 3
     clear tf rf HEL HTO hown
     go_wp2_with fail
     refine ret_putC rfl (fun j hj => ?_) ⟨.mk (.slice a1 nms.length c1) (.slice av ks.length cv) ls, rfl, ⟨HM.out.done, fun q => HM.out.kids.void (by rw [q]; rfl)⟩, put_below hbw (by omega)⟩
     match j, hj with
     | 0, _ => rw [rc0]; rfl
     | 1, _ => rw [rc1]; rfl
     | 2, _ => rw [rc2]; rfl
     | 3, _ => rw [rc3]; rfl
  ·have hbX : Below W0.heap.size W0 ((((w1.setCell ⟨W0.heap.size, 0, none⟩ (.int .i64 kd)).setCell ⟨W0.heap.size, 1, none⟩ (.string nm)).setCell ⟨W0.heap.size, 2, none⟩ (.slice a1 nms.length c1)).setCell ⟨W0.heap.size, 3, none⟩ (.slice none 0 0)) := (((hb1.setCell hT1 _).setCell hT1 _).setCell hT1 _).setCell hT1 _
   have tbox : ((((w1.setCell ⟨W0.heap.size, 0, none⟩ (.int .i64 kd)).setCell ⟨W0.heap.size, 1, none⟩ (.string nm)).setCell ⟨W0.heap.size, 2, none⟩ (.slice a1 nms.length c1)).setCell ⟨W0.heap.size, 3, none⟩ (.slice none 0 0)).heap[W0.heap.size]? = some (.cells #[.int .i64 kd, .string nm, .slice a1 nms.length c1, .slice none 0 0] 30 (0, 0)) := put_block ((g1.block W0.heap.size (by simp <;> omega) (by simp [Value.ownBlock])).trans (heap_first W0 _ _))
   have hgn : ∀ b ∈ blk (.slice a1 nms.length c1), b ≠ W0.heap.size := fun b hb e => by
    subst e
    have h8 := blk_owned o1 _ hb
    rw [((g1.block W0.heap.size (by simp <;> omega) (by simp [Value.ownBlock])).trans (heap_first W0 _ _))] at h8
    obtain ⟨cur, h8⟩ := h8
    simp at h8
   have hnam : OwnS ((((w1.setCell ⟨W0.heap.size, 0, none⟩ (.int .i64 kd)).setCell ⟨W0.heap.size, 1, none⟩ (.string nm)).setCell ⟨W0.heap.size, 2, none⟩ (.slice a1 nms.length c1)).setCell ⟨W0.heap.size, 3, none⟩ (.slice none 0 0)) 9 1 (.slice a1 nms.length c1) nms.length (strV nms) := owns_same (OwnS.of o1) fun b hb => put_other (hgn b hb)
   have hfre : ∀ b ∈ blk (.slice a1 nms.length c1), W0.heap.size ≤ b ∧ b ≠ W0.heap.size := fun b hb => ⟨blk_base o1 b hb, hgn b hb⟩
   have hz9 : W0.heap.size + 1 + 1 ≤ w1.heap.size := by have := g1.size; simpa using this
   have hBK : W0.heap.size < (W0.heap.size + 1 + 1) ∧ W0.heap.size ≤ W0.heap.size ∧ (W0.heap.size + 1 + 1) ≤ ((((w1.setCell ⟨W0.heap.size, 0, none⟩ (.int .i64 kd)).setCell ⟨W0.heap.size, 1, none⟩ (.string nm)).setCell ⟨W0.heap.size, 2, none⟩ (.slice a1 nms.length c1)).setCell ⟨W0.heap.size, 3, none⟩ (.slice none 0 0)).heap.size := ⟨by omega, by omega, by simpa using hz9⟩
   clear q0 q1 q2 q3 qf f0 f1 f2 f3
   have hC0 : Copying (w.heap.size + 1) W0.heap.size w.heap.size (W0.heap.size + 1 + 1) ((((w1.setCell ⟨W0.heap.size, 0, none⟩ (.int .i64 kd)).setCell ⟨W0.heap.size, 1, none⟩ (.string nm)).setCell ⟨W0.heap.size, 2, none⟩ (.slice a1 nms.length c1)).setCell ⟨W0.heap.size, 3, none⟩ (.slice none 0 0)) kd nm n (.slice a1 nms.length c1) nms ks 0 (.slice none 0 0) [] := ⟨(hbX.block (w.heap.size + 1) hle).trans hrs, tbox, hnam, fun b hb => ⟨by have := (hfre b hb).1; omega, (hfre b hb).2, by have := (hfre b hb).1; omega⟩, Kids.nil _ _ _ _ _, by omega, hBK.1, by omega, by omega, hBK.2.2⟩
   have hTW := hBK.2.1
   clear tbox hnam hfre hBK o1 g1 hb1 HC b0 b1 b2 b3 HBX
   generalize ((((w1.setCell ⟨W0.heap.size, 0, none⟩ (.int .i64 kd)).setCell ⟨W0.heap.size, 1, none⟩ (.string nm)).setCell ⟨W0.heap.size, 2, none⟩ (.slice a1 nms.length c1)).setCell ⟨W0.heap.size, 3, none⟩ (.slice none 0 0)) = WX at *
   generalize (W0.heap.size + 1 + 1) = BB at *
   go_wp2_with fail
   go_loopw [4] (fun i wr => ∃ (k : Nat) (v : Value) (ls : List Lay), k ≤ ks.length ∧ i = .int .i64 k ∧ Copying (w.heap.size + 1) W0.heap.size w.heap.size BB wr kd nm n (.slice a1 nms.length c1) nms ks k v ls ∧ Below W0.heap.size W0 wr) (fun i _ => ks.length - (intOf i).toNat)
   case atStart => first | exact ⟨0, _, [], Nat.zero_le _, rfl, hC0, hbX⟩ | exact ⟨0, _, [], Nat.zero_le _, rfl, hC0.drew, hbX.drew⟩
   case round =>
    obtain ⟨k, v, ls, hk, rfl, hM, hbe⟩ := hrel
    clear hC0 hbX
    have HM : Hid (type_of% hM) := hM
    obtain ⟨⟨tc0, tc1, tc2, tc3⟩, tf⟩ := block4 hM.box
    obtain ⟨⟨rc0, rc1, rc2, rc3⟩, rf⟩ := block4 hM.res
    obtain ⟨⟨e0, e1, e2, e3⟩, _⟩ := block4 ((hbe.block w.heap.size (by omega)).trans hbx)
    have lt1 : W0.heap.size < wr.heap.size := (Array.getElem?_eq_some_iff.1 hM.box).1
    have hown := hM.kids.own
    have hlo := hM.lo
    have hzw : W0.heap.size ≤ wr.heap.size := hbe.size
    obtain ⟨av, cv, hv⟩ := slice_ownM hown
    subst hv
    have tf3 := tf 3
    have hnT : (Value.slice av k cv).ownBlock ≠ some W0.heap.size := fun e => by have := (hown.lt _ e).1; omega
    have hbw : Below w.heap.size w wr := hBW.trans (hbe.mono (by omega))
    clear hM
    by_cases hlt : k < ks.length
    ·obtain ⟨b, off, x0, x1, x2, x3', rfl, hb, hta, z0, z1, z2, z3'⟩ := HEL.out k hlt
     obtain ⟨an2, ln2, cn2, ak2, lk2, ck2, ee⟩ := hta.shape
     simp only [List.cons.injEq, and_true] at ee
     obtain ⟨rfl, rfl, rfl, rfl⟩ := ee
     have A0 := (hbw.cell (p := ⟨b, off + k * 4, none⟩) hb).trans z0
     have A1 := (hbw.cell (p := ⟨b, off + k * 4 + 1, none⟩) hb).trans z1
     have A2 := (hbw.cell (p := ⟨b, off + k * 4 + 2, none⟩) hb).trans z2
     have A3 := (hbw.cell (p := ⟨b, off + k * 4 + 3, none⟩) hb).trans z3'
     have HC0 : Hid (∀ wx : World, Below wr.heap.size wr wx → Calls Tryz.prog 125 #[.agg #[.int .i64 ks[k].kind, .string ks[k].name, .slice an2 ln2 cn2, .slice ak2 lk2 ck2]] wx fun e w' => ∃ (an : Option Addr) (ln cn : Nat) (ak : Option Addr) (lk ck : Nat), e = .returned (.agg #[.int .i64 ks[k].kind, .string ks[k].name, .slice an ln cn, .slice ak lk ck]) ∧ (∃ l, cellsK ks[k] l = [.int .i64 ks[k].kind, .string ks[k].name, .slice an ln cn, .slice ak lk ck] ∧ NewLay wx.heap.size w' n l ks[k]) ∧ Below wx.heap.size wx w') := fun wx hx => HTO.out k hlt _ wx (hta.below (hbw.trans (hx.mono hbw.size)))
     have hk0 : (0 : Int) ≤ (k : Int) := by omega
     have hk1 : (k : Int) < (ks.length : Int) := by omega
     clear z0 z1 z2 z3' hta HEL HTO rc0 rc1 rc2 rc3 rf tf
     go_wp2_with fail
     go_region_law
      (first
       | (refine step_openC (by rfl) ?_; go_simp; go_at_call 125; refine (HC0.out _ (by first | exact (Below.refl _ _).drew | exact Below.refl _ _)).mono ?_; rintro e w2 ⟨an, ln, cn, ak, lk, ck, rfl, ⟨l, hcl, hnl⟩, hb2'⟩; have hb2 : Below wr.heap.size wr w2 := (by first | exact hb2' | exact ((Below.refl wr.heap.size wr).drew).trans hb2'); have x3 := (hb2.cell (p := ⟨W0.heap.size, 3, none⟩) lt1).trans tc3; have xf := (hb2.frozen (p := ⟨W0.heap.size, 3, none⟩) lt1).trans tf3; have lt2 : W0.heap.size < w2.heap.size := Nat.lt_of_lt_of_le lt1 hb2.size; have y3 : ∀ o, (w2.alloc o).cell? ⟨W0.heap.size, 3, none⟩ = some (.slice av k cv) := (fun o => (cellOld 3 lt2).trans x3); have yf : ∀ o, (w2.alloc o).frozen? ⟨W0.heap.size, 3, none⟩ = false := (fun o => (frozenOld 3 lt2).trans xf); have ho2 := kept_belowT hown hb2)
       | (revert hb2; intro hb2; (refine step_append_lies _ (by rfl) _ _ _ (by rfl) BB 30 i0 _ 4 72 Tryz.underlying28 hi0 hz0 hz1 hz2 rfl (by omega) (.slice av k cv) k _ (by rfl) (by first | exact (ho2.alloc _) | exact (ho2.alloc _).drew) ⟨w2.heap.size, 0, none⟩ 1 1 [.int .i64 ks[k].kind, .string ks[k].name, .slice an ln cn, .slice ak lk ck] (by rfl) (by rfl) (World.news_of_block (cs := #[.int .i64 ks[k].kind, .string ks[k].name, .slice an ln cn, .slice ak lk ck]) (t := 30) (fr := (0, 0)) (heap_alloc_new w2 _)) (by simp [Value.oneCell']) (by omega) (by unfold maxLen; omega) (by omega) (by have := hb2.size; simp; omega) (w2.heap.size + 1) (by simp) ?_; intro gg cap w4 hown1 hgrow hat hlt4); have hT4 := hgrow.block W0.heap.size (by simp; omega) (fun e => hnT e.symm); have z3 := cell_same (y3 _) hT4; have zf := (frozen_sameC 3 hT4).trans (yf _)))
     all_goals
      rw [← hcl] at hown1
      have R1 := HM.out.step hlt hb2 hnl hgrow hat hown1
      have HR1 : Hid (type_of% R1) := R1
      have R2 : Below W0.heap.size W0 (w4.setCell ⟨W0.heap.size, 3, none⟩ (.slice (some ⟨gg, 0, none⟩) (k + 1) cap)) := (((hbe.trans (hb2.mono hzw)).alloc (by have := hb2.size; omega) _).grown hgrow (by have := hb2.size; simp; omega) (fun j hj => by have := (hown.lt j hj).1; omega)).setCell hTW _
      clear R1 HM hown hown1 hgrow hnl hcl hb2 hb2' ho2 x3 xf y3 yf z3 zf hT4 HC0
      go_wp2_with fail
      go_roundw
      case rel => exact ⟨k + 1, _, ls ++ [l], by omega, by go_num, HR1.out, R2⟩
      case measure => simp [intOf]; omega
    ·have hke : k = ks.length := by omega
     subst hke
     have rf0 := rf 0
     have rf1 := rf 1
     have rf2 := rf 2
     have rf3 := rf 3
     clear tf rf HEL HTO hown
     go_wp2_with fail
     refine ret_putC rfl (fun j hj => ?_) ⟨.mk (.slice a1 nms.length c1) (.slice av ks.length cv) ls, rfl, ⟨HM.out.done, fun q => HM.out.kids.void (by rw [q]; rfl)⟩, put_below hbw (by omega)⟩
     match j, hj with
     | 0, _ => rw [rc0]; rfl
     | 1, _ => rw [rc1]; rfl
     | 2, _ => rw [rc2]; rfl
     | 3, _ => rw [rc3]; rfl
theorem specCopyN (n : Nat) : CopyAtN n := by
 induction n with
 | zero => intro cs t w h; exact h.elim
 | succ n ih =>
  intro cs t w h hb
  obtain ⟨vn, vk, rfl, _, _, ⟨hT, _, _⟩, _, hrow⟩ := h
  cases t with
  | mk kd nm nms ks =>
   have hbe : Ty.bulk (n + 1) (.mk kd nm nms ks) = nm.size + (nms.length + Ty.textsBulk nms) + rowBulk n ks := rfl
   have hT' : Texts w vn nms := hT
   obtain ⟨an, cn, rfl, _⟩ := textsOpen hT'
   obtain ⟨ak, ck, rfl, _⟩ := rowOpen hrow
   exact specCopyStep n (fun cs t w h hb => (ih cs t w h hb).mono fun _ _ ⟨l, he, hl, hbl⟩ => ⟨l, he, hl.1, hbl⟩) kd nm nms ks an ak cn ck w hT' hrow (by omega) (by omega)
theorem specCopy (n : Nat) : CopyAt n := fun cs t w h hb => (specCopyN n cs t w h hb).mono fun _ _ ⟨l, he, hl, hbl⟩ => ⟨l, he, hl.1, hbl⟩
end Go.Proofs.YtbojmbeopnlmiaaGreatDoor
