/-
  What spec.l03Rename holds in memory on its way. The walk of spec.l03Rename.
  The walk of spec.Rename.
-/
import Derived.Test.YtjihkebafoajdaaGreatDoorRnP
import Derived.Test.YtjihkebafoajdaaGreatDoorUnA
import Derived.Test.YtjihkebafoajdaaGreatDoorWordW
import Derived.Deep.CutRange
import Derived.Deep.RegionHeld3
import Derived.Deep.AppendLies
import Derived.Test.YtjihkebafoajdaaGreatDoorRightV
namespace Go.Proofs.YtjihkebafoajdaaGreatDoor
open Go.RowKit

theorem text_bulkR {l : List ByteArray} {x : ByteArray} (h : x ∈ l) : x.size ≤ Ty.textsBulk l := by
  induction l with
  | nil => simp at h
  | cons a r ih =>
    show x.size ≤ a.size + Ty.textsBulk r
    rcases List.mem_cons.1 h with rfl | h
    · omega
    · have := ih h; omega
/-- a right type that is not too great is of sizes that memory can have -/
theorem right_sizedR (n : Nat) : ∀ (t : Ty) (d : Int), Right n t d → Ty.bulk n t ≤ 274877906944 → Ty.sized n t := by
  induction n with
  | zero => intro t d h _; exact h.elim
  | succ n ih =>
    intro t d h hb
    have hk := right_kinds h
    have e : Ty.bulk (n + 1) t = t.name.size + (t.names.length + Ty.textsBulk t.names) + (t.kids.length + (t.kids.map (Ty.bulk n)).sum) := rfl
    refine ⟨⟨by omega, by omega⟩, by unfold maxLen; omega, ⟨by unfold maxLen; omega, fun x hx => by have := text_bulkR hx; unfold maxLen; omega⟩, by unfold maxLen; omega, fun k hkk => ?_⟩
    obtain ⟨j, hj, rfl⟩ := List.getElem_of_mem hkk
    exact ih _ (d - 1) (h.2.1 _ hkk) (by have := kid_bulk n t.kids j hj; omega)
theorem told_cellsS {w : World} {n : Nat} {l : Lay} {t : Ty} (h : LayAt w n l t) : ∃ an cn ak ck, cellsK t l = [.int .i64 t.kind, .string t.name, .slice an t.names.length cn, .slice ak t.kids.length ck] := by
  cases n with
  | zero => exact h.elim
  | succ n =>
    obtain ⟨an, cn, e1⟩ := h.1.slice
    obtain ⟨ak, ck, e2⟩ := h.2.2.1.slice
    exact ⟨an, cn, ak, ck, by unfold cellsK; rw [e1, e2]⟩
theorem asc_lengthR {n : Nat} {A S : List Ty} (h : AscS n A S) : S.length ≤ A.length := by
  have h1 := sum_sub (f := fun _ => 0) h.nodup fun x hx => (h.1 x).1 hx
  have z : ∀ l : List Ty, (l.map fun _ => 0).sum = 0 := fun l => by
    induction l with
    | nil => rfl
    | cons a r ih => rw [List.map_cons, List.sum_cons, ih]
  rw [z, z] at h1
  omega

/-- the state of the loop: R the answer's block, T the copy's, BB what lies ahead of all kids -/
structure Rnm (R T B BB : Nat) (wr : World) (kd : Int) (nm : ByteArray) (n : Nat) (vn : Value) (nms : List ByteArray) (S : List Ty) (v : Value) (ls : List Lay) : Prop where
  res : wr.heap[R]? = some (.cells #[.int .i64 0, .string ⟨#[]⟩, .slice none 0 0, .slice none 0 0] 27 (0, 0))
  box : wr.heap[T]? = some (.cells #[.int .i64 kd, .string nm, vn, v] 27 (0, 0))
  names : OwnS wr 9 1 vn nms.length (strV nms)
  fresh : ∀ b ∈ blk vn, B ≤ b ∧ b ≠ T ∧ b ≠ R ∧ b < BB
  len : ls.length = S.length
  own : wr.ownsRow BB 27 4 v S.length (flatK S ls)
  lay : ∀ j (h1 : j < ls.length) (h2 : j < S.length), LayAt wr n ls[j] S[j]
  new : ∀ l ∈ ls, ∀ b ∈ Lay.blocks n l, BB ≤ b ∧ v.ownBlock ≠ some b
  lo : R < BB ∧ T < BB ∧ R ≠ T ∧ B ≤ BB ∧ BB ≤ wr.heap.size

theorem Rnm.step {R T B BB : Nat} {wr w2 w4 : World} {kd : Int} {nm : ByteArray} {n : Nat} {vn : Value} {nms : List ByteArray} {S : List Ty} {gg cap : Nat} {v : Value} {ls : List Lay} {l : Lay} {t : Ty} {o : Obj} (h : Rnm R T B BB wr kd nm n vn nms S v ls)
    (hb2 : Below wr.heap.size wr w2) (hl : LayAt w2 n l t) (hln : ∀ b ∈ Lay.blocks n l, wr.heap.size ≤ b) (hg : (w2.alloc o).grownBy w4 v.ownBlock) (hat : v.ownBlock = some gg ∨ gg = w2.heap.size + 1)
    (hown : w4.ownsRow BB 27 4 (.slice (some ⟨gg, 0, none⟩) (S.length + 1) cap) (S.length + 1) (flatK S ls ++ cellsK t l)) :
    Rnm R T B BB (w4.setCell ⟨T, 3, none⟩ (.slice (some ⟨gg, 0, none⟩) (S.length + 1) cap)) kd nm n vn nms (S ++ [t]) (.slice (some ⟨gg, 0, none⟩) (S.length + 1) cap) (ls ++ [l]) := by
  have lt1 : T < wr.heap.size := (Array.getElem?_eq_some_iff.1 h.box).1
  obtain ⟨lo1, lo2, lo3, lo4, lo5⟩ := h.lo
  have hz2 := hb2.size
  have hz4 : w2.heap.size + 1 ≤ w4.heap.size := by have := hg.size; simpa using this
  have hvl : ∀ g, v.ownBlock = some g → BB ≤ g ∧ g < wr.heap.size := fun g hg => h.own.lt g hg
  have keep2 : ∀ b, b < w2.heap.size → v.ownBlock ≠ some b → w4.heap[b]? = w2.heap[b]? := fun b hb hne => (hg.block b (by simp; omega) fun e => hne e.symm).trans ((MapKept.heap_alloc w2 o).2 b (by omega))
  have keep : ∀ b, b < wr.heap.size → v.ownBlock ≠ some b → w4.heap[b]? = wr.heap[b]? := fun b hb hne => (keep2 b (by omega) hne).trans (hb2.block b hb)
  have hset : ∀ b, b ≠ T → (w4.setCell ⟨T, 3, none⟩ (.slice (some ⟨gg, 0, none⟩) (S.length + 1) cap)).heap[b]? = w4.heap[b]? := fun b hb => Below.heap_setCell _ _ _ _ (by simpa using hb)
  have hgT : gg ≠ T := by
    rcases hat with q | q
    · have := hvl _ q; omega
    · omega
  refine ⟨?_, ?_, ?_, h.fresh, by simp [h.len], ?_, ?_, ?_, lo1, lo2, lo3, lo4, by simp; omega⟩
  · rw [hset _ (by omega), keep _ (by omega) fun e => by have := hvl _ e; omega]
    exact h.res
  · have hb : w4.heap[T]? = some (.cells #[.int .i64 kd, .string nm, vn, v] 27 (0, 0)) := by
      rw [keep _ lt1 fun e => by have := hvl _ e; omega]
      exact h.box
    exact heap_setCell_same w4 T 3 _ _ (.slice (some ⟨gg, 0, none⟩) (S.length + 1) cap) hb
  · refine owns_same h.names fun b hb => ?_
    have := h.fresh b hb
    rw [hset b this.2.1, keep b (owns_lt h.names hb) fun e => by have := hvl _ e; omega]
  · rw [flatK_app h.len, List.length_append]
    show World.ownsRow _ BB 27 4 _ (S.length + 1) (flatK S ls ++ (cellsK t l ++ []))
    rw [List.append_nil]
    exact ownsRow_setCell_other hown (by simpa [Value.ownBlock] using hgT) _
  · intro j h1 h2
    by_cases c : j < S.length
    · have hj := h.lay j (by rw [h.len]; exact c) c
      rw [List.getElem_append_left c, List.getElem_append_left (by rw [h.len]; exact c)]
      refine hj.same fun b hb => ?_
      have hn := h.new _ (List.getElem_mem (by rw [h.len]; exact c)) b hb
      rw [hset b (by omega), keep b (hj.lt hb) hn.2]
    · have e : j = S.length := by simp at h2; omega
      subst e
      rw [List.getElem_append_right (Nat.le_refl _), List.getElem_append_right (by rw [h.len]; exact Nat.le_refl _)]
      simp only [Nat.sub_self, List.getElem_cons_zero, h.len]
      refine hl.same fun b hb => ?_
      have := hln b hb
      rw [hset b (by omega), keep2 b (hl.lt hb) fun e => by have := hvl _ e; omega]
  · intro l' hl' b hb
    rcases List.mem_append.1 hl' with q | q
    · obtain ⟨j, hj, rfl⟩ := List.getElem_of_mem q
      have hn := h.new _ q b hb
      have hlt := (h.lay j hj (by rw [← h.len]; exact hj)).lt hb
      refine ⟨hn.1, fun e => ?_⟩
      simp only [Value.ownBlock, Option.some.injEq] at e
      subst e
      rcases hat with x | x
      · exact hn.2 x
      · omega
    · rw [List.mem_singleton] at q
      subst q
      have h1 := hln b hb
      have h2 := hl.lt hb
      refine ⟨by omega, fun e => ?_⟩
      simp only [Value.ownBlock, Option.some.injEq] at e
      subst e
      rcases hat with x | x
      · have := hvl _ x; omega
      · omega

theorem Rnm.drew {R T B BB : Nat} {wr : World} {kd : Int} {nm : ByteArray} {n : Nat} {vn : Value} {nms : List ByteArray} {S : List Ty} {v : Value} {ls : List Lay} (h : Rnm R T B BB wr kd nm n vn nms S v ls) : Rnm R T B BB wr.drew kd nm n vn nms S v ls := ⟨h.res, h.box, h.names, h.fresh, h.len, h.own, fun j h1 h2 => (h.lay j h1 h2).same fun _ _ => rfl, h.new, h.lo⟩

theorem Rnm.below {R T B BB : Nat} {wr wx : World} {kd : Int} {nm : ByteArray} {n : Nat} {vn : Value} {nms : List ByteArray} {S : List Ty} {v : Value} {ls : List Lay} (h : Rnm R T B BB wr kd nm n vn nms S v ls) (hb : Below wr.heap.size wr wx) : Rnm R T B BB wx kd nm n vn nms S v ls := by
  obtain ⟨lo1, lo2, lo3, lo4, lo5⟩ := h.lo
  have hz := hb.size
  exact ⟨(hb.block _ (by omega)).trans h.res, (hb.block _ (by omega)).trans h.box, h.names.below hb, h.fresh, h.len, kept_belowT h.own hb, fun j h1 h2 => (h.lay j h1 h2).below hb, h.new, lo1, lo2, lo3, lo4, by omega⟩
/-- the name is put anew -/
theorem Rnm.named {R T B BB : Nat} {wr : World} {kd : Int} {nm : ByteArray} {n : Nat} {vn : Value} {nms : List ByteArray} (nm2 : ByteArray) (h : Rnm R T B BB wr kd nm n vn nms [] (.slice none 0 0) []) : Rnm R T B BB (wr.setCell ⟨T, 1, none⟩ (.string nm2)) kd nm2 n vn nms [] (.slice none 0 0) [] := by
  obtain ⟨lo1, lo2, lo3, lo4, lo5⟩ := h.lo
  have hset : ∀ b, b ≠ T → (wr.setCell ⟨T, 1, none⟩ (.string nm2)).heap[b]? = wr.heap[b]? := fun b hb => Below.heap_setCell _ _ _ _ (by simpa using hb)
  exact ⟨(hset _ (by omega)).trans h.res, heap_setCell_same wr T 1 _ _ (.string nm2) h.box, owns_same h.names fun b hb => hset b (h.fresh b hb).2.1, h.fresh, rfl, World.ownsRow_nil _ _ _ _, fun j h1 _ => absurd h1 (by simp), fun l hl => absurd hl (by simp), lo1, lo2, lo3, lo4, by simp; omega⟩

/-- what it answers where that is no union -/
theorem Rnm.done {R T B BB : Nat} {wr : World} {kd : Int} {nm : ByteArray} {n : Nat} {vn : Value} {nms : List ByteArray} {S : List Ty} {v : Value} {ls : List Lay} {x0 x1 x2 x3 : Value} (h : Rnm R T B BB wr kd nm n vn nms S v ls) :
    LayAt ((((wr.setCell ⟨R, 0, none⟩ x0).setCell ⟨R, 1, none⟩ x1).setCell ⟨R, 2, none⟩ x2).setCell ⟨R, 3, none⟩ x3) (n + 1) (.mk vn v ls) (.mk kd nm nms S) ∧ ∀ b ∈ Lay.blocks (n + 1) (.mk vn v ls), B ≤ b := by
  obtain ⟨lo1, lo2, lo3, lo4, lo5⟩ := h.lo
  have hL : LayAt wr (n + 1) (.mk vn v ls) (.mk kd nm nms S) := ⟨h.names, h.len, OwnS.of h.own, h.lay⟩
  have hbl : ∀ b ∈ Lay.blocks (n + 1) (.mk vn v ls), B ≤ b ∧ b ≠ R := fun b hb => by
    rcases List.mem_append.1 hb with hb | hb
    · have := h.fresh b hb
      exact ⟨this.1, this.2.2.1⟩
    · rcases List.mem_append.1 hb with hb | hb
      · have := blk_base h.own b hb
        exact ⟨by omega, by omega⟩
      · obtain ⟨l', hl', hb⟩ := List.mem_flatMap.1 hb
        have := (h.new l' hl' b hb).1
        exact ⟨by omega, by omega⟩
  exact ⟨hL.same fun b hb => put_other (hbl b hb).2, fun b hb => (hbl b hb).1⟩

/-- what it answers where that is a union of several -/
theorem Rnm.union {R T B BB : Nat} {wr w3 : World} {kd : Int} {nm : ByteArray} {n : Nat} {vn : Value} {nms : List ByteArray} {S : List Ty} {v : Value} {ls : List Lay} {x0 x1 x2 x3 y : Value} {S2 : List Ty} {ls2 : List Lay} {g cap : Nat} (h : Rnm R T B BB wr kd nm n vn nms S v ls) (hb : Below wr.heap.size wr w3) (hK : KidsS w3 BB n g cap S2 ls2) :
    LayAt (((((w3.setCell ⟨T, 3, none⟩ y).setCell ⟨R, 0, none⟩ x0).setCell ⟨R, 1, none⟩ x1).setCell ⟨R, 2, none⟩ x2).setCell ⟨R, 3, none⟩ x3) (n + 1) (.mk vn (.slice (some ⟨g, 0, none⟩) S2.length cap) ls2) (.mk kd nm nms S2) ∧ ∀ b ∈ Lay.blocks (n + 1) (.mk vn (.slice (some ⟨g, 0, none⟩) S2.length cap) ls2), B ≤ b := by
  obtain ⟨lo1, lo2, lo3, lo4, lo5⟩ := h.lo
  have hL : LayAt w3 (n + 1) (.mk vn (.slice (some ⟨g, 0, none⟩) S2.length cap) ls2) (.mk kd nm nms S2) := ⟨h.names.below hb, hK.len, OwnS.of hK.own, fun j h1 h2 => (hK.lay j h1 h2).1⟩
  have hbl : ∀ b ∈ Lay.blocks (n + 1) (.mk vn (.slice (some ⟨g, 0, none⟩) S2.length cap) ls2), B ≤ b ∧ b ≠ R ∧ b ≠ T := fun b hb => by
    rcases List.mem_append.1 hb with hb | hb
    · have := h.fresh b hb
      exact ⟨this.1, this.2.2.1, this.2.1⟩
    · rcases List.mem_append.1 hb with hb | hb
      · have := blk_base hK.own b hb
        exact ⟨by omega, by omega, by omega⟩
      · obtain ⟨l', hl', hb⟩ := List.mem_flatMap.1 hb
        obtain ⟨j, hj, rfl⟩ := List.getElem_of_mem hl'
        have := (hK.lay j hj (by rw [← hK.len]; exact hj)).2 b hb
        exact ⟨by omega, by omega, by omega⟩
  exact ⟨hL.same fun b hb => (put_other (hbl b hb).2.1).trans (Below.heap_setCell _ _ _ _ (by simpa using (hbl b hb).2.2)), fun b hb => (hbl b hb).1⟩

/-- what it answers where that is a union of one -/
theorem kids_single {R B BB : Nat} {w3 : World} {n : Nat} {x0 x1 x2 x3 : Value} {s : Ty} {l : Lay} {g cap : Nat} (hK : KidsS w3 BB n g cap [s] [l]) (hR : R < BB) (hB : B ≤ BB) :
    LayAt ((((w3.setCell ⟨R, 0, none⟩ x0).setCell ⟨R, 1, none⟩ x1).setCell ⟨R, 2, none⟩ x2).setCell ⟨R, 3, none⟩ x3) (n + 1) l s ∧ ∀ b ∈ Lay.blocks (n + 1) l, B ≤ b := by
  obtain ⟨h1, h2⟩ := hK.lay 0 (by simp) (by simp)
  simp only [List.getElem_cons_zero] at h1 h2
  obtain ⟨h3, h4⟩ := h1.up
  rw [h4]
  exact ⟨h3.same fun b hb => put_other (by rw [h4] at hb; have := h2 b hb; omega), fun b hb => by have := h2 b hb; omega⟩

end Go.Proofs.YtjihkebafoajdaaGreatDoor

namespace Go.Proofs.YtjihkebafoajdaaGreatDoor
open Go.RowKit

theorem ret_putR {R : Ending → World → Prop} {w0 : World} {tmps : Array Value} {b : Nat} {x0 x1 x2 x3 : Value} (hp : tmps[4]?.getD undef = .pointer (some ⟨b, 0, none⟩))
    (h : ∀ j, j < 4 → (w0.cell? ⟨b, j, none⟩).isSome = true) (hR : R (.returned (.agg #[x0, x1, x2, x3])) ((((w0.setCell ⟨b, 0, none⟩ x0).setCell ⟨b, 1, none⟩ x1).setCell ⟨b, 2, none⟩ x2).setCell ⟨b, 3, none⟩ x3)) :
    bodyPost Tryz.prog Tryz.f31 R .ret { tmps := tmps, defers := [] } ((((w0.setCell ⟨b, 0, none⟩ x0).setCell ⟨b, 1, none⟩ x1).setCell ⟨b, 2, none⟩ x2).setCell ⟨b, 3, none⟩ x3) := by
  obtain ⟨h0, h1, h2, h3⟩ := put4T (x0 := x0) (x1 := x1) (x2 := x2) (x3 := x3) h
  generalize ((((w0.setCell ⟨b, 0, none⟩ x0).setCell ⟨b, 1, none⟩ x1).setCell ⟨b, 2, none⟩ x2).setCell ⟨b, 3, none⟩ x3) = W at *
  refine bodyPost_ret (v := .agg #[x0, x1, x2, x3]) ?_ rfl hR
  simp [results, Tryz.results31, go_sem, hp, h0, h1, h2, h3]

/-- what l03Rename does at that depth -/
def RnsAt (mod : ByteArray) (n : Nat) : Prop := ∀ (cs : List Value) (t : Ty) (d : Int) (w : World), TyAt w n cs t → Right n t d → d ≤ 12 → Ty.bulk n t ≤ 16777216 →
    Calls Tryz.prog 31 #[.agg cs.toArray, .string mod] w fun e w' => ∃ (l : Lay) (t' : Ty), e = .returned (.agg (cellsK t' l).toArray) ∧ Ren mod n t t' ∧ LayAt w' n l t' ∧ (∀ b ∈ Lay.blocks n l, w.heap.size ≤ b) ∧ Below w.heap.size w w'

/-- the same, its cells told -/
theorem RnsAt.told {mod : ByteArray} {n : Nat} (h : RnsAt mod n) (cs : List Value) (t : Ty) (d : Int) (w : World) (hf : TyAt w n cs t) (hr : Right n t d) (hd : d ≤ 12) (hb : Ty.bulk n t ≤ 16777216) :
    Calls Tryz.prog 31 #[.agg cs.toArray, .string mod] w fun e w' => ∃ (kd : Int) (nm : ByteArray) (an : Option Addr) (ln cn : Nat) (ak : Option Addr) (lk ck : Nat), e = .returned (.agg #[.int .i64 kd, .string nm, .slice an ln cn, .slice ak lk ck]) ∧ (∃ l t', cellsK t' l = [.int .i64 kd, .string nm, .slice an ln cn, .slice ak lk ck] ∧ Ren mod n t t' ∧ LayAt w' n l t' ∧ (∀ b ∈ Lay.blocks n l, w.heap.size ≤ b)) ∧ Below w.heap.size w w' := by
  refine (h cs t d w hf hr hd hb).mono fun e w' hh => ?_
  obtain ⟨l, t', he, hren, hl, hbl, hbe⟩ := hh
  cases n with
  | zero => exact hl.elim
  | succ n =>
    obtain ⟨an, cn, e1⟩ := hl.1.slice
    obtain ⟨ak, ck, e2⟩ := hl.2.2.1.slice
    have e3 : cellsK t' l = [.int .i64 t'.kind, .string t'.name, .slice an t'.names.length cn, .slice ak t'.kids.length ck] := by unfold cellsK; rw [e1, e2]
    exact ⟨_, _, an, _, cn, ak, _, ck, by rw [he, e3], ⟨l, t', e3, hren, hl, hbl⟩, hbe⟩

set_option maxHeartbeats 6400000 in
set_option maxRecDepth 100000 in
theorem specRenStep (mod : ByteArray) (n : Nat) (hmn : Lx.nameOkP mod = true) (hms : mod.size ≤ 1048576) (ih : RnsAt mod n) (kd : Int) (nm : ByteArray) (nms : List ByteArray) (ks : List Ty) (an ak : Option Addr) (cn ck : Nat) (d : Int) (w : World) (hT : Texts w (.slice an nms.length cn) nms) (hrow : RowAt w (TyAt w n) (.slice ak ks.length ck) ks)
    (hR : Right (n + 1) (.mk kd nm nms ks) d) (hd : d ≤ 12) (hbk : Ty.bulk (n + 1) (.mk kd nm nms ks) ≤ 16777216) :
    Calls Tryz.prog 31 #[.agg #[.int .i64 kd, .string nm, .slice an nms.length cn, .slice ak ks.length ck], .string mod] w fun e w' => ∃ (l : Lay) (t' : Ty), e = .returned (.agg (cellsK t' l).toArray) ∧ Ren mod (n + 1) (.mk kd nm nms ks) t' ∧ LayAt w' (n + 1) l t' ∧ (∀ b ∈ Lay.blocks (n + 1) l, w.heap.size ≤ b) ∧ Below w.heap.size w w' := by
  obtain ⟨i0, hi0, hz0, hz1, hz2⟩ := info_parts Tryz.infoTypeC
  obtain ⟨j0, hj0, hy0, hy1, hy2⟩ := info_parts Tryz.infoString
  have e9 : Ty.bulk (n + 1) (.mk kd nm nms ks) = nm.size + (nms.length + Ty.textsBulk nms) + (ks.length + (ks.map (Ty.bulk n)).sum) := rfl
  have hlen : ks.length ≤ 16777216 := by omega
  have hnl : nms.length ≤ 16777216 := by omega
  have hnz : nm.size ≤ 16777216 := by omega
  obtain ⟨ak', ck', ek', hel⟩ := rowOpen hrow
  simp only [Value.slice.injEq, true_and] at ek'
  obtain ⟨rfl, rfl⟩ := ek'
  have HEL : Hid (type_of% hel) := hel
  have HKB : Hid (∀ k (hk : k < ks.length), Ty.bulk n ks[k] ≤ 16777216 ∧ Right n ks[k] (d - 1)) := fun k hk => ⟨by have := kid_bulk n ks k hk; omega, hR.2.1 _ (List.getElem_mem hk)⟩
  have HTO : Hid (∀ k (hk : k < ks.length) (cs : List Value) (wx : World), TyAt wx n cs ks[k] → Calls Tryz.prog 31 #[.agg cs.toArray, .string mod] wx fun e w' => ∃ (kd : Int) (nm : ByteArray) (an : Option Addr) (ln cn : Nat) (ak : Option Addr) (lk ck : Nat), e = .returned (.agg #[.int .i64 kd, .string nm, .slice an ln cn, .slice ak lk ck]) ∧ (∃ l t', cellsK t' l = [.int .i64 kd, .string nm, .slice an ln cn, .slice ak lk ck] ∧ Ren mod n ks[k] t' ∧ LayAt w' n l t' ∧ (∀ b ∈ Lay.blocks n l, wx.heap.size ≤ b)) ∧ Below wx.heap.size wx w') := fun k hk cs wx h => ih.told cs ks[k] (d - 1) wx h (HKB.out k hk).2 (by omega) (HKB.out k hk).1
  have HFA : Hid (∀ k (hk : k < ks.length) (t' : Ty), Ren mod n ks[k] t' → Right n t' 12 ∧ Ty.sized n t' ∧ Ty.bulk n t' ≤ 274877906944) := fun k hk t' hr => by
    obtain ⟨q1, _, q3⟩ := Ren.right hmn (HKB.out k hk).2 hr
    have q2 := (HKB.out k hk).1
    have q4 : Ty.bulk n t' ≤ 274877906944 := by omega
    exact ⟨(right_hgt q1).2 (by have := right_hgt_le q1; omega), right_sizedR n t' (d - 1) q1 q4, q4⟩
  have HNO : Hid (∀ wx : World, Calls Tryz.prog 29 #[.string nm] wx fun e w' => e = .returned (.bool (Lx.nameOkP nm)) ∧ Below wx.heap.size wx w') := fun wx => specNameOk nm wx (by omega)
  have HRK : Hid (Right (n + 1) (.mk kd nm nms ks) d) := hR
  clear hrow hel ih hbk hR e9
  have hBW : Below w.heap.size w ((w.alloc (.cells #[.int .i64 kd, .string nm, .slice an nms.length cn, .slice ak ks.length ck] 27)).alloc (.cells #[.int .i64 0, .string ⟨#[]⟩, .slice none 0 0, .slice none 0 0] 27)) := ((Below.refl _ _).alloc (Nat.le_refl _) _).alloc (by simp) _
  have hbx : ((w.alloc (.cells #[.int .i64 kd, .string nm, .slice an nms.length cn, .slice ak ks.length ck] 27)).alloc (.cells #[.int .i64 0, .string ⟨#[]⟩, .slice none 0 0, .slice none 0 0] 27)).heap[w.heap.size]? = some (.cells #[.int .i64 kd, .string nm, .slice an nms.length cn, .slice ak ks.length ck] 27) := heap_first w _ _
  have hrs : ((w.alloc (.cells #[.int .i64 kd, .string nm, .slice an nms.length cn, .slice ak ks.length ck] 27)).alloc (.cells #[.int .i64 0, .string ⟨#[]⟩, .slice none 0 0, .slice none 0 0] 27)).heap[w.heap.size + 1]? = some (.cells #[.int .i64 0, .string ⟨#[]⟩, .slice none 0 0, .slice none 0 0] 27) := heap_second w _ _
  have hWz : ((w.alloc (.cells #[.int .i64 kd, .string nm, .slice an nms.length cn, .slice ak ks.length ck] 27)).alloc (.cells #[.int .i64 0, .string ⟨#[]⟩, .slice none 0 0, .slice none 0 0] 27)).heap.size = w.heap.size + 1 + 1 := by simp
  go_enter Tryz.func31, Tryz.ntmps31
  go_upto_region 1 with fail
  generalize ((w.alloc (.cells #[.int .i64 kd, .string nm, .slice an nms.length cn, .slice ak ks.length ck] 27)).alloc (.cells #[.int .i64 0, .string ⟨#[]⟩, .slice none 0 0, .slice none 0 0] 27)) = W0 at *
  obtain ⟨⟨b0, b1, b2, b3⟩, _⟩ := block4 hbx
  have HWz : Hid (W0.heap.size = w.heap.size + 1 + 1) := hWz
  have hle : w.heap.size + 1 < W0.heap.size := by omega
  clear hWz
  go_cut [5] from 9 to 17 (fun p wx => ∃ (TT : Nat) (av : Option Addr) (cv : Nat), p = .pointer (some ⟨TT, 0, none⟩) ∧ wx.heap[TT]? = some (.cells #[.int .i64 kd, .string nm, .slice av nms.length cv, .slice none 0 0] 27 (0, 0)) ∧ OwnS wx 9 1 (.slice av nms.length cv) nms.length (strV nms) ∧ (∀ b ∈ blk (.slice av nms.length cv), W0.heap.size ≤ b ∧ b ≠ TT) ∧ W0.heap.size ≤ TT ∧ Below W0.heap.size W0 wx)
  case first =>
    cases an with
    | none =>
      have hn0 : nms = [] := by
        obtain ⟨a', c', e', hc⟩ := textsOpen hT
        simp only [Value.slice.injEq] at e'
        cases hh : nms with
        | nil => rfl
        | cons x r =>
          obtain ⟨b, off, e, _⟩ := hc 0 (by rw [hh]; simp)
          rw [← e'.1] at e
          cases e
      subst hn0
      have HBX : Hid (∀ wx : World, Below W0.heap.size W0 wx → wx.cell? ⟨w.heap.size, 0, none⟩ = some (.int .i64 kd) ∧ wx.cell? ⟨w.heap.size, 1, none⟩ = some (.string nm) ∧ wx.cell? ⟨w.heap.size, 2, none⟩ = some (.slice none 0 cn)) := fun wx hx => by
        have hlt : w.heap.size < W0.heap.size := by omega
        exact ⟨(hx.cell (p := ⟨w.heap.size, 0, none⟩) hlt).trans b0, (hx.cell (p := ⟨w.heap.size, 1, none⟩) hlt).trans b1, (hx.cell (p := ⟨w.heap.size, 2, none⟩) hlt).trans b2⟩
      go_region_held3 (fun w' => w'.cell? ⟨w.heap.size, 0, none⟩ = some (.int .i64 kd) ∧ w'.cell? ⟨w.heap.size, 1, none⟩ = some (.string nm) ∧ w'.cell? ⟨w.heap.size, 2, none⟩ = some (.slice none 0 cn))
        (first
          | exact HBX.out _ (Below.refl _ _)
          | exact HBX.out _ ((Below.refl _ _).drew)
          | exact HBX.out _ ((Below.refl _ _).alloc (Nat.le_refl _) _)
          | exact HBX.out _ ((Below.refl _ _).alloc (Nat.le_refl _) _).drew
          | exact HBX.out _ (((Below.refl _ _).alloc (Nat.le_refl _) _).drew.alloc (by simp) _)
          | exact HBX.out _ (((Below.refl _ _).alloc (Nat.le_refl _) _).alloc (by simp) _)
          | exact HBX.out _ (((Below.refl _ _).alloc (Nat.le_refl _) _).alloc (by simp) _).drew)
        (fail)
      · have hbX : Below W0.heap.size W0 ((W0.alloc (.cells #[] 9)).alloc (.cells #[.int .i64 kd, .string nm, .slice (some ⟨W0.heap.size, 0, none⟩) 0 0, .slice none 0 0] 27)) := ((Below.refl _ _).alloc (Nat.le_refl _) _).alloc (by simp) _
        have tbox : ((W0.alloc (.cells #[] 9)).alloc (.cells #[.int .i64 kd, .string nm, .slice (some ⟨W0.heap.size, 0, none⟩) 0 0, .slice none 0 0] 27)).heap[(W0.heap.size + 1)]? = some (.cells #[.int .i64 kd, .string nm, .slice (some ⟨W0.heap.size, 0, none⟩) 0 0, .slice none 0 0] 27 (0, 0)) := heap_second W0 _ _
        have hnam : OwnS ((W0.alloc (.cells #[] 9)).alloc (.cells #[.int .i64 kd, .string nm, .slice (some ⟨W0.heap.size, 0, none⟩) 0 0, .slice none 0 0] 27)) 9 1 (.slice (some ⟨W0.heap.size, 0, none⟩) 0 0) 0 [] := .inl ⟨rfl, rfl, _, _, rfl⟩
        have hfre : ∀ b ∈ blk (.slice (some ⟨W0.heap.size, 0, none⟩) 0 0), W0.heap.size ≤ b ∧ b ≠ (W0.heap.size + 1) := fun b hb => by simp [blk] at hb
        have hBK : (W0.heap.size + 1) < (W0.heap.size + 1 + 1) ∧ W0.heap.size ≤ (W0.heap.size + 1) ∧ (W0.heap.size + 1 + 1) ≤ ((W0.alloc (.cells #[] 9)).alloc (.cells #[.int .i64 kd, .string nm, .slice (some ⟨W0.heap.size, 0, none⟩) 0 0, .slice none 0 0] 27)).heap.size := ⟨by omega, by omega, by simp⟩
        clear HBX b0 b1 b2 b3
        go_wp2_with fail
        go_meet
        first
          | exact ⟨_, _, _, rfl, tbox, hnam, hfre, by omega, hbX⟩
          | exact ⟨_, _, _, rfl, tbox, hnam, hfre, hBK.2.1, hbX⟩
          | exact ⟨_, _, _, rfl, tbox, hnam, hfre, by omega, hbX.drew⟩
          | exact ⟨_, _, _, rfl, tbox, hnam, hfre, hBK.2.1, hbX.drew⟩
      · have hbX : Below W0.heap.size W0 ((W0.alloc (.cells #[] 9)).alloc (.cells #[.int .i64 kd, .string nm, .slice (some ⟨W0.heap.size, 0, none⟩) 0 0, .slice none 0 0] 27)) := ((Below.refl _ _).alloc (Nat.le_refl _) _).alloc (by simp) _
        have tbox : ((W0.alloc (.cells #[] 9)).alloc (.cells #[.int .i64 kd, .string nm, .slice (some ⟨W0.heap.size, 0, none⟩) 0 0, .slice none 0 0] 27)).heap[(W0.heap.size + 1)]? = some (.cells #[.int .i64 kd, .string nm, .slice (some ⟨W0.heap.size, 0, none⟩) 0 0, .slice none 0 0] 27 (0, 0)) := heap_second W0 _ _
        have hnam : OwnS ((W0.alloc (.cells #[] 9)).alloc (.cells #[.int .i64 kd, .string nm, .slice (some ⟨W0.heap.size, 0, none⟩) 0 0, .slice none 0 0] 27)) 9 1 (.slice (some ⟨W0.heap.size, 0, none⟩) 0 0) 0 [] := .inl ⟨rfl, rfl, _, _, rfl⟩
        have hfre : ∀ b ∈ blk (.slice (some ⟨W0.heap.size, 0, none⟩) 0 0), W0.heap.size ≤ b ∧ b ≠ (W0.heap.size + 1) := fun b hb => by simp [blk] at hb
        have hBK : (W0.heap.size + 1) < (W0.heap.size + 1 + 1) ∧ W0.heap.size ≤ (W0.heap.size + 1) ∧ (W0.heap.size + 1 + 1) ≤ ((W0.alloc (.cells #[] 9)).alloc (.cells #[.int .i64 kd, .string nm, .slice (some ⟨W0.heap.size, 0, none⟩) 0 0, .slice none 0 0] 27)).heap.size := ⟨by omega, by omega, by simp⟩
        clear HBX b0 b1 b2 b3
        go_wp2_with fail
        go_meet
        first
          | exact ⟨_, _, _, rfl, tbox, hnam, hfre, by omega, hbX⟩
          | exact ⟨_, _, _, rfl, tbox, hnam, hfre, hBK.2.1, hbX⟩
          | exact ⟨_, _, _, rfl, tbox, hnam, hfre, by omega, hbX.drew⟩
          | exact ⟨_, _, _, rfl, tbox, hnam, hfre, hBK.2.1, hbX.drew⟩
      · have hbX : Below W0.heap.size W0 ((W0.alloc (.cells #[.int .i64 kd, .string nm, .slice (some ⟨W0.heap.size + 1, 0, none⟩) 0 0, .slice none 0 0] 27)).alloc (.cells #[] 9)) := ((Below.refl _ _).alloc (Nat.le_refl _) _).alloc (by simp) _
        have tbox : ((W0.alloc (.cells #[.int .i64 kd, .string nm, .slice (some ⟨W0.heap.size + 1, 0, none⟩) 0 0, .slice none 0 0] 27)).alloc (.cells #[] 9)).heap[W0.heap.size]? = some (.cells #[.int .i64 kd, .string nm, .slice (some ⟨W0.heap.size + 1, 0, none⟩) 0 0, .slice none 0 0] 27 (0, 0)) := heap_first W0 _ _
        have hnam : OwnS ((W0.alloc (.cells #[.int .i64 kd, .string nm, .slice (some ⟨W0.heap.size + 1, 0, none⟩) 0 0, .slice none 0 0] 27)).alloc (.cells #[] 9)) 9 1 (.slice (some ⟨W0.heap.size + 1, 0, none⟩) 0 0) 0 [] := .inl ⟨rfl, rfl, _, _, rfl⟩
        have hfre : ∀ b ∈ blk (.slice (some ⟨W0.heap.size + 1, 0, none⟩) 0 0), W0.heap.size ≤ b ∧ b ≠ W0.heap.size := fun b hb => by simp [blk] at hb
        have hBK : W0.heap.size < (W0.heap.size + 1 + 1) ∧ W0.heap.size ≤ W0.heap.size ∧ (W0.heap.size + 1 + 1) ≤ ((W0.alloc (.cells #[.int .i64 kd, .string nm, .slice (some ⟨W0.heap.size + 1, 0, none⟩) 0 0, .slice none 0 0] 27)).alloc (.cells #[] 9)).heap.size := ⟨by omega, by omega, by simp⟩
        clear HBX b0 b1 b2 b3
        go_wp2_with fail
        go_meet
        first
          | exact ⟨_, _, _, rfl, tbox, hnam, hfre, by omega, hbX⟩
          | exact ⟨_, _, _, rfl, tbox, hnam, hfre, hBK.2.1, hbX⟩
          | exact ⟨_, _, _, rfl, tbox, hnam, hfre, by omega, hbX.drew⟩
          | exact ⟨_, _, _, rfl, tbox, hnam, hfre, hBK.2.1, hbX.drew⟩
    | some ad =>
      have HC : Hid (∀ X : World, Below w.heap.size w X → ∀ j u, (strV nms)[j]? = some u → X.cell? (ad.add j) = some u) := fun X hX j u hu => by
        have hj : j < nms.length := by
          have := (List.getElem?_eq_some_iff.1 hu).1
          rwa [strV_length] at this
        obtain ⟨a', c', e', hc⟩ := textsOpen hT
        simp only [Value.slice.injEq] at e'
        obtain ⟨b, off, e, h⟩ := hc j hj
        rw [← e'.1] at e
        simp only [Option.some.injEq] at e
        subst e
        rw [strV_get nms j hj] at hu
        rw [← hu, ← h, Addr.add_lit]
        exact hX.cell (p := ⟨b, off + j, none⟩) (World.block_lt_of_cell? w ⟨b, off + j, none⟩ h)
      have HBX : Hid (∀ wx : World, Below W0.heap.size W0 wx → wx.cell? ⟨w.heap.size, 0, none⟩ = some (.int .i64 kd) ∧ wx.cell? ⟨w.heap.size, 1, none⟩ = some (.string nm) ∧ wx.cell? ⟨w.heap.size, 2, none⟩ = some (.slice (some ad) nms.length cn)) := fun wx hx => by
        have hlt : w.heap.size < W0.heap.size := by omega
        exact ⟨(hx.cell (p := ⟨w.heap.size, 0, none⟩) hlt).trans b0, (hx.cell (p := ⟨w.heap.size, 1, none⟩) hlt).trans b1, (hx.cell (p := ⟨w.heap.size, 2, none⟩) hlt).trans b2⟩
      go_region_held3 (fun w' => w'.cell? ⟨w.heap.size, 0, none⟩ = some (.int .i64 kd) ∧ w'.cell? ⟨w.heap.size, 1, none⟩ = some (.string nm) ∧ w'.cell? ⟨w.heap.size, 2, none⟩ = some (.slice (some ad) nms.length cn))
        (first
          | exact HBX.out _ hb1
          | exact HBX.out _ (hb1.alloc hb1.size _)
          | exact HBX.out _ ((((hb1.setCell hT1 _).setCell hT1 _).setCell hT1 _).setCell hT1 _)
          | exact HBX.out _ ((Below.refl _ _).drew)
          | exact HBX.out _ ((Below.refl _ _).alloc (Nat.le_refl _) _)
          | exact HBX.out _ (((Below.refl _ _).alloc (Nat.le_refl _) _).alloc (by simp) _)
          | exact HBX.out _ ((Below.refl _ _).drew.alloc (Nat.le_refl _) _)
          | exact HBX.out _ (((Below.refl _ _).drew.alloc (Nat.le_refl _) _).alloc (by simp) _))
        (first
          | ((refine step_append_own rfl (.tmp 13) (.tmp 15) 24 rfl W0.heap.size 9 j0 (.string ⟨#[]⟩) 1 16 Tryz.underlying24 hj0 hy0 hy1 hy2 rfl (by decide) (.slice (some ⟨W0.heap.size, 0, none⟩) 0 0) 0 [] rfl (by exact own_empty (MapKept.heap_alloc W0 _).1 (Nat.le_refl _)) ad nms.length cn (strV nms) rfl (by rw [strV_length]; omega) (by exact HC.out _ (hBW.trans (((Below.refl _ _).alloc (Nat.le_refl _) _).mono (by omega))).drew) (strV_one _) (by unfold maxLen; omega) (by omega) (by simp) ?_; intro v1 w1 o1' g1 n1); have o1 : w1.ownsRow W0.heap.size 9 1 v1 nms.length (strV nms) := (by simpa using o1'); obtain ⟨a1, c1, e1⟩ := slice_ownM o1; subst e1; clear o1' n1; have hb1 : Below W0.heap.size W0 w1 := ((Below.refl _ _).alloc (Nat.le_refl _) _).drew.grown g1 (by simp) (fun j hj => by simp [Value.ownBlock] at hj; omega); have hway : True := trivial)
          | ((refine step_append_own rfl (.tmp 13) (.tmp 15) 24 rfl W0.heap.size 9 j0 (.string ⟨#[]⟩) 1 16 Tryz.underlying24 hj0 hy0 hy1 hy2 rfl (by decide) (.slice (some ⟨W0.heap.size, 0, none⟩) 0 0) 0 [] rfl (by exact own_empty (heap_first W0 _ _) (Nat.le_refl _)) ad nms.length cn (strV nms) rfl (by rw [strV_length]; omega) (by exact HC.out _ (hBW.trans ((((Below.refl _ _).alloc (Nat.le_refl _) _).alloc (by simp) _).mono (by omega))).drew) (strV_one _) (by unfold maxLen; omega) (by omega) (by simp <;> omega) ?_; intro v1 w1 o1' g1 n1); have o1 : w1.ownsRow W0.heap.size 9 1 v1 nms.length (strV nms) := (by simpa using o1'); obtain ⟨a1, c1, e1⟩ := slice_ownM o1; subst e1; clear o1' n1; have hb1 : Below W0.heap.size W0 w1 := (((Below.refl _ _).alloc (Nat.le_refl _) _).alloc (by simp) _).drew.grown g1 (by simp <;> omega) (fun j hj => by simp [Value.ownBlock] at hj; omega); have hT1 : W0.heap.size ≤ W0.heap.size + 1 := Nat.le_succ _; obtain ⟨⟨q0, q1, q2, q3⟩, qf⟩ := block4 ((g1.block (W0.heap.size + 1) (by simp) (by simp [Value.ownBlock])).trans (heap_second W0 _ _)); have f0 := qf 0; have f1 := qf 1; have f2 := qf 2; have f3 := qf 3)
          | ((refine step_append_own rfl (.tmp 13) (.tmp 15) 24 rfl W0.heap.size 9 j0 (.string ⟨#[]⟩) 1 16 Tryz.underlying24 hj0 hy0 hy1 hy2 rfl (by decide) (.slice (some ⟨W0.heap.size + 1, 0, none⟩) 0 0) 0 [] rfl (by exact own_empty (heap_second W0 _ _) (by omega)) ad nms.length cn (strV nms) rfl (by rw [strV_length]; omega) (by exact HC.out _ (hBW.trans ((((Below.refl _ _).alloc (Nat.le_refl _) _).alloc (by simp) _).mono (by omega))).drew) (strV_one _) (by unfold maxLen; omega) (by omega) (by simp <;> omega) ?_; intro v1 w1 o1' g1 n1); have o1 : w1.ownsRow W0.heap.size 9 1 v1 nms.length (strV nms) := (by simpa using o1'); obtain ⟨a1, c1, e1⟩ := slice_ownM o1; subst e1; clear o1' n1; have hb1 : Below W0.heap.size W0 w1 := (((Below.refl _ _).alloc (Nat.le_refl _) _).alloc (by simp) _).drew.grown g1 (by simp <;> omega) (fun j hj => by simp [Value.ownBlock] at hj; omega); have hT1 : W0.heap.size ≤ W0.heap.size := Nat.le_refl _; obtain ⟨⟨q0, q1, q2, q3⟩, qf⟩ := block4 ((g1.block W0.heap.size (by simp <;> omega) (by simp [Value.ownBlock])).trans (heap_first W0 _ _)); have f0 := qf 0; have f1 := qf 1; have f2 := qf 2; have f3 := qf 3))
      · have hbX : Below W0.heap.size W0 (w1.alloc (.cells #[.int .i64 kd, .string nm, .slice a1 nms.length c1, .slice none 0 0] 27)) := hb1.alloc hb1.size _
        have tbox : (w1.alloc (.cells #[.int .i64 kd, .string nm, .slice a1 nms.length c1, .slice none 0 0] 27)).heap[w1.heap.size]? = some (.cells #[.int .i64 kd, .string nm, .slice a1 nms.length c1, .slice none 0 0] 27 (0, 0)) := (MapKept.heap_alloc w1 _).1
        have hnam : OwnS (w1.alloc (.cells #[.int .i64 kd, .string nm, .slice a1 nms.length c1, .slice none 0 0] 27)) 9 1 (.slice a1 nms.length c1) nms.length (strV nms) := (OwnS.of o1).below ((Below.refl _ _).alloc (Nat.le_refl _) _)
        have hfre : ∀ b ∈ blk (.slice a1 nms.length c1), W0.heap.size ≤ b ∧ b ≠ w1.heap.size := fun b hb => by
          have h5 := owns_lt (OwnS.of o1) hb
          have h6 := blk_base o1 b hb
          exact ⟨h6, by omega⟩
        have hBK : w1.heap.size < (w1.heap.size + 1) ∧ W0.heap.size ≤ w1.heap.size ∧ (w1.heap.size + 1) ≤ (w1.alloc (.cells #[.int .i64 kd, .string nm, .slice a1 nms.length c1, .slice none 0 0] 27)).heap.size := ⟨by omega, hb1.size, by simp⟩
        clear HBX b0 b1 b2 b3
        go_wp2_with fail
        go_meet
        first
          | exact ⟨_, _, _, rfl, tbox, hnam, hfre, by omega, hbX⟩
          | exact ⟨_, _, _, rfl, tbox, hnam, hfre, hBK.2.1, hbX⟩
          | exact ⟨_, _, _, rfl, tbox, hnam, hfre, by omega, hbX.drew⟩
          | exact ⟨_, _, _, rfl, tbox, hnam, hfre, hBK.2.1, hbX.drew⟩
      · have hbX : Below W0.heap.size W0 ((((w1.setCell ⟨W0.heap.size + 1, 0, none⟩ (.int .i64 kd)).setCell ⟨W0.heap.size + 1, 1, none⟩ (.string nm)).setCell ⟨W0.heap.size + 1, 2, none⟩ (.slice a1 nms.length c1)).setCell ⟨W0.heap.size + 1, 3, none⟩ (.slice none 0 0)) := (((hb1.setCell hT1 _).setCell hT1 _).setCell hT1 _).setCell hT1 _
        have tbox : ((((w1.setCell ⟨W0.heap.size + 1, 0, none⟩ (.int .i64 kd)).setCell ⟨W0.heap.size + 1, 1, none⟩ (.string nm)).setCell ⟨W0.heap.size + 1, 2, none⟩ (.slice a1 nms.length c1)).setCell ⟨W0.heap.size + 1, 3, none⟩ (.slice none 0 0)).heap[(W0.heap.size + 1)]? = some (.cells #[.int .i64 kd, .string nm, .slice a1 nms.length c1, .slice none 0 0] 27 (0, 0)) := put_block ((g1.block (W0.heap.size + 1) (by simp) (by simp [Value.ownBlock])).trans (heap_second W0 _ _))
        have hgn : ∀ b ∈ blk (.slice a1 nms.length c1), b ≠ (W0.heap.size + 1) := fun b hb e => by
          subst e
          have h8 := blk_owned o1 _ hb
          rw [((g1.block (W0.heap.size + 1) (by simp) (by simp [Value.ownBlock])).trans (heap_second W0 _ _))] at h8
          obtain ⟨cur, h8⟩ := h8
          simp at h8
        have hnam : OwnS ((((w1.setCell ⟨W0.heap.size + 1, 0, none⟩ (.int .i64 kd)).setCell ⟨W0.heap.size + 1, 1, none⟩ (.string nm)).setCell ⟨W0.heap.size + 1, 2, none⟩ (.slice a1 nms.length c1)).setCell ⟨W0.heap.size + 1, 3, none⟩ (.slice none 0 0)) 9 1 (.slice a1 nms.length c1) nms.length (strV nms) := owns_same (OwnS.of o1) fun b hb => put_other (hgn b hb)
        have hfre : ∀ b ∈ blk (.slice a1 nms.length c1), W0.heap.size ≤ b ∧ b ≠ (W0.heap.size + 1) := fun b hb => ⟨blk_base o1 b hb, hgn b hb⟩
        have hz9 : W0.heap.size + 1 + 1 ≤ w1.heap.size := by have := g1.size; simpa using this
        have hBK : (W0.heap.size + 1) < (W0.heap.size + 1 + 1) ∧ W0.heap.size ≤ (W0.heap.size + 1) ∧ (W0.heap.size + 1 + 1) ≤ ((((w1.setCell ⟨W0.heap.size + 1, 0, none⟩ (.int .i64 kd)).setCell ⟨W0.heap.size + 1, 1, none⟩ (.string nm)).setCell ⟨W0.heap.size + 1, 2, none⟩ (.slice a1 nms.length c1)).setCell ⟨W0.heap.size + 1, 3, none⟩ (.slice none 0 0)).heap.size := ⟨by omega, by omega, by simpa using hz9⟩
        clear q0 q1 q2 q3 qf f0 f1 f2 f3
        clear HBX b0 b1 b2 b3
        go_wp2_with fail
        go_meet
        first
          | exact ⟨_, _, _, rfl, tbox, hnam, hfre, by omega, hbX⟩
          | exact ⟨_, _, _, rfl, tbox, hnam, hfre, hBK.2.1, hbX⟩
          | exact ⟨_, _, _, rfl, tbox, hnam, hfre, by omega, hbX.drew⟩
          | exact ⟨_, _, _, rfl, tbox, hnam, hfre, hBK.2.1, hbX.drew⟩
      · have hbX : Below W0.heap.size W0 ((((w1.setCell ⟨W0.heap.size, 0, none⟩ (.int .i64 kd)).setCell ⟨W0.heap.size, 1, none⟩ (.string nm)).setCell ⟨W0.heap.size, 2, none⟩ (.slice a1 nms.length c1)).setCell ⟨W0.heap.size, 3, none⟩ (.slice none 0 0)) := (((hb1.setCell hT1 _).setCell hT1 _).setCell hT1 _).setCell hT1 _
        have tbox : ((((w1.setCell ⟨W0.heap.size, 0, none⟩ (.int .i64 kd)).setCell ⟨W0.heap.size, 1, none⟩ (.string nm)).setCell ⟨W0.heap.size, 2, none⟩ (.slice a1 nms.length c1)).setCell ⟨W0.heap.size, 3, none⟩ (.slice none 0 0)).heap[W0.heap.size]? = some (.cells #[.int .i64 kd, .string nm, .slice a1 nms.length c1, .slice none 0 0] 27 (0, 0)) := put_block ((g1.block W0.heap.size (by simp <;> omega) (by simp [Value.ownBlock])).trans (heap_first W0 _ _))
        have hgn : ∀ b ∈ blk (.slice a1 nms.length c1), b ≠ W0.heap.size := fun b hb e => by
          subst e
          have h8 := blk_owned o1 _ hb
          rw [((g1.block W0.heap.size (by simp <;> omega) (by simp [Value.ownBlock])).trans (heap_first W0 _ _))] at h8
          obtain ⟨cur, h8⟩ := h8
          simp at h8
        have hnam : OwnS ((((w1.setCell ⟨W0.heap.size, 0, none⟩ (.int .i64 kd)).setCell ⟨W0.heap.size, 1, none⟩ (.string nm)).setCell ⟨W0.heap.size, 2, none⟩ (.slice a1 nms.length c1)).setCell ⟨W0.heap.size, 3, none⟩ (.slice none 0 0)) 9 1 (.slice a1 nms.length c1) nms.length (strV nms) := owns_same (OwnS.of o1) fun b hb => put_other (hgn b hb)
        have hfre : ∀ b ∈ blk (.slice a1 nms.length c1), W0.heap.size ≤ b ∧ b ≠ W0.heap.size := fun b hb => ⟨blk_base o1 b hb, hgn b hb⟩
        have hz9 : W0.heap.size + 1 + 1 ≤ w1.heap.size := by have := g1.size; simpa using this
        have hBK : W0.heap.size < (W0.heap.size + 1 + 1) ∧ W0.heap.size ≤ W0.heap.size ∧ (W0.heap.size + 1 + 1) ≤ ((((w1.setCell ⟨W0.heap.size, 0, none⟩ (.int .i64 kd)).setCell ⟨W0.heap.size, 1, none⟩ (.string nm)).setCell ⟨W0.heap.size, 2, none⟩ (.slice a1 nms.length c1)).setCell ⟨W0.heap.size, 3, none⟩ (.slice none 0 0)).heap.size := ⟨by omega, by omega, by simpa using hz9⟩
        clear q0 q1 q2 q3 qf f0 f1 f2 f3
        clear HBX b0 b1 b2 b3
        go_wp2_with fail
        go_meet
        first
          | exact ⟨_, _, _, rfl, tbox, hnam, hfre, by omega, hbX⟩
          | exact ⟨_, _, _, rfl, tbox, hnam, hfre, hBK.2.1, hbX⟩
          | exact ⟨_, _, _, rfl, tbox, hnam, hfre, by omega, hbX.drew⟩
          | exact ⟨_, _, _, rfl, tbox, hnam, hfre, hBK.2.1, hbX.drew⟩
  case rest =>
    obtain ⟨TT, av, cv, rfl, hbox, hnam, hfre, hTT, hbX⟩ := hcut
    obtain ⟨w1, rfl⟩ : ∃ w1, w1 = wc := ⟨_, rfl⟩
    have hlt0 : w.heap.size < W0.heap.size := by omega
    have hbxc := (hbX.block w.heap.size hlt0).trans hbx
    have hrsc := (hbX.block (w.heap.size + 1) hle).trans hrs
    have hzc := hbX.size
    have ltT : TT < w1.heap.size := (Array.getElem?_eq_some_iff.1 hbox).1
    have hR0 : Rnm (w.heap.size + 1) TT w.heap.size w1.heap.size w1 kd nm n (.slice av nms.length cv) nms [] (.slice none 0 0) [] := ⟨hrsc, hbox, hnam, fun b hb => ⟨by have := (hfre b hb).1; omega, (hfre b hb).2, by have := (hfre b hb).1; omega, owns_lt hnam hb⟩, rfl, World.ownsRow_nil _ _ _ _, fun j h1 _ => absurd h1 (by simp), fun l hl => absurd hl (by simp), by omega, ltT, by omega, by omega, Nat.le_refl _⟩
    have HR0 : Hid (type_of% hR0) := hR0
    have hbw1 : Below w.heap.size w w1 := hBW.trans (hbX.mono (by omega))
    clear hbox hnam hfre hrsc hR0 b0 b1 b2 b3
    obtain ⟨bb, hbb⟩ : ∃ bb, bb = (decide (kd = 4) && Lx.nameOkP nm) := ⟨_, rfl⟩
    have HBB : Hid (type_of% hbb) := hbb
    clear hbb
    go_upto_region 2 with fail
    go_cut [25] from 18 to 25 (fun c wx => c = .bool bb ∧ Below w1.heap.size w1 wx)
    case first =>
      obtain ⟨⟨c0, c1, c2, c3⟩, _⟩ := block4 hbxc
      by_cases h4 : kd = 4
      · subst h4
        go_wp2_with fail
        refine (HNO.out _).mono ?_
        rintro e wy ⟨rfl, hby⟩
        go_wp2_with fail
        go_meet
        exact ⟨by rw [HBB.out]; simp, hby⟩
      · have h4b : (kd == 4) = false := by simpa using h4
        go_wp2_with fail
        go_meet
        exact ⟨by rw [HBB.out]; simp [h4], Below.refl _ _⟩
    case rest =>
      obtain ⟨rfl, hbD⟩ := hcut
      obtain ⟨w2, rfl⟩ : ∃ w2, w2 = wc := ⟨_, rfl⟩
      have hbxd := (hbD.block w.heap.size (by omega)).trans hbxc
      have HR2 : Hid (type_of% (HR0.out.below hbD)) := HR0.out.below hbD
      have hbw2 : Below w.heap.size w w2 := hbw1.trans (hbD.mono hbw1.size)
      have hbX2 : Below W0.heap.size W0 w2 := hbX.trans (hbD.mono hzc)
      have hz2' := hbX2.size
      clear HR0 hbxc HNO
      go_upto_if 25 with fail
      go_cut [] from 26 to 31 (fun wx => Rnm (w.heap.size + 1) TT w.heap.size w1.heap.size wx kd (if kd = 4 then nameMod mod nm else nm) n (.slice av nms.length cv) nms [] (.slice none 0 0) [] ∧ Below W0.heap.size W0 wx)
      case first =>
        obtain ⟨⟨c0, c1, c2, c3⟩, _⟩ := block4 hbxd
        obtain ⟨⟨d0, d1, d2, d3⟩, df⟩ := block4 HR2.out.box
        have df1 := df 1
        cases bb with
        | true =>
          obtain ⟨h4, h5⟩ : kd = 4 ∧ Lx.nameOkP nm = true := by simpa using HBB.out.symm
          go_wp2_with fail
          go_meet
          rw [if_pos h4]
          unfold nameMod
          rw [if_pos h5]
          exact ⟨HR2.out.named _, hbX2.setCell hTT _⟩
        | false =>
          have e2 : (if kd = 4 then nameMod mod nm else nm) = nm := by
            split
            · rename_i e
              unfold nameMod
              rw [if_neg fun q => absurd HBB.out (by simp [e, q])]
            · rfl
          go_wp2_with fail
          go_meet
          rw [e2]
          exact ⟨HR2.out, hbX2⟩
      case rest =>
        obtain ⟨hR3, hbY⟩ := hcut
        obtain ⟨w3, rfl⟩ : ∃ w3, w3 = wc := ⟨_, rfl⟩
        have HNA : Hid (∀ S : List Ty, Ty.mk kd (if kd = 4 then nameMod mod nm else nm) nms S = .mk kd (if kd = 4 then nameMod mod nm else nm) nms S) := fun _ => rfl
        obtain ⟨nm', hnm'⟩ : ∃ nm', nm' = if kd = 4 then nameMod mod nm else nm := ⟨_, rfl⟩
        rw [← hnm'] at hR3
        have HNM : Hid (type_of% hnm') := hnm'
        have HR3 : Hid (type_of% hR3) := hR3
        obtain ⟨BB, hBB⟩ : ∃ BB, BB = w1.heap.size := ⟨_, rfl⟩
        rw [← hBB] at HR3
        clear hnm' hR3 HR2 HNA hbxd hbD hbX hbw1 hbw2 hbX2 hzc hz2' ltT hBB
        go_wp2_with fail
        go_loopw [6] (fun i wr => ∃ (S : List Ty) (v : Value) (ls : List Lay), S.length ≤ ks.length ∧ i = .int .i64 S.length ∧ Rnm (w.heap.size + 1) TT w.heap.size BB wr kd nm' n (.slice av nms.length cv) nms S v ls ∧ (∀ j (h : j < ks.length) (h' : j < S.length), Ren mod n ks[j] S[j]) ∧ Below W0.heap.size W0 wr) (fun i _ => ks.length - (intOf i).toNat)
        case atStart => exact ⟨[], _, [], Nat.zero_le _, rfl, HR3.out, fun j h h' => absurd h' (by simp), hbY⟩
        case round =>
          obtain ⟨S, v, ls, hk, rfl, hM, hren, hbe⟩ := hrel
          clear HR3 hbY
          have HM : Hid (type_of% hM) := hM
          have HRE : Hid (type_of% hren) := hren
          obtain ⟨⟨tc0, tc1, tc2, tc3⟩, tf⟩ := block4 hM.box
          obtain ⟨⟨rc0, rc1, rc2, rc3⟩, rf⟩ := block4 hM.res
          obtain ⟨⟨e0, e1, e2, e3⟩, _⟩ := block4 ((hbe.block w.heap.size (by omega)).trans hbx)
          have lt1 : TT < wr.heap.size := (Array.getElem?_eq_some_iff.1 hM.box).1
          have hown := hM.own
          have hlo := hM.lo
          have hzw : W0.heap.size ≤ wr.heap.size := hbe.size
          obtain ⟨av2, cv2, hv⟩ := slice_ownM hown
          subst hv
          have tf3 := tf 3
          have hnT : (Value.slice av2 S.length cv2).ownBlock ≠ some TT := fun e => by have := (hown.lt _ e).1; omega
          have hbw : Below w.heap.size w wr := hBW.trans (hbe.mono (by omega))
          clear hM hren
          by_cases hlt : S.length < ks.length
          · obtain ⟨b, off, x0, x1, x2, x3', rfl, hb, hta, z0, z1, z2, z3'⟩ := HEL.out S.length hlt
            obtain ⟨an2, ln2, cn2, ak2, lk2, ck2, ee⟩ := hta.shape
            simp only [List.cons.injEq, and_true] at ee
            obtain ⟨rfl, rfl, rfl, rfl⟩ := ee
            have A0 := (hbw.cell (p := ⟨b, off + S.length * 4, none⟩) hb).trans z0
            have A1 := (hbw.cell (p := ⟨b, off + S.length * 4 + 1, none⟩) hb).trans z1
            have A2 := (hbw.cell (p := ⟨b, off + S.length * 4 + 2, none⟩) hb).trans z2
            have A3 := (hbw.cell (p := ⟨b, off + S.length * 4 + 3, none⟩) hb).trans z3'
            have HC0 : Hid (∀ wx : World, Below wr.heap.size wr wx → Calls Tryz.prog 31 #[.agg #[.int .i64 ks[S.length].kind, .string ks[S.length].name, .slice an2 ln2 cn2, .slice ak2 lk2 ck2], .string mod] wx fun e w' => ∃ (kd : Int) (nm : ByteArray) (an : Option Addr) (ln cn : Nat) (ak : Option Addr) (lk ck : Nat), e = .returned (.agg #[.int .i64 kd, .string nm, .slice an ln cn, .slice ak lk ck]) ∧ (∃ l t', cellsK t' l = [.int .i64 kd, .string nm, .slice an ln cn, .slice ak lk ck] ∧ Ren mod n ks[S.length] t' ∧ LayAt w' n l t' ∧ (∀ b ∈ Lay.blocks n l, wx.heap.size ≤ b)) ∧ Below wx.heap.size wx w') := fun wx hx => HTO.out S.length hlt _ wx (hta.below (hbw.trans (hx.mono hbw.size)))
            have hk0 : (0 : Int) ≤ (S.length : Int) := by omega
            have hk1 : (S.length : Int) < (ks.length : Int) := by omega
            clear z0 z1 z2 z3' hta HEL HTO rc0 rc1 rc2 rc3 rf tf HFA
            go_wp2_with fail
            go_region_law
              (first
                | (refine step_openC (by rfl) ?_; go_simp; go_at_call 31; refine (HC0.out _ (by first | exact (Below.refl _ _).drew | exact Below.refl _ _)).mono ?_; rintro e w2 ⟨kd2, nm2, an, ln, cn, ak, lk, ck, rfl, ⟨l, t', hcl, hrn, hll, hln⟩, hb2'⟩; have hb2 : Below wr.heap.size wr w2 := (by first | exact hb2' | exact ((Below.refl wr.heap.size wr).drew).trans hb2'); have x3 := (hb2.cell (p := ⟨TT, 3, none⟩) lt1).trans tc3; have xf := (hb2.frozen (p := ⟨TT, 3, none⟩) lt1).trans tf3; have lt2 : TT < w2.heap.size := Nat.lt_of_lt_of_le lt1 hb2.size; have y3 : ∀ o, (w2.alloc o).cell? ⟨TT, 3, none⟩ = some (.slice av2 S.length cv2) := (fun o => (cellOld 3 lt2).trans x3); have yf : ∀ o, (w2.alloc o).frozen? ⟨TT, 3, none⟩ = false := (fun o => (frozenOld 3 lt2).trans xf); have ho2 := kept_belowT hown hb2)
                | (revert hb2; intro hb2; (refine step_append_lies _ (by rfl) _ _ _ (by rfl) BB 27 i0 _ 4 72 Tryz.underlying25 hi0 hz0 hz1 hz2 rfl (by omega) (.slice av2 S.length cv2) S.length _ (by rfl) (by first | exact (ho2.alloc _) | exact (ho2.alloc _).drew) ⟨w2.heap.size, 0, none⟩ 1 1 [.int .i64 kd2, .string nm2, .slice an ln cn, .slice ak lk ck] (by rfl) (by rfl) (World.news_of_block (cs := #[.int .i64 kd2, .string nm2, .slice an ln cn, .slice ak lk ck]) (t := 27) (fr := (0, 0)) (heap_alloc_new w2 _)) (by simp [Value.oneCell']) (by omega) (by unfold maxLen; omega) (by omega) (by have := hb2.size; simp; omega) (w2.heap.size + 1) (by simp) ?_; intro gg cap w4 hown1 hgrow hat hlt4); have hT4 := hgrow.block TT (by simp; omega) (fun e => hnT e.symm); have z3 := cell_same (y3 _) hT4; have zf := (frozen_sameC 3 hT4).trans (yf _)))
            all_goals
              rw [← hcl] at hown1
              have R1 := HM.out.step hb2 hll hln hgrow hat hown1
              have HR1 : Hid (type_of% R1) := R1
              have R2 : Below W0.heap.size W0 (w4.setCell ⟨TT, 3, none⟩ (.slice (some ⟨gg, 0, none⟩) (S.length + 1) cap)) := (((hbe.trans (hb2.mono hzw)).alloc (by have := hb2.size; omega) _).grown hgrow (by have := hb2.size; simp; omega) (fun j hj => by have := (hown.lt j hj).1; omega)).setCell hTT _
              have HRN : Hid (∀ j (h : j < ks.length) (h' : j < (S ++ [t']).length), Ren mod n ks[j] (S ++ [t'])[j]) := fun j h h' => by
                by_cases c : j < S.length
                · rw [List.getElem_append_left c]
                  exact HRE.out j h c
                · have e : j = S.length := by simp at h'; omega
                  subst e
                  rw [List.getElem_append_right (Nat.le_refl _)]
                  simpa using hrn
              clear R1 HM hown hown1 hgrow hll hln hcl hrn hb2 hb2' ho2 x3 xf y3 yf z3 zf hT4 HC0 HRE
              go_wp2_with fail
              go_roundw
              case rel => exact ⟨S ++ [t'], _, ls ++ [l], by simp; omega, by simp only [List.length_append, List.length_singleton]; go_num, HR1.out, HRN.out, R2⟩
              case measure => simp [intOf]; omega
          · have hke : S.length = ks.length := by omega
            have hkn : ¬ (S.length : Int) < (ks.length : Int) := by omega
            have rf0 := rf 0
            have rf1 := rf 1
            have rf2 := rf 2
            have rf3 := rf 3
            have HKE : Hid (type_of% hke) := hke
            clear hke hlt HEL HTO
            by_cases h7 : kd = 7
            · subst h7
              obtain ⟨w5, rfl⟩ : ∃ w5, w5 = wr := ⟨_, rfl⟩
              have hb56 : Below w5.heap.size w5 (w5.alloc (.cells #[] 27)) := (Below.refl _ _).alloc (Nat.le_refl _) _
              have hK0 : KidsS (w5.alloc (.cells #[] 27)) BB n w5.heap.size 0 [] [] := ⟨rfl, own_empty4 (heap_alloc_new w5 _) hlo.2.2.2.2, fun j h1 _ => absurd h1 (by simp)⟩
              have HK0 : Hid (type_of% hK0) := hK0
              have HFS : Hid (∀ s ∈ S, Right n s 12 ∧ Ty.sized n s ∧ Ty.bulk n s ≤ 274877906944) := fun s hs => by
                obtain ⟨j, hj, rfl⟩ := List.getElem_of_mem hs
                exact HFA.out j (by have := HKE.out; omega) _ (HRE.out j (by have := HKE.out; omega) hj)
              have tcT := tf 3
              clear hK0 HFA tf
              go_wp2_with fail
              go_loopw [7, 8] (fun v i wr => ∃ (j : Nat) (S2 : List Ty) (ls2 : List Lay) (g2 cap2 : Nat), j ≤ S.length ∧ v = .slice (some ⟨g2, 0, none⟩) S2.length cap2 ∧ i = .int .i64 j ∧ AscS n (S.take j) S2 ∧ KidsS wr BB n g2 cap2 S2 ls2 ∧ Below w5.heap.size w5 wr) (fun _ i _ => S.length - (intOf i).toNat)
              case atStart => exact ⟨0, [], [], w5.heap.size, 0, Nat.zero_le _, rfl, rfl, ⟨fun x => by simp, List.Pairwise.nil⟩, HK0.out, hb56⟩
              case round =>
                obtain ⟨j, S2, ls2, g2, cap2, hj, rfl, rfl, hU, hKS, hb5⟩ := hrel
                clear HK0 hb56
                have HU : Hid (type_of% hU) := hU
                have HKS : Hid (type_of% hKS) := hKS
                have u0 := (hb5.cell (p := ⟨TT, 0, none⟩) lt1).trans tc0
                have u1 := (hb5.cell (p := ⟨TT, 1, none⟩) lt1).trans tc1
                have u2 := (hb5.cell (p := ⟨TT, 2, none⟩) lt1).trans tc2
                have u3 := (hb5.cell (p := ⟨TT, 3, none⟩) lt1).trans tc3
                have hbwr : Below w.heap.size w wr := hbw.trans (hb5.mono hbw.size)
                have hz5 := hb5.size
                by_cases hjl : j < S.length
                · obtain ⟨gg, cc, ev⟩ := slice_ownL (OwnS.of hown) (by omega)
                  simp only [Value.slice.injEq, true_and] at ev
                  obtain ⟨rfl, rfl⟩ := ev
                  have hls := HM.out.len
                  have hLj := HM.out.lay j (by omega) hjl
                  have hF := HFS.out S[j] (List.getElem_mem hjl)
                  have cc4 : ∀ c, c < 4 → wr.cell? ⟨gg, j * 4 + c, none⟩ = (cellsK S[j] ls[j])[c]? := fun c hc => by
                    have hgl := (hown.lt gg rfl).2
                    rw [hb5.cell (p := ⟨gg, j * 4 + c, none⟩) hgl, hown.cellAt (j * 4 + c) (by omega), flatK_get S ls j c hjl (by omega) hc]
                  have Z0 := cc4 0 (by omega)
                  have Z1 := cc4 1 (by omega)
                  have Z2 := cc4 2 (by omega)
                  have Z3 := cc4 3 (by omega)
                  simp only [cellsK, List.getElem?_cons_zero, List.getElem?_cons_succ, Nat.add_zero] at Z0 Z1 Z2 Z3
                  have hcap2 : S2.length ≤ cap2 := by
                    rcases hKS.own.2 with ⟨e0, h0⟩ | ⟨g', c', cur, e, _, _, q, _⟩
                    · cases e0
                    · cases e; exact q
                  have hsl := asc_lengthR hU
                  have hin : ∀ s ∈ S2, s ∈ S := fun s hs => List.mem_of_mem_take ((hU.1 s).1 hs)
                  have HADD : Hid (type_of% (specAdd BB n g2 cap2 S2 ls2 _ S[j] wr hKS (by omega) hcap2 ((hLj.below hb5).at hF.2.1) hF.1 hF.2.2 hU.2 (fun s hs => HFS.out s (hin s hs)) (by rw [List.length_take] at hsl; omega))) := specAdd BB n g2 cap2 S2 ls2 _ S[j] wr hKS (by omega) hcap2 ((hLj.below hb5).at hF.2.1) hF.1 hF.2.2 hU.2 (fun s hs => HFS.out s (hin s hs)) (by rw [List.length_take] at hsl; omega)
                  have HUM : Hid (∀ S', (∀ x, x ∈ S' ↔ x = S[j] ∨ x ∈ S2) → (S'.Pairwise fun a b => lessB (Ty.text n a) (Ty.text n b)) → AscS n (S.take (j + 1)) S') := fun S' h1 h2 => AscS.eq (AscS.more HU.out h1 h2) (by rw [List.take_succ_eq_append_getElem hjl])
                  have hj0 : (0 : Int) ≤ (j : Int) := by omega
                  have hj1 : (j : Int) < (S.length : Int) := by omega
                  clear cc4 hLj hF hsl hin hU hKS HU HKS HFS HM HRE u0 u1 u2 hown
                  unfold cellsK at HADD
                  generalize S[j].kind = kd9 at *
                  generalize S[j].name = nm9 at *
                  generalize ls[j].vn = vn9 at *
                  generalize ls[j].vk = vk9 at *
                  go_wp2_with fail
                  refine HADD.out.mono ?_
                  rintro e w6 ⟨g', cap', S', ls', rfl, hK6, hm6, hp6, hb6⟩
                  have HK6 : Hid (type_of% hK6) := hK6
                  have HU6 : Hid (type_of% (HUM.out S' hm6 hp6)) := HUM.out S' hm6 hp6
                  have hb56 : Below w5.heap.size w5 w6 := hb5.trans (hb6.mono hb5.size)
                  clear hK6 hm6 hp6 HADD HUM hb6 Z0 Z1 Z2 Z3 u3
                  go_wp2_with fail
                  go_roundw
                  case rel => exact ⟨j + 1, S', ls', g', cap', by omega, rfl, by go_num, HU6.out, HK6.out, hb56⟩
                  case measure => simp [intOf]; omega
                · have hje : S.take j = S := List.take_of_length_le (by omega)
                  have hjn : ¬ (j : Int) < (S.length : Int) := by omega
                  rw [hje] at HU
                  have r0 := (hb5.cell (p := ⟨w.heap.size + 1, 0, none⟩) (show w.heap.size + 1 < w5.heap.size by omega)).trans rc0
                  have r1 := (hb5.cell (p := ⟨w.heap.size + 1, 1, none⟩) (show w.heap.size + 1 < w5.heap.size by omega)).trans rc1
                  have r2 := (hb5.cell (p := ⟨w.heap.size + 1, 2, none⟩) (show w.heap.size + 1 < w5.heap.size by omega)).trans rc2
                  have r3 := (hb5.cell (p := ⟨w.heap.size + 1, 3, none⟩) (show w.heap.size + 1 < w5.heap.size by omega)).trans rc3
                  have g0 := (hb5.frozen (p := ⟨w.heap.size + 1, 0, none⟩) (show w.heap.size + 1 < w5.heap.size by omega)).trans rf0
                  have g1 := (hb5.frozen (p := ⟨w.heap.size + 1, 1, none⟩) (show w.heap.size + 1 < w5.heap.size by omega)).trans rf1
                  have g2' := (hb5.frozen (p := ⟨w.heap.size + 1, 2, none⟩) (show w.heap.size + 1 < w5.heap.size by omega)).trans rf2
                  have g3 := (hb5.frozen (p := ⟨w.heap.size + 1, 3, none⟩) (show w.heap.size + 1 < w5.heap.size by omega)).trans rf3
                  have gT := (hb5.frozen (p := ⟨TT, 3, none⟩) lt1).trans tcT
                  clear rc0 rc1 rc2 rc3 rf0 rf1 rf2 rf3 tc0 tc1 tc2 tc3 hU hje rf HFS
                  by_cases h1 : S2.length = 1
                  · obtain ⟨s, rfl⟩ := List.length_eq_one_iff.1 h1
                    obtain ⟨l, rfl⟩ := List.length_eq_one_iff.1 (hKS.len.trans h1)
                    have Y0 := hKS.cell 0 (by simp) (by simp) 0 (by omega)
                    have Y1 := hKS.cell 0 (by simp) (by simp) 1 (by omega)
                    have Y2 := hKS.cell 0 (by simp) (by simp) 2 (by omega)
                    have Y3 := hKS.cell 0 (by simp) (by simp) 3 (by omega)
                    obtain ⟨y1, yc1, y2, yc2, ec⟩ := told_cellsS (hKS.lay 0 (by simp) (by simp)).1
                    simp only [List.getElem_cons_zero] at ec
                    simp only [List.getElem_cons_zero, ec, List.getElem?_cons_zero, List.getElem?_cons_succ, Nat.zero_mul, Nat.zero_add] at Y0 Y1 Y2 Y3
                    have HEC : Hid (type_of% ec) := ec
                    clear ec
                    have HFIN : Hid (∀ x0 x1 x2 x3 : Value, LayAt ((((wr.setCell ⟨w.heap.size + 1, 0, none⟩ x0).setCell ⟨w.heap.size + 1, 1, none⟩ x1).setCell ⟨w.heap.size + 1, 2, none⟩ x2).setCell ⟨w.heap.size + 1, 3, none⟩ x3) (n + 1) l s ∧ ∀ b ∈ Lay.blocks (n + 1) l, w.heap.size ≤ b) := fun x0 x1 x2 x3 => kids_single hKS (by omega) (by omega)
                    have HRS : Hid (Ren mod (n + 1) (.mk 7 nm nms ks) s) := ⟨S, HKE.out, HRE.out, .inl ⟨rfl, [s], HU.out, .inl rfl⟩⟩
                    clear hKS HKS h1 HU HKE HRE HM hown u0 u1 u2
                    simp only [List.length_cons, List.length_nil, Nat.zero_add] at *
                    go_wp2_with fail
                    refine ret_putR rfl (fun j hj => ?_) ⟨l, s, by rw [HEC.out], HRS.out, (HFIN.out _ _ _ _).1, (HFIN.out undef undef undef undef).2, put_below hbwr (by omega)⟩
                    match j, hj with
                    | 0, _ => rw [r0]; rfl
                    | 1, _ => rw [r1]; rfl
                    | 2, _ => rw [r2]; rfl
                    | 3, _ => rw [r3]; rfl
                  · have h1b : ((S2.length : Int) == 1) = false := by simp; omega
                    have HFIN : Hid (∀ y x0 x1 x2 x3 : Value, LayAt (((((wr.setCell ⟨TT, 3, none⟩ y).setCell ⟨w.heap.size + 1, 0, none⟩ x0).setCell ⟨w.heap.size + 1, 1, none⟩ x1).setCell ⟨w.heap.size + 1, 2, none⟩ x2).setCell ⟨w.heap.size + 1, 3, none⟩ x3) (n + 1) (.mk (.slice av nms.length cv) (.slice (some ⟨g2, 0, none⟩) S2.length cap2) ls2) (.mk 7 nm' nms S2) ∧ ∀ b ∈ Lay.blocks (n + 1) (.mk (.slice av nms.length cv) (.slice (some ⟨g2, 0, none⟩) S2.length cap2) ls2), w.heap.size ≤ b) := fun y x0 x1 x2 x3 => HM.out.union hb5 hKS
                    have HRS : Hid (Ren mod (n + 1) (.mk 7 nm nms ks) (.mk 7 nm' nms S2)) := ⟨S, HKE.out, HRE.out, .inl ⟨rfl, S2, HU.out, .inr ⟨h1, by rw [HNM.out, if_neg (by decide)]⟩⟩⟩
                    have hbT : Below w.heap.size w (wr.setCell ⟨TT, 3, none⟩ (.slice (some ⟨g2, 0, none⟩) S2.length cap2)) := hbwr.setCell (show w.heap.size ≤ TT by omega) _
                    have hne : TT ≠ w.heap.size + 1 := by omega
                    clear hKS HKS HU HKE HRE HM hown
                    go_wp2_with fail
                    refine ret_putR rfl (fun j hj => ?_) ⟨_, _, rfl, HRS.out, (HFIN.out _ _ _ _ _).1, (HFIN.out undef undef undef undef undef).2, put_below hbT (by omega)⟩
                    have hoth : ∀ c u, wr.cell? ⟨w.heap.size + 1, c, none⟩ = some u → (wr.setCell ⟨TT, 3, none⟩ (.slice (some ⟨g2, 0, none⟩) S2.length cap2)).cell? ⟨w.heap.size + 1, c, none⟩ = some u := fun c u h => cell_same h (Below.heap_setCell _ _ _ _ (by simpa using Ne.symm hne))
                    match j, hj with
                    | 0, _ => rw [hoth _ _ r0]; rfl
                    | 1, _ => rw [hoth _ _ r1]; rfl
                    | 2, _ => rw [hoth _ _ r2]; rfl
                    | 3, _ => rw [hoth _ _ r3]; rfl
            · have h7b : (kd == 7) = false := by simpa using h7
              have HRS : Hid (Ren mod (n + 1) (.mk kd nm nms ks) (.mk kd nm' nms S)) := ⟨S, HKE.out, HRE.out, .inr ⟨h7, by rw [HNM.out]⟩⟩
              clear tf rf HFA hown HKE HRE
              go_wp2_with fail
              refine ret_putR rfl (fun j hj => ?_) ⟨.mk (.slice av nms.length cv) (.slice av2 S.length cv2) ls, _, rfl, HRS.out, HM.out.done.1, (HM.out.done (x0 := undef) (x1 := undef) (x2 := undef) (x3 := undef)).2, put_below hbw (by omega)⟩
              match j, hj with
              | 0, _ => rw [rc0]; rfl
              | 1, _ => rw [rc1]; rfl
              | 2, _ => rw [rc2]; rfl
              | 3, _ => rw [rc3]; rfl

theorem specRen (mod : ByteArray) (hmn : Lx.nameOkP mod = true) (hms : mod.size ≤ 1048576) (n : Nat) : RnsAt mod n := by
  induction n with
  | zero => intro cs t d w h; exact h.elim
  | succ n ih =>
    intro cs t d w h hr hd hb
    obtain ⟨vn, vk, rfl, _, _, ⟨hT, _, _⟩, _, hrow⟩ := h
    obtain ⟨an, cn, rfl, _⟩ := textsOpen hT
    obtain ⟨ak, ck, rfl, _⟩ := rowOpen hrow
    obtain ⟨kd, nm, nms, ks⟩ := t
    exact specRenStep mod n hmn hms ih kd nm nms ks an ak cn ck d w hT hrow hr hd hb

end Go.Proofs.YtjihkebafoajdaaGreatDoor

namespace Go.Proofs.YtjihkebafoajdaaGreatDoor
open Go.RowKit

theorem ret_rnS {R : Ending → World → Prop} {W : World} {tmps : Array Value} {b : Nat} {x0 x1 x2 x3 : Value} (hp : tmps[4]?.getD undef = .pointer (some ⟨b, 0, none⟩))
    (h : W.cell? ⟨b, 0, none⟩ = some x0 ∧ W.cell? ⟨b, 1, none⟩ = some x1 ∧ W.cell? ⟨b, 2, none⟩ = some x2 ∧ W.cell? ⟨b, 3, none⟩ = some x3) (hR : R (.returned (.agg #[x0, x1, x2, x3])) W) :
    bodyPost Tryz.prog Tryz.f15 R .ret { tmps := tmps, defers := [] } W := by
  obtain ⟨h0, h1, h2, h3⟩ := h
  refine bodyPost_ret (v := .agg #[x0, x1, x2, x3]) ?_ rfl hR
  simp [results, Tryz.results15, go_sem, hp, h0, h1, h2, h3]

/-- what spec.Rename answers -/
def RnAnsS (n : Nat) (mod : ByteArray) (t t' : Ty) : Prop := (¬ (Right n t 12 ∧ Lx.nameOkP mod = true) ∧ t' = t) ∨ ((Right n t 12 ∧ Lx.nameOkP mod = true) ∧ Ren mod n t t')

set_option maxHeartbeats 3200000 in
set_option maxRecDepth 100000 in
open Classical in
theorem specRename (n : Nat) (cs : List Value) (t : Ty) (mod : ByteArray) (w : World) (h : TyAt w n cs t) (hb : Ty.bulk n t ≤ 1048576) (hms : mod.size ≤ 1048576) :
    Calls Tryz.prog 15 #[.agg cs.toArray, .string mod] w fun e w' => ∃ (l : Lay) (t' : Ty), e = .returned (.agg (cellsK t' l).toArray) ∧ RnAnsS n mod t t' ∧ LayAt w' n l t' ∧ Below w.heap.size w w' := by
  obtain ⟨an, ln, cn, ak, lk, ck, rfl⟩ := h.shape
  have hB0 : Below w.heap.size w ((w.alloc (.cells #[.int .i64 t.kind, .string t.name, .slice an ln cn, .slice ak lk ck] 27)).alloc (.cells #[.int .i64 0, .string ⟨#[]⟩, .slice none 0 0, .slice none 0 0] 27)) := ((Below.refl _ _).alloc (Nat.le_refl _) _).alloc (by simp) _
  have hx1 : ((w.alloc (.cells #[.int .i64 t.kind, .string t.name, .slice an ln cn, .slice ak lk ck] 27)).alloc (.cells #[.int .i64 0, .string ⟨#[]⟩, .slice none 0 0, .slice none 0 0] 27)).heap[w.heap.size]? = some (.cells #[.int .i64 t.kind, .string t.name, .slice an ln cn, .slice ak lk ck] 27 (0, 0)) := heap_first w _ _
  have hx2 : ((w.alloc (.cells #[.int .i64 t.kind, .string t.name, .slice an ln cn, .slice ak lk ck] 27)).alloc (.cells #[.int .i64 0, .string ⟨#[]⟩, .slice none 0 0, .slice none 0 0] 27)).heap[w.heap.size + 1]? = some (.cells #[.int .i64 0, .string ⟨#[]⟩, .slice none 0 0, .slice none 0 0] 27 (0, 0)) := heap_second w _ _
  have HTK : Hid (∀ wx : World, Below w.heap.size w wx → Calls Tryz.prog 18 #[.agg #[.int .i64 t.kind, .string t.name, .slice an ln cn, .slice ak lk ck]] wx fun e w' => e = .returned (.bool (decide (Right n t 12))) ∧ Below wx.heap.size wx w') := fun wx hx => specTypeOk n _ t wx (h.below hx) (by omega)
  have HNM : Hid (∀ wx : World, Calls Tryz.prog 29 #[.string mod] wx fun e w' => e = .returned (.bool (Lx.nameOkP mod)) ∧ Below wx.heap.size wx w') := fun wx => specNameOk mod wx (by omega)
  have HCO : Hid (∀ wx : World, Below w.heap.size w wx → Calls Tryz.prog 30 #[.agg #[.int .i64 t.kind, .string t.name, .slice an ln cn, .slice ak lk ck]] wx fun e w' => ∃ (an : Option Addr) (ln cn : Nat) (ak : Option Addr) (lk ck : Nat), e = .returned (.agg #[.int .i64 t.kind, .string t.name, .slice an ln cn, .slice ak lk ck]) ∧ (∃ l, cellsK t l = [.int .i64 t.kind, .string t.name, .slice an ln cn, .slice ak lk ck] ∧ NewLay wx.heap.size w' n l t) ∧ Below wx.heap.size wx w') := fun wx hx => (specCopy n).told _ t wx (h.below hx) (by omega)
  have HRN : Hid (Right n t 12 → Lx.nameOkP mod = true → ∀ wx : World, Below w.heap.size w wx → Calls Tryz.prog 31 #[.agg #[.int .i64 t.kind, .string t.name, .slice an ln cn, .slice ak lk ck], .string mod] wx fun e w' => ∃ (kd : Int) (nm : ByteArray) (an : Option Addr) (ln cn : Nat) (ak : Option Addr) (lk ck : Nat), e = .returned (.agg #[.int .i64 kd, .string nm, .slice an ln cn, .slice ak lk ck]) ∧ (∃ l t', cellsK t' l = [.int .i64 kd, .string nm, .slice an ln cn, .slice ak lk ck] ∧ Ren mod n t t' ∧ LayAt w' n l t' ∧ (∀ b ∈ Lay.blocks n l, wx.heap.size ≤ b)) ∧ Below wx.heap.size wx w') := fun hr hm wx hx => (specRen mod hm hms n).told _ t 12 wx (h.below hx) hr (by omega) (by omega)
  clear h hb
  go_enter Tryz.func15, Tryz.ntmps15
  obtain ⟨⟨b0, b1, b2, b3⟩, _⟩ := block4 hx1
  go_wp2_with fail
  refine (HTK.out _ hB0).mono ?_
  rintro e w2 ⟨rfl, hb2⟩
  have lt0 : w.heap.size + 1 < ((w.alloc (.cells #[.int .i64 t.kind, .string t.name, .slice an ln cn, .slice ak lk ck] 27)).alloc (.cells #[.int .i64 0, .string ⟨#[]⟩, .slice none 0 0, .slice none 0 0] 27)).heap.size := by simp
  have hbw2 : Below w.heap.size w w2 := hB0.trans (hb2.mono (by omega))
  have hy1 := (hb2.block w.heap.size (by omega)).trans hx1
  have hy2 := (hb2.block (w.heap.size + 1) lt0).trans hx2
  have lt2 : w.heap.size + 1 < w2.heap.size := (Array.getElem?_eq_some_iff.1 hy2).1
  clear b0 b1 b2 b3 hx1 hx2 hB0 hb2 lt0 HTK
  have hend : ∀ w5 : World, Below w2.heap.size w2 w5 → w5.heap[w.heap.size]? = some (.cells #[.int .i64 t.kind, .string t.name, .slice an ln cn, .slice ak lk ck] 27 (0, 0)) ∧ w5.heap[w.heap.size + 1]? = some (.cells #[.int .i64 0, .string ⟨#[]⟩, .slice none 0 0, .slice none 0 0] 27 (0, 0)) ∧ Below w.heap.size w w5 := fun w5 h5 => ⟨(h5.block _ (by omega)).trans hy1, (h5.block _ lt2).trans hy2, hbw2.trans (h5.mono hbw2.size)⟩
  have HEND : Hid (type_of% hend) := hend
  clear hend hy1 hy2
  by_cases hgo : Right n t 12
  · rw [decide_eq_true hgo]
    go_wp2_with fail
    refine (HNM.out _).mono ?_
    rintro e w3 ⟨rfl, hb3⟩
    obtain ⟨hy1, hy2, hbw3⟩ := HEND.out w3 hb3
    obtain ⟨⟨b0, b1, b2, b3⟩, _⟩ := block4 hy1
    have lt3 : w.heap.size + 1 < w3.heap.size := (Array.getElem?_eq_some_iff.1 hy2).1
    cases hmn : Lx.nameOkP mod with
    | true =>
      have HT : Hid (type_of% (HRN.out hgo hmn w3 hbw3)) := HRN.out hgo hmn w3 hbw3
      have HA : Hid (∀ t', Ren mod n t t' → RnAnsS n mod t t') := fun t' h => .inr ⟨⟨hgo, hmn⟩, h⟩
      clear hgo hmn HRN HCO HNM
      go_wp2_with fail
      refine HT.out.mono ?_
      rintro e w5 ⟨kd5, nm5, a1, l1, c1, a2, l2, c2, rfl, ⟨l, t', hcl, hren, hll, hge⟩, hb5⟩
      obtain ⟨_, hr5, hbw5⟩ := HEND.out w5 (hb3.trans (hb5.mono hb3.size))
      obtain ⟨⟨rc0, rc1, rc2, rc3⟩, rf⟩ := block4 hr5
      have rf0 := rf 0
      have rf1 := rf 1
      have rf2 := rf 2
      have rf3 := rf 3
      have HCL2 : Hid (type_of% hcl) := hcl
      have HNL : Hid (type_of% hll) := hll
      have HAN : Hid (type_of% (HA.out t' hren)) := HA.out t' hren
      have hfree : ∀ b ∈ Lay.blocks n l, b ≠ w.heap.size + 1 := fun b hb => by have := hge b hb; omega
      have HFR : Hid (type_of% hfree) := hfree
      clear hcl hll rf HT hr5 hb5 HEND b0 b1 b2 b3 hfree HA hren
      go_wp2_with fail
      refine ret_rnS rfl (put4T fun j hj => ?_) ⟨l, t', by rw [HCL2.out], HAN.out, HNL.out.same fun b hb => put_other (HFR.out b hb), put_below hbw5 (by omega)⟩
      match j, hj with
      | 0, _ => rw [rc0]; rfl
      | 1, _ => rw [rc1]; rfl
      | 2, _ => rw [rc2]; rfl
      | 3, _ => rw [rc3]; rfl
    | false =>
      have HT : Hid (type_of% (HCO.out w3 hbw3)) := HCO.out w3 hbw3
      have HA : Hid (RnAnsS n mod t t) := .inl ⟨fun q => by rw [hmn] at q; exact absurd q.2 (by decide), rfl⟩
      clear hgo hmn HRN HCO HNM
      go_wp2_with fail
      refine HT.out.mono ?_
      rintro e w5 ⟨a1, l1, c1, a2, l2, c2, rfl, ⟨l, hcl, hnl⟩, hb5⟩
      obtain ⟨_, hr5, hbw5⟩ := HEND.out w5 (hb3.trans (hb5.mono hb3.size))
      obtain ⟨⟨rc0, rc1, rc2, rc3⟩, rf⟩ := block4 hr5
      have rf0 := rf 0
      have rf1 := rf 1
      have rf2 := rf 2
      have rf3 := rf 3
      have HCL2 : Hid (type_of% hcl) := hcl
      have HNL : Hid (type_of% hnl) := hnl
      clear hcl hnl rf HT hr5 hb5 HEND b0 b1 b2 b3
      go_wp2_with fail
      refine ret_rnS rfl (put4T fun j hj => ?_) ⟨l, t, by rw [HCL2.out], HA.out, HNL.out.1.same fun b hb => put_other (by have := HNL.out.2.2 b hb; omega), put_below hbw5 (by omega)⟩
      match j, hj with
      | 0, _ => rw [rc0]; rfl
      | 1, _ => rw [rc1]; rfl
      | 2, _ => rw [rc2]; rfl
      | 3, _ => rw [rc3]; rfl
  · rw [decide_eq_false hgo]
    obtain ⟨hy1, hy2, _⟩ := HEND.out w2 (Below.refl _ _)
    obtain ⟨⟨b0, b1, b2, b3⟩, _⟩ := block4 hy1
    have HT : Hid (type_of% (HCO.out w2 hbw2)) := HCO.out w2 hbw2
    have HA : Hid (RnAnsS n mod t t) := .inl ⟨fun q => hgo q.1, rfl⟩
    clear hgo HRN HCO HNM
    go_wp2_with fail
    refine HT.out.mono ?_
    rintro e w5 ⟨a1, l1, c1, a2, l2, c2, rfl, ⟨l, hcl, hnl⟩, hb5⟩
    obtain ⟨_, hr5, hbw5⟩ := HEND.out w5 hb5
    obtain ⟨⟨rc0, rc1, rc2, rc3⟩, rf⟩ := block4 hr5
    have rf0 := rf 0
    have rf1 := rf 1
    have rf2 := rf 2
    have rf3 := rf 3
    have HCL2 : Hid (type_of% hcl) := hcl
    have HNL : Hid (type_of% hnl) := hnl
    clear hcl hnl rf HT hr5 hb5 HEND b0 b1 b2 b3
    go_wp2_with fail
    refine ret_rnS rfl (put4T fun j hj => ?_) ⟨l, t, by rw [HCL2.out], HA.out, HNL.out.1.same fun b hb => put_other (by have := HNL.out.2.2 b hb; omega), put_below hbw5 (by omega)⟩
    match j, hj with
    | 0, _ => rw [rc0]; rfl
    | 1, _ => rw [rc1]; rfl
    | 2, _ => rw [rc2]; rfl
    | 3, _ => rw [rc3]; rfl

end Go.Proofs.YtjihkebafoajdaaGreatDoor
