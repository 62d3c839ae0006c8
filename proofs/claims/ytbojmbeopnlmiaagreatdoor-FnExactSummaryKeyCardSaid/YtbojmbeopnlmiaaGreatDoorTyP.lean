/-
 Types, plainly: a tree; and what of it is told by a walk through it. No program here.
-/
import Derived.Test.YtbojmbeopnlmiaaGreatDoorRows
import Derived.WalkKit
import Derived.WalkSpells
import Derived.WalkLawsBesides
import Derived.Deep.QuietTactic
import Derived.BigQuiet
import Derived.Deep.Slices
import Derived.Lib.SmallJoins
import Derived.ChangeArms
namespace Go.Proofs.YtbojmbeopnlmiaaGreatDoor
structure Ty where
 kind : Int
 name : ByteArray
 names : List ByteArray
 kids : List Ty
namespace Ty
def textsBulk : List ByteArray → Nat
 | [] => 0
 | t :: r => t.size + textsBulk r
def bulk : Nat → Ty → Nat
 | 0, _ => 0
 | n + 1, t => t.name.size + (t.names.length + textsBulk t.names) + (t.kids.length + (t.kids.map (bulk n)).sum)
end Ty
end Go.Proofs.YtbojmbeopnlmiaaGreatDoor
namespace Go.Proofs.YtbojmbeopnlmiaaGreatDoor
open Go.RowKit
def Texts (w : World) (v : Value) (ts : List ByteArray) : Prop :=
 (ts = [] ∧ ∃ a cap, v = .slice a 0 cap) ∨ ∃ b off cap, v = .slice (some ⟨b, off, none⟩) ts.length cap ∧ ∀ j (h : j < ts.length), w.cell? ⟨b, off + j, none⟩ = some (.string ts[j])
theorem Texts.below {w w' : World} {v : Value} {ts : List ByteArray} (h : Texts w v ts) (hb : Below w.heap.size w w') : Texts w' v ts := by
 rcases h with h | ⟨b, off, cap, rfl, hc⟩
 ·exact .inl h
 ·refine .inr ⟨b, off, cap, rfl, fun j hj => ?_⟩
  exact (hb.cell (p := ⟨b, off + j, none⟩) (World.block_lt_of_cell? w ⟨b, off + j, none⟩ (hc j hj))).trans (hc j hj)
def sumS : List ByteArray → Nat
 | [] => 0
 | t :: r => t.size + sumS r
theorem sumS_append (a b : List ByteArray) : sumS (a ++ b) = sumS a + sumS b := by
 induction a with
 | nil => simp [sumS]
 | cons t r ih => simp [sumS, ih]; omega
theorem sumS_more (ts : List ByteArray) (k : Nat) (h : k < ts.length) : sumS (ts.take (k + 1)) = sumS (ts.take k) + ts[k].size := by
 rw [List.take_succ_eq_append_getElem h, sumS_append]
 simp [sumS]
theorem sumS_take_le (ts : List ByteArray) (k : Nat) : sumS (ts.take k) ≤ sumS ts := by
 have := sumS_append (ts.take k) (ts.drop k)
 rw [List.take_append_drop] at this
 omega
theorem sumS_mem (ts : List ByteArray) (k : Nat) (h : k < ts.length) : ts[k].size ≤ sumS ts := by
 have h1 := sumS_more ts k h
 have h2 := sumS_take_le ts (k + 1)
 omega
theorem Tryz.infoString : (Tryz.prog.info? 9).map (fun i => (i.zero, i.size, i.bytes)) = some (some (.string ⟨#[]⟩), 1, 16) := by kernel_rfl
def strV (ts : List ByteArray) : List Value := ts.map Value.string
theorem strV_length (ts : List ByteArray) : (strV ts).length = ts.length := by simp [strV]
theorem strV_get (ts : List ByteArray) (j : Nat) (h : j < ts.length) : (strV ts)[j]? = some (.string ts[j]) := by simp [strV, h]
def rowK (ts : List ByteArray) (k : Nat) : List Value := strV (ts.take k) ++ List.replicate (ts.length - k) (Value.string ⟨#[]⟩)
theorem rowK_zero (ts : List ByteArray) : rowK ts 0 = List.replicate ts.length (Value.string ⟨#[]⟩) := by simp [rowK, strV]
theorem rowK_all (ts : List ByteArray) : rowK ts ts.length = strV ts := by simp [rowK, strV]
theorem rowK_set (ts : List ByteArray) (k : Nat) (h : k < ts.length) : (rowK ts k).set k (.string ts[k]) = rowK ts (k + 1) := by
 have hl : (strV (ts.take k)).length = k := by simp [strV]; omega
 have hr : ts.length - k = (ts.length - (k + 1)) + 1 := by omega
 have e : strV (ts.take (k + 1)) = strV (ts.take k) ++ [Value.string ts[k]] := by
  rw [strV, List.take_succ_eq_append_getElem h, List.map_append]
  rfl
 unfold rowK
 rw [List.set_append_right _ _ (by omega), hl, Nat.sub_self, hr, List.replicate_succ, List.set_cons_zero, e, List.append_assoc]
 rfl
theorem Texts.own {w : World} {B g cap : Nat} {ts : List ByteArray} (h : w.ownsRow B 9 1 (.slice (some ⟨g, 0, none⟩) ts.length cap) ts.length (strV ts)) : Texts w (.slice (some ⟨g, 0, none⟩) ts.length cap) ts := by
 refine .inr ⟨g, 0, cap, rfl, fun j hj => ?_⟩
 rw [Nat.zero_add, h.cellAt j (by omega), strV_get ts j hj]
def RowAt (w : World) (R : List Value → Ty → Prop) (v : Value) (ts : List Ty) : Prop :=
 (ts = [] ∧ ∃ a cap, v = .slice a 0 cap) ∨ ∃ b off cap, v = .slice (some ⟨b, off, none⟩) ts.length cap ∧ ∀ j (h : j < ts.length), ∃ cs, R cs ts[j] ∧ ∀ c u, cs[c]? = some u → w.cell? ⟨b, off + j * 4 + c, none⟩ = some u
def TyAt (w : World) : Nat → List Value → Ty → Prop
 | 0, _, _ => False
 | n + 1, cs, t => ∃ vn vk, cs = [.int .i64 t.kind, .string t.name, vn, vk] ∧ (-9223372036854775808 ≤ t.kind ∧ t.kind ≤ 9223372036854775807) ∧ t.name.size ≤ maxLen ∧ (Texts w vn t.names ∧ t.names.length ≤ maxLen ∧ ∀ x ∈ t.names, x.size ≤ maxLen) ∧ t.kids.length ≤ maxLen ∧ RowAt w (TyAt w n) vk t.kids
theorem RowAt.below {w w' : World} {R R' : List Value → Ty → Prop} {v : Value} {ts : List Ty} (h : RowAt w R v ts) (hb : Below w.heap.size w w') (hR : ∀ cs t, t ∈ ts → R cs t → R' cs t) : RowAt w' R' v ts := by
 rcases h with h | ⟨b, off, cap, rfl, hc⟩
 ·exact .inl h
 ·refine .inr ⟨b, off, cap, rfl, fun j hj => ?_⟩
  obtain ⟨cs, h1, h2⟩ := hc j hj
  refine ⟨cs, hR cs _ (List.getElem_mem hj) h1, fun c u hu => ?_⟩
  have := h2 c u hu
  exact (hb.cell (p := ⟨b, off + j * 4 + c, none⟩) (World.block_lt_of_cell? w ⟨b, off + j * 4 + c, none⟩ this)).trans this
theorem TyAt.len {w : World} {n : Nat} {cs : List Value} {t : Ty} (h : TyAt w n cs t) : cs.length = 4 := by
 cases n with
 | zero => exact h.elim
 | succ n =>
  obtain ⟨vn, vk, rfl, _⟩ := h
  rfl
theorem TyAt.below {w w' : World} {n : Nat} {cs : List Value} {t : Ty} (h : TyAt w n cs t) (hb : Below w.heap.size w w') : TyAt w' n cs t := by
 induction n generalizing cs t with
 | zero => exact h.elim
 | succ n ih =>
  obtain ⟨vn, vk, h1, h2, h3, ⟨h4, h5, h6⟩, h7, h8⟩ := h
  exact ⟨vn, vk, h1, h2, h3, ⟨h4.below hb, h5, h6⟩, h7, h8.below hb (fun cs t _ h => ih h)⟩
def szS (ts : List ByteArray) (left : Int) : Int := if (ts.length : Int) + sumS ts ≤ left then left - ts.length - sumS ts else -1
set_option maxHeartbeats 400000 in
theorem lawsSz (v : Value) (ts : List ByteArray) (left : Int) (w : World) (hT : Texts w v ts) (hl : ts.length ≤ maxLen) (hs : ∀ t ∈ ts, t.size ≤ maxLen) (h0 : -1 ≤ left) (h1 : left ≤ 1048576) :
  Calls Tryz.prog 18 #[v, .int .i64 left] w fun e w' => e = .returned (.int .i64 (szS ts left)) ∧ w = w' := by
 unfold maxLen at hl hs
 by_cases hlen : left - (ts.length : Int) < 0
 ·rw [show szS ts left = -1 from if_neg (by omega)]
  obtain ⟨a, cap, rfl⟩ : ∃ a cap, v = .slice a ts.length cap := by
   rcases hT with ⟨h, a, cap, e⟩ | ⟨b, off, cap, e, _⟩
   ·exact ⟨a, cap, by rw [h, e]; rfl⟩
   ·exact ⟨_, cap, e⟩
  clear hT hs
  go_enter Tryz.func18, Tryz.ntmps18
  go_wp2
  go_ret
  exact ⟨rfl, rfl⟩
 ·rcases hT with ⟨h, a, cap, rfl⟩ | ⟨b, off, cap, rfl, hc⟩
  ·subst h
   rw [show szS [] left = left from by simp [szS, sumS]; omega]
   simp at hlen
   go_enter Tryz.func18, Tryz.ntmps18
   go_wp2
   refine wp_loop_rounds 1 ?_
   rw [rounds_succ]
   go_wp2
   go_ret
   exact ⟨by simp, rfl⟩
  ·have HC : Hid (∀ j (h : j < ts.length), w.cell? ⟨b, off + j, none⟩ = some (.string ts[j])) := hc
   have HS : Hid (∀ t ∈ ts, t.size ≤ 9223372036854775807) := hs
   clear hc hs
   go_enter Tryz.func18, Tryz.ntmps18
   go_wp2
   go_loop [1, 5] (fun l i => ∃ (k : Nat), k ≤ ts.length ∧ i = .int .i64 k ∧ l = .int .i64 (left - ts.length - sumS (ts.take k)) ∧ (sumS (ts.take k) : Int) ≤ left - ts.length) (fun _ i => ts.length - (intOf i).toNat)
   case atStart => exact ⟨0, Nat.zero_le _, rfl, by simp [sumS], by simp [sumS]; omega⟩
   case round =>
    obtain ⟨k, hk, rfl, rfl, hle⟩ := hrel
    by_cases hlt : k < ts.length
    ·have hcell := HC.out k hlt
     have hsz := HS.out ts[k] (List.getElem_mem hlt)
     have HM : Hid (sumS (ts.take (k + 1)) = sumS (ts.take k) + ts[k].size) := sumS_more ts k hlt
     have HL : Hid (sumS (ts.take k) + ts[k].size ≤ sumS ts) := by
      have := sumS_take_le ts (k + 1)
      rw [HM.out] at this
      exact this
     generalize hp : ts[k] = p at *
     generalize hq : sumS (ts.take k) = q at *
     clear hp hq
     by_cases hneg : left - (ts.length : Int) - q - p.size < 0
     ·go_wp2
      go_ret
      exact ⟨by rw [show szS ts left = -1 from if_neg (by have := HL.out; omega)]; rfl, rfl⟩
     ·go_wp2
      go_round
      case rel => exact ⟨k + 1, by omega, by go_num, by rw [HM.out]; go_num, by rw [HM.out]; omega⟩
      case measure => simp [intOf]; omega
    ·have hke : k = ts.length := by omega
     subst hke
     rw [List.take_of_length_le (Nat.le_refl _)] at hle ⊢
     go_wp2
     go_ret
     exact ⟨by rw [show szS ts left = left - ts.length - sumS ts from if_pos (by omega)]; rfl, rfl⟩
theorem bulk_texts (l : List ByteArray) : Ty.textsBulk l = sumS l := by
 induction l with
 | nil => rfl
 | cons t r ih => rw [Ty.textsBulk, sumS, ih]
def leftOf (b : Nat) (left : Int) : Int := if (b : Int) ≤ left then left - b else -1
def rowBulk (n : Nat) (ks : List Ty) : Nat := ks.length + (ks.map (Ty.bulk n)).sum
theorem sum_more (n : Nat) (ks : List Ty) (k : Nat) (h : k < ks.length) : ((ks.take (k + 1)).map (Ty.bulk n)).sum = ((ks.take k).map (Ty.bulk n)).sum + Ty.bulk n ks[k] := by
 rw [List.take_succ_eq_append_getElem h, List.map_append, List.sum_append]
 simp
theorem sum_le (n : Nat) (ks : List Ty) (k : Nat) : ((ks.take k).map (Ty.bulk n)).sum ≤ (ks.map (Ty.bulk n)).sum := by
 have : ks.map (Ty.bulk n) = (ks.take k).map (Ty.bulk n) ++ (ks.drop k).map (Ty.bulk n) := by rw [← List.map_append, List.take_append_drop]
 rw [this, List.sum_append]
 omega
set_option maxHeartbeats 800000 in
set_option maxRecDepth 100000 in
theorem lawsSzRow (n : Nat) (ih : ∀ (cs : List Value) (t : Ty) (left : Int) (w : World), TyAt w n cs t → 0 ≤ left → left ≤ 1048576 →
   Calls Tryz.prog 6 #[.agg cs.toArray, .int .i64 left] w fun e w' => e = .returned (.int .i64 (leftOf (Ty.bulk n t) left)) ∧ Below w.heap.size w w')
  (v : Value) (ks : List Ty) (left : Int) (w : World) (hrow : RowAt w (TyAt w n) v ks) (hkl : ks.length ≤ maxLen) (h0 : 0 ≤ left) (h1 : left ≤ 1048576) :
  Calls Tryz.prog 19 #[v, .int .i64 left] w fun e w' => e = .returned (.int .i64 (leftOf (rowBulk n ks) left)) ∧ Below w.heap.size w w' := by
 unfold maxLen at hkl
 obtain ⟨av, capv, rfl, hel⟩ : ∃ av capv, v = .slice av ks.length capv ∧ ∀ j (h : j < ks.length), ∃ b off cs', av = some ⟨b, off, none⟩ ∧ TyAt w n cs' ks[j] ∧ ∀ c u, cs'[c]? = some u → w.cell? ⟨b, off + j * 4 + c, none⟩ = some u := by
  rcases hrow with ⟨h, a, cap, e⟩ | ⟨b, off, cap, e, hc⟩
  ·exact ⟨a, cap, by rw [h]; exact e, fun j hj => by rw [h] at hj; simp at hj⟩
  ·exact ⟨_, cap, e, fun j hj => by obtain ⟨cs', h1, h2⟩ := hc j hj; exact ⟨b, off, cs', rfl, h1, h2⟩⟩
 have HEL : Hid (∀ j (h : j < ks.length), ∃ b off cs', av = some ⟨b, off, none⟩ ∧ TyAt w n cs' ks[j] ∧ ∀ c u, cs'[c]? = some u → w.cell? ⟨b, off + j * 4 + c, none⟩ = some u) := hel
 have IH : Hid (∀ (cs : List Value) (t : Ty) (left : Int) (w : World), TyAt w n cs t → 0 ≤ left → left ≤ 1048576 → Calls Tryz.prog 6 #[.agg cs.toArray, .int .i64 left] w fun e w' => e = .returned (.int .i64 (leftOf (Ty.bulk n t) left)) ∧ Below w.heap.size w w') := ih
 clear hrow hel ih
 by_cases hneg : left - (ks.length : Int) < 0
 ·have HR : Hid (leftOf (rowBulk n ks) left = -1) := if_neg (by unfold rowBulk; omega)
  clear HEL IH
  go_enter Tryz.func19, Tryz.ntmps19
  go_wp2_with fail
  go_ret
  exact ⟨by rw [HR.out]; rfl, Below.refl _ _⟩
 ·go_enter Tryz.func19, Tryz.ntmps19
  go_wp2_with fail
  go_loopw [1, 5] (fun l i wr => ∃ k : Nat, k ≤ ks.length ∧ i = .int .i64 k ∧ l = .int .i64 (left - ks.length - (((ks.take k).map (Ty.bulk n)).sum : Nat)) ∧ ((((ks.take k).map (Ty.bulk n)).sum : Nat) : Int) ≤ left - ks.length ∧ Below w.heap.size w wr) (fun _ i _ => ks.length - (intOf i).toNat)
  case atStart => exact ⟨0, Nat.zero_le _, rfl, by simp, by simp; omega, Below.refl _ _⟩
  case round =>
   obtain ⟨k, hk, rfl, rfl, hle, hbe⟩ := hrel
   by_cases hlt : k < ks.length
   ·obtain ⟨b, off, cs', rfl, hty, hcell⟩ := HEL.out k hlt
    have hty2 : TyAt wr n cs' ks[k] := hty.below hbe
    have hlen := hty.len
    have HM : Hid (((ks.take (k + 1)).map (Ty.bulk n)).sum = ((ks.take k).map (Ty.bulk n)).sum + Ty.bulk n ks[k]) := sum_more n ks k hlt
    have HL : Hid (((ks.take (k + 1)).map (Ty.bulk n)).sum ≤ (ks.map (Ty.bulk n)).sum) := sum_le n ks (k + 1)
    match cs', hlen with
    | [x0, x1, x2, x3], _ =>
     have hbl : b < w.heap.size := World.block_lt_of_cell? w ⟨b, off + k * 4 + 0, none⟩ (hcell 0 x0 rfl)
     have c0 : wr.cell? ⟨b, off + k * 4, none⟩ = some x0 := (hbe.cell (p := ⟨b, off + k * 4 + 0, none⟩) hbl).trans (hcell 0 x0 rfl)
     have c1 : wr.cell? ⟨b, off + k * 4 + 1, none⟩ = some x1 := (hbe.cell (p := ⟨b, off + k * 4 + 1, none⟩) hbl).trans (hcell 1 x1 rfl)
     have c2 : wr.cell? ⟨b, off + k * 4 + 2, none⟩ = some x2 := (hbe.cell (p := ⟨b, off + k * 4 + 2, none⟩) hbl).trans (hcell 2 x2 rfl)
     have c3 : wr.cell? ⟨b, off + k * 4 + 3, none⟩ = some x3 := (hbe.cell (p := ⟨b, off + k * 4 + 3, none⟩) hbl).trans (hcell 3 x3 rfl)
     generalize hS : ((ks.take k).map (Ty.bulk n)).sum = S at *
     have HC : Hid (Calls Tryz.prog 6 #[.agg #[x0, x1, x2, x3], .int .i64 (left - ks.length - (S : Nat))] wr fun e w' => e = .returned (.int .i64 (leftOf (Ty.bulk n ks[k]) (left - ks.length - (S : Nat)))) ∧ Below wr.heap.size wr w') := IH.out _ _ _ wr hty2 (by omega) (by omega)
     clear hS hty hty2 hcell hlen HEL IH
     generalize Ty.bulk n ks[k] = bk at *
     by_cases hbk : ((S + bk : Nat) : Int) ≤ left - ks.length
     ·have e1 : leftOf bk (left - ks.length - (S : Nat)) = left - ks.length - ((S + bk : Nat) : Int) := by
       unfold leftOf
       rw [if_pos (by omega)]
       omega
      rw [e1] at HC
      have hnn : ¬ left - (ks.length : Int) - ((S + bk : Nat) : Int) < 0 := by omega
      clear e1
      generalize hq : S + bk = Q at *
      have HQ : Hid (((ks.take (k + 1)).map (Ty.bulk n)).sum = Q) := HM.out.trans rfl
      clear hq HM HL
      go_wp2_with fail
      refine HC.out.mono ?_
      rintro e w2 ⟨rfl, hb2⟩
      have hbe2 : Below w.heap.size w w2 := hbe.trans (hb2.mono hbe.size)
      go_wp2_with fail
      go_roundw
      case rel => exact ⟨k + 1, by omega, by go_num, by rw [HQ.out], by rw [HQ.out]; exact hbk, hbe2⟩
      case measure => simp [intOf]; omega
     ·have e1 : leftOf bk (left - ks.length - (S : Nat)) = -1 := if_neg (by omega)
      rw [e1] at HC
      have HR : Hid (leftOf (rowBulk n ks) left = -1) := if_neg (by
       have h1 := HM.out
       have h2 := HL.out
       unfold rowBulk
       omega)
      clear e1 HM HL
      go_wp2_with fail
      refine HC.out.mono ?_
      rintro e w2 ⟨rfl, hb2⟩
      have hbe2 : Below w.heap.size w w2 := hbe.trans (hb2.mono hbe.size)
      go_wp2_with fail
      go_ret
      exact ⟨by rw [HR.out]; rfl, hbe2⟩
   ·have hke : k = ks.length := by omega
    subst hke
    rw [List.take_of_length_le (Nat.le_refl _)] at hle ⊢
    have HR : Hid (leftOf (rowBulk n ks) left = left - ks.length - ((ks.map (Ty.bulk n)).sum : Nat)) := by
     show _ = _
     unfold leftOf rowBulk
     rw [if_pos (by omega)]
     omega
    generalize (ks.map (Ty.bulk n)).sum = S at *
    clear HEL IH
    go_wp2_with fail
    go_ret
    exact ⟨by rw [HR.out]; rfl, hbe⟩
set_option maxHeartbeats 800000 in
set_option maxRecDepth 100000 in
theorem lawsSzTy (n : Nat) : ∀ (cs : List Value) (t : Ty) (left : Int) (w : World), TyAt w n cs t → 0 ≤ left → left ≤ 1048576 →
  Calls Tryz.prog 6 #[.agg cs.toArray, .int .i64 left] w fun e w' => e = .returned (.int .i64 (leftOf (Ty.bulk n t) left)) ∧ Below w.heap.size w w' := by
 induction n with
 | zero => intro cs t left w h; exact h.elim
 | succ n ih =>
  intro cs t left w h h0 h1
  obtain ⟨vn, vk, rfl, hkd, hnm, ⟨hT, hTl, hTs⟩, hkl, hrow⟩ := h
  have hB1 : Below w.heap.size w (w.alloc (.cells #[.int .i64 t.kind, .string t.name, vn, vk] 25)) := (Below.refl _ _).alloc (Nat.le_refl _) _
  have HT : Hid (∀ l : Int, -1 ≤ l → l ≤ 1048576 → Calls Tryz.prog 18 #[vn, .int .i64 l] (w.alloc (.cells #[.int .i64 t.kind, .string t.name, vn, vk] 25)) fun e w' => e = .returned (.int .i64 (szS t.names l)) ∧ (w.alloc (.cells #[.int .i64 t.kind, .string t.name, vn, vk] 25)) = w') := fun l a b => lawsSz vn t.names l _ (hT.below hB1) hTl hTs a b
  have hrow1 : RowAt (w.alloc (.cells #[.int .i64 t.kind, .string t.name, vn, vk] 25)) (TyAt (w.alloc (.cells #[.int .i64 t.kind, .string t.name, vn, vk] 25)) n) vk t.kids := hrow.below hB1 fun cs t _ h => h.below hB1
  have HK : Hid (∀ l : Int, 0 ≤ l → l ≤ 1048576 → Calls Tryz.prog 19 #[vk, .int .i64 l] (w.alloc (.cells #[.int .i64 t.kind, .string t.name, vn, vk] 25)) fun e w' => e = .returned (.int .i64 (leftOf (rowBulk n t.kids) l)) ∧ Below (w.alloc (.cells #[.int .i64 t.kind, .string t.name, vn, vk] 25)).heap.size (w.alloc (.cells #[.int .i64 t.kind, .string t.name, vn, vk] 25)) w') := fun l a b => lawsSzRow n ih vk t.kids l _ hrow1 hkl a b
  have hbk : Ty.bulk (n + 1) t = t.name.size + (t.names.length + sumS t.names) + rowBulk n t.kids := by
   rw [Ty.bulk, bulk_texts]
   rfl
  unfold maxLen at hnm
  clear hrow hrow1 hT hTl hTs hkl ih hkd
  rw [hbk]
  have hszS : ∀ l : Int, szS t.names l = leftOf (t.names.length + sumS t.names) l := fun l => by
   unfold szS leftOf
   by_cases c : (t.names.length : Int) + sumS t.names ≤ l
   ·rw [if_pos c, if_pos (by omega)]; omega
   ·rw [if_neg c, if_neg (by omega)]
  have HT2 : Hid (∀ l : Int, -1 ≤ l → l ≤ 1048576 → Calls Tryz.prog 18 #[vn, .int .i64 l] (w.alloc (.cells #[.int .i64 t.kind, .string t.name, vn, vk] 25)) fun e w' => e = .returned (.int .i64 (leftOf (t.names.length + sumS t.names) l)) ∧ (w.alloc (.cells #[.int .i64 t.kind, .string t.name, vn, vk] 25)) = w') := fun l a b => by
   rw [← hszS]
   exact HT.out l a b
  clear hszS HT hbk
  generalize t.names.length + sumS t.names = A at *
  generalize rowBulk n t.kids = K at *
  by_cases d1 : left - (t.name.size : Int) < 0
  ·have HR : Hid (leftOf (t.name.size + A + K) left = -1) := if_neg (by omega)
   clear HT2 HK
   go_enter Tryz.func6, Tryz.ntmps6
   go_wp2_with fail
   go_ret
   exact ⟨by rw [HR.out]; rfl, hB1⟩
  ·have HT3 := HT2.out (left - t.name.size) (by omega) (by omega)
   by_cases d2 : ((t.name.size + A : Nat) : Int) ≤ left
   ·have e2 : leftOf A (left - t.name.size) = left - t.name.size - A := if_pos (by omega)
    rw [e2] at HT3
    have HT4 : Hid (type_of% HT3) := HT3
    have HK3 := HK.out (left - t.name.size - A) (by omega) (by omega)
    have d2n : ¬ left - (t.name.size : Int) - A < 0 := by omega
    clear HT3 HT2 HK e2
    by_cases d3 : ((t.name.size + A + K : Nat) : Int) ≤ left
    ·have e3 : leftOf K (left - t.name.size - A) = left - t.name.size - A - K := if_pos (by omega)
     rw [e3] at HK3
     have HK4 : Hid (type_of% HK3) := HK3
     have HR : Hid (leftOf (t.name.size + A + K) left = left - t.name.size - A - K) := by
      show _ = _
      unfold leftOf
      rw [if_pos d3]
      omega
     have d3n : ¬ left - (t.name.size : Int) - A - K < 0 := by omega
     clear HK3 e3 d2 d3
     go_enter Tryz.func6, Tryz.ntmps6
     go_wp2_with fail
     refine HT4.out.mono ?_
     rintro e w2 ⟨rfl, rfl⟩
     go_wp2_with fail
     refine HK4.out.mono ?_
     rintro e w3 ⟨rfl, hb3⟩
     go_wp2_with fail
     go_ret
     exact ⟨by rw [HR.out]; rfl, hB1.trans (hb3.mono (by simp))⟩
    ·have e3 : leftOf K (left - t.name.size - A) = -1 := if_neg (by omega)
     rw [e3] at HK3
     have HK4 : Hid (type_of% HK3) := HK3
     have HR : Hid (leftOf (t.name.size + A + K) left = -1) := if_neg d3
     clear HK3 e3 d2 d3
     go_enter Tryz.func6, Tryz.ntmps6
     go_wp2_with fail
     refine HT4.out.mono ?_
     rintro e w2 ⟨rfl, rfl⟩
     go_wp2_with fail
     refine HK4.out.mono ?_
     rintro e w3 ⟨rfl, hb3⟩
     go_wp2_with fail
     go_ret
     exact ⟨by rw [HR.out]; rfl, hB1.trans (hb3.mono (by simp))⟩
   ·have e2 : leftOf A (left - t.name.size) = -1 := if_neg (by omega)
    rw [e2] at HT3
    have HT4 : Hid (type_of% HT3) := HT3
    have HR : Hid (leftOf (t.name.size + A + K) left = -1) := if_neg (by omega)
    clear HT3 HT2 HK e2 d2
    go_enter Tryz.func6, Tryz.ntmps6
    go_wp2_with fail
    refine HT4.out.mono ?_
    rintro e w2 ⟨rfl, rfl⟩
    go_wp2_with fail
    go_ret
    exact ⟨by rw [HR.out]; rfl, hB1⟩
set_option maxHeartbeats 400000 in
theorem lawsTo (v : Value) (ts : List ByteArray) (w : World) (hT : Texts w v ts) (hl : ts.length ≤ 1048576) :
  Calls Tryz.prog 22 #[v] w fun e w' => e = .returned (.slice (some ⟨w.heap.size, 0, none⟩) ts.length ts.length) ∧ w'.ownsRow w.heap.size 9 1 (.slice (some ⟨w.heap.size, 0, none⟩) ts.length ts.length) ts.length (strV ts) ∧ Below w.heap.size w w' := by
 obtain ⟨i0, hi, hz0, hz1, hz2⟩ := info_parts Tryz.infoString
 obtain ⟨a, cap, rfl, hc⟩ : ∃ a cap, v = .slice a ts.length cap ∧ ∀ j (h : j < ts.length), ∃ b off, a = some ⟨b, off, none⟩ ∧ w.cell? ⟨b, off + j, none⟩ = some (.string ts[j]) := by
  rcases hT with ⟨h, a, cap, e⟩ | ⟨b, off, cap, e, hc⟩
  ·subst h; exact ⟨a, cap, e, fun j hj => absurd hj (by simp)⟩
  ·exact ⟨_, cap, e, fun j hj => ⟨b, off, rfl, hc j hj⟩⟩
 clear hT
 have HC : Hid (∀ j (h : j < ts.length), ∃ b off, a = some ⟨b, off, none⟩ ∧ w.cell? ⟨b, off + j, none⟩ = some (.string ts[j])) := hc
 clear hc
 go_enter Tryz.func22, Tryz.ntmps22
 go_wp2_with (at_make; refine wpList_make_full _ rfl _ _ 22 rfl w.heap.size 9 i0 (.string ⟨#[]⟩) 1 Tryz.underlying22 hi hz0 hz1 .i64 .i64 _ _ ts.length rfl rfl rfl rfl (by rw [hz2]; omega) (by unfold maxLen; omega) (Nat.le_refl _) ?_)
 intro w1 hown hgrow
 have hR : w1.ownsRow w.heap.size 9 1 (.slice (some ⟨w.heap.size, 0, none⟩) ts.length ts.length) ts.length (rowK ts 0) := by
  rw [rowK_zero]
  rw [toList_madeCells_one] at hown
  exact hown
 have hB : Below w.heap.size w w1 := (Below.refl _ _).grown hgrow (Nat.le_refl _) (fun k hk => by cases hk)
 clear hown hgrow
 go_wp2
 go_loopw [4] (fun i wr => ∃ (k : Nat), k ≤ ts.length ∧ i = .int .i64 k ∧ wr.ownsRow w.heap.size 9 1 (.slice (some ⟨w.heap.size, 0, none⟩) ts.length ts.length) ts.length (rowK ts k) ∧ Below w.heap.size w wr) (fun i _ => ts.length - (intOf i).toNat)
 case atStart => exact ⟨0, Nat.zero_le _, rfl, hR, hB⟩
 case round =>
  obtain ⟨k, hk, rfl, hown, hbe⟩ := hrel
  clear hR hB
  by_cases hlt : k < ts.length
  ·obtain ⟨b, off, rfl, hc0⟩ := HC.out k hlt
   have hblt : b < w.heap.size := World.block_lt_of_cell? w ⟨b, off + k, none⟩ hc0
   have hcell := (hbe.cell (p := ⟨b, off + k, none⟩) hblt).trans hc0
   have HS : Hid ((rowK ts k).set k (.string ts[k]) = rowK ts (k + 1)) := rowK_set ts k hlt
   generalize hp : ts[k] = p at *
   clear hp hc0 HC
   have hfz := hown.frozenAt k
   have hold : ∃ u, wr.cell? ⟨w.heap.size, k, none⟩ = some u := by
    rw [hown.cellAt k (by omega)]
    have : k < (rowK ts k).length := by simp [rowK, strV]; omega
    exact ⟨_, List.getElem?_eq_getElem this⟩
   obtain ⟨u, hold⟩ := hold
   obtain ⟨R1, R2⟩ := hown.stored k (.string p)
   rw [HS.out] at R1
   have hbe2 : Below w.heap.size w (wr.setCell ⟨w.heap.size, k, none⟩ (.string p)) := hbe.setCell (Nat.le_refl _) _
   clear R2 hown
   go_wp2
   go_roundw
   case rel => exact ⟨k + 1, by omega, by go_num, R1, hbe2⟩
   case measure => simp [intOf]; omega
  ·have hke : k = ts.length := by omega
   subst hke
   rw [rowK_all] at hown
   go_wp2
   go_ret
   exact ⟨rfl, hown, hbe⟩
set_option maxHeartbeats 400000 in
theorem lawsEq (va vb : Value) (ts : List ByteArray) (w : World) (hA : Texts w va ts) (hB : Texts w vb ts) (hl : ts.length ≤ 1048576) :
  Calls Tryz.prog 27 #[va, vb] w fun e w' => e = .returned (.bool true) ∧ Below w.heap.size w w' := by
 obtain ⟨a, cap, rfl, hc⟩ : ∃ a cap, va = .slice a ts.length cap ∧ ∀ j (h : j < ts.length), ∃ b off, a = some ⟨b, off, none⟩ ∧ w.cell? ⟨b, off + j, none⟩ = some (.string ts[j]) := by
  rcases hA with ⟨h, a, cap, e⟩ | ⟨b, off, cap, e, hc⟩
  ·subst h; exact ⟨a, cap, e, fun j hj => absurd hj (by simp)⟩
  ·exact ⟨_, cap, e, fun j hj => ⟨b, off, rfl, hc j hj⟩⟩
 obtain ⟨a', cap', rfl, hc'⟩ : ∃ a cap, vb = .slice a ts.length cap ∧ ∀ j (h : j < ts.length), ∃ b off, a = some ⟨b, off, none⟩ ∧ w.cell? ⟨b, off + j, none⟩ = some (.string ts[j]) := by
  rcases hB with ⟨h, a, cap, e⟩ | ⟨b, off, cap, e, hc⟩
  ·subst h; exact ⟨a, cap, e, fun j hj => absurd hj (by simp)⟩
  ·exact ⟨_, cap, e, fun j hj => ⟨b, off, rfl, hc j hj⟩⟩
 have HC : Hid (∀ j (h : j < ts.length), ∃ b off, a = some ⟨b, off, none⟩ ∧ w.cell? ⟨b, off + j, none⟩ = some (.string ts[j])) := hc
 have HC' : Hid (∀ j (h : j < ts.length), ∃ b off, a' = some ⟨b, off, none⟩ ∧ w.cell? ⟨b, off + j, none⟩ = some (.string ts[j])) := hc'
 clear hA hB hc hc'
 go_enter Tryz.func27, Tryz.ntmps27
 go_wp2
 go_loopw [5] (fun i wr => ∃ (k : Nat), k ≤ ts.length ∧ i = .int .i64 k ∧ Below w.heap.size w wr) (fun i _ => ts.length - (intOf i).toNat)
 case atStart => exact ⟨0, Nat.zero_le _, rfl, Below.refl _ _⟩
 case round =>
  obtain ⟨k, hk, rfl, hbe⟩ := hrel
  by_cases hlt : k < ts.length
  ·obtain ⟨b, off, rfl, hc0⟩ := HC.out k hlt
   obtain ⟨b', off', rfl, hc1⟩ := HC'.out k hlt
   have hblt : b < w.heap.size := World.block_lt_of_cell? w ⟨b, off + k, none⟩ hc0
   have hblt' : b' < w.heap.size := World.block_lt_of_cell? w ⟨b', off' + k, none⟩ hc1
   have hcell := (hbe.cell (p := ⟨b, off + k, none⟩) hblt).trans hc0
   have hcell' := (hbe.cell (p := ⟨b', off' + k, none⟩) hblt').trans hc1
   generalize hp : ts[k] = p at *
   clear hp hc0 hc1 HC HC' hblt hblt'
   have hk0 : (0 : Int) ≤ k := by omega
   have hk1 : (k : Int) < ts.length := by omega
   go_wp2
   go_quiet (fail)
   go_wp2
   go_roundw
   case rel => exact ⟨k + 1, by omega, by go_num, below_drewN hbe _⟩
   case measure => simp [intOf]; omega
  ·go_wp2
   go_ret
   exact ⟨rfl, hbe⟩
end Go.Proofs.YtbojmbeopnlmiaaGreatDoor
