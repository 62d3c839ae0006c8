/-
 Four tables that a row lists: what the third and the fourth of them hold.
-/
import Derived.Test.YtbojmbeopnlmiaaGreatDoorMkZ
import Derived.Lib.LaidTab
import Derived.ProofKit
import Derived.OpenShut
import Derived.OpenVars
import Derived.ChangeVars
namespace Go.Proofs.YtbojmbeopnlmiaaGreatDoor
open Go.RowKit Go.ChangeShapes Go.WideShapes Go.ChangeAt
theorem thirdOf4 {P : Program} {W : World} {n1 n2 n3 n4 : String} {d1 d2 d4 : DataW Unit} {k : IntKind} {zs : List Int} {g : Nat} {t e : TypeId} {n : Nat}
  (hg : P.globalNamed n3 = some g) (hty : (P.globals[g]?).map (·.type) = some t) (ht : P.underlying t = some (.array n e)) (he : P.underlying e = some (.int k)) (hce : P.cellsOf e = 1) (hct : P.cellsOf t = n)
  (h : laidMet P [(n1, d1), (n2, d2), (n3, Lib.tabData k zs), (n4, d4)] W) : Lib.TabIs P W n3 k zs := by
 obtain ⟨ps, ⟨_, _, _, _, _, _, _, _, _, _, ⟨_, _, _, _, _, _, _, _, _, _, ⟨g', t', cs, fuel, p, q, hg', ht', hvar, hd, _, _⟩, _⟩, _⟩, _⟩ := h
 obtain rfl := Option.some.inj (hg.symm.trans hg')
 obtain rfl := Option.some.inj (hty.symm.trans ht')
 unfold Lib.TabIs
 rw [hvar, ← Lib.cells_of_tab ht he hce hct hd]
theorem fourthOf4 {P : Program} {W : World} {n1 n2 n3 n4 : String} {d1 d2 d3 : DataW Unit} {k : IntKind} {zs : List Int} {g : Nat} {t e : TypeId} {n : Nat}
  (hg : P.globalNamed n4 = some g) (hty : (P.globals[g]?).map (·.type) = some t) (ht : P.underlying t = some (.array n e)) (he : P.underlying e = some (.int k)) (hce : P.cellsOf e = 1) (hct : P.cellsOf t = n)
  (h : laidMet P [(n1, d1), (n2, d2), (n3, d3), (n4, Lib.tabData k zs)] W) : Lib.TabIs P W n4 k zs := by
 obtain ⟨ps, ⟨_, _, _, _, _, _, _, _, _, _, ⟨_, _, _, _, _, _, _, _, _, _, ⟨_, _, _, _, _, _, _, _, _, _, ⟨g', t', cs, fuel, p, q, hg', ht', hvar, hd, _, _⟩, _⟩, _⟩, _⟩, _⟩ := h
 obtain rfl := Option.some.inj (hg.symm.trans hg')
 obtain rfl := Option.some.inj (hty.symm.trans ht')
 unfold Lib.TabIs
 rw [hvar, ← Lib.cells_of_tab ht he hce hct hd]
theorem powDatum4 : (Rows.laid_internal_strconv_uint64pow10 : DataW Unit) = Lib.tabData .u64 Lib.pow10Tab := by kernel_rfl
def clsTab4 : List Int := (List.range 128).map fun i => (Lx.cls i : Int)
theorem clsDatum4 : (Rows.laid_loop_example_g00276_impl_classes : DataW Unit) = Lib.tabData .u8 clsTab4 := by kernel_rfl
theorem gCls4 : Tryz.prog.globalNamed "loop.example/g00276/impl.classes" = some 0 := by kernel_rfl
theorem gClsType4 : (Tryz.prog.globals[0]?).map (·.type) = some 170 := by kernel_rfl
theorem gPow4 : Tryz.prog.globalNamed "internal/strconv.uint64pow10" = some 1 := by kernel_rfl
theorem gPowType4 : (Tryz.prog.globals[1]?).map (·.type) = some 178 := by kernel_rfl
theorem clsIs4 {W : World} (h : Lib.TabIs Tryz.prog W "loop.example/g00276/impl.classes" .u8 clsTab4) : ClsIs W := fun i hi => by
 have := h.cell gCls4 i (by simp [clsTab4]; exact hi)
 rw [this]
 simp [clsTab4, List.getD, hi]
theorem tables4 {W : World} (h : laidMet Tryz.prog [("math/bits.deBruijn32tab", Rows.laid_math_bits_deBruijn32tab), ("math/bits.deBruijn64tab", Rows.laid_math_bits_deBruijn64tab), ("internal/strconv.uint64pow10", Rows.laid_internal_strconv_uint64pow10), ("loop.example/g00276/impl.classes", Rows.laid_loop_example_g00276_impl_classes)] W) : ClsIs W ∧ Lib.TabIs Tryz.prog W "internal/strconv.uint64pow10" .u64 Lib.pow10Tab := by
 refine ⟨?_, ?_⟩
 ·rw [clsDatum4] at h
  exact clsIs4 (fourthOf4 gCls4 gClsType4 Tryz.underlying170 Tryz.underlying5 (by kernel_rfl) (by kernel_rfl) h)
 ·rw [powDatum4] at h
  exact thirdOf4 gPow4 gPowType4 Tryz.underlying178 Tryz.underlying82 (by kernel_rfl) (by kernel_rfl) h
def u8s4 (l : List Int) : Array Value := (l.map fun z => Value.int .u8 z).toArray
def bare32x : List Int := [0, 1, 28, 2, 29, 14, 24, 3, 30, 22, 20, 15, 25, 17, 4, 8, 31, 27, 13, 23, 21, 19, 16, 7, 26, 12, 18, 6, 11, 5, 10, 9]
def bare64x : List Int := [0, 1, 56, 2, 57, 49, 28, 3, 61, 58, 42, 50, 38, 29, 17, 4, 62, 47, 59, 36, 45, 43, 51, 22, 53, 39, 33, 30, 24, 18, 12, 5, 63, 55, 48, 27, 60, 41, 37, 16, 46, 35, 44, 21, 52, 32, 23, 11, 54, 26, 40, 15, 34, 20, 31, 10, 25, 14, 19, 9, 13, 8, 7, 6]
def fill4 (cs : Array Value) : Obj → Obj
 | .cells _ t frozen => .cells cs t frozen
 | o => o
def laidWorld4 (P : Program) (os : Os) : World :=
 { World.holding P os ⟨#[], #[], []⟩ with heap := ((((World.holding P os ⟨#[], #[], []⟩).heap.modify 1 (fill4 (Lib.pow10Tab.map fun z => Value.int .u64 z).toArray)).modify 3 (fill4 (u8s4 bare32x))).modify 4 (fill4 (u8s4 bare64x))).modify 0 (fill4 (clsTab4.map fun z => Value.int .u8 z).toArray) }
end Go.Proofs.YtbojmbeopnlmiaaGreatDoor
namespace Go.Proofs.YtbojmbeopnlmiaaGreatDoor
open Go.RowKit
def NmAt (w : World) (n : Nat) (cs : List Value) (e : ByteArray × Ty) : Prop := ∃ cs', cs = .string e.1 :: cs' ∧ e.1.size ≤ maxLen ∧ TyAt w n cs' e.2
def EnvAt (w : World) (n : Nat) (v : Value) (es : List (ByteArray × Ty)) : Prop :=
 (es = [] ∧ ∃ a cap, v = .slice a 0 cap) ∨ ∃ b off cap, v = .slice (some ⟨b, off, none⟩) es.length cap ∧ ∀ j (h : j < es.length), ∃ cs, NmAt w n cs es[j] ∧ ∀ c u, cs[c]? = some u → w.cell? ⟨b, off + j * 5 + c, none⟩ = some u
theorem NmAt.below {w w' : World} {n : Nat} {cs : List Value} {e : ByteArray × Ty} (h : NmAt w n cs e) (hb : Below w.heap.size w w') : NmAt w' n cs e := by
 obtain ⟨cs', h1, h2, h3⟩ := h
 exact ⟨cs', h1, h2, h3.below hb⟩
theorem NmAt.len {w : World} {n : Nat} {cs : List Value} {e : ByteArray × Ty} (h : NmAt w n cs e) : cs.length = 5 := by
 obtain ⟨cs', rfl, _, h3⟩ := h
 rw [List.length_cons, h3.len]
theorem EnvAt.below {w w' : World} {n : Nat} {v : Value} {es : List (ByteArray × Ty)} (h : EnvAt w n v es) (hb : Below w.heap.size w w') : EnvAt w' n v es := by
 rcases h with h | ⟨b, off, cap, rfl, hc⟩
 ·exact .inl h
 ·refine .inr ⟨b, off, cap, rfl, fun j hj => ?_⟩
  obtain ⟨cs, h1, h2⟩ := hc j hj
  refine ⟨cs, h1.below hb, fun c u hu => ?_⟩
  have := h2 c u hu
  exact (hb.cell (p := ⟨b, off + j * 5 + c, none⟩) (World.block_lt_of_cell? w ⟨b, off + j * 5 + c, none⟩ this)).trans this
theorem envOpen {w : World} {n : Nat} {v : Value} {es : List (ByteArray × Ty)} (h : EnvAt w n v es) : ∃ av capv, v = .slice av es.length capv ∧ ∀ j (h : j < es.length), ∃ b off x0 x1 x2 x3, av = some ⟨b, off, none⟩ ∧ b < w.heap.size ∧ es[j].1.size ≤ maxLen ∧ TyAt w n [x0, x1, x2, x3] es[j].2 ∧ w.cell? ⟨b, off + j * 5, none⟩ = some (.string es[j].1) ∧ w.cell? ⟨b, off + j * 5 + 1, none⟩ = some x0 ∧ w.cell? ⟨b, off + j * 5 + 2, none⟩ = some x1 ∧ w.cell? ⟨b, off + j * 5 + 3, none⟩ = some x2 ∧ w.cell? ⟨b, off + j * 5 + 4, none⟩ = some x3 := by
 rcases h with ⟨h, a, cap, e⟩ | ⟨b, off, cap, e, hc⟩
 ·exact ⟨a, cap, by rw [h]; exact e, fun j hj => by rw [h] at hj; simp at hj⟩
 ·refine ⟨_, cap, e, fun j hj => ?_⟩
  obtain ⟨_, ⟨cs', rfl, hs, h1⟩, h2⟩ := hc j hj
  have hlen := h1.len
  match cs', hlen with
  | [x0, x1, x2, x3], _ => exact ⟨b, off, x0, x1, x2, x3, rfl, World.block_lt_of_cell? w ⟨b, off + j * 5 + 0, none⟩ (h2 0 _ rfl), hs, h1, h2 0 _ rfl, h2 1 x0 rfl, h2 2 x1 rfl, h2 3 x2 rfl, h2 4 x3 rfl⟩
def nmBulk (n : Nat) (e : ByteArray × Ty) : Nat := e.1.size + Ty.bulk n e.2
def envBulk (n : Nat) (es : List (ByteArray × Ty)) : Nat := es.length + (es.map (nmBulk n)).sum
theorem envSum_more (n : Nat) (es : List (ByteArray × Ty)) (k : Nat) (h : k < es.length) : ((es.take (k + 1)).map (nmBulk n)).sum = ((es.take k).map (nmBulk n)).sum + nmBulk n es[k] := by
 rw [List.take_succ_eq_append_getElem h, List.map_append, List.sum_append]
 simp
theorem envSum_le (n : Nat) (es : List (ByteArray × Ty)) (k : Nat) : ((es.take k).map (nmBulk n)).sum ≤ (es.map (nmBulk n)).sum := by
 have : es.map (nmBulk n) = (es.take k).map (nmBulk n) ++ (es.drop k).map (nmBulk n) := by rw [← List.map_append, List.take_append_drop]
 rw [this, List.sum_append]
 omega
theorem env_bulk (n : Nat) (es : List (ByteArray × Ty)) (k : Nat) (h : k < es.length) : es[k].1.size + Ty.bulk n es[k].2 ≤ envBulk n es := by
 have h1 := envSum_more n es k h
 have h2 := envSum_le n es (k + 1)
 unfold nmBulk at h1
 unfold envBulk nmBulk
 unfold nmBulk at h2
 omega
set_option maxHeartbeats 800000 in
set_option maxRecDepth 100000 in
theorem lawsSzNm (n : Nat) (nm : ByteArray) (x0 x1 x2 x3 : Value) (t : Ty) (left : Int) (w : World) (hs : nm.size ≤ maxLen) (h : TyAt w n [x0, x1, x2, x3] t) (h0 : 0 ≤ left) (h1 : left ≤ 1048576) :
  Calls Tryz.prog 47 #[.agg #[.string nm, x0, x1, x2, x3], .int .i64 left] w fun e w' => e = .returned (.int .i64 (leftOf (nm.size + Ty.bulk n t) left)) ∧ Below w.heap.size w w' := by
 have hB1 : Below w.heap.size w (w.alloc (.cells #[.string nm, x0, x1, x2, x3] 71)) := (Below.refl _ _).alloc (Nat.le_refl _) _
 have HT : Hid (∀ l : Int, 0 ≤ l → l ≤ 1048576 → Calls Tryz.prog 6 #[.agg #[x0, x1, x2, x3], .int .i64 l] (w.alloc (.cells #[.string nm, x0, x1, x2, x3] 71)) fun e w' => e = .returned (.int .i64 (leftOf (Ty.bulk n t) l)) ∧ Below (w.alloc (.cells #[.string nm, x0, x1, x2, x3] 71)).heap.size (w.alloc (.cells #[.string nm, x0, x1, x2, x3] 71)) w') := fun l a b => lawsSzTy n _ t l _ (h.below hB1) a b
 unfold maxLen at hs
 clear h
 generalize Ty.bulk n t = B at *
 by_cases d1 : left - (nm.size : Int) < 0
 ·have HR : Hid (leftOf (nm.size + B) left = -1) := if_neg (by omega)
  clear HT
  go_enter Tryz.func47, Tryz.ntmps47
  go_wp2_with fail
  go_ret
  exact ⟨by rw [HR.out]; rfl, hB1⟩
 ·have HT3 := HT.out (left - nm.size) (by omega) (by omega)
  by_cases d2 : ((nm.size + B : Nat) : Int) ≤ left
  ·have e2 : leftOf B (left - nm.size) = left - nm.size - B := if_pos (by omega)
   rw [e2] at HT3
   have HT4 : Hid (type_of% HT3) := HT3
   have HR : Hid (leftOf (nm.size + B) left = left - nm.size - B) := by
    show _ = _
    unfold leftOf
    rw [if_pos d2]
    omega
   have d2n : ¬ left - (nm.size : Int) - B < 0 := by omega
   clear HT3 HT e2 d2
   go_enter Tryz.func47, Tryz.ntmps47
   go_wp2_with fail
   refine HT4.out.mono ?_
   rintro e w2 ⟨rfl, hb2⟩
   go_wp2_with fail
   go_ret
   exact ⟨by rw [HR.out]; rfl, hB1.trans (hb2.mono (by simp))⟩
  ·have e2 : leftOf B (left - nm.size) = -1 := if_neg (by omega)
   rw [e2] at HT3
   have HT4 : Hid (type_of% HT3) := HT3
   have HR : Hid (leftOf (nm.size + B) left = -1) := if_neg d2
   clear HT3 HT e2 d2
   go_enter Tryz.func47, Tryz.ntmps47
   go_wp2_with fail
   refine HT4.out.mono ?_
   rintro e w2 ⟨rfl, hb2⟩
   go_wp2_with fail
   go_ret
   exact ⟨by rw [HR.out]; rfl, hB1.trans (hb2.mono (by simp))⟩
set_option maxHeartbeats 800000 in
set_option maxRecDepth 100000 in
theorem lawsSzEnv (n : Nat) (v : Value) (es : List (ByteArray × Ty)) (left : Int) (w : World) (hrow : EnvAt w n v es) (hkl : es.length ≤ maxLen) (h0 : 0 ≤ left) (h1 : left ≤ 1048576) :
  Calls Tryz.prog 29 #[v, .int .i64 left] w fun e w' => e = .returned (.int .i64 (leftOf (envBulk n es) left)) ∧ Below w.heap.size w w' := by
 unfold maxLen at hkl
 obtain ⟨av, capv, rfl, hel⟩ := envOpen hrow
 have HEL : Hid (type_of% hel) := hel
 clear hrow hel
 by_cases hneg : left - (es.length : Int) < 0
 ·have HR : Hid (leftOf (envBulk n es) left = -1) := if_neg (by unfold envBulk; omega)
  clear HEL
  go_enter Tryz.func29, Tryz.ntmps29
  go_wp2_with fail
  go_ret
  exact ⟨by rw [HR.out]; rfl, Below.refl _ _⟩
 ·go_enter Tryz.func29, Tryz.ntmps29
  go_wp2_with fail
  go_loopw [1, 5] (fun l i wr => ∃ k : Nat, k ≤ es.length ∧ i = .int .i64 k ∧ l = .int .i64 (left - es.length - (((es.take k).map (nmBulk n)).sum : Nat)) ∧ ((((es.take k).map (nmBulk n)).sum : Nat) : Int) ≤ left - es.length ∧ Below w.heap.size w wr) (fun _ i _ => es.length - (intOf i).toNat)
  case atStart => exact ⟨0, Nat.zero_le _, rfl, by simp, by simp; omega, Below.refl _ _⟩
  case round =>
   obtain ⟨k, hk, rfl, rfl, hle, hbe⟩ := hrel
   by_cases hlt : k < es.length
   ·obtain ⟨b, off, x0, x1, x2, x3, rfl, hbl, hsz, hty, q0, q1, q2, q3, q4⟩ := HEL.out k hlt
    have HM : Hid (((es.take (k + 1)).map (nmBulk n)).sum = ((es.take k).map (nmBulk n)).sum + nmBulk n es[k]) := envSum_more n es k hlt
    have HL : Hid (((es.take (k + 1)).map (nmBulk n)).sum ≤ (es.map (nmBulk n)).sum) := envSum_le n es (k + 1)
    have c0 := (hbe.cell (p := ⟨b, off + k * 5, none⟩) hbl).trans q0
    have c1 := (hbe.cell (p := ⟨b, off + k * 5 + 1, none⟩) hbl).trans q1
    have c2 := (hbe.cell (p := ⟨b, off + k * 5 + 2, none⟩) hbl).trans q2
    have c3 := (hbe.cell (p := ⟨b, off + k * 5 + 3, none⟩) hbl).trans q3
    have c4 := (hbe.cell (p := ⟨b, off + k * 5 + 4, none⟩) hbl).trans q4
    generalize hS : ((es.take k).map (nmBulk n)).sum = S at *
    have HC : Hid (Calls Tryz.prog 47 #[.agg #[.string es[k].1, x0, x1, x2, x3], .int .i64 (left - es.length - (S : Nat))] wr fun e w' => e = .returned (.int .i64 (leftOf (nmBulk n es[k]) (left - es.length - (S : Nat)))) ∧ Below wr.heap.size wr w') := lawsSzNm n _ x0 x1 x2 x3 _ _ wr hsz (hty.below hbe) (by omega) (by omega)
    clear hS hty hsz q0 q1 q2 q3 q4 HEL
    generalize nmBulk n es[k] = bk at *
    generalize es[k].1 = nm at *
    by_cases hbk : ((S + bk : Nat) : Int) ≤ left - es.length
    ·have e1 : leftOf bk (left - es.length - (S : Nat)) = left - es.length - ((S + bk : Nat) : Int) := by
      unfold leftOf
      rw [if_pos (by omega)]
      omega
     rw [e1] at HC
     have hnn : ¬ left - (es.length : Int) - ((S + bk : Nat) : Int) < 0 := by omega
     clear e1
     generalize hq : S + bk = Q at *
     have HQ : Hid (((es.take (k + 1)).map (nmBulk n)).sum = Q) := HM.out.trans rfl
     clear hq HM HL
     go_wp2_with fail
     refine HC.out.mono ?_
     rintro e w2 ⟨rfl, hb2⟩
     have hbe2 : Below w.heap.size w w2 := hbe.trans (hb2.mono hbe.size)
     go_wp2_with fail
     go_roundw
     case rel => exact ⟨k + 1, by omega, by go_num, by rw [HQ.out], by rw [HQ.out]; exact hbk, hbe2⟩
     case measure => simp [intOf]; omega
    ·have e1 : leftOf bk (left - es.length - (S : Nat)) = -1 := if_neg (by omega)
     rw [e1] at HC
     have HR : Hid (leftOf (envBulk n es) left = -1) := if_neg (by
      have h1 := HM.out
      have h2 := HL.out
      unfold envBulk
      omega)
     clear e1 HM HL
     go_wp2_with fail
     refine HC.out.mono ?_
     rintro e w2 ⟨rfl, hb2⟩
     have hbe2 : Below w.heap.size w w2 := hbe.trans (hb2.mono hbe.size)
     go_wp2_with fail
     go_ret
     exact ⟨by rw [HR.out]; rfl, hbe2⟩
   ·have hke : k = es.length := by omega
    subst hke
    rw [List.take_of_length_le (Nat.le_refl _)] at hle ⊢
    have HR : Hid (leftOf (envBulk n es) left = left - es.length - ((es.map (nmBulk n)).sum : Nat)) := by
     show _ = _
     unfold leftOf envBulk
     rw [if_pos (by omega)]
     omega
    generalize (es.map (nmBulk n)).sum = S at *
    clear HEL
    go_wp2_with fail
    go_ret
    exact ⟨by rw [HR.out]; rfl, hbe⟩
def EnvIn (w : World) (n : Nat) (lo hi : Nat) (v : Value) (es : List (ByteArray × Ty)) : Prop :=
 ∃ b cap, v = .slice (some ⟨b, 0, none⟩) es.length cap ∧ lo ≤ b ∧ b < hi ∧ (∃ cur e, w.heap[b]? = some (.cells cur e (0, 0))) ∧ ∃ L : Nat → Nat, (∀ j, j ≤ es.length → b < L j ∧ L j ≤ hi) ∧ (∀ i j, i ≤ j → j ≤ es.length → L i ≤ L j) ∧ ∀ j (h : j < es.length), es[j].1.size ≤ maxLen ∧ ∃ cs, TyIn w n (L j) (L (j + 1)) cs es[j].2 ∧ w.cell? ⟨b, j * 5, none⟩ = some (.string es[j].1) ∧ ∀ c u, cs[c]? = some u → w.cell? ⟨b, j * 5 + 1 + c, none⟩ = some u
theorem EnvIn.at {w : World} {n lo hi : Nat} {v : Value} {es : List (ByteArray × Ty)} (h : EnvIn w n lo hi v es) : EnvAt w n v es := by
 obtain ⟨b, cap, e, _, _, _, L, _, _, h5⟩ := h
 refine .inr ⟨b, 0, cap, e, fun j hj => ?_⟩
 obtain ⟨hs, cs, h1, h0, h2⟩ := h5 j hj
 refine ⟨.string es[j].1 :: cs, ⟨cs, rfl, hs, h1.at⟩, fun c u hu => ?_⟩
 cases c with
 | zero =>
  simp only [List.getElem?_cons_zero, Option.some.injEq] at hu
  subst hu
  rw [Nat.zero_add]; exact h0
 | succ c =>
  rw [List.getElem?_cons_succ] at hu
  have := h2 c u hu
  rw [show 0 + j * 5 + (c + 1) = j * 5 + 1 + c from by omega]
  exact this
def NewEnv (B H : Nat) (w : World) (n : Nat) (v : Value) (es : List (ByteArray × Ty)) : Prop := H ≤ w.heap.size ∧ ∀ w', Above B w w' → EnvIn w' n B H v es
theorem NewEnv.step {B H : Nat} {w w' : World} {n : Nat} {v : Value} {es : List (ByteArray × Ty)} (h : NewEnv B H w n v es) (ha : Above B w w') : NewEnv B H w' n v es := ⟨Nat.le_trans h.1 ha.1, fun w'' h2 => h.2 w'' (ha.trans h2)⟩
theorem NewEnv.at {B H : Nat} {w : World} {n : Nat} {v : Value} {es : List (ByteArray × Ty)} (h : NewEnv B H w n v es) : EnvAt w n v es := (h.2 w (Above.refl _ _)).at
theorem Tryz.infoNamed : (Tryz.prog.info? 75).map (fun i => (i.zero, i.size, i.bytes)) = some (some (.agg #[.string ⟨#[]⟩, .int .i64 0, .string ⟨#[]⟩, .slice none 0 0, .slice none 0 0]), 5, 88) := by kernel_rfl
def FilledE (B : Nat) (w : World) (n : Nat) (X : List Value) (es : List (ByteArray × Ty)) (k : Nat) : Prop :=
 ∃ L : Nat → Nat, (∀ j, j ≤ k → B ≤ L j ∧ L j ≤ w.heap.size) ∧ (∀ i j, i ≤ j → j ≤ k → L i ≤ L j) ∧ ∀ j (h : j < es.length), j < k → es[j].1.size ≤ maxLen ∧ ∃ x0 x1 x2 x3, X[j * 5]? = some (.string es[j].1) ∧ X[j * 5 + 1]? = some x0 ∧ X[j * 5 + 2]? = some x1 ∧ X[j * 5 + 3]? = some x2 ∧ X[j * 5 + 4]? = some x3 ∧ NewTy (L j) (L (j + 1)) w n [x0, x1, x2, x3] es[j].2
theorem FilledE.zero {B : Nat} {w : World} {n : Nat} {X : List Value} {es : List (ByteArray × Ty)} (h : B ≤ w.heap.size) : FilledE B w n X es 0 := ⟨fun _ => B, fun _ _ => ⟨Nat.le_refl _, h⟩, fun _ _ _ _ => Nat.le_refl _, fun j _ h => absurd h (by omega)⟩
theorem FilledE.row {g cap : Nat} {w : World} {n : Nat} {X : List Value} {es : List (ByteArray × Ty)} (hf : FilledE (g + 1) w n X es es.length) (ho : w.ownsRow g 75 5 (.slice (some ⟨g, 0, none⟩) es.length cap) es.length X) : NewEnv g w.heap.size w n (.slice (some ⟨g, 0, none⟩) es.length cap) es := ⟨Nat.le_refl _, fun w' ha => by
 have ho' := owns_above ho ha
 obtain ⟨L, hL, hm, hf⟩ := hf
 have h0 := hL 0 (Nat.zero_le _)
 have hcl : ∃ cur e, w'.heap[g]? = some (.cells cur e (0, 0)) := by
  rcases ho'.2 with ⟨h, _⟩ | ⟨g', cap', cur, hv, _, hh, _⟩
  ·simp at h
  ·simp only [Value.slice.injEq, Option.some.injEq, Addr.mk.injEq] at hv
   rw [← hv.1.1] at hh
   exact ⟨cur, _, hh⟩
 refine ⟨g, cap, rfl, Nat.le_refl _, by omega, hcl, L, fun j hj => ⟨by have := (hL j hj).1; omega, (hL j hj).2⟩, hm, fun j hj => ?_⟩
 obtain ⟨hs, x0, x1, x2, x3, e0, e1, e2, e3, e4, hn⟩ := hf j hj hj
 have hLj := (hL j (by omega)).1
 refine ⟨hs, [x0, x1, x2, x3], hn.2 w' (ha.mono (by omega)), ?_, fun c u hu => ?_⟩
 ·rw [ho'.cellAt (j * 5) (by omega), e0]
 have hc : c < 4 := by
  have := (List.getElem?_eq_some_iff.1 hu).1
  simpa using this
 rw [ho'.cellAt (j * 5 + 1 + c) (by omega)]
 match c, hc, hu with
 | 0, _, hu => rw [Nat.add_zero, e1]; exact hu
 | 1, _, hu => rw [e2]; exact hu
 | 2, _, hu => rw [e3]; exact hu
 | 3, _, hu => rw [e4]; exact hu⟩
theorem FilledE.more {B lo : Nat} {w w1 w' : World} {n : Nat} {X : List Value} {es : List (ByteArray × Ty)} {k : Nat} {y0 y1 y2 y3 y4 : Value} (hf : FilledE B w n X es k) (ha : Above B w w') (hk : k < es.length) (hX : X.length = es.length * 5) (hlo : w.heap.size ≤ lo) (hw1 : lo ≤ w1.heap.size) (hs : es[k].1.size ≤ maxLen) (h0 : y0 = .string es[k].1) (hy : NewTy lo w1.heap.size w' n [y1, y2, y3, y4] es[k].2) :
  FilledE B w' n (((((X.set (k * 5) y0).set (k * 5 + 1) y1).set (k * 5 + 2) y2).set (k * 5 + 3) y3).set (k * 5 + 4) y4) es (k + 1) := by
 obtain ⟨L, hL, hm, hf⟩ := hf
 have hLk := hL k (Nat.le_refl _)
 have hz := ha.1
 have hy1 := hy.1
 refine ⟨fun j => if j ≤ k then L j else w1.heap.size, fun j hj => ?_, fun i j hij hj => ?_, fun j hj hlt => ?_⟩
 ·by_cases c : j ≤ k
  ·simp only [if_pos c]
   have := hL j c
   omega
  ·simp only [if_neg c]
   omega
 ·by_cases c : j ≤ k
  ·simp only [if_pos c, if_pos (show i ≤ k by omega)]
   exact hm i j hij c
  ·simp only [if_neg c]
   by_cases d : i ≤ k
   ·simp only [if_pos d]
    have := hL i d
    omega
   ·simp only [if_neg d]; omega
 ·by_cases e : j = k
  ·subst e
   refine ⟨hs, y1, y2, y3, y4, ?_, ?_, ?_, ?_, ?_, ?_⟩
   ·rw [List.getElem?_set_ne (by omega), List.getElem?_set_ne (by omega), List.getElem?_set_ne (by omega), List.getElem?_set_ne (by omega), List.getElem?_set_self (by omega), h0]
   ·rw [List.getElem?_set_ne (by omega), List.getElem?_set_ne (by omega), List.getElem?_set_ne (by omega), List.getElem?_set_self (by rw [List.length_set]; omega)]
   ·rw [List.getElem?_set_ne (by omega), List.getElem?_set_ne (by omega), List.getElem?_set_self (by rw [List.length_set, List.length_set]; omega)]
   ·rw [List.getElem?_set_ne (by omega), List.getElem?_set_self (by rw [List.length_set, List.length_set, List.length_set]; omega)]
   ·rw [List.getElem?_set_self (by rw [List.length_set, List.length_set, List.length_set, List.length_set]; omega)]
   ·simp only [if_pos (Nat.le_refl j), if_neg (show ¬ j + 1 ≤ j by omega)]
    exact hy.mono (by omega)
  ·obtain ⟨hs', x0, x1, x2, x3, e0, e1, e2, e3, e4, hn⟩ := hf j hj (by omega)
   have s : ∀ c, c < 5 → (((((X.set (k * 5) y0).set (k * 5 + 1) y1).set (k * 5 + 2) y2).set (k * 5 + 3) y3).set (k * 5 + 4) y4)[j * 5 + c]? = X[j * 5 + c]? := fun c hc => by
    rw [List.getElem?_set_ne (by omega), List.getElem?_set_ne (by omega), List.getElem?_set_ne (by omega), List.getElem?_set_ne (by omega), List.getElem?_set_ne (by omega)]
   refine ⟨hs', x0, x1, x2, x3, (s 0 (by decide)).trans e0, (s 1 (by decide)).trans e1, (s 2 (by decide)).trans e2, (s 3 (by decide)).trans e3, (s 4 (by decide)).trans e4, ?_⟩
   simp only [if_pos (show j ≤ k by omega), if_pos (show j + 1 ≤ k by omega)]
   exact hn.step (ha.mono (hL j (by omega)).1)
theorem put5 {w0 : World} {b : Nat} {x0 x1 x2 x3 x4 : Value} (h : ∀ j, j < 5 → (w0.cell? ⟨b, j, none⟩).isSome = true) :
  (((((w0.setCell ⟨b, 0, none⟩ x0).setCell ⟨b, 1, none⟩ x1).setCell ⟨b, 2, none⟩ x2).setCell ⟨b, 3, none⟩ x3).setCell ⟨b, 4, none⟩ x4).cell? ⟨b, 0, none⟩ = some x0 ∧
  (((((w0.setCell ⟨b, 0, none⟩ x0).setCell ⟨b, 1, none⟩ x1).setCell ⟨b, 2, none⟩ x2).setCell ⟨b, 3, none⟩ x3).setCell ⟨b, 4, none⟩ x4).cell? ⟨b, 1, none⟩ = some x1 ∧
  (((((w0.setCell ⟨b, 0, none⟩ x0).setCell ⟨b, 1, none⟩ x1).setCell ⟨b, 2, none⟩ x2).setCell ⟨b, 3, none⟩ x3).setCell ⟨b, 4, none⟩ x4).cell? ⟨b, 2, none⟩ = some x2 ∧
  (((((w0.setCell ⟨b, 0, none⟩ x0).setCell ⟨b, 1, none⟩ x1).setCell ⟨b, 2, none⟩ x2).setCell ⟨b, 3, none⟩ x3).setCell ⟨b, 4, none⟩ x4).cell? ⟨b, 3, none⟩ = some x3 ∧
  (((((w0.setCell ⟨b, 0, none⟩ x0).setCell ⟨b, 1, none⟩ x1).setCell ⟨b, 2, none⟩ x2).setCell ⟨b, 3, none⟩ x3).setCell ⟨b, 4, none⟩ x4).cell? ⟨b, 4, none⟩ = some x4 := by
 have o : ∀ (w : World) (v : Value) (j k : Nat), j ≠ k → (w.setCell ⟨b, j, none⟩ v).cell? ⟨b, k, none⟩ = w.cell? ⟨b, k, none⟩ := fun w v j k hjk => World.cell?_setCell_other w _ _ v (fun e => hjk (by cases e; rfl))
 obtain ⟨p0, p1, p2, p3⟩ := put4T (w0 := w0) (b := b) (x0 := x0) (x1 := x1) (x2 := x2) (x3 := x3) (fun j hj => h j (by omega))
 refine ⟨?_, ?_, ?_, ?_, ?_⟩
 ·rw [o _ _ 4 0 (by decide)]; exact p0
 ·rw [o _ _ 4 1 (by decide)]; exact p1
 ·rw [o _ _ 4 2 (by decide)]; exact p2
 ·rw [o _ _ 4 3 (by decide)]; exact p3
 ·exact World.cell?_setCell_same' _ _ _ (by rw [o _ _ 3 4 (by decide), o _ _ 2 4 (by decide), o _ _ 1 4 (by decide), o _ _ 0 4 (by decide)]; exact h 4 (by decide))
theorem ret_nm {R : Ending → World → Prop} {W : World} {tmps : Array Value} {b : Nat} {x0 x1 x2 x3 x4 : Value} (hp : tmps[2]?.getD undef = .pointer (some ⟨b, 0, none⟩))
  (h : W.cell? ⟨b, 0, none⟩ = some x0 ∧ W.cell? ⟨b, 1, none⟩ = some x1 ∧ W.cell? ⟨b, 2, none⟩ = some x2 ∧ W.cell? ⟨b, 3, none⟩ = some x3 ∧ W.cell? ⟨b, 4, none⟩ = some x4) (hR : R (.returned (.agg #[x0, x1, x2, x3, x4])) W) :
  bodyPost Tryz.prog Tryz.f51 R .ret { tmps := tmps, defers := [] } W := by
 obtain ⟨h0, h1, h2, h3, h4⟩ := h
 refine bodyPost_ret (v := .agg #[x0, x1, x2, x3, x4]) ?_ rfl hR
 simp [results, Tryz.results51, go_sem, hp, h0, h1, h2, h3, h4]
set_option maxHeartbeats 1600000 in
set_option maxRecDepth 100000 in
theorem lawsToNm (n : Nat) (nm : ByteArray) (x0 x1 x2 x3 : Value) (t : Ty) (w : World) (h : TyAt w n [x0, x1, x2, x3] t) (hbk : Ty.bulk n t ≤ 1048576) :
  Calls Tryz.prog 51 #[.agg #[.string nm, x0, x1, x2, x3]] w fun e w' => ∃ an ln cn ak lk ck, e = .returned (.agg #[.string nm, .int .i64 t.kind, .string t.name, .slice an ln cn, .slice ak lk ck]) ∧ NewTy w.heap.size w'.heap.size w' n [.int .i64 t.kind, .string t.name, .slice an ln cn, .slice ak lk ck] t ∧ Below w.heap.size w w' := by
 have hB3 : Below w.heap.size w (((w.alloc (.cells #[.string nm, x0, x1, x2, x3] 71)).alloc (.cells #[.string ⟨#[]⟩, .int .i64 0, .string ⟨#[]⟩, .slice none 0 0, .slice none 0 0] 75)).alloc (.cells #[.string nm, .int .i64 0, .string ⟨#[]⟩, .slice none 0 0, .slice none 0 0] 75)) := (((Below.refl _ _).alloc (Nat.le_refl _) _).alloc (by simp) _).alloc (by simp; omega) _
 have h3 : (((w.alloc (.cells #[.string nm, x0, x1, x2, x3] 71)).alloc (.cells #[.string ⟨#[]⟩, .int .i64 0, .string ⟨#[]⟩, .slice none 0 0, .slice none 0 0] 75)).alloc (.cells #[.string nm, .int .i64 0, .string ⟨#[]⟩, .slice none 0 0, .slice none 0 0] 75)).heap.size = w.heap.size + 1 + 1 + 1 := by simp
 have HT : Hid (∀ wx : World, Below w.heap.size w wx → Calls Tryz.prog 8 #[.agg #[x0, x1, x2, x3]] wx fun e w' => ∃ an ln cn ak lk ck, e = .returned (.agg #[.int .i64 t.kind, .string t.name, .slice an ln cn, .slice ak lk ck]) ∧ NewTy wx.heap.size w'.heap.size w' n [.int .i64 t.kind, .string t.name, .slice an ln cn, .slice ak lk ck] t ∧ Below wx.heap.size wx w') := fun wx hx => lawsToTy n _ t wx (h.below hx) hbk
 have c2 : ∀ i, (((w.alloc (.cells #[.string nm, x0, x1, x2, x3] 71)).alloc (.cells #[.string ⟨#[]⟩, .int .i64 0, .string ⟨#[]⟩, .slice none 0 0, .slice none 0 0] 75)).alloc (.cells #[.string nm, .int .i64 0, .string ⟨#[]⟩, .slice none 0 0, .slice none 0 0] 75)).cell? ⟨w.heap.size + 1 + 1, i, none⟩ = #[.string nm, .int .i64 0, .string ⟨#[]⟩, .slice none 0 0, .slice none 0 0][i]? := fun i => cellNew _ (by simp)
 have c1 : ∀ i, (((w.alloc (.cells #[.string nm, x0, x1, x2, x3] 71)).alloc (.cells #[.string ⟨#[]⟩, .int .i64 0, .string ⟨#[]⟩, .slice none 0 0, .slice none 0 0] 75)).alloc (.cells #[.string nm, .int .i64 0, .string ⟨#[]⟩, .slice none 0 0, .slice none 0 0] 75)).cell? ⟨w.heap.size + 1, i, none⟩ = #[.string ⟨#[]⟩, .int .i64 0, .string ⟨#[]⟩, .slice none 0 0, .slice none 0 0][i]? := fun i => by rw [cellOld _ (by simp), cellNew _ (by simp)]
 have f2 : ∀ i, (((w.alloc (.cells #[.string nm, x0, x1, x2, x3] 71)).alloc (.cells #[.string ⟨#[]⟩, .int .i64 0, .string ⟨#[]⟩, .slice none 0 0, .slice none 0 0] 75)).alloc (.cells #[.string nm, .int .i64 0, .string ⟨#[]⟩, .slice none 0 0, .slice none 0 0] 75)).frozen? ⟨w.heap.size + 1 + 1, i, none⟩ = false := fun i => frozenNew _ (by simp)
 have f1 : ∀ i, (((w.alloc (.cells #[.string nm, x0, x1, x2, x3] 71)).alloc (.cells #[.string ⟨#[]⟩, .int .i64 0, .string ⟨#[]⟩, .slice none 0 0, .slice none 0 0] 75)).alloc (.cells #[.string nm, .int .i64 0, .string ⟨#[]⟩, .slice none 0 0, .slice none 0 0] 75)).frozen? ⟨w.heap.size + 1, i, none⟩ = false := fun i => by rw [frozenOld _ (by simp), frozenNew _ (by simp)]
 clear h hbk
 go_enter Tryz.func51, Tryz.ntmps51
 go_wp2_with fail
 generalize (((w.alloc (.cells #[.string nm, x0, x1, x2, x3] 71)).alloc (.cells #[.string ⟨#[]⟩, .int .i64 0, .string ⟨#[]⟩, .slice none 0 0, .slice none 0 0] 75)).alloc (.cells #[.string nm, .int .i64 0, .string ⟨#[]⟩, .slice none 0 0, .slice none 0 0] 75)) = W3 at *
 refine (HT.out _ hB3).mono ?_
 rintro e w2 ⟨an, ln, cn, ak, lk, ck, rfl, hnw, hb2⟩
 have hbw2 : Below w.heap.size w w2 := hB3.trans (hb2.mono (by omega))
 have s1 : w.heap.size + 1 < W3.heap.size := by omega
 have s2 : w.heap.size + 1 + 1 < W3.heap.size := by omega
 have a0 : w2.cell? ⟨w.heap.size + 1 + 1, 0, none⟩ = some (.string nm) := (hb2.cell (p := ⟨w.heap.size + 1 + 1, 0, none⟩) s2).trans (c2 0)
 have a1 : w2.cell? ⟨w.heap.size + 1 + 1, 1, none⟩ = some (.int .i64 0) := (hb2.cell (p := ⟨w.heap.size + 1 + 1, 1, none⟩) s2).trans (c2 1)
 have a2 : w2.cell? ⟨w.heap.size + 1 + 1, 2, none⟩ = some (.string ⟨#[]⟩) := (hb2.cell (p := ⟨w.heap.size + 1 + 1, 2, none⟩) s2).trans (c2 2)
 have a3 : w2.cell? ⟨w.heap.size + 1 + 1, 3, none⟩ = some (.slice none 0 0) := (hb2.cell (p := ⟨w.heap.size + 1 + 1, 3, none⟩) s2).trans (c2 3)
 have a4 : w2.cell? ⟨w.heap.size + 1 + 1, 4, none⟩ = some (.slice none 0 0) := (hb2.cell (p := ⟨w.heap.size + 1 + 1, 4, none⟩) s2).trans (c2 4)
 have b0 : w2.cell? ⟨w.heap.size + 1, 0, none⟩ = some (.string ⟨#[]⟩) := (hb2.cell (p := ⟨w.heap.size + 1, 0, none⟩) s1).trans (c1 0)
 have b1 : w2.cell? ⟨w.heap.size + 1, 1, none⟩ = some (.int .i64 0) := (hb2.cell (p := ⟨w.heap.size + 1, 1, none⟩) s1).trans (c1 1)
 have b2 : w2.cell? ⟨w.heap.size + 1, 2, none⟩ = some (.string ⟨#[]⟩) := (hb2.cell (p := ⟨w.heap.size + 1, 2, none⟩) s1).trans (c1 2)
 have b3 : w2.cell? ⟨w.heap.size + 1, 3, none⟩ = some (.slice none 0 0) := (hb2.cell (p := ⟨w.heap.size + 1, 3, none⟩) s1).trans (c1 3)
 have b4 : w2.cell? ⟨w.heap.size + 1, 4, none⟩ = some (.slice none 0 0) := (hb2.cell (p := ⟨w.heap.size + 1, 4, none⟩) s1).trans (c1 4)
 have g1 := (hb2.frozen (p := ⟨w.heap.size + 1 + 1, 1, none⟩) s2).trans (f2 1)
 have g2 := (hb2.frozen (p := ⟨w.heap.size + 1 + 1, 2, none⟩) s2).trans (f2 2)
 have g3 := (hb2.frozen (p := ⟨w.heap.size + 1 + 1, 3, none⟩) s2).trans (f2 3)
 have g4 := (hb2.frozen (p := ⟨w.heap.size + 1 + 1, 4, none⟩) s2).trans (f2 4)
 have d0 := (hb2.frozen (p := ⟨w.heap.size + 1, 0, none⟩) s1).trans (f1 0)
 have d1 := (hb2.frozen (p := ⟨w.heap.size + 1, 1, none⟩) s1).trans (f1 1)
 have d2 := (hb2.frozen (p := ⟨w.heap.size + 1, 2, none⟩) s1).trans (f1 2)
 have d3 := (hb2.frozen (p := ⟨w.heap.size + 1, 3, none⟩) s1).trans (f1 3)
 have d4 := (hb2.frozen (p := ⟨w.heap.size + 1, 4, none⟩) s1).trans (f1 4)
 have HNW : Hid (type_of% hnw) := hnw
 clear hnw c1 c2 f1 f2 hb2 HT hB3
 go_wp2_with fail
 have hAb : Above (w.heap.size + 1 + 1 + 1) w2 (((((((((w2.setCell ⟨w.heap.size + 1 + 1, 1, none⟩ (.int .i64 t.kind)).setCell ⟨w.heap.size + 1 + 1, 2, none⟩ (.string t.name)).setCell ⟨w.heap.size + 1 + 1, 3, none⟩ (.slice an ln cn)).setCell ⟨w.heap.size + 1 + 1, 4, none⟩ (.slice ak lk ck)).setCell ⟨w.heap.size + 1, 0, none⟩ (.string nm)).setCell ⟨w.heap.size + 1, 1, none⟩ (.int .i64 t.kind)).setCell ⟨w.heap.size + 1, 2, none⟩ (.string t.name)).setCell ⟨w.heap.size + 1, 3, none⟩ (.slice an ln cn)).setCell ⟨w.heap.size + 1, 4, none⟩ (.slice ak lk ck)) :=
  ((((((((Above.set _ _ _ (by simp)).trans (Above.set _ _ _ (by simp))).trans (Above.set _ _ _ (by simp))).trans (Above.set _ _ _ (by simp))).trans (Above.set _ _ _ (by simp))).trans (Above.set _ _ _ (by simp))).trans (Above.set _ _ _ (by simp))).trans (Above.set _ _ _ (by simp))).trans (Above.set _ _ _ (by simp))
 refine ret_nm (b := w.heap.size + 1) rfl (put5 ?_) ⟨_, _, _, _, _, _, rfl, ?_, ?_⟩
 ·intro j hj
  rw [World.cell?_setCell_other _ _ _ _ (by simp), World.cell?_setCell_other _ _ _ _ (by simp), World.cell?_setCell_other _ _ _ _ (by simp), World.cell?_setCell_other _ _ _ _ (by simp)]
  match j, hj with
  | 0, _ => rw [b0]; rfl
  | 1, _ => rw [b1]; rfl
  | 2, _ => rw [b2]; rfl
  | 3, _ => rw [b3]; rfl
  | 4, _ => rw [b4]; rfl
 ·have h9 := (HNW.out.step (hAb.mono (by omega))).mono (B' := w.heap.size) (by omega)
  have e9 : (((((((((w2.setCell ⟨w.heap.size + 1 + 1, 1, none⟩ (.int .i64 t.kind)).setCell ⟨w.heap.size + 1 + 1, 2, none⟩ (.string t.name)).setCell ⟨w.heap.size + 1 + 1, 3, none⟩ (.slice an ln cn)).setCell ⟨w.heap.size + 1 + 1, 4, none⟩ (.slice ak lk ck)).setCell ⟨w.heap.size + 1, 0, none⟩ (.string nm)).setCell ⟨w.heap.size + 1, 1, none⟩ (.int .i64 t.kind)).setCell ⟨w.heap.size + 1, 2, none⟩ (.string t.name)).setCell ⟨w.heap.size + 1, 3, none⟩ (.slice an ln cn)).setCell ⟨w.heap.size + 1, 4, none⟩ (.slice ak lk ck)).heap.size = w2.heap.size := by simp
  rw [e9]
  exact h9
 ·exact ((((((((hbw2.setCell (by simp; omega) _).setCell (by simp; omega) _).setCell (by simp; omega) _).setCell (by simp; omega) _).setCell (by simp) _).setCell (by simp) _).setCell (by simp) _).setCell (by simp) _).setCell (by simp) _
set_option maxHeartbeats 1600000 in
set_option maxRecDepth 100000 in
theorem lawsToEnv (n : Nat) (v : Value) (es : List (ByteArray × Ty)) (w : World) (hrow : EnvAt w n v es) (hkl : envBulk n es ≤ 1048576) :
  Calls Tryz.prog 33 #[v] w fun e w' => e = .returned (.slice (some ⟨w.heap.size, 0, none⟩) es.length es.length) ∧ NewEnv w.heap.size w'.heap.size w' n (.slice (some ⟨w.heap.size, 0, none⟩) es.length es.length) es ∧ Below w.heap.size w w' := by
 obtain ⟨i0, hi, hz0, hz1, hz2⟩ := info_parts Tryz.infoNamed
 obtain ⟨a, capa, rfl, ha⟩ := envOpen hrow
 have HEA : Hid (type_of% ha) := ha
 have hlen : es.length ≤ 1048576 := by unfold envBulk at hkl; omega
 clear hrow ha
 go_enter Tryz.func33, Tryz.ntmps33
 go_wp2_with (at_make; refine wpList_make_full _ rfl _ _ 39 rfl w.heap.size 75 i0 (.agg #[.string ⟨#[]⟩, .int .i64 0, .string ⟨#[]⟩, .slice none 0 0, .slice none 0 0]) 5 Tryz.underlying39 hi hz0 hz1 .i64 .i64 _ _ es.length rfl rfl rfl rfl (by rw [hz2]; omega) (by unfold maxLen; omega) (Nat.le_refl _) ?_)
 intro w1 hown hgrow
 have hB : Below w.heap.size w w1 := (Below.refl _ _).grown hgrow (Nat.le_refl _) (fun k hk => by cases hk)
 obtain ⟨X, hX⟩ : ∃ X, w1.ownsRow w.heap.size 75 5 (.slice (some ⟨w.heap.size, 0, none⟩) es.length es.length) es.length X := ⟨_, hown⟩
 have hw1 : w.heap.size + 1 ≤ w1.heap.size := by have := (hX.lt w.heap.size rfl).2; omega
 have HX : Hid (type_of% hX) := hX
 clear hown hgrow hX
 go_wp2_with fail
 go_loopw [4] (fun i wr => ∃ (k : Nat) (X : List Value), k ≤ es.length ∧ i = .int .i64 k ∧ wr.ownsRow w.heap.size 75 5 (.slice (some ⟨w.heap.size, 0, none⟩) es.length es.length) es.length X ∧ FilledE (w.heap.size + 1) wr n X es k ∧ Below w.heap.size w wr ∧ w.heap.size + 1 ≤ wr.heap.size) (fun i _ => es.length - (intOf i).toNat)
 case atStart => exact ⟨0, X, Nat.zero_le _, rfl, HX.out, FilledE.zero hw1, hB, hw1⟩
 case round =>
  obtain ⟨k, Y, hk, rfl, ho, hfil, hbe, hsz⟩ := hrel
  clear HX hB hw1
  have HF : Hid (type_of% hfil) := hfil
  clear hfil
  have hYl : Y.length = es.length * 5 := ho.1
  by_cases hlt : k < es.length
  ·obtain ⟨ba, oa, x0, x1, x2, x3, rfl, hba, hsn, hta, a0, a1, a2, a3, a4⟩ := HEA.out k hlt
   have A0 := (hbe.cell (p := ⟨ba, oa + k * 5, none⟩) hba).trans a0
   have A1 := (hbe.cell (p := ⟨ba, oa + k * 5 + 1, none⟩) hba).trans a1
   have A2 := (hbe.cell (p := ⟨ba, oa + k * 5 + 2, none⟩) hba).trans a2
   have A3 := (hbe.cell (p := ⟨ba, oa + k * 5 + 3, none⟩) hba).trans a3
   have A4 := (hbe.cell (p := ⟨ba, oa + k * 5 + 4, none⟩) hba).trans a4
   have hbk := env_bulk n es k hlt
   have HC0 := lawsToNm n es[k].1 x0 x1 x2 x3 es[k].2 wr (hta.below hbe) (by omega)
   have HC : Hid (type_of% HC0) := HC0
   have HSN : Hid (type_of% hsn) := hsn
   clear a0 a1 a2 a3 a4 HEA hta hbk HC0 hsn
   go_wp2_with fail
   refine HC.out.mono ?_
   rintro e w2 ⟨an, ln, cn, ak, lk, ck, rfl, hnew, hb2⟩
   have HNW : Hid (type_of% hnew) := hnew
   have o1 := kept_belowT ho hb2
   have hbe2 : Below w.heap.size w w2 := hbe.trans (hb2.mono (by omega))
   have hsz2 : w.heap.size + 1 ≤ w2.heap.size := Nat.le_trans hsz hb2.size
   have ab2 : Above (w.heap.size + 1) wr w2 := Above.of_below hb2
   have hw12 : wr.heap.size ≤ w2.heap.size := hb2.size
   clear hnew ho hbe hb2 HC
   generalize hn0 : Value.string es[k].1 = z0 at *
   generalize hkd : Value.int .i64 es[k].2.kind = y0 at *
   generalize hnm : Value.string es[k].2.name = y1 at *
   generalize hnn : Value.slice an ln cn = y2 at *
   generalize hkk : Value.slice ak lk ck = y3 at *
   have f1 := o1.frozenAt (k * 5)
   have q1 : ∃ u, w2.cell? ⟨w.heap.size, k * 5, none⟩ = some u := by rw [o1.cellAt (k * 5) (by omega)]; exact ⟨_, List.getElem?_eq_getElem (by omega)⟩
   obtain ⟨u1, q1⟩ := q1
   obtain ⟨o2, _⟩ := o1.stored (k * 5) z0
   have f2 := o2.frozenAt (k * 5 + 1)
   have q2 : ∃ u, (w2.setCell ⟨w.heap.size, k * 5, none⟩ z0).cell? ⟨w.heap.size, k * 5 + 1, none⟩ = some u := by rw [o2.cellAt (k * 5 + 1) (by omega)]; exact ⟨_, List.getElem?_eq_getElem (by simp; omega)⟩
   obtain ⟨u2, q2⟩ := q2
   obtain ⟨o3, _⟩ := o2.stored (k * 5 + 1) y0
   have f3 := o3.frozenAt (k * 5 + 2)
   have q3 : ∃ u, ((w2.setCell ⟨w.heap.size, k * 5, none⟩ z0).setCell ⟨w.heap.size, k * 5 + 1, none⟩ y0).cell? ⟨w.heap.size, k * 5 + 2, none⟩ = some u := by rw [o3.cellAt (k * 5 + 2) (by omega)]; exact ⟨_, List.getElem?_eq_getElem (by simp; omega)⟩
   obtain ⟨u3, q3⟩ := q3
   obtain ⟨o4, _⟩ := o3.stored (k * 5 + 2) y1
   have f4 := o4.frozenAt (k * 5 + 3)
   have q4 : ∃ u, (((w2.setCell ⟨w.heap.size, k * 5, none⟩ z0).setCell ⟨w.heap.size, k * 5 + 1, none⟩ y0).setCell ⟨w.heap.size, k * 5 + 2, none⟩ y1).cell? ⟨w.heap.size, k * 5 + 3, none⟩ = some u := by rw [o4.cellAt (k * 5 + 3) (by omega)]; exact ⟨_, List.getElem?_eq_getElem (by simp; omega)⟩
   obtain ⟨u4, q4⟩ := q4
   obtain ⟨o5, _⟩ := o4.stored (k * 5 + 3) y2
   have f5 := o5.frozenAt (k * 5 + 4)
   have q5 : ∃ u, ((((w2.setCell ⟨w.heap.size, k * 5, none⟩ z0).setCell ⟨w.heap.size, k * 5 + 1, none⟩ y0).setCell ⟨w.heap.size, k * 5 + 2, none⟩ y1).setCell ⟨w.heap.size, k * 5 + 3, none⟩ y2).cell? ⟨w.heap.size, k * 5 + 4, none⟩ = some u := by rw [o5.cellAt (k * 5 + 4) (by omega)]; exact ⟨_, List.getElem?_eq_getElem (by simp; omega)⟩
   obtain ⟨u5, q5⟩ := q5
   obtain ⟨o6, _⟩ := o5.stored (k * 5 + 4) y3
   have ab3 : Above (w.heap.size + 1) w2 (((((w2.setCell ⟨w.heap.size, k * 5, none⟩ z0).setCell ⟨w.heap.size, k * 5 + 1, none⟩ y0).setCell ⟨w.heap.size, k * 5 + 2, none⟩ y1).setCell ⟨w.heap.size, k * 5 + 3, none⟩ y2).setCell ⟨w.heap.size, k * 5 + 4, none⟩ y3) :=
    ((((Above.set _ _ _ (by simp)).trans (Above.set _ _ _ (by simp))).trans (Above.set _ _ _ (by simp))).trans (Above.set _ _ _ (by simp))).trans (Above.set _ _ _ (by simp))
   have HR1 : Hid (type_of% o6) := o6
   have HR2 : Hid (FilledE (w.heap.size + 1) _ n _ es (k + 1)) := HF.out.more (ab2.trans ab3) hlt hYl (Nat.le_refl _) hw12 HSN.out hn0.symm (HNW.out.step (ab3.mono hsz))
   have HR3 : Hid (Below w.heap.size w (((((w2.setCell ⟨w.heap.size, k * 5, none⟩ z0).setCell ⟨w.heap.size, k * 5 + 1, none⟩ y0).setCell ⟨w.heap.size, k * 5 + 2, none⟩ y1).setCell ⟨w.heap.size, k * 5 + 3, none⟩ y2).setCell ⟨w.heap.size, k * 5 + 4, none⟩ y3)) := ((((hbe2.setCell (Nat.le_refl _) _).setCell (Nat.le_refl _) _).setCell (Nat.le_refl _) _).setCell (Nat.le_refl _) _).setCell (Nat.le_refl _) _
   have HR4 : w.heap.size + 1 ≤ (((((w2.setCell ⟨w.heap.size, k * 5, none⟩ z0).setCell ⟨w.heap.size, k * 5 + 1, none⟩ y0).setCell ⟨w.heap.size, k * 5 + 2, none⟩ y1).setCell ⟨w.heap.size, k * 5 + 3, none⟩ y2).setCell ⟨w.heap.size, k * 5 + 4, none⟩ y3).heap.size := by simpa using hsz2
   clear o1 o2 o3 o4 o5 o6 ab2 ab3 HNW HF hbe2 hsz2 hsz hw12
   subst hn0 hkd hnm hnn hkk
   go_wp2_with fail
   go_roundw
   case rel => exact ⟨k + 1, _, by omega, by go_num, HR1.out, HR2.out, HR3.out, HR4⟩
   case measure => simp [intOf]; omega
  ·have hke : k = es.length := by omega
   subst hke
   have HR : Hid (NewEnv w.heap.size wr.heap.size wr n (.slice (some ⟨w.heap.size, 0, none⟩) es.length es.length) es) := HF.out.row ho
   clear HF HEA ho
   go_wp2_with fail
   go_ret
   exact ⟨rfl, HR.out, hbe⟩
end Go.Proofs.YtbojmbeopnlmiaaGreatDoor
