/-
  The walks of the draws l03Mostly and DrawUnion, given the one of l03Any. An append of one type to a row whose types may share memory with it: what lies there stays. The walk of the draw l03Any: a type that may be spoilt.
  At every list of bytes that is drawn by (of more than 1048576 the law itself says true): the union of the drawn types is what the specification tells, it is the same when it is told with itself and the types in the other order, it is right, and of one type alone it is that type; and nothing that was there has turned. Its condition: impl's listed table of classes holds what the program's text lays into it, which the card ties to that text.
-/
import Derived.Test.YthomlchbgcjcfaaGreatDoorDrT
import Derived.Test.YthomlchbgcjcfaaGreatDoorUnQ
import Derived.Test.YthomlchbgcjcfaaGreatDoorCopyS
import Derived.ArgAppend
import Derived.Deep.AppendLies
import Derived.Test.YthomlchbgcjcfaaGreatDoorCards
import Derived.Test.YthomlchbgcjcfaaGreatDoorTie
import Derived.Lib.LaidTab
import Derived.ProofKit
import Derived.OpenShut
import Derived.ShutString
import Derived.ChangeOld
import Derived.Deep.DeepHandedRow
import Derived.OpenVars
import Derived.ChangeVars
namespace Go.Proofs.YthomlchbgcjcfaaGreatDoor
open Go.RowKit

/-- what l03Any does -/
def DrAnyAt (B cb : Nat) (a : Option Addr) (len cap : Nat) : Prop := ∀ w, Cur B w cb a len cap → Calls Tryz.prog 22 #[.pointer (some ⟨cb, 0, none⟩)] w (DrTy B cb a len cap w 16 400)

/-- a type that lies so deep lies deeper, too -/
theorem lay_deeper (k : Nat) {w : World} {n : Nat} {l : Lay} {t : Ty} (h : LayAt w n l t) (hs : Ty.sized n t) : LayAt w (n + k) l t ∧ Lay.blocks (n + k) l = Lay.blocks n l ∧ Ty.sized (n + k) t ∧ Ty.bulk (n + k) t = Ty.bulk n t := by
  induction k with
  | zero => exact ⟨h, rfl, hs, rfl⟩
  | succ k ih =>
    obtain ⟨h1, h2, h3, h4⟩ := ih
    exact ⟨h1.up.1, h1.up.2.trans h2, sized_up h3, (bulk_sz h3).trans h4⟩
theorem DrTy.deeper {B cb : Nat} {a : Option Addr} {len cap : Nat} {w : World} {n m m' : Nat} {e : Ending} {w' : World} (k : Nat) (h : DrTy B cb a len cap w n m e w') (hm : m ≤ m') : DrTy B cb a len cap w (n + k) m' e w' := by
  obtain ⟨l, t, he, hl, hb, hs, ⟨hbk, hv⟩, hC, hg⟩ := h
  obtain ⟨h1, h2, h3, h4⟩ := lay_deeper k hl hs
  exact ⟨l, t, he, h1, fun b hb' => hb b (by rw [← h2]; exact hb'), h3, ⟨by omega, hv⟩, hC, hg⟩

theorem ret_drM {R : Ending → World → Prop} {w0 : World} {tmps : Array Value} {b : Nat} {x0 x1 x2 x3 : Value} (hp : tmps[2]?.getD undef = .pointer (some ⟨b, 0, none⟩))
    (h : ∀ j, j < 4 → (w0.cell? ⟨b, j, none⟩).isSome = true) (hR : R (.returned (.agg #[x0, x1, x2, x3])) ((((w0.setCell ⟨b, 0, none⟩ x0).setCell ⟨b, 1, none⟩ x1).setCell ⟨b, 2, none⟩ x2).setCell ⟨b, 3, none⟩ x3)) :
    bodyPost Tryz.prog Tryz.f12 R .ret { tmps := tmps, defers := [] } ((((w0.setCell ⟨b, 0, none⟩ x0).setCell ⟨b, 1, none⟩ x1).setCell ⟨b, 2, none⟩ x2).setCell ⟨b, 3, none⟩ x3) := by
  obtain ⟨h0, h1, h2, h3⟩ := put4T (x0 := x0) (x1 := x1) (x2 := x2) (x3 := x3) h
  generalize ((((w0.setCell ⟨b, 0, none⟩ x0).setCell ⟨b, 1, none⟩ x1).setCell ⟨b, 2, none⟩ x2).setCell ⟨b, 3, none⟩ x3) = W at *
  refine bodyPost_ret (v := .agg #[x0, x1, x2, x3]) ?_ rfl hR
  simp [results, Tryz.results12, go_sem, hp, h0, h1, h2, h3]

set_option maxHeartbeats 1600000 in
set_option maxRecDepth 100000 in
theorem drawMostly (B cb : Nat) (a : Option Addr) (len cap : Nat) (hA : DrAnyAt B cb a len cap) (w : World) (hC : Cur B w cb a len cap) :
    Calls Tryz.prog 12 #[.pointer (some ⟨cb, 0, none⟩)] w (DrTy B cb a len cap w 16 400) := by
  have hlt0 := hC.ltC
  have hhere := hC.here
  have HC : Hid (Cur B w cb a len cap) := hC
  have hbx : (w.alloc (.cells #[.int .i64 0, .string ⟨#[]⟩, .slice none 0 0, .slice none 0 0] 28)).heap[w.heap.size]? = some (.cells #[.int .i64 0, .string ⟨#[]⟩, .slice none 0 0, .slice none 0 0] 28 (0, 0)) := heap_alloc_new w _
  clear hC
  go_enter Tryz.func12, Tryz.ntmps12
  go_wp2_with fail
  refine (drawOnce B cb a len cap _ 10 (HC.out.allocC _) (by omega)).mono ?_
  rintro e w1 ⟨x, rfl, hC1, hg1⟩
  have hs1 : w.heap.size + 1 ≤ w1.heap.size := by have := hg1.size; simpa using this
  have hbx1 := (hg1.block w.heap.size (by simp) (by simp; omega)).trans hbx
  have HC1 : Hid (Cur B w1 cb a len cap ∧ w.grownBy w1 (some cb)) := ⟨hC1, grown_trans (World.grownBy_alloc _ _ _) hg1⟩
  have HTY : Hid (type_of% ((drawType B cb a len cap 3 (by omega)) w1 hC1)) := (drawType B cb a len cap 3 (by omega)) w1 hC1
  have HAN : Hid (type_of% (hA w1 hC1)) := hA w1 hC1
  have HEND : Hid (∀ (w3 : World) (e : Ending), DrTy B cb a len cap w1 16 400 e w3 → ∃ (x0 x1 x2 x3 : Value), (∃ (kd : Int) (nm : ByteArray) (an : Option Addr) (ln cn : Nat) (ak : Option Addr) (lk ck : Nat), x0 = .int .i64 kd ∧ x1 = .string nm ∧ x2 = .slice an ln cn ∧ x3 = .slice ak lk ck) ∧ e = .returned (.agg #[x0, x1, x2, x3]) ∧ w3.heap[w.heap.size]? = some (.cells #[.int .i64 0, .string ⟨#[]⟩, .slice none 0 0, .slice none 0 0] 28 (0, 0)) ∧ DrTy B cb a len cap w 16 400 (.returned (.agg #[x0, x1, x2, x3])) ((((w3.setCell ⟨w.heap.size, 0, none⟩ x0).setCell ⟨w.heap.size, 1, none⟩ x1).setCell ⟨w.heap.size, 2, none⟩ x2).setCell ⟨w.heap.size, 3, none⟩ x3)) := fun w3 e h => by
    obtain ⟨kd, nm, an, ln, cn, ak, lk, ck, he, ⟨l, t, hcl, hll, hlb, hsz, hbk, hvd⟩, hC3, hg3⟩ := h.told
    refine ⟨_, _, _, _, ⟨kd, nm, an, ln, cn, ak, lk, ck, rfl, rfl, rfl, rfl⟩, he, (hg3.block w.heap.size (by omega) (by simp; omega)).trans hbx1, ?_⟩
    exact dr_end HC.out hll (fun b hb => by have := hlb b hb; omega) hsz ⟨hbk, hvd⟩ hC3 (grown_trans HC1.out.2 hg3) (by rw [hcl])
  clear hC1 hg1 hbx hbx1 hA
  cases x
  · go_wp2_with fail
    refine HTY.out.mono ?_
    rintro e w3 h3
    obtain ⟨x0, x1, x2, x3, ⟨kd, nm, an, ln, cn, ak, lk, ck, rfl, rfl, rfl, rfl⟩, rfl, hbx3, hfin⟩ := HEND.out w3 e (h3.deeper 12 (by decide))
    obtain ⟨⟨rc0, rc1, rc2, rc3⟩, rf⟩ := block4 hbx3
    have rf0 := rf 0
    have rf1 := rf 1
    have rf2 := rf 2
    have rf3 := rf 3
    have HF : Hid (type_of% hfin) := hfin
    clear h3 hfin HEND HTY HAN HC1 HC
    go_wp2_with fail
    refine ret_drM rfl (fun j hj => ?_) HF.out
    match j, hj with
    | 0, _ => rw [rc0]; rfl
    | 1, _ => rw [rc1]; rfl
    | 2, _ => rw [rc2]; rfl
    | 3, _ => rw [rc3]; rfl
  · go_wp2_with fail
    refine HAN.out.mono ?_
    rintro e w3 h3
    obtain ⟨x0, x1, x2, x3, ⟨kd, nm, an, ln, cn, ak, lk, ck, rfl, rfl, rfl, rfl⟩, rfl, hbx3, hfin⟩ := HEND.out w3 e h3
    obtain ⟨⟨rc0, rc1, rc2, rc3⟩, rf⟩ := block4 hbx3
    have rf0 := rf 0
    have rf1 := rf 1
    have rf2 := rf 2
    have rf3 := rf 3
    have HF : Hid (type_of% hfin) := hfin
    clear h3 hfin HEND HTY HAN HC1 HC
    go_wp2_with fail
    refine ret_drM rfl (fun j hj => ?_) HF.out
    match j, hj with
    | 0, _ => rw [rc0]; rfl
    | 1, _ => rw [rc1]; rfl
    | 2, _ => rw [rc2]; rfl
    | 3, _ => rw [rc3]; rfl

set_option maxHeartbeats 1600000 in
set_option maxRecDepth 100000 in
theorem drawUnion (a : Option Addr) (len cap : Nat) (w : World) (hL : CodeL w a len) (hA : ∀ B cb, DrAnyAt B cb a len cap) :
    Calls Tryz.prog 5 #[.slice a len cap] w (DrUn 16 400 w) := by
  obtain ⟨i0, hi0, hz0, hz1, hz2⟩ := info_parts Tryz.infoTypeC
  have HN : Hid (type_of% (drawNew a len cap w hL.low hL.code hL.size)) := drawNew a len cap w hL.low hL.code hL.size
  have HMO : Hid (∀ wx, Cur w.heap.size wx w.heap.size a len cap → Calls Tryz.prog 12 #[.pointer (some ⟨w.heap.size, 0, none⟩)] wx (DrTy w.heap.size w.heap.size a len cap wx 16 400)) := fun wx h => drawMostly w.heap.size w.heap.size a len cap (hA _ _) wx h
  clear hL hA
  go_enter Tryz.func5, Tryz.ntmps5
  go_wp2_with fail
  refine HN.out.mono ?_
  rintro e w1 ⟨rfl, hC1, hb1⟩
  have hlt1 := hC1.ltC
  have HC1 : Hid (type_of% hC1) := hC1
  clear hC1 HN
  go_wp2_with fail
  refine (drawBelow w.heap.size w.heap.size a len cap _ 5 (HC1.out.allocC _) (by omega)).mono ?_
  rintro e w2 ⟨y, rfl, hy0, hy1, _, hC2, hg2⟩
  have hy2 := hy1 (by omega)
  obtain ⟨N, rfl⟩ := Int.eq_ofNat_of_zero_le hy0
  have hN4 : N ≤ 4 := by omega
  have HK0 : Hid (KidsG w2 w1.heap.size 16 (.slice (some ⟨w1.heap.size, 0, none⟩) 0 0) [] []) := (KidsG.nil (heap_alloc_new w1 _) (Nat.le_refl _)).grownC hg2 hlt1
  have HC2 : Hid (Cur w.heap.size w2 w.heap.size a len cap) := hC2
  have HG2 : Hid (w1.grownBy w2 (some w.heap.size)) := grown_trans (World.grownBy_alloc _ _ _) hg2
  clear hC2 hg2 hy1
  go_wp2_with fail
  go_loopw [4, 6] (fun v i wr => ∃ (S : List Ty) (ls : List Lay), S.length ≤ N ∧ i = .int .i64 (S.length : Nat) ∧ KidsG wr w1.heap.size 16 v S ls ∧ (∀ s ∈ S, Ty.sized 16 s ∧ Ty.bulk 16 s ≤ 400) ∧ Cur w.heap.size wr w.heap.size a len cap ∧ w1.grownBy wr (some w.heap.size)) (fun _ i _ => N - (intOf i).toNat)
  case atStart => exact ⟨[], [], Nat.zero_le _, rfl, HK0.out, fun s hs => absurd hs (by simp), HC2.out, HG2.out⟩
  case round =>
    obtain ⟨S, ls, hl, rfl, hK, hF, hcur, hgr⟩ := hrel
    have HCr : Hid (type_of% hcur) := hcur
    have HGr : Hid (w1.grownBy wr (some w.heap.size)) := hgr
    have HF : Hid (type_of% hF) := hF
    have hszr := hgr.size
    obtain ⟨va, cva, hv⟩ := slice_ownM hK.own
    subst hv
    clear hcur hgr hF HK0 HC2 HG2
    by_cases hlt : S.length < N
    · have HTY : Hid (type_of% (HMO.out wr HCr.out)) := HMO.out wr HCr.out
      have hln : (S.length : Int) < (N : Int) := by omega
      go_wp2_with fail
      refine HTY.out.mono ?_
      rintro e w3 h3
      obtain ⟨kd, nm, an, ln, cn, ak, lk, ck, rfl, ⟨l, t, hcl, hll, hlb, hsz, hbk, _⟩, hC3, hg3⟩ := h3.told
      have hK3 := hK.grownC hg3 hlt1
      have hs3 := hg3.size
      have hown3 := hK3.own
      have HC3 : Hid (Cur w.heap.size w3 w.heap.size a len cap ∧ w1.grownBy w3 (some w.heap.size)) := ⟨hC3, grown_trans HGr.out hg3⟩
      have HK3 : Hid (type_of% hK3) := hK3
      have HL : Hid (LayAt w3 16 l t ∧ (∀ b ∈ Lay.blocks 16 l, w1.heap.size ≤ b ∧ (Value.slice va S.length cva).ownBlock ≠ some b) ∧ Ty.sized 16 t ∧ Ty.bulk 16 t ≤ 400) := ⟨hll, fun b hb => ⟨by have := hlb b hb; omega, fun e => by have := (hK.own.lt b e).2; have := hlb b hb; omega⟩, hsz, hbk⟩
      have HCL : Hid (type_of% hcl) := hcl
      clear hC3 hg3 hK hK3 HTY HCr HGr h3 hll hlb hsz hbk hcl
      go_wp2_with (at_builtin; refine wpList_append_lies _ rfl _ _ 24 rfl w1.heap.size 28 i0 _ 4 72 Tryz.underlying24 hi0 hz0 hz1 hz2 rfl (by decide) _ _ _ rfl (hown3.alloc _) ⟨w3.heap.size, 0, none⟩ 1 1 [.int .i64 kd, .string nm, .slice an ln cn, .slice ak lk ck] rfl rfl ?c1 ?c2 (by omega) ?c3 ?c4 ?c5 (w3.heap.size + 1) (by simp) ?_)
      case c1 => exact World.news_of_block (cs := #[.int .i64 kd, .string nm, .slice an ln cn, .slice ak lk ck]) (t := 28) (fr := (0, 0)) (heap_alloc_new w3 _)
      case c2 => simp [Value.oneCell']
      case c3 => unfold maxLen; omega
      case c4 => omega
      case c5 => simp; omega
      intro gg cap' w5 hown' hgrow hat hlt5
      have R1 : KidsG w5 w1.heap.size 16 (.slice (some ⟨gg, 0, none⟩) (S ++ [t]).length cap') (S ++ [t]) (ls ++ [l]) := HK3.out.snoc HL.out.1 HL.out.2.1 hgrow (by rw [HCL.out]; exact hown') hat
      have R3 := HC3.out.2.thenT (grown_off hgrow hown3 (by omega) (Nat.le_refl _))
      have R2 := HC3.out.1.thenT (w := w1) (grown_off hgrow hown3 (by omega) (Nat.le_refl _)) hlt1 (by omega)
      have R4 : ∀ s ∈ S ++ [t], Ty.sized 16 s ∧ Ty.bulk 16 s ≤ 400 := fun s hs => by
        rcases List.mem_append.1 hs with q | q
        · exact HF.out s q
        · rw [List.mem_singleton] at q; subst q; exact ⟨HL.out.2.2.1, HL.out.2.2.2⟩
      rw [show (S ++ [t]).length = S.length + 1 by simp] at R1
      have HR : Hid (KidsG w5 w1.heap.size 16 (.slice (some ⟨gg, 0, none⟩) (S.length + 1) cap') (S ++ [t]) (ls ++ [l]) ∧ (∀ s ∈ S ++ [t], Ty.sized 16 s ∧ Ty.bulk 16 s ≤ 400) ∧ Cur w.heap.size w5 w.heap.size a len cap ∧ w1.grownBy w5 (some w.heap.size)) := ⟨R1, R4, R2, R3⟩
      clear hown' hgrow hown3 HC3 HK3 HL HCL HF R1 R2 R3 R4 hat hlt5
      go_wp2_with fail
      go_roundw
      case rel => exact ⟨S ++ [t], ls ++ [l], by simp; omega, by simp only [List.length_append, List.length_singleton]; go_num, HR.out.1, HR.out.2.1, HR.out.2.2.1, HR.out.2.2.2⟩
      case measure => simp [intOf]; omega
    · have hnl : ¬ (S.length : Int) < (N : Int) := by omega
      have hb1r : Below w.heap.size w wr := hb1.trans ((Below.refl w.heap.size w1).grown HGr.out (by omega) (fun k hk => by cases hk; exact Nat.le_refl _))
      have HKr : Hid (KidsG wr w.heap.size 16 (.slice va S.length cva) S ls) := ⟨hK.len, ⟨hK.own.1, hK.own.2.imp id fun ⟨g, c, cur, q1, q2, q3⟩ => ⟨g, c, cur, q1, by omega, q3⟩⟩, hK.lay, fun l hl b hb => ⟨by have := (hK.new l hl b hb).1; omega, (hK.new l hl b hb).2⟩⟩
      clear hK
      go_wp2_with fail
      go_ret
      exact ⟨_, S, ls, rfl, by omega, HKr.out, HF.out, hb1r⟩

end Go.Proofs.YthomlchbgcjcfaaGreatDoor

namespace Go.Proofs.YthomlchbgcjcfaaGreatDoor
open Go.RowKit

/-- nothing old has turned but, of one block, what lies behind so many cells -/
structure Tail (g p : Nat) (w w' : World) : Prop where
  os : w'.os = w.os
  tape : w'.tape = w.tape
  output : w'.output = w.output
  size : w.heap.size ≤ w'.heap.size
  block : ∀ b, b < w.heap.size → b ≠ g → w'.heap[b]? = w.heap[b]?
  row : ∃ cur cur', w.heap[g]? = some (.cells cur 28 (0, 0)) ∧ w'.heap[g]? = some (.cells cur' 28 (0, 0)) ∧ cur'.size = cur.size ∧ cur'.toList.take p = cur.toList.take p

theorem take_set4 (cur : Array Value) (p : Nat) (x0 x1 x2 x3 : Value) : ((((cur.setIfInBounds p x0).setIfInBounds (p + 1) x1).setIfInBounds (p + 1 + 1) x2).setIfInBounds (p + 1 + 1 + 1) x3).toList.take p = cur.toList.take p := by
  apply List.ext_getElem?
  intro j
  by_cases h : j < p
  · rw [List.getElem?_take_of_lt h, List.getElem?_take_of_lt h]
    simp only [Array.getElem?_toList]
    rw [Array.getElem?_setIfInBounds_ne (by omega), Array.getElem?_setIfInBounds_ne (by omega), Array.getElem?_setIfInBounds_ne (by omega), Array.getElem?_setIfInBounds_ne (by omega)]
  · rw [List.getElem?_eq_none (by simp; omega), List.getElem?_eq_none (by simp; omega)]

theorem step_append_tail {P : Program} (w : World) {ops : Array Oper} {o : Oper} {a : Act} {K : Act → World → Prop} {Q : Exit → Act → World → Prop} {E : Prop} (hgd : o.guard = none) (s x : Operand) (t : TypeId)
    (ho : o.op = .call { callee := .builtin .append, args := #[s, x], argTypes := #[t, t] }) (i : TypeInfo) (z : Value) (ht : P.underlying t = some (.slice 28)) (hi : P.info? 28 = some i) (hz : i.zero = some z) (hsize : i.size = 4) (hby : i.bytes = 72) (hzs : z.cells.size = 4)
    (g n cap : Nat) (olds : List Value) (hs : a.eval s = .slice (some ⟨g, 0, none⟩) n cap) (hown : w.ownsRow 0 28 4 (.slice (some ⟨g, 0, none⟩) n cap) n olds) (hn : 0 < n)
    (ad : Addr) (c : Nat) (x0 x1 x2 x3 : Value) (hx : a.eval x = .slice (some ad) 1 c) (hnews : ∀ j u, [x0, x1, x2, x3][j]? = some u → w.cell? (ad.add j) = some u) (h1 : ∀ u ∈ [x0, x1, x2, x3], u.oneCell' = true)
    (h63 : n + 1 ≤ maxLen) (hbytes : (n + 1) * 72 ≤ 140737488355328) (H : Nat) (hH : w.heap.size = H)
    (h : ∀ gg cap' w', w'.ownsRow 0 28 4 (.slice (some ⟨gg, 0, none⟩) (n + 1) cap') (n + 1) (olds ++ [x0, x1, x2, x3]) → Tail g (n * 4) w w' → (gg = g ∨ gg = H) → K (a.put o.dst (.slice (some ⟨gg, 0, none⟩) (n + 1) cap')) w') : if Region.wanted o (yielded ops a.tmps) = true then Oper.wp P o a w K Q else E := by
  refine step_openC hgd ?_
  obtain ⟨gg, cap', w', hr, h2, h3, h4, h5⟩ := run_append_lies (P := P) w t o.type 0 28 i z 4 72 ht hi hz hsize hby hzs (by omega) _ n olds hown ad 1 c [x0, x1, x2, x3] rfl hnews h1 (by omega) h63 hbytes (Nat.zero_le _) H hH
  have hgc : ∃ cur, w.heap[g]? = some (.cells cur 28 (0, 0)) ∧ n ≤ cap ∧ cur.size = cap * 4 ∧ cur.toList.take (n * 4) = olds := by
    rcases hown.2 with ⟨e, h0⟩ | ⟨g', cap2, cur, e, _, q1, q2, _, q3, q4⟩
    · omega
    · simp only [Value.slice.injEq, Option.some.injEq, Addr.mk.injEq, and_true, true_and] at e
      obtain ⟨rfl, rfl⟩ := e
      exact ⟨cur, q1, q2, q3, q4⟩
  obtain ⟨cur, hcur, hnc, hcs, hold⟩ := hgc
  have hT : Tail g (n * 4) w w' := by
    by_cases hroom : n + 1 ≤ cap
    · have hcell : ∀ j, j < 4 → (w.cell? ⟨g, n * 4 + j, none⟩).isSome = true := fun j hj => by
        have hlt : n * 4 + j < cur.size := by rw [hcs]; omega
        simp only [World.cell?, hcur]
        rw [Array.getElem?_eq_getElem hlt]
        rfl
      have hfz : ∀ j, w.frozen? ⟨g, n * 4 + j, none⟩ = false := fun j => by simp [World.frozen?, hcur]
      have hrun := run_append_room_cells (P := P) w t o.type 28 i ht hi g 0 n cap ad 1 c [x0, x1, x2, x3] (by rw [hsize]; rfl) hnews h1 hroom (fun j hj => by rw [hsize, Nat.zero_add]; exact hcell j (by simpa using hj)) (fun j _ => by rw [hsize, Nat.zero_add]; exact hfz j)
      rw [hr] at hrun
      injection hrun with e1 e2
      rw [hsize, Nat.zero_add] at e2
      subst e2
      refine ⟨rfl, rfl, rfl, by simp [World.setCells], fun b _ hne => ?_, cur, _, hcur, heap_setCell_same _ g (n * 4 + 1 + 1 + 1) _ _ x3 (heap_setCell_same _ g (n * 4 + 1 + 1) _ _ x2 (heap_setCell_same _ g (n * 4 + 1) _ _ x1 (heap_setCell_same w g (n * 4) _ _ x0 hcur))), by simp, take_set4 cur (n * 4) x0 x1 x2 x3⟩
      simp only [World.setCells]
      rw [Below.heap_setCell _ _ _ _ (by simpa using hne), Below.heap_setCell _ _ _ _ (by simpa using hne), Below.heap_setCell _ _ _ _ (by simpa using hne), Below.heap_setCell _ _ _ _ (by simpa using hne)]
    · obtain ⟨v2, w2, hr2, _, hg2⟩ := run_append_arg_grows (P := P) w t o.type 28 i z 4 72 ht hi hz hsize hby hzs (by omega) ⟨g, 0, none⟩ n cap olds (by rw [hown.1]) (fun j u hj => by
        have hjl : j < n * 4 := by have := (List.getElem?_eq_some_iff.1 hj).1; rw [hown.1] at this; exact this
        rw [Addr.add_lit, Nat.zero_add, hown.cellAt j hjl]; exact hj) ad 1 c [x0, x1, x2, x3] rfl hnews (by omega) h63 hbytes
      rw [hr] at hr2
      injection hr2 with e1 e2
      subst e2
      have hgl : g < w.heap.size := (Array.getElem?_eq_some_iff.1 hcur).1
      exact ⟨hg2.os, hg2.tape, hg2.output, hg2.size, fun b hb _ => hg2.block b hb (by simp), cur, cur, hcur, (hg2.block g hgl (by simp)).trans hcur, rfl, rfl⟩
  unfold Oper.wp execOp
  simp only [ho, resolve, invoke, builtin, Sem.run_bind, Sem.run_pure, Result.andThen_ok, List.map_toArray, List.map_cons, List.map_nil, hs, hx, hr]
  refine h gg cap' w' h2 hT ?_
  rcases h4 with h4 | h4
  · left
    simpa [Value.ownBlock] using h4.symm
  · exact .inr h4

/-- two layouts of the same cells are the same -/
theorem lay_det {w : World} (m : Nat) : ∀ (m' : Nat) (l l' : Lay) (t t' : Ty), LayAt w m l t → LayAt w m' l' t' → l.vn = l'.vn → l.vk = l'.vk → l = l' := by
  induction m with
  | zero => intro m' l l' t t' h; exact h.elim
  | succ m ih =>
    intro m' l l' t t' h h' e1 e2
    cases m' with
    | zero => exact h'.elim
    | succ m' =>
      obtain ⟨vn, vk, ks⟩ := l
      obtain ⟨vn', vk', ks'⟩ := l'
      simp only at e1 e2
      subst e1 e2
      obtain ⟨_, hl, ho, hk⟩ := h
      obtain ⟨_, hl', ho', hk'⟩ := h'
      simp only at hl ho hk hl' ho' hk'
      obtain ⟨a1, c1, s1⟩ := ho.slice
      obtain ⟨a2, c2, s2⟩ := ho'.slice
      have hn : t.kids.length = t'.kids.length := by
        rw [s1] at s2
        simp only [Value.slice.injEq] at s2
        exact s2.2.1
      congr 1
      by_cases h0 : t.kids.length = 0
      · rw [List.length_eq_zero_iff.1 (hl.trans h0), List.length_eq_zero_iff.1 (hl'.trans (hn.symm.trans h0))]
      · have p1 := ho.pos (by omega)
        have p2 := ho'.pos (by omega)
        have hx : flatK t.kids ks = flatK t'.kids ks' := by
          rcases p1.2 with ⟨_, q⟩ | ⟨g, c, cur, e, _, q1, _, _, _, q2⟩
          · exact absurd q h0
          · rcases p2.2 with ⟨_, q⟩ | ⟨g', c', cur', e', _, q1', _, _, _, q2'⟩
            · omega
            · rw [e] at e'
              simp only [Value.slice.injEq, Option.some.injEq, Addr.mk.injEq, and_true] at e'
              obtain ⟨rfl, _, _⟩ := e'
              rw [q1] at q1'
              simp only [Option.some.injEq, Obj.cells.injEq, and_true] at q1'
              subst q1'
              rw [← q2, ← q2', hn]
        apply List.ext_getElem
        · omega
        · intro i g1 g2
          have f1 := flatK_get t.kids ks i 2 (by omega) g1 (by omega)
          have f2 := flatK_get t'.kids ks' i 2 (by omega) g2 (by omega)
          have f3 := flatK_get t.kids ks i 3 (by omega) g1 (by omega)
          have f4 := flatK_get t'.kids ks' i 3 (by omega) g2 (by omega)
          rw [hx] at f1 f3
          rw [f1] at f2
          rw [f3] at f4
          simp only [cellsK, List.getElem?_cons_succ, List.getElem?_cons_zero, Option.some.injEq] at f2 f4
          exact ih m' _ _ _ _ (hk i g1 (by omega)) (hk' i g2 (by omega)) f2 f4

/-- no row in that block is longer than so many -/
def NoLong (g n : Nat) : Nat → Lay → Ty → Prop
  | 0, _, _ => False
  | m + 1, l, t => (l.vk.ownBlock = some g → t.kids.length ≤ n) ∧ ∀ j (h1 : j < l.ks.length) (h2 : j < t.kids.length), NoLong g n m l.ks[j] t.kids[j]

theorem size_kid {l : Lay} {j : Nat} (h : j < l.ks.length) : SizeOf.sizeOf l.ks[j] < SizeOf.sizeOf l := by
  have h1 := List.sizeOf_lt_of_mem (List.getElem_mem h)
  obtain ⟨vn, vk, ks⟩ := l
  simp only [Lay.mk.sizeOf_spec] at h1 ⊢
  omega

/-- what lies within a kid has no longer row in its parent's block -/
theorem no_long {w : World} {M g c : Nat} {L : Lay} {T : Ty} (hL : LayAt w (M + 1) L T) (hg : L.vk = .slice (some ⟨g, 0, none⟩) T.kids.length c) (hT : 0 < T.kids.length) (i : Nat) (hi : i < L.ks.length) (hi2 : i < T.kids.length) (m : Nat) : ∀ (l : Lay) (t : Ty), LayAt w m l t → SizeOf.sizeOf l ≤ SizeOf.sizeOf L.ks[i] → NoLong g T.kids.length m l t := by
  induction m with
  | zero => intro l t h; exact h.elim
  | succ m ih =>
    intro l t h hsz
    refine ⟨fun hb => ?_, fun j h1 h2 => ih _ _ (h.2.2.2 j h1 h2) (by have := size_kid h1; omega)⟩
    apply Classical.byContradiction
    intro hlong
    have hlen := h.2.1
    have p1 := h.2.2.1.pos (by omega)
    have p2 := hL.2.2.1.pos hT
    have hij : i < l.ks.length := by omega
    have e : l.ks[i] = L.ks[i] := by
      obtain ⟨a, c', sl⟩ := h.2.2.1.slice
      rcases p1.2 with ⟨_, q⟩ | ⟨g', c2, cur, e, _, q1, _, _, _, q2⟩
      · omega
      · rw [e] at hb
        simp only [Value.ownBlock, Option.some.injEq] at hb
        subst hb
        rcases p2.2 with ⟨_, q⟩ | ⟨g2, c3, cur2, e', _, q1', _, _, _, q2'⟩
        · omega
        · rw [hg] at e'
          simp only [Value.slice.injEq, Option.some.injEq, Addr.mk.injEq, and_true, true_and] at e'
          obtain ⟨rfl, _⟩ := e'
          rw [q1] at q1'
          simp only [Option.some.injEq, Obj.cells.injEq, and_true] at q1'
          subst q1'
          have cellq : ∀ cc, cc < 4 → (cellsK t.kids[i] l.ks[i])[cc]? = (cellsK T.kids[i] L.ks[i])[cc]? := fun cc hcc => by
            rw [← flatK_get t.kids l.ks i cc (by omega) hij hcc, ← flatK_get T.kids L.ks i cc hi2 hi hcc, ← q2, ← q2', List.getElem?_take_of_lt (by omega), List.getElem?_take_of_lt (by omega)]
          have f2 := cellq 2 (by omega)
          have f3 := cellq 3 (by omega)
          simp only [cellsK, List.getElem?_cons_succ, List.getElem?_cons_zero, Option.some.injEq] at f2 f3
          exact lay_det m M _ _ _ _ (h.2.2.2 i hij (by omega)) (hL.2.2.2 i hi hi2) f2 f3
    have := size_kid hij
    rw [e] at this
    omega

/-- it lies there as it did -/
theorem lay_tail {w w' : World} {g n : Nat} (hT : Tail g (n * 4) w w') (m : Nat) : ∀ (l : Lay) (t : Ty), LayAt w m l t → NoLong g n m l t → LayAt w' m l t := by
  induction m with
  | zero => intro l t h; exact h.elim
  | succ m ih =>
    intro l t h hN
    obtain ⟨cur, cur', r1, r2, r3, r4⟩ := hT.row
    refine ⟨?_, h.2.1, ?_, fun j h1 h2 => ih _ _ (h.2.2.2 j h1 h2) (hN.2 j h1 h2)⟩
    · refine owns_same h.1 fun b hb => hT.block b (owns_lt h.1 hb) fun e => ?_
      subst e
      by_cases h0 : 0 < t.names.length
      · rcases (h.1.pos h0).2 with ⟨_, q⟩ | ⟨g', c', cc, e, _, q1, _⟩
        · omega
        · rw [e, mem_blk h0] at hb
          subst hb
          rw [r1] at q1
          simp only [Option.some.injEq, Obj.cells.injEq] at q1
          exact absurd q1.2.1 (by decide)
      · obtain ⟨a, c, e⟩ := h.1.slice
        rw [e, show t.names.length = 0 by omega] at hb
        cases a <;> simp [blk] at hb
    · by_cases h0 : 0 < t.kids.length
      · refine .inr ⟨h0, ?_⟩
        have p := h.2.2.1.pos h0
        refine ⟨p.1, ?_⟩
        rcases p.2 with ⟨_, q⟩ | ⟨g', c', cc, e, q0, q1, q2, q3, q4, q5⟩
        · omega
        · by_cases hg : g' = g
          · subst hg
            rw [r1] at q1
            simp only [Option.some.injEq, Obj.cells.injEq, and_true] at q1
            subst q1
            have hle := hN.1 (by rw [e]; rfl)
            refine .inr ⟨g', c', cur', e, q0, r2, q2, q3, by rw [r3]; exact q4, ?_⟩
            rw [← q5]
            apply List.ext_getElem?
            intro j
            by_cases hj : j < t.kids.length * 4
            · rw [List.getElem?_take_of_lt hj, List.getElem?_take_of_lt hj]
              have h4 : (cur'.toList.take (n * 4))[j]? = (cur.toList.take (n * 4))[j]? := by rw [r4]
              rwa [List.getElem?_take_of_lt (by omega), List.getElem?_take_of_lt (by omega)] at h4
            · rw [List.getElem?_eq_none (by simp; omega), List.getElem?_eq_none (by simp; omega)]
          · exact .inr ⟨g', c', cc, e, q0, (hT.block g' (Array.getElem?_eq_some_iff.1 q1).1 hg).trans q1, q2, q3, q4, q5⟩
      · obtain ⟨a, c, e⟩ := h.2.2.1.slice
        have hk : t.kids = [] := List.length_eq_zero_iff.1 (by omega)
        have hks : l.ks = [] := List.length_eq_zero_iff.1 (by have := h.2.1; omega)
        exact .inl ⟨by omega, by rw [hk, hks]; rfl, a, c, by rw [e, show t.kids.length = 0 by omega]⟩

end Go.Proofs.YthomlchbgcjcfaaGreatDoor

namespace Go.Proofs.YthomlchbgcjcfaaGreatDoor
open Go.RowKit

theorem ret_drA {R : Ending → World → Prop} {w0 : World} {tmps : Array Value} {b : Nat} {x0 x1 x2 x3 : Value} (hp : tmps[2]?.getD undef = .pointer (some ⟨b, 0, none⟩))
    (h : ∀ j, j < 4 → (w0.cell? ⟨b, j, none⟩).isSome = true) (hR : R (.returned (.agg #[x0, x1, x2, x3])) ((((w0.setCell ⟨b, 0, none⟩ x0).setCell ⟨b, 1, none⟩ x1).setCell ⟨b, 2, none⟩ x2).setCell ⟨b, 3, none⟩ x3)) :
    bodyPost Tryz.prog Tryz.f22 R .ret { tmps := tmps, defers := [] } ((((w0.setCell ⟨b, 0, none⟩ x0).setCell ⟨b, 1, none⟩ x1).setCell ⟨b, 2, none⟩ x2).setCell ⟨b, 3, none⟩ x3) := by
  obtain ⟨h0, h1, h2, h3⟩ := put4T (x0 := x0) (x1 := x1) (x2 := x2) (x3 := x3) h
  generalize ((((w0.setCell ⟨b, 0, none⟩ x0).setCell ⟨b, 1, none⟩ x1).setCell ⟨b, 2, none⟩ x2).setCell ⟨b, 3, none⟩ x3) = W at *
  refine bodyPost_ret (v := .agg #[x0, x1, x2, x3]) ?_ rfl hR
  simp [results, Tryz.results22, go_sem, hp, h0, h1, h2, h3]

theorem lay_head {w : World} {n : Nat} {l : Lay} {k k' : Int} {nm nm' : ByteArray} {ns : List ByteArray} {ks : List Ty} (h : LayAt w (n + 1) l (.mk k nm ns ks)) : LayAt w (n + 1) l (.mk k' nm' ns ks) := h
theorem sized_head {n : Nat} {k k' : Int} {nm nm' : ByteArray} {ns : List ByteArray} {ks : List Ty} (h : Ty.sized (n + 1) (.mk k nm ns ks)) (hk : -1 ≤ k' ∧ k' ≤ 100) (hn : nm'.size ≤ 300) : Ty.sized (n + 1) (.mk k' nm' ns ks) :=
  ⟨⟨by show (-9223372036854775808 : Int) ≤ k'; omega, by show k' ≤ 9223372036854775807; omega⟩, by show nm'.size ≤ _; unfold maxLen; omega, h.2.2.1, h.2.2.2.1, h.2.2.2.2⟩
theorem sized_name {n : Nat} {k : Int} {nm nm' : ByteArray} {ns : List ByteArray} {ks : List Ty} (h : Ty.sized (n + 1) (.mk k nm ns ks)) (hn : nm'.size ≤ 300) : Ty.sized (n + 1) (.mk k nm' ns ks) :=
  ⟨h.1, by show nm'.size ≤ _; unfold maxLen; omega, h.2.2.1, h.2.2.2.1, h.2.2.2.2⟩
theorem bulk_head {n : Nat} {k k' : Int} {nm nm' : ByteArray} {ns : List ByteArray} {ks : List Ty} : Ty.bulk (n + 1) (.mk k' nm' ns ks) ≤ Ty.bulk (n + 1) (.mk k nm ns ks) + nm'.size := by
  show nm'.size + (ns.length + Ty.textsBulk ns) + (ks.length + (ks.map (Ty.bulk n)).sum) ≤ nm.size + (ns.length + Ty.textsBulk ns) + (ks.length + (ks.map (Ty.bulk n)).sum) + nm'.size
  omega
def drBad : List ByteArray := [⟨#[]⟩, ⟨#[108, 101, 116]⟩, ⟨#[97, 46, 98, 46, 99]⟩, ⟨#[97, 46]⟩]

/-- the kids with one more behind, told by what lies there -/
theorem lay_more {w' : World} {m gg cap : Nat} {l : Lay} {k k2 : Int} {nm : ByteArray} {ns : List ByteArray} {ks : List Ty} (hnm : OwnS w' 9 1 l.vn ns.length (strV ns)) (hlen : l.ks.length = ks.length) (hk : ∀ j (h1 : j < l.ks.length) (h2 : j < ks.length), LayAt w' (m + 1) l.ks[j] ks[j])
    (ho : w'.ownsRow 0 28 4 (.slice (some ⟨gg, 0, none⟩) (ks.length + 1) cap) (ks.length + 1) (flatK ks l.ks ++ [.int .i64 k2, .string ⟨#[]⟩, .slice none 0 0, .slice none 0 0])) :
    LayAt w' (m + 1 + 1) (.mk l.vn (.slice (some ⟨gg, 0, none⟩) (ks.length + 1) cap) (l.ks ++ [.mk (.slice none 0 0) (.slice none 0 0) []])) (.mk k nm ns (ks ++ [.mk k2 ⟨#[]⟩ [] []])) := by
  refine ⟨hnm, by show (l.ks ++ [_]).length = (ks ++ [_]).length; simp [hlen], ?_, fun j h1 h2 => ?_⟩
  · show OwnS w' _ 4 (.slice (some ⟨gg, 0, none⟩) (ks.length + 1) cap) (ks ++ [_]).length (flatK (ks ++ [_]) (l.ks ++ [_]))
    rw [flatK_app hlen, List.length_append]
    exact OwnS.of ho
  · show LayAt w' (m + 1) (l.ks ++ [_])[j] (ks ++ [_])[j]
    by_cases c : j < ks.length
    · rw [List.getElem_append_left c, List.getElem_append_left (by omega)]
      exact hk j (by omega) c
    · have e : j = ks.length := by
        have : j < (ks ++ [Ty.mk k2 ⟨#[]⟩ [] []]).length := h2
        simp at this; omega
      subst e
      rw [List.getElem_append_right (Nat.le_refl _), List.getElem_append_right (by omega)]
      simp only [Nat.sub_self, List.getElem_cons_zero, hlen]
      exact (leaf_lay w' m k2 ⟨#[]⟩).1

/-- with one kid more: it lies so, and is not too great -/
theorem any_more {w6 : World} {R0 gg cap' : Nat} {lvn lvk : Value} {lks : List Lay} {tk y : Int} {tn : ByteArray} {tns : List ByteArray} {tks : List Ty} (h6 : LayAt w6 4 (.mk lvn lvk lks) (.mk tk tn tns tks)) (hs : Ty.sized 4 (.mk tk tn tns tks)) (hb : Ty.bulk 4 (.mk tk tn tns tks) ≤ 264) (hbl : ∀ b ∈ Lay.blocks 4 (.mk lvn lvk lks), R0 < b)
    (ho : w6.ownsRow 0 28 4 (.slice (some ⟨gg, 0, none⟩) (tks.length + 1) cap') (tks.length + 1) (flatK tks lks ++ [.int .i64 y, .string ⟨#[]⟩, .slice none 0 0, .slice none 0 0])) (hg : R0 < gg) (hy : 0 ≤ y ∧ y ≤ 3) :
    LayAt w6 16 (.mk lvn (.slice (some ⟨gg, 0, none⟩) (tks.length + 1) cap') (lks ++ [.mk (.slice none 0 0) (.slice none 0 0) []])) (.mk tk tn tns (tks ++ [.mk y ⟨#[]⟩ [] []])) ∧ (∀ b ∈ Lay.blocks 16 (.mk lvn (.slice (some ⟨gg, 0, none⟩) (tks.length + 1) cap') (lks ++ [.mk (.slice none 0 0) (.slice none 0 0) []])), R0 < b) ∧ Ty.sized 16 (.mk tk tn tns (tks ++ [.mk y ⟨#[]⟩ [] []])) ∧ Ty.bulk 16 (.mk tk tn tns (tks ++ [.mk y ⟨#[]⟩ [] []])) ≤ 400 := by
  have e4 : Ty.bulk 4 (.mk tk tn tns tks) = tn.size + (tns.length + Ty.textsBulk tns) + (tks.length + (tks.map (Ty.bulk 3)).sum) := rfl
  have q1 : LayAt w6 (2 + 1 + 1) (.mk lvn (.slice (some ⟨gg, 0, none⟩) (tks.length + 1) cap') (lks ++ [.mk (.slice none 0 0) (.slice none 0 0) []])) (.mk tk tn tns (tks ++ [.mk y ⟨#[]⟩ [] []])) := lay_more (m := 2) (l := .mk lvn lvk lks) h6.1 h6.2.1 h6.2.2.2 ho
  have q2 : Ty.sized (3 + 1) (.mk tk tn tns (tks ++ [.mk y ⟨#[]⟩ [] []])) := ⟨hs.1, hs.2.1, hs.2.2.1, by show (tks ++ [_]).length ≤ _; simp; unfold maxLen; omega, fun k hk => by
    rcases List.mem_append.1 hk with hk | hk
    · exact hs.2.2.2.2 k hk
    · rw [List.mem_singleton] at hk
      subst hk
      exact leaf_sized 2 y ⟨#[]⟩ (by omega) (by show (0 : Nat) ≤ 100; omega)⟩
  obtain ⟨d1, d2, d3, d4⟩ := lay_deeper 12 q1 q2
  refine ⟨d1, fun b hb' => ?_, d3, ?_⟩
  · have hb2 : b ∈ Lay.blocks (2 + 1 + 1) (.mk lvn (.slice (some ⟨gg, 0, none⟩) (tks.length + 1) cap') (lks ++ [.mk (.slice none 0 0) (.slice none 0 0) []])) := by rw [← d2]; exact hb'
    rcases List.mem_append.1 hb2 with q | q
    · exact hbl b (List.mem_append_left _ q)
    · rcases List.mem_append.1 q with q | q
      · have h9 : b ∈ blk (.slice (some ⟨gg, 0, none⟩) (tks.length + 1) cap') := q
        simp [blk] at h9
        omega
      · obtain ⟨l', hl', hq⟩ := List.mem_flatMap.1 q
        rcases List.mem_append.1 hl' with hl' | hl'
        · exact hbl b (List.mem_append_right _ (List.mem_append_right _ (List.mem_flatMap.2 ⟨l', hl', hq⟩)))
        · rw [List.mem_singleton] at hl'
          subst hl'
          exact ((leaf_lay w6 2 0 ⟨#[]⟩).2 b hq).elim
  · have e5 : Ty.bulk (3 + 1) (.mk tk tn tns (tks ++ [.mk y ⟨#[]⟩ [] []])) = tn.size + (tns.length + Ty.textsBulk tns) + ((tks ++ [Ty.mk y ⟨#[]⟩ [] []]).length + ((tks ++ [Ty.mk y ⟨#[]⟩ [] []]).map (Ty.bulk 3)).sum) := rfl
    have e6 : ((tks ++ [Ty.mk y ⟨#[]⟩ [] []]).map (Ty.bulk 3)).sum = (tks.map (Ty.bulk 3)).sum + (0 + (0 + 0) + (0 + 0)) := by
      rw [List.map_append, List.sum_append]
      rfl
    rw [e6, List.length_append] at e5
    simp only [List.length_cons, List.length_nil] at e5
    have d5 : Ty.bulk 16 (.mk tk tn tns (tks ++ [.mk y ⟨#[]⟩ [] []])) = Ty.bulk (3 + 1) (.mk tk tn tns (tks ++ [.mk y ⟨#[]⟩ [] []])) := d4
    omega

set_option maxHeartbeats 3200000 in
set_option maxRecDepth 100000 in
theorem drawAny (B cb : Nat) (a : Option Addr) (len cap : Nat) : DrAnyAt B cb a len cap := fun w hC => by
  obtain ⟨i0, hi0, hz0, hz1, hz2⟩ := info_parts Tryz.infoTypeC
  have hlt0 := hC.ltC
  have hhere := hC.here
  have HC : Hid (Cur B w cb a len cap) := hC
  have HFIN : Hid (∀ (w5 : World) (l : Lay) (t : Ty) (x0 x1 x2 x3 : Value), LayAt w5 16 l t → (∀ b ∈ Lay.blocks 16 l, w.heap.size < b) → Ty.sized 16 t → (Ty.bulk 16 t ≤ 400 ∧ (t.kids = [] → l.vk = .slice none 0 0)) → Cur B w5 cb a len cap → w.grownBy w5 (some cb) → (cellsK t l).toArray = #[x0, x1, x2, x3] → DrTy B cb a len cap w 16 400 (.returned (.agg #[x0, x1, x2, x3])) ((((w5.setCell ⟨w.heap.size, 0, none⟩ x0).setCell ⟨w.heap.size, 1, none⟩ x1).setCell ⟨w.heap.size, 2, none⟩ x2).setCell ⟨w.heap.size, 3, none⟩ x3)) := fun w5 l t x0 x1 x2 x3 q1 q2 q3 q4 q5 q6 q7 => dr_end HC.out q1 q2 q3 q4 q5 q6 q7
  have hbx : (w.alloc (.cells #[.int .i64 0, .string ⟨#[]⟩, .slice none 0 0, .slice none 0 0] 28)).heap[w.heap.size]? = some (.cells #[.int .i64 0, .string ⟨#[]⟩, .slice none 0 0, .slice none 0 0] 28 (0, 0)) := heap_alloc_new w _
  have HTY : Hid (type_of% ((drawType B cb a len cap 3 (by omega)) _ (hC.allocC (.cells #[.int .i64 0, .string ⟨#[]⟩, .slice none 0 0, .slice none 0 0] 28)))) := (drawType B cb a len cap 3 (by omega)) _ (hC.allocC (.cells #[.int .i64 0, .string ⟨#[]⟩, .slice none 0 0, .slice none 0 0] 28))
  clear hC
  go_enter Tryz.func22, Tryz.ntmps22
  go_wp2_with fail
  refine HTY.out.mono ?_
  rintro e w1 h1
  obtain ⟨kd, nm, an, ln, cn, ak, lk, ck, rfl, ⟨l, t, hcl, hll, hlb, hsz, hbk, hvd⟩, hC1, hg1⟩ := h1.told
  have hs1 : w.heap.size + 1 ≤ w1.heap.size := by have := hg1.size; simpa using this
  have hbx1 := (hg1.block w.heap.size (by simp) (by simp; omega)).trans hbx
  have hlb1 : ∀ b ∈ Lay.blocks 4 l, w.heap.size < b := fun b hb => by have := hlb b hb; simp at this; omega
  obtain ⟨tk, tn, tns, tks⟩ := t
  obtain ⟨lvn, lvk, lks⟩ := l
  simp only [cellsK, List.cons.injEq, Value.int.injEq, Value.string.injEq, true_and, and_true] at hcl
  obtain ⟨rfl, rfl, rfl, rfl⟩ := hcl
  have hA2 : Below w1.heap.size w1 (w1.alloc (.cells #[.int .i64 tk, .string tn, .slice an ln cn, .slice ak lk ck] 28)) := (Below.refl _ _).alloc (Nat.le_refl _) _
  have htb : (w1.alloc (.cells #[.int .i64 tk, .string tn, .slice an ln cn, .slice ak lk ck] 28)).heap[w1.heap.size]? = some (.cells #[.int .i64 tk, .string tn, .slice an ln cn, .slice ak lk ck] 28 (0, 0)) := heap_alloc_new w1 _
  have HG1 : Hid (w.grownBy w1 (some cb)) := grown_trans (World.grownBy_alloc _ _ _) hg1
  have HC1 : Hid (Cur B w1 cb a len cap) := hC1
  clear h1 HTY hbx hlb hg1 hC1
  go_wp2_with fail
  refine (drawBelow B cb a len cap _ 12 (HC1.out.allocC _) (by omega)).mono ?_
  rintro e w3 ⟨x, rfl, hx0, hx1, _, hC3, hg3⟩
  have hx2 := hx1 (by omega)
  have hs3 : w1.heap.size + 1 ≤ w3.heap.size := by have := hg3.size; simpa using this
  have htb3 := (hg3.block w1.heap.size (by simp) (by simp; omega)).trans htb
  have hg13 : w1.grownBy w3 (some cb) := grown_trans (World.grownBy_alloc _ _ _) hg3
  have hbx3 := (hg13.block w.heap.size (by omega) (by simp; omega)).trans hbx1
  have hlc : ∀ b ∈ Lay.blocks 4 (.mk (.slice an ln cn) (.slice ak lk ck) lks), b ≠ cb := fun b hb => by have := hlb1 b hb; omega
  have hll3 : LayAt w3 4 (.mk (.slice an ln cn) (.slice ak lk ck) lks) (.mk tk tn tns tks) := hll.grownC hg13 hlc
  have hltT : ∀ b ∈ Lay.blocks 4 (.mk (.slice an ln cn) (.slice ak lk ck) lks), b < w1.heap.size := fun b hb => hll.lt hb
  have HS3 : Hid (LayAt w3 4 (.mk (.slice an ln cn) (.slice ak lk ck) lks) (.mk tk tn tns tks) ∧ Cur B w3 cb a len cap ∧ w.grownBy w3 (some cb)) := ⟨hll3, hC3, grown_trans HG1.out hg13⟩
  have HBK : Hid (Ty.sized 4 (.mk tk tn tns tks) ∧ Ty.bulk 4 (.mk tk tn tns tks) ≤ 264 ∧ (tks = [] → Value.slice ak lk ck = .slice none 0 0)) := ⟨hsz, hbk, hvd⟩
  have HLB : Hid (∀ b ∈ Lay.blocks 4 (.mk (.slice an ln cn) (.slice ak lk ck) lks), w.heap.size < b ∧ b < w1.heap.size) := fun b hb => ⟨hlb1 b hb, hltT b hb⟩
  -- a type of the same kids, put so, at the end
  have HEND : Hid (∀ (w5 : World) (k' : Int) (nm' : ByteArray), Ty.sized 4 (.mk k' nm' tns tks) → nm'.size ≤ 100 ∨ nm' = tn → LayAt w5 4 (.mk (.slice an ln cn) (.slice ak lk ck) lks) (.mk tk tn tns tks) → Cur B w5 cb a len cap → w.grownBy w5 (some cb) → DrTy B cb a len cap w 16 400 (.returned (.agg #[.int .i64 k', .string nm', .slice an ln cn, .slice ak lk ck])) ((((w5.setCell ⟨w.heap.size, 0, none⟩ (.int .i64 k')).setCell ⟨w.heap.size, 1, none⟩ (.string nm')).setCell ⟨w.heap.size, 2, none⟩ (.slice an ln cn)).setCell ⟨w.heap.size, 3, none⟩ (.slice ak lk ck))) := fun w5 k' nm' q2 hn h5 c5 g5 => by
    have q1 : LayAt w5 (3 + 1) (.mk (.slice an ln cn) (.slice ak lk ck) lks) (.mk k' nm' tns tks) := lay_head (n := 3) h5
    obtain ⟨d1, d2, d3, d4⟩ := lay_deeper 12 q1 q2
    refine HFIN.out w5 _ _ _ _ _ _ d1 (fun b hb => ?_) d3 ⟨?_, HBK.out.2.2⟩ c5 g5 rfl
    · exact (HLB.out b (by rw [d2] at hb; exact hb)).1
    · have h264 : Ty.bulk (3 + 1) (.mk tk tn tns tks) ≤ 264 := HBK.out.2.1
      rw [d4]
      rcases hn with hn | rfl
      · have := bulk_head (n := 3) (k := tk) (k' := k') (nm := tn) (nm' := nm') (ns := tns) (ks := tks)
        omega
      · have e : Ty.bulk (3 + 1) (.mk k' nm' tns tks) = Ty.bulk (3 + 1) (.mk tk nm' tns tks) := rfl
        omega
  clear hg3 hll hll3 hsz hbk hvd hlc hltT hlb1 hC3 hx1 hbx1 htb hA2
  obtain ⟨⟨rc0, rc1, rc2, rc3⟩, rf⟩ := block4 hbx3
  obtain ⟨⟨tc0, tc1, tc2, tc3⟩, tf⟩ := block4 htb3
  have HX3 : Hid (type_of% hbx3) := hbx3
  have HT3 : Hid (type_of% htb3) := htb3
  have rf0 := rf 0
  have rf1 := rf 1
  have rf2 := rf 2
  have rf3 := rf 3
  have tf0 := tf 0
  have tf1 := tf 1
  have tf2 := tf 2
  have tf3 := tf 3
  have hTR : w1.heap.size ≠ w.heap.size := by omega
  have hxc : x = 0 ∨ x = 1 ∨ x = 2 ∨ x = 3 ∨ 4 ≤ x := by omega
  clear rf tf hbx3 htb3
  rcases hxc with rfl | rfl | rfl | rfl | hx4
  · -- another Kind
    go_wp2_with fail
    refine (drawBelow B cb a len cap _ 10 HS3.out.2.1 (by omega)).mono ?_
    rintro e w4 ⟨y, rfl, hy0, hy1, _, hC4, hg4⟩
    have hy2 := hy1 (by omega)
    have hx4' := (hg4.block w.heap.size (by omega) (by simp; omega)).trans HX3.out
    have ht4' := (hg4.block w1.heap.size (by omega) (by simp; omega)).trans HT3.out
    have hB5 : ∀ v, Below w1.heap.size w4 (w4.setCell ⟨w1.heap.size, 0, none⟩ v) := fun v => by
      refine Below.setCell (Below.refl _ _) ?_ _
      exact Nat.le_refl _
    have HL : Hid (type_of% (HEND.out (w4.setCell ⟨w1.heap.size, 0, none⟩ (.int .i64 (y - 1))) (y - 1) tn (sized_head (n := 3) (k := tk) (nm := tn) HBK.out.1 (by omega) (by have := HBK.out.2.1; have e : Ty.bulk 4 (.mk tk tn tns tks) = tn.size + (tns.length + Ty.textsBulk tns) + (tks.length + (tks.map (Ty.bulk 3)).sum) := rfl; omega)) (.inr rfl) ((HS3.out.1.grownC hg4 (fun b hb => by have := HLB.out b hb; omega)).same fun b hb => (hB5 _).block b (HLB.out b hb).2) (hC4.thenT (w := w1) (hB5 _) (by omega) (by omega)) ((grown_trans HS3.out.2.2 hg4).thenT ((hB5 _).mono (by omega))))) := HEND.out (w4.setCell ⟨w1.heap.size, 0, none⟩ (.int .i64 (y - 1))) (y - 1) tn (sized_head (n := 3) (k := tk) (nm := tn) HBK.out.1 (by omega) (by have := HBK.out.2.1; have e : Ty.bulk 4 (.mk tk tn tns tks) = tn.size + (tns.length + Ty.textsBulk tns) + (tks.length + (tks.map (Ty.bulk 3)).sum) := rfl; omega)) (.inr rfl) ((HS3.out.1.grownC hg4 (fun b hb => by have := HLB.out b hb; omega)).same fun b hb => (hB5 _).block b (HLB.out b hb).2) (hC4.thenT (w := w1) (hB5 _) (by omega) (by omega)) ((grown_trans HS3.out.2.2 hg4).thenT ((hB5 _).mono (by omega)))
    clear rc0 rc1 rc2 rc3 tc0 tc1 tc2 tc3 rf0 rf1 rf2 rf3 tf0 tf1 tf2 tf3 HEND HFIN hB5 hC4
    obtain ⟨⟨rc0, rc1, rc2, rc3⟩, rf⟩ := block4 hx4'
    obtain ⟨⟨tc0, tc1, tc2, tc3⟩, tf⟩ := block4 ht4'
    have rf0 := rf 0
    have rf1 := rf 1
    have rf2 := rf 2
    have rf3 := rf 3
    have tf0 := tf 0
    have hoth : ∀ c u v, w4.cell? ⟨w.heap.size, c, none⟩ = some u → (w4.setCell ⟨w1.heap.size, 0, none⟩ v).cell? ⟨w.heap.size, c, none⟩ = some u := fun c u v h => cell_same h (Below.heap_setCell _ _ _ _ (by simpa using hTR.symm))
    have HO : Hid (type_of% hoth) := hoth
    clear rf tf hx4' ht4' hg4 HX3 HT3 hoth
    go_wp2_with fail
    refine ret_drA rfl (fun j hj => ?_) HL.out
    match j, hj with
    | 0, _ => rw [HO.out _ _ _ rc0]; rfl
    | 1, _ => rw [HO.out _ _ _ rc1]; rfl
    | 2, _ => rw [HO.out _ _ _ rc2]; rfl
    | 3, _ => rw [HO.out _ _ _ rc3]; rfl
  · -- another Name
    have HP : Hid (type_of% (drawPickS B cb w3.heap.size a len cap (w3.alloc (.cells (strV drBad).toArray 9)) drBad (HS3.out.2.1.allocC _) (by omega) (by decide) (by decide) (str_cells w3 drBad 9))) := drawPickS B cb w3.heap.size a len cap (w3.alloc (.cells (strV drBad).toArray 9)) drBad (HS3.out.2.1.allocC _) (by omega) (by decide) (by decide) (str_cells w3 drBad 9)
    go_wp2_with fail
    refine HP.out.mono ?_
    rintro e w4 ⟨y, rfl, hy, hC4, hg4'⟩
    have hy5 : y.size ≤ 5 := (by decide : ∀ t ∈ drBad, t.size ≤ 5) y hy
    have hg4 : w3.grownBy w4 (some cb) := grown_trans (World.grownBy_alloc _ _ _) hg4'
    clear HP hy hg4'
    have hx4' := (hg4.block w.heap.size (by omega) (by simp; omega)).trans HX3.out
    have ht4' := (hg4.block w1.heap.size (by omega) (by simp; omega)).trans HT3.out
    have hB5 : ∀ v, Below w1.heap.size w4 (w4.setCell ⟨w1.heap.size, 1, none⟩ v) := fun v => by
      refine Below.setCell (Below.refl _ _) ?_ _
      exact Nat.le_refl _
    have HL : Hid (type_of% (HEND.out (w4.setCell ⟨w1.heap.size, 1, none⟩ (.string y)) tk y (sized_name (n := 3) (nm := tn) HBK.out.1 (by omega)) (.inl (by omega)) ((HS3.out.1.grownC hg4 (fun b hb => by have := HLB.out b hb; omega)).same fun b hb => (hB5 _).block b (HLB.out b hb).2) (hC4.thenT (w := w1) (hB5 _) (by omega) (by omega)) ((grown_trans HS3.out.2.2 hg4).thenT ((hB5 _).mono (by omega))))) := HEND.out (w4.setCell ⟨w1.heap.size, 1, none⟩ (.string y)) tk y (sized_name (n := 3) (nm := tn) HBK.out.1 (by omega)) (.inl (by omega)) ((HS3.out.1.grownC hg4 (fun b hb => by have := HLB.out b hb; omega)).same fun b hb => (hB5 _).block b (HLB.out b hb).2) (hC4.thenT (w := w1) (hB5 _) (by omega) (by omega)) ((grown_trans HS3.out.2.2 hg4).thenT ((hB5 _).mono (by omega)))
    clear rc0 rc1 rc2 rc3 tc0 tc1 tc2 tc3 rf0 rf1 rf2 rf3 tf0 tf1 tf2 tf3 HEND HFIN hB5 hC4
    obtain ⟨⟨rc0, rc1, rc2, rc3⟩, rf⟩ := block4 hx4'
    obtain ⟨⟨tc0, tc1, tc2, tc3⟩, tf⟩ := block4 ht4'
    have rf0 := rf 0
    have rf1 := rf 1
    have rf2 := rf 2
    have rf3 := rf 3
    have tf1 := tf 1
    have hoth : ∀ c u v, w4.cell? ⟨w.heap.size, c, none⟩ = some u → (w4.setCell ⟨w1.heap.size, 1, none⟩ v).cell? ⟨w.heap.size, c, none⟩ = some u := fun c u v h => cell_same h (Below.heap_setCell _ _ _ _ (by simpa using hTR.symm))
    have HO : Hid (type_of% hoth) := hoth
    clear rf tf hx4' ht4' hg4 HX3 HT3 hoth
    go_wp2_with fail
    refine ret_drA rfl (fun j hj => ?_) HL.out
    match j, hj with
    | 0, _ => rw [HO.out _ _ _ rc0]; rfl
    | 1, _ => rw [HO.out _ _ _ rc1]; rfl
    | 2, _ => rw [HO.out _ _ _ rc2]; rfl
    | 3, _ => rw [HO.out _ _ _ rc3]; rfl
  · -- one kid more
    have HBW : Hid (∀ wx : World, Below w3.heap.size w3 wx → Calls Tryz.prog 11 #[.pointer (some ⟨cb, 0, none⟩), .int .i64 4] wx fun e w' => ∃ x : Int, e = .returned (.int .i64 x) ∧ 0 ≤ x ∧ (1 ≤ (4 : Int) → x < 4) ∧ ((4 : Int) ≤ 0 → x = 0) ∧ Cur B w' cb a len cap ∧ wx.grownBy w' (some cb)) := fun wx hx => drawBelow B cb a len cap wx 4 (HS3.out.2.1.farT hx) (by omega)
    have hks := HS3.out.1.2.1
    have hkr := HS3.out.1.2.2.1
    simp only at hks hkr
    obtain ⟨a9, c9, e9⟩ := hkr.slice
    simp only [Value.slice.injEq] at e9
    obtain ⟨rfl, rfl, rfl⟩ := e9
    by_cases hk0 : tks.length = 0
    · obtain rfl : tks = [] := List.length_eq_zero_iff.1 hk0
      have hv0 := HBK.out.2.2 rfl
      simp only [Value.slice.injEq] at hv0
      obtain ⟨rfl, _, rfl⟩ := hv0
      obtain rfl : lks = [] := List.length_eq_zero_iff.1 hks
      simp only [List.length_nil] at *
      go_wp2_with fail
      go_region_law
        (first
          | (refine step_openC (by rfl) ?_; go_simp; go_at_call 11; refine (HBW.out _ (by first | exact (Below.refl _ _).drew | exact Below.refl _ _)).mono ?_; rintro e w4 ⟨y, rfl, hy0, hy1, _, hC4, hg4'⟩; have hg4 : w3.grownBy w4 (some cb) := (by first | exact hg4' | exact grown_trans (grown_of_belowT ((Below.refl w3.heap.size w3).drew) _) hg4'); have hbT4 := hg4.block w1.heap.size (by omega) (by simp; omega); have x3 := cell_same tc3 hbT4; have xf := (frozen_sameC 3 hbT4).trans tf3; have lt4 : w1.heap.size < w4.heap.size := (by have := hg4.size; omega); have y3 : ∀ o, (w4.alloc o).cell? ⟨w1.heap.size, 3, none⟩ = some (.slice none 0 0) := (fun o => (cellOld 3 lt4).trans x3); have yf : ∀ o, (w4.alloc o).frozen? ⟨w1.heap.size, 3, none⟩ = false := (fun o => (frozenOld 3 lt4).trans xf); have hl4 := HS3.out.1.grownC hg4 (fun b hb => by have := HLB.out b hb; omega))
          | (revert hbT4; intro hbT4; (refine step_append_lies _ (by rfl) _ _ _ (by rfl) 0 28 i0 _ 4 72 Tryz.underlying24 hi0 hz0 hz1 hz2 rfl (by omega) (.slice none 0 0) 0 [] (by rfl) (World.ownsRow_nil _ _ _ _) ⟨w4.heap.size, 0, none⟩ 1 1 [.int .i64 y, .string ⟨#[]⟩, .slice none 0 0, .slice none 0 0] (by rfl) (by rfl) (World.news_of_block (cs := #[.int .i64 y, .string ⟨#[]⟩, .slice none 0 0, .slice none 0 0]) (t := 28) (fr := (0, 0)) (heap_alloc_new w4 _)) (by simp [Value.oneCell']) (by omega) (by unfold maxLen; omega) (by omega) (Nat.zero_le _) (w4.heap.size + 1) (by simp) ?_; intro gg cap' w5 hown1 hgrow hat hlt5); have hT5 := hgrow.block w1.heap.size (by simp; omega) (by simp [Value.ownBlock]); have z3 := cell_same (y3 _) hT5; have zf := (frozen_sameC 3 hT5).trans (yf _)))
      all_goals
        have hA4 : Below w4.heap.size w4 (w4.alloc (.cells #[.int .i64 y, .string ⟨#[]⟩, .slice none 0 0, .slice none 0 0] 28)) := (Below.refl _ _).alloc (Nat.le_refl _) _
        have hs4 := hg4.size
        have hB45 : Below w1.heap.size w4 w5 := (hA4.mono (by omega)).grown hgrow (by simp; omega) (fun j hj => by simp [Value.ownBlock] at hj)
        have hl5 : LayAt w5 4 (.mk (.slice an ln cn) (.slice none 0 0) []) (.mk tk tn tns []) := hl4.same fun b hb => hB45.block b (HLB.out b hb).2
        have hTb : w5.heap[w1.heap.size]? = some (.cells #[.int .i64 tk, .string tn, .slice an ln cn, .slice none 0 0] 28 (0, 0)) := (hT5.trans (hA4.block w1.heap.size lt4)).trans (hbT4.trans HT3.out)
        have hRb : w5.heap[w.heap.size]? = some (.cells #[.int .i64 0, .string ⟨#[]⟩, .slice none 0 0, .slice none 0 0] 28 (0, 0)) := (hB45.block w.heap.size (by omega)).trans ((hg4.block w.heap.size (by omega) (by simp; omega)).trans HX3.out)
        have hB6 : Below w1.heap.size w4 (w5.setCell ⟨w1.heap.size, 3, none⟩ (.slice (some ⟨gg, 0, none⟩) (0 + 1) cap')) := by
          refine Below.setCell hB45 ?_ _
          exact Nat.le_refl _
        have hl6 : LayAt (w5.setCell ⟨w1.heap.size, 3, none⟩ (.slice (some ⟨gg, 0, none⟩) (0 + 1) cap')) 4 (.mk (.slice an ln cn) (.slice none 0 0) []) (.mk tk tn tns []) := hl5.same fun b hb => Below.heap_setCell _ _ _ _ (by have := (HLB.out b hb).2; simp; omega)
        have hgT : gg ≠ w1.heap.size ∧ w.heap.size < gg := by
          rcases hat with q | q
          · simp [Value.ownBlock] at q
          · omega
        have ho6 := ownsRow_setCell_other hown1 (a := ⟨w1.heap.size, 3, none⟩) (by simpa [Value.ownBlock] using hgT.1) (.slice (some ⟨gg, 0, none⟩) (0 + 1) cap')
        obtain ⟨f1, f2, f3, f4⟩ := any_more (R0 := w.heap.size) hl6 HBK.out.1 HBK.out.2.1 (fun b hb => (HLB.out b hb).1) (by show World.ownsRow _ 0 _ 4 (.slice (some ⟨gg, 0, none⟩) (0 + 1) cap') (0 + 1) _; exact ho6) hgT.2 ⟨hy0, by omega⟩
        have HL : Hid (type_of% (HFIN.out _ _ _ _ _ _ _ f1 f2 f3 ⟨f4, fun q => by simp at q⟩ (hC4.thenT (w := w1) hB6 (by omega) (by omega)) ((grown_trans HS3.out.2.2 hg4).thenT (hB6.mono (by omega))) rfl)) := HFIN.out _ _ _ _ _ _ _ f1 f2 f3 ⟨f4, fun q => by simp at q⟩ (hC4.thenT (w := w1) hB6 (by omega) (by omega)) ((grown_trans HS3.out.2.2 hg4).thenT (hB6.mono (by omega))) rfl
        have hoth : ∀ c u v, w5.cell? ⟨w.heap.size, c, none⟩ = some u → (w5.setCell ⟨w1.heap.size, 3, none⟩ v).cell? ⟨w.heap.size, c, none⟩ = some u := fun c u v h => cell_same h (Below.heap_setCell _ _ _ _ (by simpa using hTR.symm))
        have HO : Hid (type_of% hoth) := hoth
        clear rc0 rc1 rc2 rc3 tc0 tc1 tc2 tc3 rf0 rf1 rf2 rf3 tf0 tf1 tf2 tf3 z3 zf
        obtain ⟨⟨rc0, rc1, rc2, rc3⟩, rf⟩ := block4 hRb
        obtain ⟨⟨tc0, tc1, tc2, tc3⟩, tf⟩ := block4 hTb
        have rf0 := rf 0
        have rf1 := rf 1
        have rf2 := rf 2
        have rf3 := rf 3
        have tf3 := tf 3
        clear rf tf hRb hTb hB6 hl6 hgT ho6 f1 f2 f3 f4 hoth hA4 hB45 hl5 hl4 hown1 hT5 hbT4 x3 xf y3 yf hC4 hg4 hg4' HEND HFIN HS3 HBK HLB HX3 HT3 HBW hgrow
        go_wp2_with fail
        refine ret_drA rfl (fun j hj => ?_) HL.out
        match j, hj with
        | 0, _ => rw [HO.out _ _ _ rc0]; rfl
        | 1, _ => rw [HO.out _ _ _ rc1]; rfl
        | 2, _ => rw [HO.out _ _ _ rc2]; rfl
        | 3, _ => rw [HO.out _ _ _ rc3]; rfl
    · obtain ⟨gk, ck', ev⟩ := slice_ownL hkr (by omega)
      simp only [Value.slice.injEq, true_and] at ev
      obtain ⟨rfl, rfl⟩ := ev
      have hgk : w.heap.size < gk ∧ gk < w1.heap.size := HLB.out gk (List.mem_append_right _ (List.mem_append_left _ ((mem_blk (by omega)).2 rfl)))
      have hkm : tks.length ≤ 264 := by
        have := HBK.out.2.1
        have e4 : Ty.bulk 4 (.mk tk tn tns tks) = tn.size + (tns.length + Ty.textsBulk tns) + (tks.length + (tks.map (Ty.bulk 3)).sum) := rfl
        omega
      clear hkr hks
      go_wp2_with fail
      go_region_law
        (first
          | (refine step_openC (by rfl) ?_; go_simp; go_at_call 11; refine (HBW.out _ (by first | exact (Below.refl _ _).drew | exact Below.refl _ _)).mono ?_; rintro e w4 ⟨y, rfl, hy0, hy1, _, hC4, hg4'⟩; have hg4 : w3.grownBy w4 (some cb) := (by first | exact hg4' | exact grown_trans (grown_of_belowT ((Below.refl w3.heap.size w3).drew) _) hg4'); have hbT4 := hg4.block w1.heap.size (by omega) (by simp; omega); have x3 := cell_same tc3 hbT4; have xf := (frozen_sameC 3 hbT4).trans tf3; have lt4 : w1.heap.size < w4.heap.size := (by have := hg4.size; omega); have y3 : ∀ o, (w4.alloc o).cell? ⟨w1.heap.size, 3, none⟩ = some (.slice (some ⟨gk, 0, none⟩) tks.length ck) := (fun o => (cellOld 3 lt4).trans x3); have yf : ∀ o, (w4.alloc o).frozen? ⟨w1.heap.size, 3, none⟩ = false := (fun o => (frozenOld 3 lt4).trans xf); have hl4 := HS3.out.1.grownC hg4 (fun b hb => by have := HLB.out b hb; omega); have hok4 := OwnS.pos hl4.2.2.1 (by show 0 < tks.length; omega))
          | (revert hbT4; intro hbT4; (refine step_append_tail _ (by rfl) _ _ _ (by rfl) i0 _ Tryz.underlying24 hi0 hz0 hz1 hz2 rfl gk tks.length ck (flatK tks lks) (by rfl) (by first | exact (hok4.alloc _) | exact (hok4.alloc _).drew) (by omega) ⟨w4.heap.size, 0, none⟩ 1 (.int .i64 y) (.string ⟨#[]⟩) (.slice none 0 0) (.slice none 0 0) (by rfl) (World.news_of_block (cs := #[.int .i64 y, .string ⟨#[]⟩, .slice none 0 0, .slice none 0 0]) (t := 28) (fr := (0, 0)) (heap_alloc_new w4 _)) (by simp [Value.oneCell']) (by unfold maxLen; omega) (by omega) (w4.heap.size + 1) (by simp) ?_; intro gg cap' w5 hown1 htail hat); have hT5 := htail.block w1.heap.size (by simp; omega) (by omega); have z3 := cell_same (y3 _) hT5; have zf := (frozen_sameC 3 hT5).trans (yf _)))
      all_goals
        have hA4 : Below w4.heap.size w4 (w4.alloc (.cells #[.int .i64 y, .string ⟨#[]⟩, .slice none 0 0, .slice none 0 0] 28)) := (Below.refl _ _).alloc (Nat.le_refl _) _
        have hs4 := hg4.size
        have hB45 : Below (w.heap.size + 1) w4 w5 := ⟨htail.os, htail.tape, htail.output, Nat.le_trans (by simp) htail.size, fun b hb => (htail.block b (by simp; omega) (by omega)).trans (hA4.block b (by omega))⟩
        have hl5 : LayAt w5 4 (.mk (.slice an ln cn) (.slice (some ⟨gk, 0, none⟩) tks.length ck) lks) (.mk tk tn tns tks) := lay_tail htail 4 _ _ (hl4.below hA4) ⟨fun _ => Nat.le_refl _, fun j h1 h2 => no_long (M := 3) (hl4.below hA4) rfl (by show 0 < tks.length; omega) j h1 h2 3 _ _ ((hl4.below hA4).2.2.2 j h1 h2) (Nat.le_refl _)⟩
        have hTb : w5.heap[w1.heap.size]? = some (.cells #[.int .i64 tk, .string tn, .slice an ln cn, .slice (some ⟨gk, 0, none⟩) tks.length ck] 28 (0, 0)) := (hT5.trans (hA4.block w1.heap.size lt4)).trans (hbT4.trans HT3.out)
        have hRb : w5.heap[w.heap.size]? = some (.cells #[.int .i64 0, .string ⟨#[]⟩, .slice none 0 0, .slice none 0 0] 28 (0, 0)) := (hB45.block w.heap.size (by omega)).trans ((hg4.block w.heap.size (by omega) (by simp; omega)).trans HX3.out)
        have hB6 : Below (w.heap.size + 1) w4 (w5.setCell ⟨w1.heap.size, 3, none⟩ (.slice (some ⟨gg, 0, none⟩) (tks.length + 1) cap')) := by
          refine Below.setCell hB45 ?_ _
          show w.heap.size + 1 ≤ w1.heap.size
          omega
        have hl6 : LayAt (w5.setCell ⟨w1.heap.size, 3, none⟩ (.slice (some ⟨gg, 0, none⟩) (tks.length + 1) cap')) 4 (.mk (.slice an ln cn) (.slice (some ⟨gk, 0, none⟩) tks.length ck) lks) (.mk tk tn tns tks) := hl5.same fun b hb => Below.heap_setCell _ _ _ _ (by have := (HLB.out b hb).2; simp; omega)
        have hgT : gg ≠ w1.heap.size ∧ w.heap.size < gg := by
          rcases hat with q | q
          · subst q; exact ⟨by omega, hgk.1⟩
          · omega
        have ho6 := ownsRow_setCell_other hown1 (a := ⟨w1.heap.size, 3, none⟩) (by simpa [Value.ownBlock] using hgT.1) (.slice (some ⟨gg, 0, none⟩) (tks.length + 1) cap')
        obtain ⟨f1, f2, f3, f4⟩ := any_more (R0 := w.heap.size) hl6 HBK.out.1 HBK.out.2.1 (fun b hb => (HLB.out b hb).1) ho6 hgT.2 ⟨hy0, by omega⟩
        have HL : Hid (type_of% (HFIN.out _ _ _ _ _ _ _ f1 f2 f3 ⟨f4, fun q => by simp at q⟩ (hC4.thenT (w := w) (hB6.mono (by omega)) (by omega) (by omega)) ((grown_trans HS3.out.2.2 hg4).thenT (hB6.mono (by omega))) rfl)) := HFIN.out _ _ _ _ _ _ _ f1 f2 f3 ⟨f4, fun q => by simp at q⟩ (hC4.thenT (w := w) (hB6.mono (by omega)) (by omega) (by omega)) ((grown_trans HS3.out.2.2 hg4).thenT (hB6.mono (by omega))) rfl
        have hoth : ∀ c u v, w5.cell? ⟨w.heap.size, c, none⟩ = some u → (w5.setCell ⟨w1.heap.size, 3, none⟩ v).cell? ⟨w.heap.size, c, none⟩ = some u := fun c u v h => cell_same h (Below.heap_setCell _ _ _ _ (by simpa using hTR.symm))
        have HO : Hid (type_of% hoth) := hoth
        clear rc0 rc1 rc2 rc3 tc0 tc1 tc2 tc3 rf0 rf1 rf2 rf3 tf0 tf1 tf2 tf3 z3 zf
        obtain ⟨⟨rc0, rc1, rc2, rc3⟩, rf⟩ := block4 hRb
        obtain ⟨⟨tc0, tc1, tc2, tc3⟩, tf⟩ := block4 hTb
        have rf0 := rf 0
        have rf1 := rf 1
        have rf2 := rf 2
        have rf3 := rf 3
        have tf3 := tf 3
        clear rf tf hRb hTb hB6 hl6 hgT ho6 f1 f2 f3 f4 hoth hA4 hB45 hl5 hl4 hown1 hT5 hbT4 x3 xf y3 yf hC4 hg4 hg4' HEND HFIN HS3 HBK HLB HX3 HT3 HBW htail hok4
        go_wp2_with fail
        refine ret_drA rfl (fun j hj => ?_) HL.out
        match j, hj with
        | 0, _ => rw [HO.out _ _ _ rc0]; rfl
        | 1, _ => rw [HO.out _ _ _ rc1]; rfl
        | 2, _ => rw [HO.out _ _ _ rc2]; rfl
        | 3, _ => rw [HO.out _ _ _ rc3]; rfl
  · -- within functions
    go_wp2_with fail
    go_loopw [4] (fun i wr => ∃ (k : Nat) (l' : Lay) (t' : Ty) (kd' : Int) (nm' : ByteArray) (an' : Option Addr) (ln' cn' : Nat) (ak' : Option Addr) (lk' ck' : Nat), k ≤ 12 ∧ i = .int .i64 k ∧ wr.heap[w1.heap.size]? = some (.cells #[.int .i64 kd', .string nm', .slice an' ln' cn', .slice ak' lk' ck'] 28 (0, 0)) ∧ cellsK t' l' = [.int .i64 kd', .string nm', .slice an' ln' cn', .slice ak' lk' ck'] ∧ LayAt wr (4 + k) l' t' ∧ (∀ b ∈ Lay.blocks (4 + k) l', w.heap.size < b ∧ b ≠ w1.heap.size) ∧ Ty.sized (4 + k) t' ∧ Ty.bulk (4 + k) t' ≤ 264 + k ∧ (t'.kids = [] → l'.vk = .slice none 0 0) ∧ Cur B wr cb a len cap ∧ w.grownBy wr (some cb) ∧ wr.heap[w.heap.size]? = some (.cells #[.int .i64 0, .string ⟨#[]⟩, .slice none 0 0, .slice none 0 0] 28 (0, 0)) ∧ w1.heap.size < wr.heap.size) (fun i _ => 12 - (intOf i).toNat)
    case atStart => exact ⟨0, _, _, _, _, _, _, _, _, _, _, by omega, rfl, HT3.out, rfl, HS3.out.1, fun b hb => ⟨(HLB.out b hb).1, by have := (HLB.out b hb).2; omega⟩, HBK.out.1, HBK.out.2.1, HBK.out.2.2, HS3.out.2.1, HS3.out.2.2, HX3.out, by omega⟩
    case round =>
      obtain ⟨k, l', t', kd', nm', an', ln', cn', ak', lk', ck', hk, rfl, hT', hcl', hL', hB', hsz', hbk', hvd', hC', hG', hR', hsT⟩ := hrel
      have HCL : Hid (type_of% hcl') := hcl'
      have HST : Hid (LayAt wr (4 + k) l' t' ∧ (∀ b ∈ Lay.blocks (4 + k) l', w.heap.size < b ∧ b ≠ w1.heap.size) ∧ Ty.sized (4 + k) t' ∧ Ty.bulk (4 + k) t' ≤ 264 + k ∧ (t'.kids = [] → l'.vk = .slice none 0 0) ∧ w.grownBy wr (some cb)) := ⟨hL', hB', hsz', hbk', hvd', hG'⟩
      have HCU : Hid (Cur B wr cb a len cap) := hC'
      have HTT : Hid (type_of% hT') := hT'
      have HRR : Hid (type_of% hR') := hR'
      clear rc0 rc1 rc2 rc3 tc0 tc1 tc2 tc3 rf0 rf1 rf2 rf3 tf0 tf1 tf2 tf3 hT' hcl' hL' hB' hsz' hbk' hvd' hC' hG' hR' HEND HS3 HBK HLB HX3 HT3
      go_wp2_with fail
      refine (drawBelow B cb a len cap _ 4 HCU.out (by omega)).mono ?_
      rintro e w5 ⟨y, rfl, hy0, hy1, _, hC5, hg5⟩
      have hy2 := hy1 (by omega)
      have hs5 := hg5.size
      have hT5 := (hg5.block w1.heap.size (by omega) (by simp; omega)).trans HTT.out
      have hR5 := (hg5.block w.heap.size (by omega) (by simp; omega)).trans HRR.out
      have hL5 : LayAt w5 (4 + k) l' t' := HST.out.1.grownC hg5 (fun b hb => by have := (HST.out.2.1 b hb).1; omega)
      have HC5 : Hid (Cur B w5 cb a len cap ∧ w.grownBy w5 (some cb)) := ⟨hC5, grown_trans HST.out.2.2.2.2.2 hg5⟩
      have HL5 : Hid (type_of% hL5) := hL5
      obtain ⟨⟨rc0, rc1, rc2, rc3⟩, rf⟩ := block4 hR5
      obtain ⟨⟨tc0, tc1, tc2, tc3⟩, tf⟩ := block4 hT5
      have rf0 := rf 0
      have rf1 := rf 1
      have rf2 := rf 2
      have rf3 := rf 3
      have tf0 := tf 0
      have tf1 := tf 1
      have tf2 := tf 2
      have tf3 := tf 3
      have HR5 : Hid (type_of% hR5) := hR5
      have HT5 : Hid (type_of% hT5) := hT5
      clear rf tf hC5 hg5 hL5 HCU HTT HRR hR5 hT5 hy1
      by_cases hlt : (k : Int) < 9 + y
      · have hTl : w1.heap.size < w5.heap.size := by omega
        have hsp : ((((w5.setCell ⟨w1.heap.size, 0, none⟩ (.int .i64 6)).setCell ⟨w1.heap.size, 1, none⟩ (.string ⟨#[]⟩)).setCell ⟨w1.heap.size, 2, none⟩ (.slice none 0 0)).setCell ⟨w1.heap.size, 3, none⟩ (.slice (some ⟨w5.heap.size, 0, none⟩) 1 1)).heap.size = w5.heap.size := by simp
        obtain ⟨WP, hWP⟩ : ∃ WP, WP = ((((w5.setCell ⟨w1.heap.size, 0, none⟩ (.int .i64 6)).setCell ⟨w1.heap.size, 1, none⟩ (.string ⟨#[]⟩)).setCell ⟨w1.heap.size, 2, none⟩ (.slice none 0 0)).setCell ⟨w1.heap.size, 3, none⟩ (.slice (some ⟨w5.heap.size, 0, none⟩) 1 1)).alloc (.cells #[.int .i64 kd', .string nm', .slice an' ln' cn', .slice ak' lk' ck'] 28) := ⟨_, rfl⟩
        have hB : Below w1.heap.size w5 WP := by rw [hWP]; exact (put_below (Below.refl _ _) (Nat.le_refl _)).alloc (by rw [hsp]; omega) _
        have hgb : WP.heap[w5.heap.size]? = some (.cells #[.int .i64 kd', .string nm', .slice an' ln' cn', .slice ak' lk' ck'] 28 (0, 0)) := by
          have q := heap_alloc_new ((((w5.setCell ⟨w1.heap.size, 0, none⟩ (.int .i64 6)).setCell ⟨w1.heap.size, 1, none⟩ (.string ⟨#[]⟩)).setCell ⟨w1.heap.size, 2, none⟩ (.slice none 0 0)).setCell ⟨w1.heap.size, 3, none⟩ (.slice (some ⟨w5.heap.size, 0, none⟩) 1 1)) (.cells #[.int .i64 kd', .string nm', .slice an' ln' cn', .slice ak' lk' ck'] 28)
          rw [hsp] at q
          rw [hWP]
          exact q
        have htT : WP.heap[w1.heap.size]? = some (.cells #[.int .i64 6, .string ⟨#[]⟩, .slice none 0 0, .slice (some ⟨w5.heap.size, 0, none⟩) 1 1] 28 (0, 0)) := by rw [hWP]; exact ((MapKept.heap_alloc _ _).2 w1.heap.size (by rw [hsp]; exact hTl)).trans (put_block HT5.out)
        have hot : ∀ b, b < w5.heap.size → b ≠ w1.heap.size → WP.heap[b]? = w5.heap[b]? := fun b hb hne => by rw [hWP]; exact ((MapKept.heap_alloc _ _).2 b (by rw [hsp]; exact hb)).trans (put_other hne)
        have hsW : w5.heap.size < WP.heap.size := (Array.getElem?_eq_some_iff.1 hgb).1
        have hkl : LayAt WP (4 + k) l' t' := HL5.out.same fun b hb => hot b (HL5.out.lt hb) (HST.out.2.1 b hb).2
        have hor : World.ownsRow WP 0 28 4 (.slice (some ⟨w5.heap.size, 0, none⟩) 1 1) 1 (cellsK t' l') := by
          rw [HCL.out]
          exact ⟨rfl, .inr ⟨w5.heap.size, 1, _, rfl, Nat.zero_le _, hgb, Nat.le_refl _, by unfold maxLen; omega, rfl, rfl⟩⟩
        have HNEW : Hid (LayAt WP (4 + k + 1) (.mk (.slice none 0 0) (.slice (some ⟨w5.heap.size, 0, none⟩) 1 1) [l']) (.mk 6 ⟨#[]⟩ [] [t']) ∧ (∀ b ∈ Lay.blocks (4 + k + 1) (.mk (.slice none 0 0) (.slice (some ⟨w5.heap.size, 0, none⟩) 1 1) [l']), w.heap.size < b ∧ b ≠ w1.heap.size) ∧ Ty.sized (4 + k + 1) (.mk 6 ⟨#[]⟩ [] [t']) ∧ Ty.bulk (4 + k + 1) (.mk 6 ⟨#[]⟩ [] [t']) ≤ 264 + (k + 1)) := by
          refine ⟨⟨.inl ⟨rfl, rfl, _, _, rfl⟩, rfl, OwnS.of (by show World.ownsRow _ 0 _ 4 _ 1 (cellsK t' l' ++ []); rw [List.append_nil]; exact hor), fun j h1 h2 => ?_⟩, fun b hb => ?_, kids_sized (fun s hs => by rw [List.mem_singleton] at hs; subst hs; exact HST.out.2.2.1) (by simp) 6 (by omega), ?_⟩
          · obtain rfl : j = 0 := by have : j < [l'].length := h1; simp at this; exact this
            exact hkl
          · rcases List.mem_append.1 hb with hb | hb
            · simp [blk] at hb
            · rcases List.mem_append.1 hb with hb | hb
              · have hb2 : b = w5.heap.size := by
                  have h9 : b ∈ blk (.slice (some ⟨w5.heap.size, 0, none⟩) 1 1) := hb
                  simp [blk] at h9
                  exact h9
                omega
              · simp only [List.flatMap_cons, List.flatMap_nil, List.append_nil] at hb
                exact HST.out.2.1 b hb
          · show (0 : Nat) + (0 + 0) + (1 + (Ty.bulk (4 + k) t' + 0)) ≤ _
            have := HST.out.2.2.2.1
            omega
        have HC6 : Hid (Cur B WP cb a len cap ∧ w.grownBy WP (some cb) ∧ WP.heap[w.heap.size]? = some (.cells #[.int .i64 0, .string ⟨#[]⟩, .slice none 0 0, .slice none 0 0] 28 (0, 0))) := ⟨HC5.out.1.thenT (w := w1) hB (by omega) (by omega), HC5.out.2.thenT (hB.mono (by omega)), (hB.block w.heap.size (by omega)).trans HR5.out⟩
        have HTN : Hid (type_of% htT) := htT
        have HWP : Hid (type_of% hWP) := hWP
        have y0 := (cellOld (o := .cells #[.int .i64 kd', .string nm', .slice an' ln' cn', .slice ak' lk' ck'] 28) 0 hTl).trans tc0
        have y1 := (cellOld (o := .cells #[.int .i64 kd', .string nm', .slice an' ln' cn', .slice ak' lk' ck'] 28) 1 hTl).trans tc1
        have y2 := (cellOld (o := .cells #[.int .i64 kd', .string nm', .slice an' ln' cn', .slice ak' lk' ck'] 28) 2 hTl).trans tc2
        have y3 := (cellOld (o := .cells #[.int .i64 kd', .string nm', .slice an' ln' cn', .slice ak' lk' ck'] 28) 3 hTl).trans tc3
        have z0 := (frozenOld (o := .cells #[.int .i64 kd', .string nm', .slice an' ln' cn', .slice ak' lk' ck'] 28) 0 hTl).trans tf0
        have z1 := (frozenOld (o := .cells #[.int .i64 kd', .string nm', .slice an' ln' cn', .slice ak' lk' ck'] 28) 1 hTl).trans tf1
        have z2 := (frozenOld (o := .cells #[.int .i64 kd', .string nm', .slice an' ln' cn', .slice ak' lk' ck'] 28) 2 hTl).trans tf2
        have z3 := (frozenOld (o := .cells #[.int .i64 kd', .string nm', .slice an' ln' cn', .slice ak' lk' ck'] 28) 3 hTl).trans tf3
        clear hB hgb hot htT hkl hor HST HL5 HC5 HR5 HT5 HFIN HCL hWP hsp
        go_wp2_with fail
        rw [← HWP.out]
        go_roundw
        case rel => exact ⟨k + 1, _, _, _, _, _, _, _, _, _, _, by omega, by go_num, HTN.out, rfl, HNEW.out.1, HNEW.out.2.1, HNEW.out.2.2.1, HNEW.out.2.2.2, fun q => by simp at q, HC6.out.1, HC6.out.2.1, HC6.out.2.2, by omega⟩
        case measure => simp [intOf]; omega
      · obtain ⟨d1, d2, d3, d4⟩ := lay_deeper (12 - k) HL5.out HST.out.2.2.1
        rw [show 4 + k + (12 - k) = 16 by omega] at d1 d2 d3 d4
        have HL : Hid (type_of% (HFIN.out w5 l' t' _ _ _ _ d1 (fun b hb => (HST.out.2.1 b (by rw [← d2]; exact hb)).1) d3 ⟨by have := HST.out.2.2.2.1; omega, HST.out.2.2.2.2.1⟩ HC5.out.1 HC5.out.2 (by rw [HCL.out]))) := HFIN.out w5 l' t' _ _ _ _ d1 (fun b hb => (HST.out.2.1 b (by rw [← d2]; exact hb)).1) d3 ⟨by have := HST.out.2.2.2.1; omega, HST.out.2.2.2.2.1⟩ HC5.out.1 HC5.out.2 (by rw [HCL.out])
        clear d1 d2 d3 d4 HST HL5 HC5 HR5 HT5 HFIN HCL
        go_wp2_with fail
        refine ret_drA rfl (fun j hj => ?_) HL.out
        match j, hj with
        | 0, _ => rw [rc0]; rfl
        | 1, _ => rw [rc1]; rfl
        | 2, _ => rw [rc2]; rfl
        | 3, _ => rw [rc3]; rfl
  · -- as it is
    have HL : Hid (type_of% (HEND.out w3 tk tn HBK.out.1 (.inr rfl) HS3.out.1 HS3.out.2.1 HS3.out.2.2)) := HEND.out w3 tk tn HBK.out.1 (.inr rfl) HS3.out.1 HS3.out.2.1 HS3.out.2.2
    have e0 : (x == 0) = false := by simp; omega
    have e1 : (x == 1) = false := by simp; omega
    have e2 : (x == 2) = false := by simp; omega
    have e3 : (x == 3) = false := by simp; omega
    clear HEND HFIN
    go_wp2_with fail
    refine ret_drA rfl (fun j hj => ?_) HL.out
    match j, hj with
    | 0, _ => rw [rc0]; rfl
    | 1, _ => rw [rc1]; rfl
    | 2, _ => rw [rc2]; rfl
    | 3, _ => rw [rc3]; rfl

end Go.Proofs.YthomlchbgcjcfaaGreatDoor

namespace Go.Proofs.YthomlchbgcjcfaaGreatDoor.lawUnion
open Go.ChangeShapes Go.WideShapes Go.ChangeAt Go.RowKit

theorem own : ownKnob Tryz.prog.godebug = none := by kernel_rfl
theorem gTab : Tryz.prog.globalNamed "loop.example/g00276/impl.classes" = some 1 := by kernel_rfl
theorem gTabType : (Tryz.prog.globals[1]?).map (·.type) = some 138 := by kernel_rfl
def clsTab : List Int := (List.range 128).map fun i => (Lx.cls i : Int)
theorem tabDatum : (Rows.laid_loop_example_g00276_impl_classes : DataW Unit) = Lib.tabData .u8 clsTab := by kernel_rfl
theorem clsIs {W : World} (h : Lib.TabIs Tryz.prog W "loop.example/g00276/impl.classes" .u8 clsTab) : ClsIs W := fun i hi => by
  have := h.cell gTab i (by simp [clsTab]; exact hi)
  rw [this]
  simp [clsTab, List.getD, hi]

theorem table {W : World} (h : laidMetH Tryz.prog Rows.fnUnionRow.laid W) : ClsIs W := by
  have h2 : laidMet Tryz.prog [("loop.example/g00276/impl.classes", Rows.laid_loop_example_g00276_impl_classes)] W := h
  rw [tabDatum] at h2
  exact clsIs (Lib.tabIs_of_head gTab gTabType Tryz.underlying138 Tryz.underlying5 (by kernel_rfl) (by kernel_rfl) h2)

set_option maxRecDepth 100000 in
theorem walk (a : Option Addr) (len cap : Nat) (w : World) (hlow : ∀ b off, a = some ⟨b, off, none⟩ → 0 < len → b < w.heap.size) (hcode : Code w a len) (hc : ClsIs w) :
    Calls Tryz.prog 3 #[.slice a len cap] w fun e w' => e = .returned (.bool true) ∧ Below w.heap.size w w' :=
  walkFnUnion 16 a len cap w (fun hb => drawUnion a len cap w ⟨hlow, hcode, hb⟩ fun B cb => drawAny B cb a len cap) hc

theorem laidOut : laidOutB Tryz.prog = true := by kernel_rfl

set_option maxRecDepth 100000 in
theorem contract (H : Type) (enc : TypeId × Value → H) (W : World) (base : Nat) (args : Array Value) (ds gs : List (DataW H)) (before : List MemPlace)
    (hval : ∀ (j : Nat) t v, Tryz.f3.params[j]? = some t → args[j]? = some v → Value.okWide Tryz.prog W .any base t v)
    (hW : DataW.Whole enc Tryz.prog Tryz.f3.params.toList Rows.fnUnionSpec.vars false W args.toList ds gs before) (hL : laidMetH Tryz.prog Rows.fnUnionRow.laid W) :
    Calls Tryz.prog 3 args W fun e W' => ∃ v, e = .returned v ∧ Rows.fnUnionSpec.post enc Tryz.prog Tryz.f3 false true false false W args v W' := by
  have hW' := hW
  obtain ⟨p, q, hA0, hV, rfl, hfz, hnd⟩ := hW
  have hA : DataW.TrodAll enc Tryz.prog W 0 (fun _ => true) true Tryz.f3.params.toList args.toList ds p := hA0
  rw [Tryz.params3] at hA hval
  obtain ⟨v0, vs0, d0, ds0, p0, q0, hargs, rfl, rfl, h0, r0⟩ := trodAll_cons hA
  obtain ⟨rfl, rfl, rfl⟩ := trodAll_nil r0
  obtain rfl : args = #[v0] := by cases args; simp_all
  have hV0 := hV
  obtain ⟨g0, t0, cs0, fu0, dv, pv, rfl, _, _, _, _, _⟩ := trodVars_one hV
  obtain ⟨a0, len0, cap0, rfl⟩ := okWide_slice Tryz.underlying22 (hval 0 22 v0 rfl rfl)
  have k0 := h0
  have lt0 : ∀ x ∈ p0, x.block < W.heap.size := by obtain ⟨m, hm⟩ := k0; exact DataW.trod_lt m _ _ _ hm
  have hcode : Code W a0 len0 := by
    obtain ⟨fuel, hf⟩ := h0
    rcases open_ints Tryz.underlying22 Tryz.underlying5 (by kernel_rfl) hf with ⟨hcs, _⟩ | ⟨x, l, c, zs, hcs, _, hl, hm, hz, _, hcell, hwz⟩
    · simp [Value.cells] at hcs
      obtain ⟨rfl, rfl, rfl⟩ := hcs
      exact fun j hj => absurd hj (by omega)
    · simp [Value.cells] at hcs
      obtain ⟨rfl, rfl, rfl⟩ := hcs
      have hzl : zs.length = cap0 := by simpa using hz
      intro j hj
      have hjl : j < zs.length := by omega
      obtain ⟨b, off, spot⟩ := x
      have hc := hcell j hjl
      have hspot : spot = none := by
        have h00 := hcell 0 (by omega)
        simpa [Addr.add] using World.cell?_spot h00
      subst hspot
      rw [Addr.add_lit] at hc
      have hw := hwz (zs.getD j 0) (by simp [hjl])
      have hbd : 0 ≤ zs.getD j 0 ∧ zs.getD j 0 ≤ 255 := by simpa [Lit.wf, IntKind.min, IntKind.max, IntKind.signed, IntKind.bits] using hw
      exact ⟨b, off, zs.getD j 0, rfl, hbd.1, hbd.2, hc⟩
  have hlow : ∀ b off, a0 = some ⟨b, off, none⟩ → 0 < len0 → b < W.heap.size := fun b off e hp => by
    obtain ⟨b', off', z, e', _, _, hc⟩ := hcode 0 hp
    rw [e] at e'
    cases e'
    exact World.block_lt_of_cell? W ⟨b, off + 0, none⟩ hc
  clear hA0
  refine (walk a0 len0 cap0 W hlow hcode (table hL)).mono fun e W' ⟨he, bel⟩ => ?_
  subst he
  exact ⟨_, rfl, _, _, _, [], _, _, hW', trodAll_mk1 (shut_bool Tryz.underlying4 _), (trodAll_cons_mk (Below.trod laidOut (by kernel_rfl) (of_decide_eq_true (by kernel_rfl)) k0 bel lt0) trodAll_mk0), Below.trodVars laidOut bel (by kernel_rfl) hV0, bel.frame _, fun h => by cases h⟩

def fill (cs : Array Value) : Obj → Obj
  | .cells _ t frozen => .cells cs t frozen
  | o => o
def laidWorld (P : Program) (os : Os) : World :=
  { World.holding P os ⟨#[], #[], []⟩ with heap := (World.holding P os ⟨#[], #[], []⟩).heap.modify 1 (fill (clsTab.map fun z => Value.int .u8 z).toArray) }
theorem laid_met (os : Os) : laidMet Tryz.prog Rows.fnUnionRow.laid ((laidWorld Tryz.prog os).forCall (fun _ _ => 0) ⟨#[], #[.slice none 0 0], []⟩).memory :=
  laidMet_of_run' 8 (by kernel_rfl) (by kernel_rfl)
theorem reads (os : Os) {H : Type} (enc : TypeId × Value → H) : ∃ places, DataW.whole enc Tryz.prog ((laidWorld Tryz.prog os).forCall (fun _ _ => 0) ⟨#[], #[.slice none 0 0], []⟩).memory Tryz.f3.params.toList Rows.fnUnionSpec.vars false #[Value.slice none 0 0].toList 8 = some ([.nil], [Rows.laid_loop_example_g00276_impl_classes], places) :=
  ⟨MemPlace.row ⟨1, 0, none⟩ 128, by kernel_rfl⟩

set_option maxRecDepth 100000 in
theorem lifted (os : Os) (started : os.Started) (H : Type) (enc : TypeId × Value → H) (F : Stop.Interp) :
    ReturnsInHanded {} Tryz.checked os 3 .any ((OpenSpec.ofChange Rows.fnUnionSpec).preRow enc Tryz.prog Tryz.f3 Rows.fnUnionRow.domain false Rows.fnUnionRow.laid) (((OpenSpec.ofChange Rows.fnUnionSpec).at F).post enc Tryz.prog Tryz.f3 false true false false) := by
  obtain ⟨places, hx⟩ := reads os enc
  refine returnsInHanded_of_row (C := Tryz.checked) (s := OpenSpec.ofChange Rows.fnUnionSpec) own started (by kernel_rfl) Tryz.func3
    (witness_row_at (enc := enc) (C := Tryz.checked) false (laidWorld Tryz.prog os) #[.slice none 0 0] rfl (by kernel_rfl) (by kernel_rfl) (by kernel_rfl)
      (OpenSpec.preRow_of_cond 8 hx (by kernel_rfl) (fun k hk => by cases hk) (by kernel_rfl) (laid_met os))) ?_
  intro W base args ds gs before hval hW _ _ _ hL _ _
  exact contract H enc W base args ds gs before hval hW hL

theorem said : Rows.FnUnionSaid :=
  OpenClaim.holds_of_cond 3 Tryz.f3 rfl rfl rfl rfl rfl rfl rfl ⟨rfl, rfl, rfl, rfl, rfl⟩ rfl rfl rfl rfl rfl (by kernel_rfl) Tryz.func3 (by kernel_rfl)
    (of_decide_eq_true (by kernel_rfl)) (by unfold Func.isWrapper; first | (rw [if_pos (by decide +kernel)]; kernel_rfl) | (rw [if_neg (by decide +kernel)]; exact ⟨rfl, rfl⟩))
    (fun os started H enc _ F => by rw [OpenClaim.pre_eq_preRow]; exact lifted os started H enc F)

theorem plain (f : FuncId) (fn : Func) (hf : Tryz.pinned.checked.prog.funcNamed "loop.example/g00276/laws.FnUnion" = some f) (hfn : Tryz.pinned.checked.prog.funcs[f]? = some fn) :
    Rows.fnUnionCard.stood.looks = Tryz.pinned.checked.prog.looks [] ∧ ∀ (j : Nat) t, fn.params[j]? = some t → Tryz.pinned.checked.prog.wantsStandIn t = false := by
  obtain rfl : f = 3 := Option.some.inj ((show Tryz.prog.funcNamed "loop.example/g00276/laws.FnUnion" = some 3 by kernel_rfl).symm.trans hf) |>.symm
  obtain rfl : fn = Tryz.f3 := (Option.some.inj (Tryz.func3.symm.trans hfn)).symm
  refine ⟨by kernel_rfl, fun j t ht => ?_⟩
  rw [Tryz.params3] at ht
  obtain rfl : t = 22 := by simpa using Array.mem_of_getElem? ht
  exact (show Tryz.prog.wantsStandIn 22 = false by kernel_rfl)

end Go.Proofs.YthomlchbgcjcfaaGreatDoor.lawUnion

namespace Go.Proofs.YthomlchbgcjcfaaGreatDoor

theorem lawUnion_holds : Rows.FnUnionCardSaid :=
  Claim7.holds_tied_plain_at .later [] _ _ _ _ lawUnion.said (fun _ h => by cases h) (by kernel_rfl) (fun _ h => by cases h) fnUnion_row_tie rfl ⟨rfl, rfl⟩ (by kernel_rfl) rfl lawUnion.plain (by kernel_rfl)

end Go.Proofs.YthomlchbgcjcfaaGreatDoor
