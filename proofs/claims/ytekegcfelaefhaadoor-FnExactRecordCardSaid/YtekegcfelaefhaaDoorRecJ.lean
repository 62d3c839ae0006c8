/-
  The walk of impl.Record, whole.
  Two answers that Record may give of the same names and kids are one.
  A region that draws its order and ends in a store: what is read before that store may be taken first, though the store writes it. No program here.
  The body of the law of Record, given spec.Record.
  Laws for the walk of spec.Record.
  spec.Record where names and kids are not of one length.
-/
import Derived.Test.YtekegcfelaefhaaDoorSortFLib
import Derived.OrdersHeld
import Derived.Deep.RegionHeld3
import Derived.Test.YtekegcfelaefhaaDoorLayI
import Derived.Test.YtekegcfelaefhaaDoorCopyS
namespace Go.Proofs.YtekegcfelaefhaaDoor
open Go.RowKit

theorem textsBulk_perm {a b : List ByteArray} (h : a.Perm b) : Ty.textsBulk a = Ty.textsBulk b := by
  induction h with
  | nil => rfl
  | cons x _ ih => simp only [Ty.textsBulk, ih]
  | swap x y l => simp only [Ty.textsBulk]; omega
  | trans _ _ i1 i2 => exact i1.trans i2
theorem rowBulk_perm {n : Nat} {a b : List Ty} (h : a.Perm b) : rowBulk n a = rowBulk n b := by
  induction h with
  | nil => rfl
  | cons x _ ih => unfold rowBulk at *; simp only [List.map_cons, List.sum_cons, List.length_cons]; omega
  | swap x y l => unfold rowBulk; simp only [List.map_cons, List.sum_cons, List.length_cons]; omega
  | trans _ _ i1 i2 => exact i1.trans i2
theorem range_names (nms : List ByteArray) : (List.range nms.length).map (nameAt nms) = nms := by
  apply List.ext_getElem
  · simp
  · intro i h1 h2
    rw [List.getElem_map, List.getElem_range, nameAt_eq nms i h2]
theorem range_kids (ks : List Ty) : (List.range ks.length).map (kidAt ks) = ks := by
  apply List.ext_getElem
  · simp
  · intro i h1 h2
    rw [List.getElem_map, List.getElem_range, kidAt_eq ks i h2]
theorem names_perm {nms : List ByteArray} {ps : List Nat} (h : ps.Perm (List.range nms.length)) : (ps.map (nameAt nms)).Perm nms := by
  have := h.map (nameAt nms)
  rwa [range_names] at this
theorem kids_perm {ks : List Ty} {ps : List Nat} (h : ps.Perm (List.range ks.length)) : (ps.map (kidAt ks)).Perm ks := by
  have := h.map (kidAt ks)
  rwa [range_kids] at this
theorem recOf_bulk {n : Nat} {nms : List ByteArray} {ks : List Ty} {ps : List Nat} (hl : nms.length = ks.length) (h : ps.Perm (List.range nms.length)) : Ty.bulk (n + 1) (recOf nms ks ps) = nms.length + Ty.textsBulk nms + rowBulk n ks := by
  have h1 := textsBulk_perm (names_perm h)
  have h' : ps.Perm (List.range ks.length) := by rw [← hl]; exact h
  have h2 := rowBulk_perm (n := n) (kids_perm h')
  have h3 : ps.length = nms.length := by rw [h.length_eq, List.length_range]
  show (0 : Nat) + ((ps.map (nameAt nms)).length + Ty.textsBulk (ps.map (nameAt nms))) + rowBulk n (ps.map (kidAt ks)) = _
  rw [h1, h2, List.length_map, h3]
  omega

theorem NewLay.put {B B' R : Nat} {w : World} {n : Nat} {l : Lay} {t : Ty} {x0 x1 x2 x3 : Value} (h : NewLay B w n l t) (hR : R < B) (hB : B' ≤ B) : NewLay B' ((((w.setCell ⟨R, 0, none⟩ x0).setCell ⟨R, 1, none⟩ x1).setCell ⟨R, 2, none⟩ x2).setCell ⟨R, 3, none⟩ x3) n l t :=
  ⟨h.1.same fun b hb => put_other (by have := h.2.2 b hb; omega), h.2.1, fun b hb => Nat.le_trans hB (h.2.2 b hb)⟩
theorem grown_drew {w w' : World} {o : Option Nat} (h : w.drew.grownBy w' o) : w.grownBy w' o := by
  obtain ⟨h1, h2, h3, h4, h5⟩ := h
  exact ⟨h1, h2, h3, h4, h5⟩
theorem cellOld_any {w : World} {o : Obj} {b i : Nat} {u : Value} (h : w.cell? ⟨b, i, none⟩ = some u) (hb : b < w.heap.size) : (w.alloc o).cell? ⟨b, i, none⟩ = some u := (cellOld i hb).trans h
theorem frozenOld_any {w : World} {o : Obj} {b i : Nat} (h : w.frozen? ⟨b, i, none⟩ = false) (hb : b < w.heap.size) : (w.alloc o).frozen? ⟨b, i, none⟩ = false := (frozenOld i hb).trans h

/-- in the order of their names -/
def InOrder (nms : List ByteArray) (ps : List Nat) : Prop := ∀ i j (_ : i < j) (hj : j < ps.length), ¬ lessB (nameAt nms ps[j]) (nameAt nms (ps[i]'(by omega)))

/-- what Record answers, at that depth -/
def RecAns (n : Nat) (nms : List ByteArray) (ks : List Ty) (t : Ty) (ok : Bool) : Prop :=
  (ok = true ∧ nms.length = ks.length ∧ ∃ ps, ps.Perm (List.range nms.length) ∧ InOrder nms ps ∧ t = recOf nms ks ps ∧ Right (n + 1) t 12) ∨
  (ok = false ∧ t = .mk 0 ⟨#[]⟩ [] [] ∧ (nms.length = ks.length → ∃ ps, ps.Perm (List.range nms.length) ∧ InOrder nms ps ∧ ¬ Right (n + 1) (recOf nms ks ps) 12))

set_option maxHeartbeats 3200000 in
set_option maxRecDepth 100000 in
theorem implRecord (n : Nat) (vn vk : Value) (nms : List ByteArray) (ks : List Ty) (w : World) (hT : Texts w vn nms) (hrow : RowAt w (TyAt w n) vk ks) (hb : nms.length + Ty.textsBulk nms + rowBulk n ks ≤ 1048576) (hc : ClsIs w) :
    Calls Tryd.prog 9 #[vn, vk] w fun e w' => ∃ (l : Lay) (t : Ty) (ok : Bool), e = .returned (.tuple #[.agg (cellsK t l).toArray, .bool ok]) ∧ RecAns n nms ks t ok ∧ NewLay w.heap.size w' (n + 1) l t ∧ Below w.heap.size w w' := by
  obtain ⟨i0, hi0, hz0, hz1, hz2⟩ := info_parts Tryd.infoTypeT
  obtain ⟨j0, hj0, hy0, hy1, hy2⟩ := info_parts Tryd.infoString
  obtain ⟨C, ak, ck, rfl, hC, hCc⟩ := choose_cells hrow
  obtain ⟨an, cn, rfl, hnc⟩ := textsOpen hT
  have hlen : ks.length ≤ 1048576 := by unfold rowBulk at hb; omega
  by_cases hne : nms.length = ks.length
  · have hneI : ((nms.length : Int) == (ks.length : Int)) = true := by rw [beq_iff_eq]; omega
    have hlnm : nms.length ≤ 1048576 := by omega
    have hns : ∀ x ∈ nms, x.size ≤ 1048576 := fun x hx => by have := textsBulk_mem nms x hx; omega
    have hBW1 : Below w.heap.size w ((w.alloc (.cells #[.int .i64 0, .string ⟨#[]⟩, .slice none 0 0, .slice none 0 0] 28)).alloc (.cells #[.int .i64 5, .string ⟨#[]⟩, .slice none 0 0, .slice none 0 0] 28)) := ((Below.refl _ _).alloc (Nat.le_refl _) _).alloc (by simp) _
    have hr1 : ((w.alloc (.cells #[.int .i64 0, .string ⟨#[]⟩, .slice none 0 0, .slice none 0 0] 28)).alloc (.cells #[.int .i64 5, .string ⟨#[]⟩, .slice none 0 0, .slice none 0 0] 28)).heap[w.heap.size]? = some (.cells #[.int .i64 0, .string ⟨#[]⟩, .slice none 0 0, .slice none 0 0] 28) := heap_first w _ _
    have ht1 : ((w.alloc (.cells #[.int .i64 0, .string ⟨#[]⟩, .slice none 0 0, .slice none 0 0] 28)).alloc (.cells #[.int .i64 5, .string ⟨#[]⟩, .slice none 0 0, .slice none 0 0] 28)).heap[w.heap.size + 1]? = some (.cells #[.int .i64 5, .string ⟨#[]⟩, .slice none 0 0, .slice none 0 0] 28) := heap_second w _ _
    have hW1z : ((w.alloc (.cells #[.int .i64 0, .string ⟨#[]⟩, .slice none 0 0, .slice none 0 0] 28)).alloc (.cells #[.int .i64 5, .string ⟨#[]⟩, .slice none 0 0, .slice none 0 0] 28)).heap.size = w.heap.size + 1 + 1 := by simp
    have HP : Hid (∀ wx : World, Below w.heap.size w wx → Calls Tryd.prog 21 #[.slice an nms.length cn] wx fun e w' => ∃ (a : Option Addr) (c : Nat) (ps : List Nat), e = .returned (.slice a nms.length c) ∧ ps.Perm (List.range nms.length) ∧ InOrder nms ps ∧ w'.ownsRow wx.heap.size 3 1 (.slice a nms.length c) nms.length (placeV ps) ∧ Below wx.heap.size wx w') := fun wx hx => implPlaces _ nms wx (hT.below hx) (by omega)
    have HNC : Hid (type_of% hnc) := hnc
    have HCC : Hid (type_of% hCc) := hCc
    have HCA : Hid (type_of% hC) := hC
    have HBK : Hid (type_of% hb) := hb
    have HNE : Hid (nms.length = ks.length) := hne
    have HNS : Hid (type_of% hns) := hns
    have HCL : Hid (ClsIs w) := hc
    clear hC hCc hnc hT hrow hc hb hns hne
    go_enter Tryd.func9, Tryd.ntmps9
    go_wp2_with fail
    generalize ((w.alloc (.cells #[.int .i64 0, .string ⟨#[]⟩, .slice none 0 0, .slice none 0 0] 28)).alloc (.cells #[.int .i64 5, .string ⟨#[]⟩, .slice none 0 0, .slice none 0 0] 28)) = W1 at *
    refine (HP.out _ hBW1).mono ?_
    rintro e W2 ⟨ap, cp, ps, rfl, hpm, hio, hpo, hb2⟩
    have hpl0 : ps.length = nms.length := by rw [hpm.length_eq, List.length_range]
    have HPL : Hid (ps.length = nms.length) := hpl0
    have hpl1 : ps.length ≤ nms.length := by omega
    have hpl2 : nms.length ≤ ps.length := by omega
    clear hpl0
    have hr2 := (hb2.block w.heap.size (by omega)).trans hr1
    have ht2 := (hb2.block (w.heap.size + 1) (by omega)).trans ht1
    have hBW2 : Below w.heap.size w W2 := hBW1.trans (hb2.mono (by omega))
    have hzW2 : w.heap.size + 1 + 1 ≤ W2.heap.size := by have := hb2.size; omega
    have HPM : Hid (∀ p ∈ ps, p < ks.length ∧ p < nms.length) := fun p hp => by have := List.mem_range.1 (hpm.mem_iff.1 hp); have := HNE.out; exact ⟨by omega, by omega⟩
    have HPC : Hid (∀ j (hj : j < ps.length), ∃ gp, ap = some ⟨gp, 0, none⟩ ∧ w.heap.size + 1 + 1 ≤ gp ∧ gp < W2.heap.size ∧ W2.cell? ⟨gp, j, none⟩ = some (.int .i64 (ps[j] : Int))) := fun j hj => by
      rcases hpo.2 with ⟨_, h0⟩ | ⟨g, cap, cur, hv, hg, hh, _⟩
      · omega
      · simp only [Value.slice.injEq, true_and] at hv
        refine ⟨g, hv.1, by omega, (Array.getElem?_eq_some_iff.1 hh).1, ?_⟩
        have ho := hpo
        rw [hv.1] at ho
        rw [ho.cellAt j (by omega)]
        simp [placeV, hj]
    have HPP : Hid (type_of% hpm) := hpm
    have HIO : Hid (type_of% hio) := hio
    have hM0 : Rec2 W2 W2 (w.heap.size + 1) (.slice none 0 0) (.slice none 0 0) 0 0 (strV (([] : List Nat).map (nameAt nms))) (flatP C []) := ⟨ht2, World.ownsRow_nil _ _ _ _, World.ownsRow_nil _ _ _ _, (fun g e => nomatch e), OnlyL.refl _ _, by omega⟩
    clear hr1 ht1 hpm hio hpo hb2 HP ht2 hBW1 hW1z
    go_wp2_with fail
    go_loopw [21] (fun i wr => ∃ (k : Nat) (vN vK : Value), k ≤ nms.length ∧ i = .int .i64 k ∧ Rec2 W2 wr (w.heap.size + 1) vN vK k k (strV ((ps.take k).map (nameAt nms))) (flatP C (ps.take k))) (fun i _ => nms.length - (intOf i).toNat)
    case atStart => exact ⟨0, _, _, Nat.zero_le _, rfl, hM0⟩
    case round =>
      obtain ⟨k, vN, vK, hk, rfl, hM⟩ := hrel
      clear hM0
      obtain ⟨⟨tc0, tc1, tc2, tc3⟩, tf⟩ := block4 hM.box
      have hzr := hM.only.size
      have lt1 : w.heap.size + 1 < wr.heap.size := by omega
      have hbw : Below w.heap.size w wr := hBW2.trans (hM.only.below (fun x hx => by simp only [List.mem_singleton] at hx; omega) (by omega))
      obtain ⟨aN, cN, hvN⟩ := slice_ownM hM.names
      obtain ⟨aK, cK, hvK⟩ := slice_ownM hM.kids
      subst hvN hvK
      have HM : Hid (type_of% hM) := hM
      have hoN := hM.names
      have tf2 := tf 2
      have tf3 := tf 3
      have hnT : (Value.slice aN k cN).ownBlock ≠ some (w.heap.size + 1) := fun e => by have := (hM.names.lt _ e).1; omega
      by_cases hlt : k < nms.length
      · have hkp : k < ps.length := by omega
        obtain ⟨gp, rfl, hgp1, hgp2, cp0⟩ := HPC.out k hkp
        have P0 := (cell_same cp0 (hM.only.block gp hgp2 (by simp only [List.mem_singleton]; omega)))
        obtain ⟨hpk, hpn⟩ := HPM.out _ (List.getElem_mem hkp)
        obtain ⟨bn, on, rfl, n0⟩ := HNC.out _ hpn
        have hbn : bn < w.heap.size := World.block_lt_of_cell? w ⟨bn, on + ps[k], none⟩ n0
        have N0 := (hbw.cell (p := ⟨bn, on + ps[k], none⟩) hbn).trans n0
        obtain ⟨bk, ok, rfl, hbk, kc⟩ := HCC.out _ hpk
        obtain ⟨an2, ln2, cn2, ak2, lk2, ck2, hcs⟩ := (HCA.out _ hpk).shape
        rw [hcs] at kc
        have HCS : Hid (type_of% hcs) := hcs
        have HNA : Hid ((ps.take k).map (nameAt nms) ++ [nms[ps[k]]] = (ps.take (k + 1)).map (nameAt nms)) := by show _ = _; rw [List.take_succ_eq_append_getElem hkp, List.map_append, List.map_singleton, nameAt_eq nms _ hpn]
        have HKA : Hid (flatP C (ps.take k) ++ C ps[k] = flatP C (ps.take (k + 1))) := by show _ = _; rw [List.take_succ_eq_append_getElem hkp, flatP_snoc]
        have q0 : (0 : Int) ≤ (ps[k] : Int) := by omega
        have q1 : (ps[k] : Int) < (nms.length : Int) := by omega
        have q2 : (ps[k] : Int) < (ks.length : Int) := by omega
        clear n0 cp0 HPC HPM HCA HCC HNC hcs hM
        generalize ps[k] = p at *
        generalize nms[p] = nm at *
        generalize kidAt ks p = q at *
        go_wp2_with fail
        go_region_law
          ((refine step_append_lies _ (by rfl) _ _ _ (by rfl) W2.heap.size 9 j0 _ 1 16 Tryd.underlying22 hj0 hy0 hy1 hy2 rfl (by omega) (.slice aN k cN) k _ (by rfl) (by first | exact (hoN.alloc _) | exact (hoN.alloc _).drew) ⟨wr.heap.size, 0, none⟩ 1 1 [.string nm] (by rfl) (by rfl) (World.news_of_block (cs := #[.string nm]) (t := 9) (fr := (0, 0)) (heap_alloc_new wr _)) (by simp [Value.oneCell']) (by omega) (by unfold maxLen; omega) (by omega) (by simp; omega) (wr.heap.size + 1) (by simp) ?_; intro gg cap w4 hown1 hgrow hat hlt4; have hT4 := hgrow.block (w.heap.size + 1) (by simp; omega) (fun e => hnT e.symm); have z2 := cell_same (cellOld_any tc2 lt1) hT4; have zf := (frozen_same 2 hT4).trans (frozenOld_any tf2 lt1)))
        all_goals
          have hown1' : w4.ownsRow W2.heap.size 9 1 (.slice (some ⟨gg, 0, none⟩) (k + 1) cap) (k + 1) (strV ((ps.take (k + 1)).map (nameAt nms))) := by rw [← HNA.out]; simpa [strV] using hown1
          have R1 := HM.out.name (grown_drew hgrow) hat hown1'
          clear hown1 hown1' hgrow hat hlt4 hT4 z2 zf HNA hnT hoN tc0 tc1 tc2 tc3 tf tf2 tf3 HM N0 P0
          go_wp2_with fail
          generalize (w4.setCell ⟨w.heap.size + 1, 2, none⟩ (.slice (some ⟨gg, 0, none⟩) (k + 1) cap)) = w5 at *
          obtain ⟨⟨uc0, uc1, uc2, uc3⟩, uf⟩ := block4 R1.box
          have uf3 := uf 3
          have hz5 := R1.only.size
          have lt5 : w.heap.size + 1 < w5.heap.size := by omega
          have hbw5 : Below w.heap.size w w5 := hBW2.trans (R1.only.below (fun x hx => by simp only [List.mem_singleton] at hx; omega) (by omega))
          have hoK := R1.kids
          have hnK : (Value.slice aK k cK).ownBlock ≠ some (w.heap.size + 1) := fun e => by have := (R1.kids.lt _ e).1; omega
          have K0 := (hbw5.cell (p := ⟨bk, ok + p * 4 + 0, none⟩) hbk).trans (kc 0 _ rfl)
          have K1 := (hbw5.cell (p := ⟨bk, ok + p * 4 + 1, none⟩) hbk).trans (kc 1 _ rfl)
          have K2 := (hbw5.cell (p := ⟨bk, ok + p * 4 + 2, none⟩) hbk).trans (kc 2 _ rfl)
          have K3 := (hbw5.cell (p := ⟨bk, ok + p * 4 + 3, none⟩) hbk).trans (kc 3 _ rfl)
          rw [Nat.add_zero] at K0
          have HR1 : Hid (type_of% R1) := R1
          clear R1 kc uc0 uc1 uc2 uf hbw hzr lt1
          go_region_law
            ((refine step_append_lies _ (by rfl) _ _ _ (by rfl) W2.heap.size 28 i0 _ 4 72 Tryd.underlying26 hi0 hz0 hz1 hz2 rfl (by omega) (.slice aK k cK) k _ (by rfl) (by first | exact (hoK.alloc _) | exact (hoK.alloc _).drew) ⟨w5.heap.size, 0, none⟩ 1 1 [.int .i64 q.kind, .string q.name, .slice an2 ln2 cn2, .slice ak2 lk2 ck2] (by rfl) (by rfl) (World.news_of_block (cs := #[.int .i64 q.kind, .string q.name, .slice an2 ln2 cn2, .slice ak2 lk2 ck2]) (t := 28) (fr := (0, 0)) (heap_alloc_new w5 _)) (by simp [Value.oneCell']) (by omega) (by unfold maxLen; omega) (by omega) (by simp; omega) (w5.heap.size + 1) (by simp) ?_; intro gg2 cap2 w6 hown2 hgrow2 hat2 hlt6; have hT6 := hgrow2.block (w.heap.size + 1) (by simp; omega) (fun e => hnK e.symm); have z3 := cell_same (cellOld_any uc3 lt5) hT6; have zf := (frozen_same 3 hT6).trans (frozenOld_any uf3 lt5)))
          all_goals
            have hown2' : w6.ownsRow W2.heap.size 28 4 (.slice (some ⟨gg2, 0, none⟩) (k + 1) cap2) (k + 1) (flatP C (ps.take (k + 1))) := by rw [← HKA.out, HCS.out]; exact hown2
            have R2 := HR1.out.kid (grown_drew hgrow2) hat2 hown2'
            have HR2 : Hid (type_of% R2) := R2
            clear R2 hown2 hown2' hgrow2 hat2 hlt6 hT6 z3 zf HKA HCS HR1 hoK hnK uc3 uf3 K0 K1 K2 K3
            go_wp2_with fail
            go_roundw
            case rel => exact ⟨k + 1, _, _, by omega, by go_num, HR2.out⟩
            case measure => simp [intOf]; omega
      · have hke : k = nms.length := by omega
        have hkp : k = ps.length := by have := HPL.out; omega
        have htk : ps.take k = ps := by rw [hkp]; exact List.take_of_length_le (Nat.le_refl _)
        have hr3 := (hM.only.block w.heap.size (by omega) (by simp only [List.mem_singleton]; omega)).trans hr2
        have hbu := recOf_bulk (n := n) (ks := ks) HNE.out HPP.out
        have hty : TyAt wr (n + 1) [.int .i64 5, .string ⟨#[]⟩, .slice aN k cN, .slice aK k cK] (recOf nms ks ps) := by
          have e1 := hM.names
          have e2 := hM.kids
          rw [htk, hkp] at e1 e2
          rw [hkp]
          exact rec_at HCA.out hbw HPM.out e1 e2 (by omega) HNS.out
        have hcw : ClsIs wr := HCL.out.below hbw HCL.out.lt
        have HF0 := implFormOf (n + 1) wr _ _ 0 wr hty (Below.refl _ _) (by have := HBK.out; omega) (by omega) hcw hcw.lt
        have HTO : Hid (∀ (v : Value) (wx : World), FormAt wx (n + 1) v (recOf nms ks ps) → Right (n + 1) (recOf nms ks ps) 12 → Calls Tryd.prog 23 #[v] wx fun e w' => ∃ (an : Option Addr) (ln cn : Nat) (ak : Option Addr) (lk ck : Nat), e = .returned (.agg #[.int .i64 (recOf nms ks ps).kind, .string (recOf nms ks ps).name, .slice an ln cn, .slice ak lk ck]) ∧ (∃ l, cellsK (recOf nms ks ps) l = [.int .i64 (recOf nms ks ps).kind, .string (recOf nms ks ps).name, .slice an ln cn, .slice ak lk ck] ∧ NewLay wx.heap.size w' (n + 1) l (recOf nms ks ps)) ∧ Below wx.heap.size wx w') := fun v wx h1 h2 => (implTypeOf (n + 1)).told v _ 12 wx h1 h2 (by have := HBK.out; omega)
        have HF : Hid (type_of% HF0) := HF0
        have HYES : Hid (∀ (_ : Right (n + 1) (recOf nms ks ps) 12), RecAns n nms ks (recOf nms ks ps) true) := fun h => .inl ⟨rfl, HNE.out, ps, HPP.out, HIO.out, rfl, h⟩
        have HNO : Hid (∀ (_ : ¬ Right (n + 1) (recOf nms ks ps) 12), RecAns n nms ks (.mk 0 ⟨#[]⟩ [] []) false) := fun h => .inr ⟨rfl, rfl, fun _ => ⟨ps, HPP.out, HIO.out, h⟩⟩
        have lt0 : w.heap.size < wr.heap.size := by omega
        clear HF0 hM hty hoN hbu hke hkp htk HPC HPM HCA HCC HNC HPL HIO HPP HNS HCL HBK hnT tf tf2 tf3
        go_wp2_with fail
        refine HF.out.mono ?_
        rintro e w3 ⟨v, ok, rfl, hok, hfm, hb3⟩
        have hok' : ok = true ↔ Right (n + 1) (recOf nms ks ps) 12 := by simpa using hok
        have hbw3 : Below w.heap.size w w3 := hbw.trans (hb3.mono (by omega))
        have hr4 := (hb3.block w.heap.size lt0).trans hr3
        have lt3 : w.heap.size < w3.heap.size := Nat.lt_of_lt_of_le lt0 hb3.size
        cases ok with
        | false =>
          have HA := HNO.out fun h => by have := hok'.2 h; cases this
          obtain ⟨⟨rc0, rc1, rc2, rc3⟩, rf⟩ := block4 hr4
          have rf0 := rf 0
          have rf1 := rf 1
          have rf2 := rf 2
          have rf3 := rf 3
          have HAA : Hid (type_of% HA) := HA
          clear HA hok hok' hfm HF HTO HYES HNO rf tc0 tc1 tc2 tc3
          go_wp2_with fail
          refine ret_rec rfl rfl (put4T fun j hj => ?_) ⟨.mk (.slice none 0 0) (.slice none 0 0) [], .mk 0 ⟨#[]⟩ [] [], false, rfl, HAA.out, plainLay, put_below hbw3 (Nat.le_refl _)⟩
          match j, hj with
          | 0, _ => rw [rc0]; rfl
          | 1, _ => rw [rc1]; rfl
          | 2, _ => rw [rc2]; rfl
          | 3, _ => rw [rc3]; rfl
        | true =>
          have hr := hok'.1 rfl
          have HA : Hid (RecAns n nms ks (recOf nms ks ps) true) := HYES.out hr
          have HT0 := HTO.out v w3 (hfm rfl).at hr
          have HT1 : Hid (type_of% HT0) := HT0
          obtain ⟨T', x', hve⟩ := form_iface (hfm rfl).at
          subst hve
          clear hok hok' hfm HF HTO HYES HNO hr HT0 tc0 tc1 tc2 tc3
          go_wp2_with fail
          refine HT1.out.mono ?_
          rintro e w4 ⟨an4, ln4, cn4, ak4, lk4, ck4, rfl, ⟨l, hcl, hnl⟩, hb4⟩
          have hbw4 : Below w.heap.size w w4 := hbw3.trans (hb4.mono (by omega))
          have hr5 := (hb4.block w.heap.size lt3).trans hr4
          obtain ⟨⟨rc0, rc1, rc2, rc3⟩, rf⟩ := block4 hr5
          have rf0 := rf 0
          have rf1 := rf 1
          have rf2 := rf 2
          have rf3 := rf 3
          have HCL2 : Hid (type_of% hcl) := hcl
          have HNL : Hid (type_of% hnl) := hnl
          clear hcl hnl rf HT1
          go_wp2_with fail
          refine ret_rec rfl rfl (put4T fun j hj => ?_) ⟨l, recOf nms ks ps, true, by rw [HCL2.out], HA.out, HNL.out.put lt3 (by omega), put_below hbw4 (Nat.le_refl _)⟩
          match j, hj with
          | 0, _ => rw [rc0]; rfl
          | 1, _ => rw [rc1]; rfl
          | 2, _ => rw [rc2]; rfl
          | 3, _ => rw [rc3]; rfl
  · have hneI : ((nms.length : Int) == (ks.length : Int)) = false := by rw [beq_eq_false_iff_ne]; omega
    have hB1 : Below (w.heap.size + 1) (w.alloc (.cells #[.int .i64 0, .string ⟨#[]⟩, .slice none 0 0, .slice none 0 0] 28)) (w.alloc (.cells #[.int .i64 0, .string ⟨#[]⟩, .slice none 0 0, .slice none 0 0] 28)) := Below.refl _ _
    obtain ⟨hcell, hbw, _⟩ := boxedR hB1
    have HA : Hid (RecAns n nms ks (.mk 0 ⟨#[]⟩ [] []) false) := .inr ⟨rfl, rfl, fun h => absurd h hne⟩
    clear hC hCc hnc hT hrow hc hne
    go_enter Tryd.func9, Tryd.ntmps9
    go_wp2_with fail
    exact ret_rec rfl rfl hcell ⟨.mk (.slice none 0 0) (.slice none 0 0) [], .mk 0 ⟨#[]⟩ [] [], false, rfl, HA.out, plainLay, hbw⟩

end Go.Proofs.YtekegcfelaefhaaDoor

namespace Go.Proofs.YtekegcfelaefhaaDoor
open Go.RowKit

theorem less_irrefl (a : ByteArray) : ¬ lessB a a := List.lt_irrefl _
theorem less_trans {a b c : ByteArray} (h : lessB a b) (k : lessB b c) : lessB a c := List.lt_trans h k
theorem less_total {a b : ByteArray} (h : ¬ lessB a b) (k : ¬ lessB b a) : a = b := by
  unfold lessB at h k
  have := List.le_antisymm (List.not_lt.1 k) (List.not_lt.1 h)
  cases a with
  | mk x =>
    cases b with
    | mk y => exact congrArg ByteArray.mk (Array.toList_inj.1 this)

theorem ascend_pairwise (ts : List ByteArray) (h : Ascend ts) : ts.Pairwise lessB := by
  rw [List.pairwise_iff_getElem]
  intro i j hi hj hij
  induction j with
  | zero => omega
  | succ j ih =>
    have h1 := h (j + 1) hj (by omega)
    simp only [Nat.add_sub_cancel] at h1
    by_cases c : i = j
    · subst c; exact h1
    · exact less_trans (ih (by omega) (by omega)) h1

theorem right_ascend {n : Nat} {nms : List ByteArray} {ks : List Ty} {ps : List Nat} (h : Right (n + 1) (recOf nms ks ps) 12) : Ascend (ps.map (nameAt nms)) := by
  obtain ⟨_, _, ho⟩ := h
  rcases ho with ⟨h1, _⟩ | ⟨h1, _⟩ | ⟨_, h2, _⟩ | ⟨h1, _⟩ | ⟨h1, _⟩
  · exact absurd h1 (by show ¬ ((5 : Int) = 0 ∨ (5 : Int) = 1 ∨ (5 : Int) = 2 ∨ (5 : Int) = 3); omega)
  · exact absurd h1 (by show ¬ (5 : Int) = 4; omega)
  · exact fun i hi h0 => (h2 i hi).2 h0
  · exact absurd h1 (by show ¬ (5 : Int) = 6; omega)
  · exact absurd h1 (by show ¬ (5 : Int) = 7; omega)

theorem places_one {n : Nat} {nms : List ByteArray} {ks : List Ty} {ps qs : List Nat} (hp : ps.Perm (List.range nms.length)) (hq : qs.Perm (List.range nms.length)) (oq : InOrder nms qs) (h : Right (n + 1) (recOf nms ks ps) 12) : ps = qs := by
  have h1 : ps.Pairwise fun a b => lessB (nameAt nms a) (nameAt nms b) := by
    have := ascend_pairwise _ (right_ascend h)
    rwa [List.pairwise_map] at this
  have hpq : qs.Perm ps := hq.trans hp.symm
  have hone : ∀ a ∈ ps, ∀ b ∈ ps, nameAt nms a = nameAt nms b → a = b := fun a ha b hb e => by
    obtain ⟨i, hi, rfl⟩ := List.getElem_of_mem ha
    obtain ⟨j, hj, rfl⟩ := List.getElem_of_mem hb
    by_cases c : i = j
    · subst c; rfl
    · have h2 := List.pairwise_iff_getElem.1 h1
      rcases Nat.lt_or_gt_of_ne c with c | c
      · have := h2 i j hi hj c; rw [e] at this; exact absurd this (less_irrefl _)
      · have := h2 j i hj hi c; rw [e] at this; exact absurd this (less_irrefl _)
  have hnd : qs.Nodup := hq.nodup_iff.2 List.nodup_range
  have h2 : qs.Pairwise fun a b => lessB (nameAt nms a) (nameAt nms b) := by
    rw [List.pairwise_iff_getElem]
    intro i j hi hj hij
    apply Classical.byContradiction
    intro hn
    have e := less_total hn (oq i j hij hj)
    have e2 := hone _ (hpq.mem_iff.1 (List.getElem_mem hi)) _ (hpq.mem_iff.1 (List.getElem_mem hj)) e
    exact (List.pairwise_iff_getElem.1 hnd i j hi hj hij) e2
  exact List.Perm.eq_of_pairwise (fun a b _ _ hab hba => absurd (less_trans hab hba) (less_irrefl _)) h1 h2 hpq.symm

/-- whatever Record answers is one -/
theorem RecAns.one {n : Nat} {nms : List ByteArray} {ks : List Ty} {t t' : Ty} {ok ok' : Bool} (h : RecAns n nms ks t ok) (h' : RecAns n nms ks t' ok') : t = t' ∧ ok = ok' := by
  rcases h with ⟨rfl, hl, ps, p1, p2, p3, p4⟩ | ⟨rfl, rfl, h⟩
  · rcases h' with ⟨rfl, _, qs, q1, q2, q3, q4⟩ | ⟨rfl, rfl, h'⟩
    · subst p3
      rw [q3, places_one p1 q1 q2 p4]
      exact ⟨rfl, rfl⟩
    · obtain ⟨qs, q1, q2, q3⟩ := h' hl
      subst p3
      rw [places_one p1 q1 q2 p4] at p4
      exact absurd p4 q3
  · rcases h' with ⟨rfl, hl, qs, q1, q2, q3, q4⟩ | ⟨rfl, rfl, _⟩
    · obtain ⟨ps, p1, p2, p3⟩ := h hl
      subst q3
      rw [places_one q1 p1 p2 q4] at q4
      exact absurd q4 p3
    · exact ⟨rfl, rfl⟩

end Go.Proofs.YtekegcfelaefhaaDoor

namespace Go.Proofs.YtekegcfelaefhaaDoor

section
variable {P : Program} {ops : Array Oper} {Q : Exit → Act → World → Prop} {md : Region.Mode} {S : World → Prop} {last : Nat}

/-- whatever order is picked from here on; and S holds behind each operation but the last one -/
def wpTill (P : Program) (md : Region.Mode) (ops : Array Oper) (Q : Exit → Act → World → Prop) (S : World → Prop) (last : Nat) : Nat → Array Bool → Act → World → Prop
  | 0, listed, a, w => Region.ready md ops listed = [] ∧ Q .normal a w
  | k + 1, listed, a, w => (Region.ready md ops listed = [] → Q .normal a w) ∧
      ∀ i ∈ Region.ready md ops listed, wpOp P ops Q i (fun a' w' => (i ≠ last → S w') ∧ wpTill P md ops Q S last k (listed.setIfInBounds i true) a' w') a w

theorem wpTill.any (k : Nat) : ∀ (listed : Array Bool) (a : Act) (w : World), wpTill P md ops Q S last k listed a w → wpAny P md ops Q k listed a w := by
  induction k with
  | zero => intro listed a w h; exact h
  | succ k ih =>
    intro listed a w h
    exact ⟨h.1, fun i hi => wpOp_mono (fun a' w' q => ih _ a' w' q.2) (h.2 i hi)⟩

/-- one that the last waits for, and that yields in every world that meets S, may be taken first -/
theorem wpTill.first {i : Nat} {oi ol : Oper} {v : Value} (hi : ops[i]? = some oi) (hl : ops[last]? = some ol) (hw : ∃ e ∈ ol.after, Region.binds md e = true ∧ e.on = i) (hs : Region.noSelect ops = true) (hQ : ∀ c a w, Q (.panic c) (a.put oi.dst v) w → Q (.panic c) a w) (k : Nat) :
    ∀ (listed : Array Bool) (a : Act) (w : World), (∀ j oj, ops[j]? = some oj → j ≠ i → listed.getD j true = false → (∀ e ∈ oj.after, Region.binds md e = true → e.on ≠ i) → oi.apart ops oj = true) → i ∈ Region.ready md ops listed → YieldsIf P ops S oi v a → S w →
      wpTill P md ops Q S last k (listed.setIfInBounds i true) (a.put oi.dst v) w → wpTill P md ops Q S last (k + 1) listed a w := by
  have noSel := Region.noSelect_spec hs
  induction k with
  | zero =>
    intro listed a w _ hr hy hS H
    refine ⟨fun e => absurd hr (by rw [e]; exact List.not_mem_nil), fun j hj => ?_⟩
    by_cases c : j = i
    · rw [c]; exact hy.wpOp hi hS ⟨fun _ => hS, H⟩
    · have := ready_mono hj c
      rw [H.1] at this
      exact absurd this List.not_mem_nil
  | succ k ih =>
    intro listed a w hfree hr hy hS H
    refine ⟨fun e => absurd hr (by rw [e]; exact List.not_mem_nil), fun j hj => ?_⟩
    by_cases c : j = i
    · rw [c]; exact hy.wpOp hi hS ⟨fun _ => hS, H⟩
    · have step := H.2 j (ready_mono hj c)
      obtain ⟨unl, oj, ho, waits⟩ := mem_ready.1 hj
      have iun := (mem_ready.1 hr).1
      have apartI : ∀ e ∈ oj.after, Region.binds md e = true → e.on ≠ i := fun e he hb eq => by
        have h1 := waits e he hb
        rw [eq] at h1
        by_cases hlt : i < listed.size
        · simp [hlt] at h1 iun
          rw [h1] at iun
          cases iun
        · simp [Array.getElem?_eq_none (Nat.le_of_not_lt hlt)] at h1
      have notLast : j ≠ last := fun e => by
        subst e
        rw [hl] at ho
        cases ho
        obtain ⟨e, he, hb, eq⟩ := hw
        exact apartI e he hb eq
      have moved := wpOp_putIf ho (hfree j oj ho c unl apartI) (fun cs b => noSel i oi cs b hi) (fun cs b => noSel j oj cs b ho) hQ hy step
      refine wpOp_mono (fun a' w' q => ⟨q.2.1, ih _ a' w' (fun x ox hx hxi un no => hfree x ox hx hxi ?_ no) (ready_mono hr (Ne.symm c)) q.1 (q.2.1 notLast) ?_⟩) moved
      · by_cases e : j = x
        · rw [← e]; exact unl
        · rwa [getD_set_ne true e] at un
      · rw [Array.setIfInBounds_comm _ _ c]
        exact q.2.2

/-- taken first, its conditions to be decided -/
theorem wpTill.take {i : Nat} {oi ol : Oper} {v : Value} {k : Nat} {listed : Array Bool} {a : Act} {w : World} (hi : ops[i]? = some oi) (hl : ops[last]? = some ol) (hw : (ol.after.any fun e => Region.binds md e && e.on == i) = true) (hs : Region.noSelect ops = true) (hf : Region.free md ops listed i = true) (hr : (Region.ready md ops listed).contains i = true)
    (hQ : ∀ c a w, Q (.panic c) (a.put oi.dst v) w → Q (.panic c) a w) (hy : YieldsIf P ops S oi v a) (hS : S w) (h : wpTill P md ops Q S last k (listed.setIfInBounds i true) (a.put oi.dst v) w) : wpTill P md ops Q S last (k + 1) listed a w := by
  refine wpTill.first hi hl ?_ hs hQ k listed a w (Region.free_spec hi hf) (by simpa using hr) hy hS h
  obtain ⟨e, he, hb⟩ := Array.any_eq_true'.1 hw
  simp only [Bool.and_eq_true, beq_iff_eq] at hb
  exact ⟨e, he, hb.1, hb.2⟩

/-- whichever comes up -/
theorem wpTill.ready {rs : List Nat} {k : Nat} {listed : Array Bool} {a : Act} {w : World} (hr : Region.ready md ops listed = rs) (hne : rs ≠ [])
    (h : ∀ i ∈ rs, wpOp P ops Q i (fun a' w' => (i ≠ last → S w') ∧ wpTill P md ops Q S last k (listed.setIfInBounds i true) a' w') a w) : wpTill P md ops Q S last (k + 1) listed a w :=
  ⟨fun e => absurd (hr ▸ e) hne, hr ▸ h⟩

/-- one operation that is wanted, carried out -/
theorem wpOp_of {i : Nat} {o : Oper} {K : Act → World → Prop} {a : Act} {w : World} (hi : ops[i]? = some o) (h : if Region.wanted o (yielded ops a.tmps) = true then Oper.wp P o a w K Q else K (a.put o.dst undef) w) : wpOp P ops Q i K a w := by
  unfold wpOp
  rw [hi]
  show if Region.wanted o (yielded ops a.tmps) = true then _ else _
  split
  · rename_i c
    rw [if_pos c] at h
    exact .inl h
  · rename_i c
    rw [if_neg c] at h
    exact h

/-- all have come up -/
theorem wpTill.done {listed : Array Bool} {a : Act} {w : World} (hr : Region.ready md ops listed = []) (h : Q .normal a w) (k : Nat) : wpTill P md ops Q S last k listed a w := by
  cases k with
  | zero => exact ⟨hr, h⟩
  | succ k => exact ⟨fun _ => h, by rw [hr]; intro i hi; exact absurd hi List.not_mem_nil⟩

/-- the beginning -/
theorem wp_region_till {id : Nat} {a : Act} {w : World} (S : World → Prop) (last : Nat) (hm : P.follows .mixedOrders = true)
    (h : wpTill P .any ops Q S last ops.size (Array.replicate ops.size false) a { w with drawn := w.drawn + 1 }) : (Code.region id ops true).wp P Q a w :=
  wp_region_any hm (wpTill.any _ _ _ _ h)

end

end Go.Proofs.YtekegcfelaefhaaDoor

namespace Go.Proofs.YtekegcfelaefhaaDoor
open Go.RowKit

/-- what spec.Record does -/
def SpecRecAt (n : Nat) : Prop := ∀ (vn vk : Value) (nms : List ByteArray) (ks : List Ty) (w : World), Texts w vn nms → RowAt w (TyAt w n) vk ks → nms.length + Ty.textsBulk nms + rowBulk n ks ≤ 1048576 →
    Calls Tryd.prog 6 #[vn, vk] w fun e w' => ∃ (l : Lay) (t : Ty) (ok : Bool), e = .returned (.tuple #[.agg (cellsK t l).toArray, .bool ok]) ∧ RecAns n nms ks t ok ∧ (LayAt w' (n + 1) l t ∧ ∀ b ∈ Lay.blocks (n + 1) l, w.heap.size ≤ b) ∧ Below w.heap.size w w'

/-- nothing has turned but blocks of which that is said, and new ones -/
def KeepB (ex : Nat → Prop) (W wx : World) : Prop := W.heap.size ≤ wx.heap.size ∧ ∀ b, b < W.heap.size → ¬ ex b → wx.heap[b]? = W.heap[b]?
theorem KeepB.below {ex : Nat → Prop} {W wx wy : World} (h : KeepB ex W wx) (hb : Below wx.heap.size wx wy) : KeepB ex W wy := ⟨Nat.le_trans h.1 hb.size, fun b hl he => (hb.block b (Nat.lt_of_lt_of_le hl h.1)).trans (h.2 b hl he)⟩
theorem KeepB.only {ex : Nat → Prop} {W wx wy : World} {lo hi : Nat} (h : KeepB ex W wx) (ho : Only lo hi wx wy) (he : ∀ b, lo ≤ b → b < hi → ex b) : KeepB ex W wy := ⟨Nat.le_trans h.1 ho.size, fun b hl hx => (ho.block b (Nat.lt_of_lt_of_le hl h.1) (by
  by_cases c : b < lo
  · exact .inl c
  · by_cases c2 : hi ≤ b
    · exact .inr c2
    · exact absurd (he b (by omega) (by omega)) hx)).trans (h.2 b hl hx)⟩
theorem KeepB.onlyL {ex : Nat → Prop} {W wx wy : World} {bl : List Nat} (h : KeepB ex W wx) (ho : OnlyL bl wx wy) (he : ∀ b ∈ bl, ex b) : KeepB ex W wy := ⟨Nat.le_trans h.1 ho.size, fun b hl hx => (ho.block b (Nat.lt_of_lt_of_le hl h.1) fun hm => hx (he b hm)).trans (h.2 b hl hx)⟩
theorem KeepB.mono {ex ex' : Nat → Prop} {W wx : World} (h : KeepB ex W wx) (he : ∀ b, ex b → ex' b) : KeepB ex' W wx := ⟨h.1, fun b hl hx => h.2 b hl fun q => hx (he b q)⟩

/-- the types of an answer are of sizes that memory can have -/
theorem zero_sized (n : Nat) : Ty.sized (n + 1) (.mk 0 ⟨#[]⟩ [] []) := ⟨⟨by show (-9223372036854775808 : Int) ≤ 0; omega, by show (0 : Int) ≤ 9223372036854775807; omega⟩, by show (0 : Nat) ≤ _; omega, ⟨by show (0 : Nat) ≤ _; omega, fun x hx => by simp at hx⟩, by show (0 : Nat) ≤ _; omega, fun k hk => by simp at hk⟩
theorem rec_sized {n : Nat} {nms : List ByteArray} {ks : List Ty} {t : Ty} {ok : Bool} (h : RecAns n nms ks t ok) (hn : nms.length ≤ 1048576) (hs : ∀ x ∈ nms, x.size ≤ 1048576) (hk : ∀ q ∈ ks, Ty.sized n q) : Ty.sized (n + 1) t := by
  rcases h with ⟨_, hl, ps, p1, _, rfl, _⟩ | ⟨_, rfl, _⟩
  · have h1 := (names_perm p1)
    have p2 : ps.Perm (List.range ks.length) := by rw [← hl]; exact p1
    have h2 := (kids_perm p2)
    refine ⟨⟨by show (-9223372036854775808 : Int) ≤ 5; omega, by show (5 : Int) ≤ 9223372036854775807; omega⟩, by show (0 : Nat) ≤ _; omega, ⟨?_, fun x hx => ?_⟩, ?_, fun k hkk => ?_⟩
    · show (ps.map (nameAt nms)).length ≤ maxLen
      rw [h1.length_eq]; unfold maxLen; omega
    · have := hs x (h1.mem_iff.1 hx)
      unfold maxLen; omega
    · show (ps.map (kidAt ks)).length ≤ maxLen
      rw [h2.length_eq, ← hl]; unfold maxLen; omega
    · exact hk k (h2.mem_iff.1 hkk)
  · exact zero_sized n
theorem rec_bulk {n : Nat} {nms : List ByteArray} {ks : List Ty} {t : Ty} {ok : Bool} (h : RecAns n nms ks t ok) (hb : nms.length + Ty.textsBulk nms + rowBulk n ks ≤ 1048576) : Ty.bulk (n + 1) t ≤ 1048576 := by
  rcases h with ⟨_, hl, ps, p1, _, rfl, _⟩ | ⟨_, rfl, _⟩
  · rw [recOf_bulk hl p1]; exact hb
  · show (0 : Nat) + (0 + 0) + (0 + 0) ≤ _; omega
theorem row_sized {w : World} {n : Nat} {v : Value} {ks : List Ty} (h : RowAt w (TyAt w n) v ks) : ∀ q ∈ ks, Ty.sized n q := fun q hq => by
  rcases h with ⟨e, _⟩ | ⟨b, off, cap, _, hc⟩
  · rw [e] at hq; simp at hq
  · obtain ⟨j, hj, rfl⟩ := List.getElem_of_mem hq
    obtain ⟨cs, h1, _⟩ := hc j hj
    exact h1.sized

/-- an answer's cells, told -/
theorem lay_cells {w : World} {n : Nat} {l : Lay} {t : Ty} (h : LayAt w (n + 1) l t) : ∃ an cn ak ck, l.vn = .slice an t.names.length cn ∧ l.vk = .slice ak t.kids.length ck ∧ (cellsK t l).toArray = #[.int .i64 t.kind, .string t.name, .slice an t.names.length cn, .slice ak t.kids.length ck] := by
  obtain ⟨an, cn, e1⟩ := h.1.slice
  obtain ⟨ak, ck, e2⟩ := h.2.2.1.slice
  exact ⟨an, cn, ak, ck, e1, e2, by unfold cellsK; rw [e1, e2]⟩

end Go.Proofs.YtekegcfelaefhaaDoor

namespace Go.Proofs.YtekegcfelaefhaaDoor
open Go.RowKit

/-- the record that is being made, by the specification -/
structure RecM (W1 wr : World) (T n : Nat) (nms : List ByteArray) (ks : List Ty) (i : Nat) (qs : List Nat) (vN vK : Value) (ls : List Lay) : Prop where
  box : wr.heap[T]? = some (.cells #[.int .i64 5, .string ⟨#[]⟩, vN, vK] 28 (0, 0))
  names : wr.ownsRow W1.heap.size 9 1 vN i (strV (qs.map (nameAt nms)))
  kids : wr.ownsRow W1.heap.size 28 4 vK i (flatK (qs.map (kidAt ks)) ls)
  len : ls.length = i ∧ qs.length = i
  lay : ∀ j (h1 : j < ls.length) (h2 : j < qs.length), LayAt wr n ls[j] (kidAt ks qs[j]) ∧ ∀ b ∈ Lay.blocks n ls[j], W1.heap.size ≤ b
  only : OnlyL [T] W1 wr
  lt : T < W1.heap.size
  perm : qs.Perm (List.range i)
  ord : InOrder nms qs
  bare : i = 0 → vN = .slice none 0 0 ∧ vK = .slice none 0 0

theorem own_cap {w : World} {B e z g n cap : Nat} {xs : List Value} (h : w.ownsRow B e z (.slice (some ⟨g, 0, none⟩) n cap) n xs) : n ≤ cap := by
  rcases h.2 with ⟨h', _⟩ | ⟨g', cap', cur, h', _, _, hc, _⟩
  · simp at h'
  · simp only [Value.slice.injEq, Option.some.injEq, Addr.mk.injEq, and_true, true_and] at h'
    omega
theorem own_lt {w : World} {B e z g n cap : Nat} {xs : List Value} (h : w.ownsRow B e z (.slice (some ⟨g, 0, none⟩) n cap) n xs) : g < w.heap.size := (h.lt g rfl).2
theorem own_base {w : World} {B B' e z n : Nat} {v : Value} {xs : List Value} (h : w.ownsRow B' e z v n xs) (hB : B ≤ B') : w.ownsRow B e z v n xs := by
  refine ⟨h.1, ?_⟩
  rcases h.2 with h' | ⟨g, cap, cur, h1, h2, h3⟩
  · exact .inl h'
  · exact .inr ⟨g, cap, cur, h1, Nat.le_trans hB h2, h3⟩
theorem own_take {w Z : World} {B e z g n cap : Nat} {xs : List Value} (h : w.ownsRow B e z (.slice (some ⟨g, 0, none⟩) n cap) n xs) (hb : Below w.heap.size w Z) (c : Nat) : ∀ j u, (xs.take c)[j]? = some u → Z.cell? ((⟨g, 0, none⟩ : Addr).add j) = some u := fun j u hu => by
  have hj := (List.getElem?_eq_some_iff.1 hu).1
  have hl := h.1
  rw [List.length_take] at hj
  rw [List.getElem?_take_of_lt (by omega)] at hu
  rw [Addr.add_lit, Nat.zero_add, hb.cell (p := ⟨g, j, none⟩) (own_lt h), h.cellAt j (by omega), hu]
theorem own_drop {w Z : World} {B e z g n cap : Nat} {xs : List Value} (h : w.ownsRow B e z (.slice (some ⟨g, 0, none⟩) n cap) n xs) (hb : Below w.heap.size w Z) (c : Nat) : ∀ j u, (xs.drop c)[j]? = some u → Z.cell? ((⟨g, c, none⟩ : Addr).add j) = some u := fun j u hu => by
  have hj := (List.getElem?_eq_some_iff.1 hu).1
  have hl := h.1
  rw [List.length_drop] at hj
  rw [List.getElem?_drop] at hu
  rw [Addr.add_lit, hb.cell (p := ⟨g, c + j, none⟩) (own_lt h), h.cellAt (c + j) (by omega), hu]

theorem cell_oneR {Z : World} {g : Nat} {u : Value} (h : Z.cell? ⟨g, 0, none⟩ = some u) : ∀ j x, [u][j]? = some x → Z.cell? ((⟨g, 0, none⟩ : Addr).add j) = some x := fun j x hx => by
  cases j with
  | zero => simp only [List.getElem?_cons_zero, Option.some.injEq] at hx; subst hx; exact h
  | succ j => simp at hx

theorem own_empty4 {X : World} {B G : Nat} {e : TypeId} (h : X.heap[G]? = some (.cells #[] e (0, 0))) (hB : B ≤ G) : X.ownsRow B e 4 (.slice (some ⟨G, 0, none⟩) 0 0) 0 [] := ⟨rfl, .inr ⟨G, 0, #[], rfl, hB, h, Nat.le_refl _, Nat.zero_le _, rfl, rfl⟩⟩
theorem own_some {w : World} {B e z n c : Nat} {aa : Option Addr} {xs : List Value} (h : w.ownsRow B e z (.slice aa n c) n xs) (hn : 0 < n) : ∃ g, aa = some (⟨g, 0, none⟩ : Addr) := by
  rcases h.2 with ⟨_, h0⟩ | ⟨g, cap, cur, h1, _⟩
  · omega
  · simp only [Value.slice.injEq, true_and] at h1
    exact ⟨g, h1.1⟩
theorem owns_onlyL {w1 w2 : World} {B e z n : Nat} {v : Value} {xs : List Value} {bl : List Nat} (h : w1.ownsRow B e z v n xs) (ho : OnlyL bl w1 w2) (hb : ∀ x ∈ bl, x < B) : w2.ownsRow B e z v n xs := by
  refine ⟨h.1, ?_⟩
  rcases h.2 with h' | ⟨g, cap, cur, h1, h2, h3, h4⟩
  · exact .inl h'
  · exact .inr ⟨g, cap, cur, h1, h2, by rw [ho.block g (Array.getElem?_eq_some_iff.1 h3).1 (fun hm => by have := hb g hm; omega)]; exact h3, h4⟩
theorem lay_slices {w : World} {n : Nat} {l : Lay} {t : Ty} (h : LayAt w n l t) : ∃ an ln cn ak lk ck, l.vn = .slice an ln cn ∧ l.vk = .slice ak lk ck := by
  cases n with
  | zero => exact h.elim
  | succ n =>
    obtain ⟨an, cn, ak, ck, e1, e2, _⟩ := lay_cells h
    exact ⟨an, _, cn, ak, _, ck, e1, e2⟩
theorem lay_cellsN {w : World} {n : Nat} {l : Lay} {t : Ty} (h : LayAt w n l t) : ∃ an cn ak ck, cellsK t l = [.int .i64 t.kind, .string t.name, .slice an t.names.length cn, .slice ak t.kids.length ck] := by
  cases n with
  | zero => exact h.elim
  | succ n =>
    obtain ⟨an, cn, ak, ck, e1, e2, _⟩ := lay_cells h
    exact ⟨an, cn, ak, ck, by unfold cellsK; rw [e1, e2]⟩
theorem flatK_one (ks : List Ty) (ls : List Lay) (h : ∀ l ∈ ls, ∃ an ln cn ak lk ck, l.vn = .slice an ln cn ∧ l.vk = .slice ak lk ck) : ∀ u ∈ flatK ks ls, u.oneCell' = true := by
  induction ks generalizing ls with
  | nil => intro u hu; simp [flatK] at hu
  | cons q r ih =>
    cases ls with
    | nil => intro u hu; simp [flatK] at hu
    | cons l ls =>
      intro u hu
      rw [flatK, List.mem_append] at hu
      rcases hu with hu | hu
      · obtain ⟨an, ln, cn, ak, lk, ck, e1, e2⟩ := h l (by simp)
        unfold cellsK at hu
        rw [e1, e2] at hu
        simp only [List.mem_cons, List.not_mem_nil, or_false] at hu
        rcases hu with rfl | rfl | rfl | rfl <;> rfl
      · exact ih ls (fun x hx => h x (by simp [hx])) u hu

theorem owns_other {w1 : World} {B T e z n : Nat} {v u : Value} {c : Nat} {xs : List Value} (h : w1.ownsRow B e z v n xs) (hT : T < B) : (w1.setCell ⟨T, c, none⟩ u).ownsRow B e z v n xs := by
  refine ⟨h.1, ?_⟩
  rcases h.2 with h' | ⟨g, cap, cur, h1, h2, h3, h4⟩
  · exact .inl h'
  · exact .inr ⟨g, cap, cur, h1, h2, by rw [Below.heap_setCell _ _ _ _ (by show g ≠ T; omega)]; exact h3, h4⟩

/-- what comes behind is said once, whatever order came up -/
theorem till_kont {P : Program} {ops : Array Oper} {Q : Exit → Act → World → Prop} {md : Region.Mode} {S : World → Prop} {last k : Nat} {listed : Array Bool} {a0 : Act} {w : World} (d1 d2 d3 d4 d5 d6 : Nat) (F : Value → World → Prop)
    (kont : ∀ (v1 v2 v3 v4 v5 v6 : Value) (Y : World), F v5 Y → Q .normal ((((((a0.put (some d1) v1).put (some d2) v2).put (some d3) v3).put (some d4) v4).put (some d5) v5).put (some d6) v6) Y)
    (main : Hid (∀ (v1 v2 v3 v4 v5 v6 : Value) (Y : World), F v5 Y → Q .normal ((((((a0.put (some d1) v1).put (some d2) v2).put (some d3) v3).put (some d4) v4).put (some d5) v5).put (some d6) v6) Y) → wpTill P md ops Q S last k listed a0 w) : wpTill P md ops Q S last k listed a0 w := main kont
theorem act_eq {Q : Exit → Act → World → Prop} {a b : Act} {w : World} (h : Q .normal a w) (e : a = b) : Q .normal b w := e ▸ h

theorem all_ins {α β : Type} (P : α → β → Prop) (ls : List α) (qs : List β) (l : α) (q : β) (a : Nat) (hl : ls.length = qs.length) (ha : a ≤ qs.length) (h : ∀ j (h1 : j < ls.length) (h2 : j < qs.length), P ls[j] qs[j]) (hn : P l q) :
    ∀ j (h1 : j < (ls.take a ++ [l] ++ ls.drop a).length) (h2 : j < (qs.take a ++ [q] ++ qs.drop a).length), P (ls.take a ++ [l] ++ ls.drop a)[j] (qs.take a ++ [q] ++ qs.drop a)[j] := by
  intro j h1 h2
  have hm1 : (ls.take a).length = a := by rw [List.length_take]; omega
  have hm2 : (qs.take a).length = a := by rw [List.length_take]; omega
  have g1 : (ls.take a ++ [l] ++ ls.drop a)[j]? = if j < a then ls[j]? else if j = a then some l else ls[j - 1]? := by
    rw [List.append_assoc]
    by_cases c : j < a
    · rw [if_pos c, List.getElem?_append_left (by omega), List.getElem?_take_of_lt c]
    · rw [if_neg c, List.getElem?_append_right (by omega), hm1]
      by_cases c2 : j = a
      · subst c2; simp
      · rw [if_neg c2, List.getElem?_append_right (by simp; omega), List.getElem?_drop, List.length_singleton, show a + (j - a - 1) = j - 1 from by omega]
  have g2 : (qs.take a ++ [q] ++ qs.drop a)[j]? = if j < a then qs[j]? else if j = a then some q else qs[j - 1]? := by
    rw [List.append_assoc]
    by_cases c : j < a
    · rw [if_pos c, List.getElem?_append_left (by omega), List.getElem?_take_of_lt c]
    · rw [if_neg c, List.getElem?_append_right (by omega), hm2]
      by_cases c2 : j = a
      · subst c2; simp
      · rw [if_neg c2, List.getElem?_append_right (by simp; omega), List.getElem?_drop, List.length_singleton, show a + (j - a - 1) = j - 1 from by omega]
  rw [List.getElem?_eq_getElem h1] at g1
  rw [List.getElem?_eq_getElem h2] at g2
  simp only [List.length_append, List.length_take, List.length_singleton, List.length_drop] at h1 h2
  by_cases c : j < a
  · rw [if_pos c, List.getElem?_eq_getElem (by omega), Option.some.injEq] at g1 g2
    rw [g1, g2]
    exact h j (by omega) (by omega)
  · rw [if_neg c] at g1 g2
    by_cases c2 : j = a
    · rw [if_pos c2, Option.some.injEq] at g1 g2
      rw [g1, g2]
      exact hn
    · rw [if_neg c2, List.getElem?_eq_getElem (by omega), Option.some.injEq] at g1 g2
      rw [g1, g2]
      exact h (j - 1) (by omega) (by omega)
theorem perm_ins {qs : List Nat} {k : Nat} (h : qs.Perm (List.range k)) (a : Nat) : (qs.take a ++ [k] ++ qs.drop a).Perm (List.range (k + 1)) := by
  rw [List.range_succ, List.append_assoc, List.singleton_append]
  refine List.perm_middle.trans ?_
  rw [List.take_append_drop]
  exact (h.cons k).trans (List.perm_append_singleton k _).symm
theorem strV_ins (f : Nat → ByteArray) (qs : List Nat) (a k : Nat) : (strV (qs.map f)).take a ++ [.string (f k)] ++ (strV (qs.map f)).drop a = strV ((qs.take a ++ [k] ++ qs.drop a).map f) := by
  simp [strV, List.map_take, List.map_drop]
theorem flatK_app (k1 k2 : List Ty) (l1 l2 : List Lay) (h : k1.length = l1.length) : flatK (k1 ++ k2) (l1 ++ l2) = flatK k1 l1 ++ flatK k2 l2 := by
  induction k1 generalizing l1 with
  | nil => cases l1 with
    | nil => rfl
    | cons x r => simp at h
  | cons q r ih => cases l1 with
    | nil => simp at h
    | cons l t =>
      show cellsK q l ++ flatK (r ++ k2) (t ++ l2) = (cellsK q l ++ flatK r t) ++ flatK k2 l2
      rw [ih t (by simpa using h), List.append_assoc]
theorem flatK_ins (f : Nat → Ty) (qs : List Nat) (ls : List Lay) (l : Lay) (a k : Nat) (hl : ls.length = qs.length) (ha : a ≤ qs.length) : (flatK (qs.map f) ls).take (a * 4) ++ cellsK (f k) l ++ (flatK (qs.map f) ls).drop (a * 4) = flatK ((qs.take a ++ [k] ++ qs.drop a).map f) (ls.take a ++ [l] ++ ls.drop a) := by
  have e : flatK (qs.map f) ls = flatK ((qs.take a).map f) (ls.take a) ++ flatK ((qs.drop a).map f) (ls.drop a) := by
    rw [← flatK_app _ _ _ _ (by simp; omega), ← List.map_append, List.take_append_drop, List.take_append_drop]
  have el : (flatK ((qs.take a).map f) (ls.take a)).length = a * 4 := by
    rw [flatK_len _ _ (by simp; omega)]
    simp; omega
  rw [e, List.take_left' el, List.drop_left' el, List.map_append, List.map_append, flatK_app _ _ _ _ (by simp; omega), flatK_app _ _ _ _ (by simp; omega)]
  simp [flatK]
theorem ins_get {β : Type} (qs : List β) (q : β) (a j : Nat) (ha : a ≤ qs.length) : (qs.take a ++ [q] ++ qs.drop a)[j]? = if j < a then qs[j]? else if j = a then some q else qs[j - 1]? := by
  have hm2 : (qs.take a).length = a := by rw [List.length_take]; omega
  rw [List.append_assoc]
  by_cases c : j < a
  · rw [if_pos c, List.getElem?_append_left (by omega), List.getElem?_take_of_lt c]
  · rw [if_neg c, List.getElem?_append_right (by omega), hm2]
    by_cases c2 : j = a
    · subst c2; simp
    · rw [if_neg c2, List.getElem?_append_right (by simp; omega), List.getElem?_drop, List.length_singleton, show a + (j - a - 1) = j - 1 from by omega]
theorem ord_ins {nms : List ByteArray} {qs : List Nat} {k a : Nat} (ho : InOrder nms qs) (ha : a ≤ qs.length) (h1 : ∀ j (h : j < qs.length), j < a → lessB (nameAt nms qs[j]) (nameAt nms k)) (h2 : ∀ j (h : j < qs.length), a ≤ j → ¬ lessB (nameAt nms qs[j]) (nameAt nms k)) : InOrder nms (qs.take a ++ [k] ++ qs.drop a) := by
  intro i j hij hj
  have gi := ins_get qs k a i ha
  have gj := ins_get qs k a j ha
  rw [List.getElem?_eq_getElem hj] at gj
  rw [List.getElem?_eq_getElem (by omega)] at gi
  have hj' := hj
  simp only [List.length_append, List.length_take, List.length_singleton, List.length_drop] at hj'
  by_cases c : j < a
  · rw [if_pos c, List.getElem?_eq_getElem (by omega), Option.some.injEq] at gj
    rw [if_pos (by omega), List.getElem?_eq_getElem (by omega), Option.some.injEq] at gi
    rw [gi, gj]
    exact ho i j hij (by omega)
  · rw [if_neg c] at gj
    by_cases c2 : j = a
    · rw [if_pos c2, Option.some.injEq] at gj
      rw [if_pos (by omega), List.getElem?_eq_getElem (by omega), Option.some.injEq] at gi
      rw [gi, gj]
      exact fun q => less_irrefl _ (less_trans q (h1 i (by omega) (by omega)))
    · rw [if_neg c2, List.getElem?_eq_getElem (by omega), Option.some.injEq] at gj
      by_cases d : i < a
      · rw [if_pos d, List.getElem?_eq_getElem (by omega), Option.some.injEq] at gi
        rw [gi, gj]
        exact ho i (j - 1) (by omega) (by omega)
      · rw [if_neg d] at gi
        by_cases d2 : i = a
        · rw [if_pos d2, Option.some.injEq] at gi
          rw [gi, gj]
          exact h2 (j - 1) (by omega) (by omega)
        · rw [if_neg d2, List.getElem?_eq_getElem (by omega), Option.some.injEq] at gi
          rw [gi, gj]
          exact ho (i - 1) (j - 1) (by omega) (by omega)
theorem RecM.ins {W1 U F : World} {T n k a : Nat} {nms : List ByteArray} {ks : List Ty} {qs : List Nat} {ls : List Lay} {vN vK vN' vK' : Value} {l : Lay} (h : RecM W1 U T n nms ks k qs vN vK ls) (ha : a ≤ k)
    (hbox : F.heap[T]? = some (.cells #[.int .i64 5, .string ⟨#[]⟩, vN', vK'] 28 (0, 0)))
    (hn : F.ownsRow W1.heap.size 9 1 vN' (k + 1) ((strV (qs.map (nameAt nms))).take a ++ [.string (nameAt nms k)] ++ (strV (qs.map (nameAt nms))).drop a))
    (hk : F.ownsRow W1.heap.size 28 4 vK' (k + 1) ((flatK (qs.map (kidAt ks)) ls).take (a * 4) ++ cellsK (kidAt ks k) l ++ (flatK (qs.map (kidAt ks)) ls).drop (a * 4)))
    (hl : LayAt F n l (kidAt ks k)) (hlb : ∀ b ∈ Lay.blocks n l, W1.heap.size ≤ b) (ho : OnlyL [T] U F)
    (h1 : ∀ j (h : j < qs.length), j < a → lessB (nameAt nms qs[j]) (nameAt nms k)) (h2 : ∀ j (h : j < qs.length), a ≤ j → ¬ lessB (nameAt nms qs[j]) (nameAt nms k)) :
    RecM W1 F T n nms ks (k + 1) (qs.take a ++ [k] ++ qs.drop a) vN' vK' (ls.take a ++ [l] ++ ls.drop a) := by
  obtain ⟨hl1, hl2⟩ := h.len
  refine ⟨hbox, ?_, ?_, ⟨by simp; omega, by simp; omega⟩, ?_, h.only.trans ho, h.lt, perm_ins h.perm a, ord_ins h.ord (by omega) h1 h2, fun e => absurd e (by omega)⟩
  · rw [strV_ins] at hn; exact hn
  · rw [flatK_ins _ _ _ _ _ _ (by omega) (by omega)] at hk; exact hk
  · exact all_ins (fun l q => LayAt F n l (kidAt ks q) ∧ ∀ b ∈ Lay.blocks n l, W1.heap.size ≤ b) ls qs l k a (by omega) (by omega) (fun j g1 g2 => ⟨(h.lay j g1 g2).1.same fun b hb => ho.block b ((h.lay j g1 g2).1.lt hb) (fun hm => by have := (h.lay j g1 g2).2 b hb; simp only [List.mem_singleton] at hm; have := h.lt; omega), (h.lay j g1 g2).2⟩) ⟨hl, hlb⟩

end Go.Proofs.YtekegcfelaefhaaDoor

namespace Go.Proofs.YtekegcfelaefhaaDoor
open Go.RowKit

theorem plainLayS {B : Nat} {w : World} {n : Nat} : LayAt w (n + 1) (.mk (.slice none 0 0) (.slice none 0 0) []) (.mk 0 ⟨#[]⟩ [] []) ∧ ∀ b ∈ Lay.blocks (n + 1) (.mk (.slice none 0 0) (.slice none 0 0) []), B ≤ b := by
  have h : NewLay B w (n + 1) (.mk (.slice none 0 0) (.slice none 0 0) []) (.mk 0 ⟨#[]⟩ [] []) := plainLay
  exact ⟨h.1, h.2.2⟩
theorem ret_recS {R : Ending → World → Prop} {W : World} {tmps : Array Value} {b : Nat} {x0 x1 x2 x3 : Value} {ok : Bool} (hp : tmps[4]?.getD undef = .pointer (some ⟨b, 0, none⟩)) (hq : tmps[5]?.getD undef = .bool ok)
    (h : W.cell? ⟨b, 0, none⟩ = some x0 ∧ W.cell? ⟨b, 1, none⟩ = some x1 ∧ W.cell? ⟨b, 2, none⟩ = some x2 ∧ W.cell? ⟨b, 3, none⟩ = some x3) (hR : R (.returned (.tuple #[.agg #[x0, x1, x2, x3], .bool ok])) W) :
    bodyPost Tryd.prog Tryd.f6 R .ret { tmps := tmps, defers := [] } W := by
  obtain ⟨h0, h1, h2, h3⟩ := h
  refine bodyPost_ret (v := .tuple #[.agg #[x0, x1, x2, x3], .bool ok]) ?_ rfl hR
  simp [results, Tryd.results6, go_sem, hp, hq, h0, h1, h2, h3]

set_option maxHeartbeats 1600000 in
set_option maxRecDepth 100000 in
theorem specRecNe (n : Nat) (an ak : Option Addr) (cn ck : Nat) (nms : List ByteArray) (ks : List Ty) (w : World) (hne : ¬ nms.length = ks.length) :
    Calls Tryd.prog 6 #[.slice an nms.length cn, .slice ak ks.length ck] w fun e w' => ∃ (l : Lay) (t : Ty) (ok : Bool), e = .returned (.tuple #[.agg (cellsK t l).toArray, .bool ok]) ∧ RecAns n nms ks t ok ∧ (LayAt w' (n + 1) l t ∧ ∀ b ∈ Lay.blocks (n + 1) l, w.heap.size ≤ b) ∧ Below w.heap.size w w' := by
  have hneB : ((nms.length : Int) != (ks.length : Int)) = true := by rw [bne_iff_ne]; omega
  have HA : Hid (RecAns n nms ks (.mk 0 ⟨#[]⟩ [] []) false) := .inr ⟨rfl, rfl, fun h => absurd h hne⟩
  have hBW1 : Below w.heap.size w ((w.alloc (.cells #[.int .i64 0, .string ⟨#[]⟩, .slice none 0 0, .slice none 0 0] 28)).alloc (.cells #[.int .i64 5, .string ⟨#[]⟩, .slice none 0 0, .slice none 0 0] 28)) := ((Below.refl _ _).alloc (Nat.le_refl _) _).alloc (by simp) _
  obtain ⟨⟨r0, r1, r2, r3⟩, rf⟩ := block4 (heap_first w (.cells #[.int .i64 0, .string ⟨#[]⟩, .slice none 0 0, .slice none 0 0] 28) (.cells #[.int .i64 5, .string ⟨#[]⟩, .slice none 0 0, .slice none 0 0] 28))
  have rf0 := rf 0
  have rf1 := rf 1
  have rf2 := rf 2
  have rf3 := rf 3
  clear hne rf
  go_enter Tryd.func6, Tryd.ntmps6
  go_wp2_with fail
  exact ret_recS rfl rfl ⟨r0, r1, r2, r3⟩ ⟨.mk (.slice none 0 0) (.slice none 0 0) [], .mk 0 ⟨#[]⟩ [] [], false, rfl, HA.out, plainLayS, hBW1⟩

theorem own_blk {w : World} {B e z n : Nat} {v : Value} {xs : List Value} (h : w.ownsRow B e z v n xs) : ∀ b ∈ blk v, B ≤ b := by
  intro b hb
  rcases h.2 with ⟨e, _⟩ | ⟨g, cap, cur, e, hg, _⟩
  · rw [e] at hb; simp [blk] at hb
  · rw [e] at hb
    cases n with
    | zero => simp [blk] at hb
    | succ n => rw [mem_blk (by omega)] at hb; rw [hb]; exact hg
theorem RecM.blocks {W1 wr : World} {T n i : Nat} {nms : List ByteArray} {ks : List Ty} {qs : List Nat} {vN vK : Value} {ls : List Lay} (h : RecM W1 wr T n nms ks i qs vN vK ls) : ∀ b ∈ Lay.blocks (n + 1) (.mk vN vK ls), W1.heap.size ≤ b := by
  intro b hb
  have hb' : b ∈ blk vN ++ (blk vK ++ ls.flatMap (Lay.blocks n)) := hb
  rw [List.mem_append, List.mem_append, List.mem_flatMap] at hb'
  rcases hb' with hb | hb | ⟨l, hl, hb⟩
  · exact own_blk h.names b hb
  · exact own_blk h.kids b hb
  · obtain ⟨j, hj, rfl⟩ := List.getElem_of_mem hl
    exact (h.lay j hj (by have := h.len; omega)).2 b hb
theorem recOf_sized {n : Nat} {nms : List ByteArray} {ks : List Ty} {ps : List Nat} (p1 : ps.Perm (List.range nms.length)) (hl : nms.length = ks.length) (hn : nms.length ≤ 1048576) (hs : ∀ x ∈ nms, x.size ≤ 1048576) (hk : ∀ q ∈ ks, Ty.sized n q) : Ty.sized (n + 1) (recOf nms ks ps) := by
  have h1 := (names_perm p1)
  have p2 : ps.Perm (List.range ks.length) := by rw [← hl]; exact p1
  have h2 := (kids_perm p2)
  refine ⟨⟨by show (-9223372036854775808 : Int) ≤ 5; omega, by show (5 : Int) ≤ 9223372036854775807; omega⟩, by show (0 : Nat) ≤ _; omega, ⟨?_, fun x hx => ?_⟩, ?_, fun k hkk => ?_⟩
  · show (ps.map (nameAt nms)).length ≤ maxLen
    rw [h1.length_eq]; unfold maxLen; omega
  · have := hs x (h1.mem_iff.1 hx)
    unfold maxLen; omega
  · show (ps.map (kidAt ks)).length ≤ maxLen
    rw [h2.length_eq, ← hl]; unfold maxLen; omega
  · exact hk k (h2.mem_iff.1 hkk)

end Go.Proofs.YtekegcfelaefhaaDoor
