/-
 The walk of a maker's formOf, given impl.unionKidsOk.
-/
import Derived.Test.YtbojmbeopnlmiaaGreatDoorPcV
namespace Go.Proofs.YtbojmbeopnlmiaaGreatDoor
open Go.RowKit Go.Shelf
theorem Step.then {C : MkC} {M M1 M2 : Mk} {w w1 w2 : World} {A A2 : Nat → Prop} (h : Step C M M1 w w1 A) (k : Step C M1 M2 w1 w2 A2) (hA : ∀ b, A2 b → M1.ext b ∨ A b ∨ w.heap.size ≤ b) : Step C M M2 w w2 A := by
 obtain ⟨G, e⟩ := h.F
 obtain ⟨G', e'⟩ := k.F
 refine ⟨k.here, h.fr.trans k.fr, ⟨G ++ G', by rw [e', e, List.append_assoc]⟩, k.T.trans h.T, fun b hb => k.extL b (h.extL b hb), fun b hb => ?_⟩
 rcases k.extR b hb with q | q | q
 ·exact h.extR b q
 ·rcases hA b q with q | q
  ·exact h.extR b q
  ·exact .inr q
 ·exact .inr (.inr (Nat.le_trans h.fr.size q))
theorem fo_no {C : MkC} {M M' : Mk} {A : Nat → Prop} {n : Nat} {t : Ty} {d : Int} {w w' : World} (h : ¬ Right n t d) (hs : Step C M M' w w' A) (hl : M'.F.length ≤ M.F.length + Ty.bulk n t + 1) : FOPost C M A n t d w (.returned (.tuple #[.nilIface, .bool false])) w' := ⟨_, false, M', rfl, ⟨fun h => Bool.noConfusion h, fun q => absurd q h⟩, fun h => Bool.noConfusion h, hs, hl, fun h => Bool.noConfusion h⟩
set_option maxHeartbeats 1600000 in
set_option maxRecDepth 100000 in
open Classical in
theorem implFormOfStep (hU : UnionKidsAt) (n : Nat) (ih : FormOfAt n) (C : MkC) (M : Mk) (A : Nat → Prop) (kd : Int) (nm : ByteArray) (nms : List ByteArray) (kts : List Ty) (an ak : Option Addr) (cn ck deep : Nat) (w : World) (hM : MkAt C w M) (hA : ExtOk C w A) (hT : MkTab C w) (hTx : TextsR A w (.slice an nms.length cn) nms) (hrow : RowR A w (TyR A w n) (.slice ak kts.length ck) kts)
  (hbk : Ty.bulk (n + 1) (.mk kd nm nms kts) ≤ 1048576) (hnm : nm.size ≤ 1048576) (hnl : nms.length ≤ 1048576) (hns : ∀ x ∈ nms, x.size ≤ 1048576) (hrb : rowBulk n kts ≤ Ty.bulk (n + 1) (.mk kd nm nms kts)) (hd : deep ≤ 14) (hFl : M.F.length + Ty.bulk (n + 1) (.mk kd nm nms kts) + 1 ≤ 2305843009213693952) (hki : -9223372036854775808 ≤ kd ∧ kd ≤ 9223372036854775807) :
  Calls Tryz.prog 66 #[.pointer (some ⟨C.mb, 0, none⟩), .agg #[.int .i64 kd, .string nm, .slice an nms.length cn, .slice ak kts.length ck], .int .i64 deep] w (FOPost C M A (n + 1) (.mk kd nm nms kts) (12 - (deep : Int)) w) := by
 obtain ⟨W, hW⟩ : ∃ W, W = w.alloc (.cells #[.int .i64 kd, .string nm, .slice an nms.length cn, .slice ak kts.length ck] 30) := ⟨_, rfl⟩
 have hB1 : Below w.heap.size w W := by rw [hW]; exact (Below.refl _ _).alloc (Nat.le_refl _) _
 have hsW : Step C M M w W A := (Step.refl hM A).below hB1
 have hbW : W.heap[w.heap.size]? = some (.cells #[.int .i64 kd, .string nm, .slice an nms.length cn, .slice ak kts.length ck] 30 (0, 0)) := by rw [hW]; exact (MapKept.heap_alloc w _).1
 by_cases hdd : 12 < deep
 ·have HEND : Hid (FOPost C M A (n + 1) (.mk kd nm nms kts) (12 - (deep : Int)) w (.returned (.tuple #[.nilIface, .bool false])) W) := fo_no (fun h => by have := h.1; omega) hsW (by omega)
  have hdi : (12 : Int) < (deep : Int) := by omega
  clear hM hA hT hTx hrow hns hsW hbW hB1 ih hU
  subst hW
  go_enter Tryz.func66, Tryz.ntmps66
  go_wp2_with fail
  go_ret2
  exact HEND.out
 have hdi : ¬ ((12 : Int) < (deep : Int)) := by omega
 have HBX : Hid (∀ wx : World, Step C M M w wx A ∨ True → MkF C W wx → (wx.cell? ⟨w.heap.size, 0, none⟩ = some (.int .i64 kd) ∧ wx.cell? ⟨w.heap.size, 1, none⟩ = some (.string nm) ∧ wx.cell? ⟨w.heap.size, 2, none⟩ = some (.slice an nms.length cn) ∧ wx.cell? ⟨w.heap.size, 3, none⟩ = some (.slice ak kts.length ck))) := fun wx _ hx => by
  have h := hx.row hbW (by unfold mkT; decide)
  refine ⟨?_, ?_, ?_, ?_⟩
  ·rw [cell_of_row wx _ 0 _ _ (0, 0) h]; rfl
  ·rw [cell_of_row wx _ 1 _ _ (0, 0) h]; rfl
  ·rw [cell_of_row wx _ 2 _ _ (0, 0) h]; rfl
  ·rw [cell_of_row wx _ 3 _ _ (0, 0) h]; rfl
 have HOA0 := implOwnAlone kd nm an ak nms.length cn kts.length ck W
 have hAW := hA.step hsW.fr
 have hTW := hT.step hsW.fr hM.base
 have hrowW := hrow.same (hA.sameF hsW.fr) (R' := TyR A W n) fun cs t _ q => q.same (hA.sameF hsW.fr)
 have hTxW := hTx.same (hA.sameF hsW.fr)
 have HENDS : Hid (∀ q ∈ kts, Ty.ends n q) := row_ends hrow
 have HAL : Hid (∀ b, A b → b < w.heap.size) := fun b hb => (hA b hb).1
 cases hoa : ownAlone kd nm nms.length kts.length with
 | false =>
  rw [hoa] at HOA0
  have HOA : Hid (type_of% HOA0) := HOA0
  have HEND : Hid (∀ w2, Below W.heap.size W w2 → FOPost C M A (n + 1) (.mk kd nm nms kts) (12 - (deep : Int)) w (.returned (.tuple #[.nilIface, .bool false])) w2) := fun w2 h2 => fo_no (fun h => by
   have h3 : ownAlone kd nm nms.length kts.length = true := right_alone h.2.2
   rw [hoa] at h3
   cases h3) (hsW.below h2) (by omega)
  obtain ⟨a0, a1, a2, a3⟩ := HBX.out W (.inr trivial) (MkF.refl _ _)
  clear hM hA hT hTx hrow hns hsW hbW hB1 ih hU HOA0 hAW hTW hrowW hTxW
  subst hW
  go_enter Tryz.func66, Tryz.ntmps66
  go_wp2_with fail
  refine HOA.out.mono ?_
  rintro e w2 ⟨rfl, hb2⟩
  have HE : Hid (type_of% (HEND.out w2 hb2)) := HEND.out w2 hb2
  clear HEND hb2
  go_wp2_with fail
  go_ret2
  exact HE.out
 | true =>
  rw [hoa] at HOA0
  have HOA : Hid (type_of% HOA0) := HOA0
  have HKF : Hid (∀ w2 : World, Below W.heap.size W w2 → Calls Tryz.prog 95 #[.pointer (some ⟨C.mb, 0, none⟩), .slice ak kts.length ck, .int .i64 ((deep : Int) + 1)] w2 (KFPost C M A n kts (12 - ((deep + 1 : Nat) : Int)) w2)) := fun w2 h2 => by
   have hf : MkF C W w2 := MkF.ofBelow h2
   have := implKidForms n ih C M A _ kts (deep + 1) w2 (hsW.here.below h2) (hAW.step hf) (hTW.step hf hsW.here.base) (hrowW.same (hAW.sameF hf) fun cs t _ q => q.same (hAW.sameF hf)) (by omega) (by omega) (by omega)
   rw [Int.natCast_add] at this
   exact this
  obtain ⟨a0, a1, a2, a3⟩ := HBX.out W (.inr trivial) (MkF.refl _ _)
  have HSW : Hid (type_of% hsW) := hsW
  have HAW : Hid (type_of% hAW) := hAW
  have HTW : Hid (type_of% hTW) := hTW
  have HTX : Hid (type_of% hTxW) := hTxW
  have HNS : Hid (type_of% hns) := hns
  have HU : Hid (type_of% hU) := hU
  have hzW : w.heap.size + 1 = W.heap.size := by rw [hW]; simp
  clear hM hA hT hTx hrow hns hsW hbW hB1 ih hU HOA0 hAW hTW hrowW hTxW
  subst hW
  go_enter Tryz.func66, Tryz.ntmps66
  go_wp2_with fail
  refine HOA.out.mono ?_
  rintro e w2 ⟨rfl, hb2⟩
  obtain ⟨c0, c1, c2, c3⟩ := HBX.out w2 (.inr trivial) (MkF.ofBelow hb2)
  have HK2 : Hid (type_of% (HKF.out w2 hb2)) := HKF.out w2 hb2
  have HB2 : Hid (type_of% hb2) := hb2
  clear HKF hb2 HOA a0 a1 a2 a3
  go_wp2_with fail
  refine HK2.out.mono ?_
  rintro e w3 ⟨a, l, c, ok, M1, rfl, hok, hfm, hst, hfl, hls⟩
  have hd1 : (12 : Int) - ((deep + 1 : Nat) : Int) = 12 - (deep : Int) - 1 := by omega
  rw [hd1] at hok
  have hF3 : MkF C (w.alloc (.cells #[.int .i64 kd, .string nm, .slice an nms.length cn, .slice ak kts.length ck] 30)) w3 := (MkF.ofBelow HB2.out).trans hst.fr
  have hst3 : Step C M M1 w w3 A := (HSW.out.below HB2.out).trans hst
  obtain ⟨d0, d1, d2, d3⟩ := HBX.out w3 (.inr trivial) hF3
  clear HK2 c0 c1 c2 c3 hd1
  cases ok with
  | false =>
   have HE : Hid (FOPost C M A (n + 1) (.mk kd nm nms kts) (12 - (deep : Int)) w (.returned (.tuple #[.nilIface, .bool false])) w3) := fo_no (fun h => by
    have := hok.2 h.2.1
    cases this) hst3 (by omega)
   clear hok hfm hst hls hst3 hF3 HU
   go_wp2_with fail
   go_ret2
   exact HE.out
  | true =>
   obtain ⟨nums, hkd, hvr⟩ := hfm rfl
   have hall := hok.1 rfl
   have hls1 := hls rfl
   have hnl2 : nums.length = kts.length := hkd.1
   have hT3 := HTW.out.step hF3 HSW.out.here.base
   have hTx3 := HTX.out.same (HAW.out.sameF hF3)
   have hA3 := HAW.out.step hF3
   have hkb : kts.length ≤ 1048576 := by unfold rowBulk at hrb; omega
   have htx : ∀ k ∈ kts, Ty.text n k = Ty.txt k := fun k hk => (hall k hk).text (by omega)
   have HKO : Hid (type_of% (implKindOk HU.out n kd nm nms kts C M1 an nms.length cn ak kts.length ck a l c nums w3 hst.here hT3 hvr hkd hTx3.at hnm hnl HNS.out (by omega) hoa htx)) := implKindOk HU.out n kd nm nms kts C M1 an nms.length cn ak kts.length ck a l c nums w3 hst.here hT3 hvr hkd hTx3.at hnm hnl HNS.out (by omega) hoa htx
   by_cases hown : OwnRight n (.mk kd nm nms kts)
   ·rw [decide_eq_true hown] at HKO
    have hR : Right (n + 1) (.mk kd nm nms kts) (12 - (deep : Int)) := ⟨by omega, hall, hown⟩
    have hokT := hR.ok (by omega)
    have hkinds : 0 ≤ kd ∧ kd ≤ 7 := by rcases right_kinds hR with q | q | q | q <;> simp only at q <;> omega
    have htxt : Ty.txt (.mk kd nm nms kts) = Ty.text (n + 1) (.mk kd nm nms kts) := (hR.text (by omega)).symm
    have hsm : (Ty.txt (.mk kd nm nms kts)).size ≤ 1099511627776 := by
     have := text_size (n + 1) (.mk kd nm nms kts)
     rw [htxt]
     omega
    have hhi := hi_of_kids hokT
    -- the end, whatever the row of names is
    have HEND : Hid (∀ (M2 : Mk) (w4 w5 : World) (b' : Option Addr) (ln' cn' : Nat) (A' : Nat → Prop), TStep C M1 M2 w3 w4 → Below w4.heap.size w4 w5 → ExtOk C w5 A' → (∀ b, A' b → M2.ext b ∨ A b ∨ w.heap.size ≤ b) → (∀ b, M2.ext b → A' b) → TextsR A' w5 (.slice b' ln' cn') (Ty.keyNames (.mk kd nm nms kts)) → (∀ x ∈ Ty.keyNames (.mk kd nm nms kts), x.size ≤ 1048576) → (Ty.keyNames (.mk kd nm nms kts)).length ≤ 1048577 →
      Calls Tryz.prog 97 #[.pointer (some ⟨C.mb, 0, none⟩), .int .i64 kd, .slice a l c, .slice b' ln' cn'] w5 fun e w6 => ∃ v, e = .returned v ∧ (∃ T x, v = .iface T x) ∧ FOPost C M A (n + 1) (.mk kd nm nms kts) (12 - (deep : Int)) w (.returned (.tuple #[v, .bool true])) w6) := fun M2 w4 w5 b' ln' cn' A' hts hb5 hA' hsub hext htr hnx hnll => by
     have hM5 := hts.here.below hb5
     have hk2 : KidsOf M2.F nums kts := by rw [hts.F]; exact hkd
     have hv5 : VRow A' w5 (.slice a l c) (nums.map (valAt M2.F)) := by
      rw [hts.F]
      exact ((hvr.same (hst.here.extSame (hts.fr.trans (MkF.ofBelow hb5)))).sub hts.extL).sub hext
     have hT5 := hT3.step (hts.fr.trans (MkF.ofBelow hb5)) hst.here.base
     refine (implForm C M2 A' (.mk kd nm nms kts) nums a l c b' ln' cn' w5 hM5 hA' hokT hk2 hv5 htr hnll hnx (by omega) (by rw [hts.F]; omega) hT5.pow hkinds.1 hkinds.2 hsm).mono ?_
     rintro e w6 ⟨M3, j, rfl, ⟨r, hr1, hr2⟩, q1, q2, q3, q4, q5, q6, q7, q8⟩
     have hs1 : Step C M M2 w w5 A := (hst3.trans (hts.step A)).below hb5
     have hs2 : Step C M2 M3 w5 w6 A' := ⟨q1, q2, q3, q5, q7, fun b hb => (q8 b hb).elim .inl fun q => .inr (.inl q)⟩
     refine ⟨_, rfl, ⟨_, _, by rw [valAt_some hr1]; rfl⟩, _, true, M3, rfl, ⟨fun _ => hR, fun _ => rfl⟩, fun _ => ⟨j, r, valAt_some hr1, hr1, hr2⟩, hs1.then hs2 hsub, ?_, fun _ r' hr' => ?_⟩
     ·rw [hts.F] at q6
      omega
     ·rw [q4, hts.L] at hr'
      rcases hls1 r' hr' with q | ⟨q, q'⟩
      ·exact .inl q
      ·right
       rw [hhi, if_neg (fun e => q (List.length_eq_zero_iff.1 e))]
       show _ < hiMost kts + 1
       omega
    have HX : Hid (∀ (M2 : Mk) (w4 : World), TStep C M1 M2 w3 w4 → (w4.cell? ⟨w.heap.size, 0, none⟩ = some (.int .i64 kd) ∧ w4.cell? ⟨w.heap.size, 1, none⟩ = some (.string nm) ∧ w4.cell? ⟨w.heap.size, 2, none⟩ = some (.slice an nms.length cn) ∧ w4.cell? ⟨w.heap.size, 3, none⟩ = some (.slice ak kts.length ck)) ∧ ExtOk C w4 A ∧ ExtOk C w4 M2.ext ∧ TextsR A w4 (.slice an nms.length cn) nms ∧ w.heap.size ≤ w4.heap.size) := fun M2 w4 hts => ⟨HBX.out w4 (.inr trivial) (hF3.trans hts.fr), hA3.step hts.fr, hts.here.extok, hTx3.same (hA3.sameF hts.fr), Nat.le_trans hst3.fr.size hts.fr.size⟩
    clear hok hfm hst hls hst3 hkd hvr hall hls1 hT3 hTx3 hA3 htx hown hR hokT htxt hhi HU HTW HTX HAW HSW HENDS hfl hF3
    go_wp2_with fail
    refine HKO.out.mono ?_
    rintro e w4 ⟨M2, rfl, hts⟩
    obtain ⟨⟨e0, e1, e2, e3⟩, hA4, hE4, htr4, hsz4⟩ := HX.out M2 w4 hts
    clear HKO HX d0 d1 d2 d3
    by_cases h4 : kd = 4
    ·subst h4
     have ekn : Ty.keyNames (.mk 4 nm nms kts) = [nm] := rfl
     have HF0 := HEND.out M2 w4 (w4.alloc (.cells #[.string nm] 9)) (some ⟨w4.heap.size, 0, none⟩) 1 1 (fun b => M2.ext b ∨ A b ∨ b = w4.heap.size) hts ((Below.refl _ _).alloc (Nat.le_refl _) _) (fun b hb => by
      have hstep : MkF C w4 (w4.alloc (.cells #[.string nm] 9)) := MkF.ofBelow ((Below.refl _ _).alloc (Nat.le_refl _) _)
      rcases hb with hb | hb | rfl
      ·exact (hE4.step hstep) b hb
      ·exact (hA4.step hstep) b hb
      ·exact ⟨by simp, .inr ⟨_, _, (MapKept.heap_alloc w4 _).1, .inr (.inl rfl)⟩⟩) (fun b hb => by
      rcases hb with hb | hb | rfl
      ·exact .inl hb
      ·exact .inr (.inl hb)
      ·exact .inr (.inr hsz4)) (fun b hb => .inl hb) (.inr ⟨w4.heap.size, 0, 1, by rw [ekn]; rfl, .inr (.inr rfl), fun j hj => by
      have hj0 : j = 0 := by rw [ekn] at hj; simp at hj; exact hj
      subst hj0
      rw [cellNew _ rfl]
      rfl⟩) (fun x hx => by rw [ekn, List.mem_singleton] at hx; rw [hx]; exact hnm) (by rw [ekn]; simp)
     have HF : Hid (type_of% HF0) := HF0
     clear HF0 HEND hts hA4 hE4 htr4 HAL
     go_wp2_with fail
     refine HF.out.mono ?_
     rintro e w6 ⟨v, rfl, ⟨T, x, rfl⟩, hpost⟩
     have HP : Hid (type_of% hpost) := hpost
     clear hpost
     go_wp2_with fail
     go_ret2
     exact HP.out
    ·have ekn : Ty.keyNames (.mk kd nm nms kts) = nms := if_neg h4
     have h4b : (kd == 4) = false := by rw [beq_eq_false_iff_ne]; exact h4
     have HF0 := HEND.out M2 w4 w4 an nms.length cn (fun b => M2.ext b ∨ A b) hts (Below.refl _ _) (fun b hb => hb.elim (hE4 b) (hA4 b)) (fun b hb => hb.elim .inl fun q => .inr (.inl q)) (fun b hb => .inl hb) (by rw [ekn]; exact htr4.sub fun b hb => .inr hb) (by rw [ekn]; exact HNS.out) (by rw [ekn]; omega)
     have HF : Hid (type_of% HF0) := HF0
     clear HF0 HEND hts hA4 hE4 htr4 HAL ekn
     go_wp2_with fail
     refine HF.out.mono ?_
     rintro e w6 ⟨v, rfl, ⟨T, x, rfl⟩, hpost⟩
     have HP : Hid (type_of% hpost) := hpost
     clear hpost
     go_wp2_with fail
     go_ret2
     exact HP.out
   ·rw [decide_eq_false hown] at HKO
    have HE : Hid (∀ (M2 : Mk) (w4 : World), TStep C M1 M2 w3 w4 → FOPost C M A (n + 1) (.mk kd nm nms kts) (12 - (deep : Int)) w (.returned (.tuple #[.nilIface, .bool false])) w4) := fun M2 w4 hts => fo_no (fun h => hown h.2.2) (hst3.trans (hts.step A)) (by rw [hts.F]; omega)
    clear hok hfm hst hls hst3 hkd hvr hall hls1 hT3 hTx3 hA3 htx hown HU HTW HTX HAW HSW HENDS hF3
    go_wp2_with fail
    refine HKO.out.mono ?_
    rintro e w4 ⟨M2, rfl, hts⟩
    have HE4 : Hid (type_of% (HE.out M2 w4 hts)) := HE.out M2 w4 hts
    clear HE hts
    go_wp2_with fail
    go_ret2
    exact HE4.out
def UFirst (ts : List Ty) (k : Nat) : Prop := ∀ j (h : j < ts.length), j < k → (ts[j].kind ≠ 3 ∧ ts[j].kind ≠ 7) ∧ ∀ _ : 0 < j, lessB (ts[j - 1]'(by omega)).txt ts[j].txt
theorem ufirst_all {ts : List Ty} (h : UFirst ts ts.length) (h2 : 1 < ts.length) : UKids ts := by
 refine ⟨h2, fun q hq => ?_, fun i hi h0 => ?_⟩
 ·obtain ⟨j, hj, rfl⟩ := List.getElem_of_mem hq
  exact (h j hj hj).1
 ·rw [List.length_map] at hi
  have := (h i hi hi).2 h0
  simpa using this
theorem ukids_first {ts : List Ty} (h : UKids ts) : UFirst ts ts.length := fun j hj _ => by
 refine ⟨h.2.1 _ (List.getElem_mem hj), fun h0 => ?_⟩
 have := h.2.2 j (by rw [List.length_map]; exact hj) h0
 simpa using this
set_option maxHeartbeats 1600000 in
set_option maxRecDepth 100000 in
open Classical in
theorem implUnionKids : UnionKidsAt := by
 intro C M v ks ts w hM hv hk hl
 obtain ⟨av, capv, rfl, hel⟩ := hv.open
 rw [List.length_map] at *
 have hle : ts.length = ks.length := hk.1.symm
 obtain ⟨RR, hRR⟩ : ∃ RR, RR = decide (UKids ts) := ⟨_, rfl⟩
 rw [← hRR]
 have HNO : Hid (¬ UKids ts → RR = false) := fun h => by rw [hRR]; exact decide_eq_false h
 have HYES : Hid (UKids ts → RR = true) := fun h => by rw [hRR]; exact decide_eq_true h
 have HEL : Hid (∀ k (hk : k < ts.length), ∃ (b : Nat) (r : FRec), av = some ⟨b, 0, none⟩ ∧ (∀ M1 wx, TStep C M M1 w wx → wx.cell? ⟨b, k, none⟩ = some (.iface (ptT r.ty.kind) (.pointer (some ⟨r.blk, 0, none⟩)))) ∧ ts[k] = r.ty ∧ (0 ≤ r.ty.kind ∧ r.ty.kind ≤ 7) ∧ ∃ i, M.F[i]? = some r) := fun k hk' => by
  obtain ⟨b, e1, hb, e2⟩ := hel k (by rw [List.length_map]; omega)
  obtain ⟨r, e3, e4⟩ := hk.2 k (by omega)
  have hF := hM.each _ r e3
  refine ⟨b, r, e1, fun M1 wx hs => ?_, ?_, (keyName_ok hF.ok).1, _, e3⟩
  ·rw [World.cell?_of_block (a := ⟨b, k, none⟩) (hM.extSame hs.fr b hb), e2, List.getElem_map, valAt_some e3]
   rfl
  ·rw [List.getElem?_eq_getElem hk', Option.some.injEq] at e4
   exact e4
 have HCT : Hid (∀ (M1 : Mk) (i j : Nat) (r q : FRec) (wx : World), TStep C M M1 w wx → M.F[i]? = some r → M.F[j]? = some q → Calls Tryz.prog 141 #[.iface (ptT r.ty.kind) (.pointer (some ⟨r.blk, 0, none⟩)), .iface (ptT q.ty.kind) (.pointer (some ⟨q.blk, 0, none⟩))] wx fun e w' => ∃ (M' : Mk) (o : Int), e = .returned (.int .i64 o) ∧ (o < 0 ↔ lessB r.ty.txt q.ty.txt) ∧ TStep C M M' w w') := fun M1 i j r q wx hs hr hq => by
  refine (implCompareTexts C M1 i j r q wx hs.here (by rw [hs.F]; exact hr) (by rw [hs.F]; exact hq)).mono ?_
  rintro e w' ⟨M', o, rfl, ho, hs2⟩
  exact ⟨M', o, rfl, ho.1, hs.trans hs2⟩
 have HTS : Hid (TStep C M M w w) := TStep.refl hM
 have HLE : Hid (ts.length = ks.length) := hle
 clear hRR hel hk hM hv hle
 generalize ks.length = nk at *
 go_enter Tryz.func122, Tryz.ntmps122
 go_wp2_with fail
 go_loopw [7] (fun i wr => ∃ (k : Nat) (M1 : Mk), k ≤ nk ∧ i = .int .i64 k ∧ UFirst ts k ∧ TStep C M M1 w wr) (fun i _ => nk - (intOf i).toNat)
 case atStart => exact ⟨0, M, Nat.zero_le _, rfl, fun j _ h => absurd h (by omega), HTS.out⟩
 case round =>
  clear HTS
  obtain ⟨k, M1, hkn, rfl, hall, hts⟩ := hrel
  obtain ⟨wo, rfl⟩ : ∃ wo, wo = wr := ⟨_, rfl⟩
  have HALL : Hid (type_of% hall) := hall
  have HST : Hid (type_of% hts) := hts
  clear hall
  by_cases hlt : k < nk
  ·have hlt2 : k < ts.length := by rw [HLE.out]; exact hlt
   obtain ⟨b, r, rfl, hcell, hty, hkd, i0, hi0⟩ := HEL.out k hlt2
   have c0 := hcell M1 wo hts
   obtain ⟨p3, hp3⟩ := assertPt3 r.ty.kind hkd ⟨r.blk, 0, none⟩
   obtain ⟨p7, hp7⟩ := assertPt7 r.ty.kind hkd ⟨r.blk, 0, none⟩
   have q3 := hp3 wo
   have q7 := hp7 wo
   have hk0i : (0 : Int) ≤ (k : Int) := by omega
   have hk1i : (k : Int) < (nk : Int) := by omega
   by_cases h37 : r.ty.kind = 3 ∨ r.ty.kind = 7
   ·have HR : Hid (RR = false) := HNO.out fun h => by
     have := (ukids_first h k hlt2 hlt2).1
     rw [hty] at this
     exact h37.elim this.1 this.2
    have h37b : (decide (r.ty.kind = 3) || decide (r.ty.kind = 7)) = true := by
     rcases h37 with h | h <;> simp [h]
    clear HNO HYES HALL HEL HCT hcell hp3 hp7 hts hty hi0
    generalize decide (r.ty.kind = 3) = d3 at *
    generalize decide (r.ty.kind = 7) = d7 at *
    clear h37
    generalize ptT r.ty.kind = P3 at *
    go_wp2_with fail
    rcases Bool.or_eq_true_iff.1 h37b with h | h
    ·subst h
     go_wp2_with fail
     go_ret
     exact ⟨M1, by rw [HR.out]; rfl, HST.out⟩
    ·subst h
     cases d3
     ·go_wp2_with fail
      go_ret
      exact ⟨M1, by rw [HR.out]; rfl, HST.out⟩
     ·go_wp2_with fail
      go_ret
      exact ⟨M1, by rw [HR.out]; rfl, HST.out⟩
   ·rw [decide_eq_false (fun h => h37 (.inl h))] at q3
    rw [decide_eq_false (fun h => h37 (.inr h))] at q7
    by_cases hk0 : k = 0
    ·have HA2 : Hid (UFirst ts (k + 1)) := fun j hj hjk => by
      have e : j = k := by omega
      subst e
      rw [hty]
      exact ⟨⟨fun h => h37 (.inl h), fun h => h37 (.inr h)⟩, fun h0 => absurd h0 (by omega)⟩
     have hkp : decide ((0 : Int) < (k : Int)) = false := decide_eq_false (by omega)
     have hkn0 : decide (0 < k) = false := decide_eq_false (by omega)
     have hkp2 : ¬ (0 : Int) < (k : Int) := by omega
     clear HNO HYES HALL HEL HCT hcell hp3 hp7 hts hty hi0 h37 hk0
     generalize ptT r.ty.kind = P3 at *
     go_wp2_with fail
     go_roundw
     case rel => exact ⟨k + 1, M1, by omega, by go_num, HA2.out, HST.out⟩
     case measure => simp [intOf]; omega
    ·obtain ⟨m, rfl⟩ : ∃ m, k = m + 1 := ⟨k - 1, by omega⟩
     have hlm : m < ts.length := by omega
     obtain ⟨b', r', e', hcell', hty', hkd', i1, hi1⟩ := HEL.out m hlm
     simp only [Option.some.injEq, Addr.mk.injEq, and_true] at e'
     subst e'
     have c1 := hcell' M1 wo hts
     have hm0 : (0 : Int) ≤ (m : Int) := by omega
     have hm1 : (m : Int) < (nk : Int) := by omega
     have hkp : (0 : Int) < (m : Int) + 1 := by omega
     have HC0 := HCT.out M1 i1 i0 r' r wo hts hi1 hi0
     have HC : Hid (type_of% HC0) := HC0
     have HYS : Hid (lessB r'.ty.txt r.ty.txt → UFirst ts (m + 1 + 1)) := fun hls j hj hjk => by
      by_cases c : j = m + 1
      ·subst c
       rw [hty]
       refine ⟨⟨fun h => h37 (.inl h), fun h => h37 (.inr h)⟩, fun h0 => ?_⟩
       have : ts[m + 1 - 1] = r'.ty := hty'
       rw [this]
       exact hls
      ·exact HALL.out j hj (by omega)
     have HNS : Hid (¬ lessB r'.ty.txt r.ty.txt → RR = false) := fun hls => HNO.out fun h => hls (by
      have h1 := (ukids_first h (m + 1) hlt2 hlt2).2 (by omega)
      have h2 : ts[m + 1 - 1] = r'.ty := hty'
      rw [h2, hty] at h1
      exact h1)
     clear HNO HYES HALL HEL HCT hcell hp3 hp7 hts hty hi0 h37 hk0 hcell' hty' hi1 HC0
     generalize ptT r.ty.kind = P3 at *
     generalize ptT r'.ty.kind = P4 at *
     go_wp2_with fail
     refine HC.out.mono ?_
     rintro e w2 ⟨M2, o, rfl, ho, hs2⟩
     have HS2 : Hid (type_of% hs2) := hs2
     have HO : Hid (type_of% ho) := ho
     clear hs2 ho
     by_cases hon : o < 0
     ·have hon2 : ¬ (0 : Int) ≤ o := by omega
      go_wp2_with fail
      go_roundw
      case rel => exact ⟨m + 1 + 1, M2, by omega, by go_num, HYS.out (HO.out.1 hon), HS2.out⟩
      case measure => simp [intOf]; omega
     ·have hon2 : (0 : Int) ≤ o := by omega
      have HR : Hid (RR = false) := HNS.out fun h => hon (HO.out.2 h)
      go_wp2_with fail
      go_ret
      exact ⟨M2, by rw [HR.out]; rfl, HS2.out⟩
  ·have hke : k = nk := by omega
   have HR : Hid (decide ((2 : Int) ≤ (nk : Int)) = RR) := by
    show _ = _
    by_cases h2 : 1 < ts.length
    ·rw [HYES.out (ufirst_all (by have := HALL.out; rw [hke, ← HLE.out] at this; exact this) h2)]
     exact decide_eq_true (by have := HLE.out; omega)
    ·rw [HNO.out fun h => h2 h.1]
     exact decide_eq_false (by have := HLE.out; omega)
   clear HNO HYES HALL HEL HCT hts
   go_wp2_with fail
   go_ret
   exact ⟨M1, by rw [← HR.out]; rfl, HST.out⟩
theorem implFormOf (n : Nat) : FormOfAt n := by
 induction n with
 | zero =>
  intro C M A cs t deep w _ _ _ h _ _ _
  exact h.elim
 | succ n ih =>
  intro C M A cs t deep w hM hA hT h hbk hd hFl
  obtain ⟨kd, nm, nms, kts⟩ := t
  obtain ⟨vn, vk, rfl, hki, hnm, ⟨hTx, hnl, hns⟩, hkl, hrow⟩ := h
  dsimp only at *
  have hvn : ∃ an cn, vn = .slice an nms.length cn := by
   rcases hTx with ⟨e, a, cap, e2⟩ | ⟨b, off, cap, e, _⟩
   ·exact ⟨a, cap, by rw [e, e2]; rfl⟩
   ·exact ⟨_, cap, e⟩
  obtain ⟨an, cn, rfl⟩ := hvn
  obtain ⟨ak, ck, rfl, _⟩ := rowROpen hrow
  have hb := hbk
  have hrb : rowBulk n kts ≤ Ty.bulk (n + 1) (.mk kd nm nms kts) := by
   rw [Ty.bulk]
   unfold rowBulk
   dsimp only
   omega
  have h1 : nm.size + (nms.length + sumS nms) ≤ Ty.bulk (n + 1) (.mk kd nm nms kts) := by
   rw [Ty.bulk, bulk_texts]
   dsimp only
   omega
  exact implFormOfStep implUnionKids n ih C M A kd nm nms kts an ak cn ck deep w hM hA hT hTx hrow hbk (by omega) (by omega) (fun x hx => by
   obtain ⟨j, hj, rfl⟩ := List.getElem_of_mem hx
   have := sumS_mem nms j hj
   omega) hrb hd hFl hki
def newC (w : World) : MkC := ⟨w.heap.size, w.heap.size + 3, w.heap.size, w.heap.size + 1, w.heap.size + 2⟩
def newM : Mk := ⟨[], [], [], fun _ => False⟩
theorem newMk_at (w : World) : MkAt (newC w) (newMk w) newM := by
 have z3 : (newMk w).heap[w.heap.size + 3]? = some (.cells #[.slice none 0 0, .map (some w.heap.size), .map (some (w.heap.size + 1)), .map (some (w.heap.size + 2))] 92 (0, 0)) := by
  have := (MapKept.heap_alloc (((w.alloc (.map #[] 0)).alloc (.map #[] 0)).alloc (.map #[] 0)) (.cells #[.slice none 0 0, .map (some w.heap.size), .map (some (w.heap.size + 1)), .map (some (w.heap.size + 2))] 92)).1
  simpa [newMk] using this
 have z2 : (newMk w).heap[w.heap.size + 2]? = some (.map #[] 0) := by
  unfold newMk
  rw [(MapKept.heap_alloc _ _).2 _ (by simp)]
  have := (MapKept.heap_alloc ((w.alloc (.map #[] 0)).alloc (.map #[] 0)) (.map #[] 0)).1
  simpa using this
 have z1 : (newMk w).heap[w.heap.size + 1]? = some (.map #[] 0) := by
  unfold newMk
  rw [(MapKept.heap_alloc _ _).2 _ (by simp), (MapKept.heap_alloc _ _).2 _ (by simp)]
  have := (MapKept.heap_alloc (w.alloc (.map #[] 0)) (.map #[] 0)).1
  simpa using this
 have z0 : (newMk w).heap[w.heap.size]? = some (.map #[] 0) := by
  unfold newMk
  rw [(MapKept.heap_alloc _ _).2 _ (by simp; omega), (MapKept.heap_alloc _ _).2 _ (by simp; omega), (MapKept.heap_alloc _ _).2 _ (by simp)]
  exact (MapKept.heap_alloc _ _).1
 refine ⟨by simp [newC], ⟨.slice none 0 0, 0, [], z3, World.ownsRow_nil _ _ _ _⟩, ⟨_, _, z0, rfl⟩, ⟨_, _, z1, rfl⟩, ⟨_, _, z2, rfl⟩, fun p hp => ?_, fun k r hr => ?_, fun i j r q hr => ?_, fun i j r q hr => ?_, fun r hr => ?_, fun b hb => hb.elim, fun k r hr => ?_⟩
 ·simp [newM] at hp
 ·simp [newM] at hr
 ·simp [newM] at hr
 ·simp [newM] at hr
 ·simp [newM] at hr
 ·simp [newM] at hr
end Go.Proofs.YtbojmbeopnlmiaaGreatDoor
