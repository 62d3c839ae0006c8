/-
 The walks of impl.fnPieces, impl.newPieces and impl.formPieces.
-/
import Derived.Test.YtbojmbeopnlmiaaGreatDoorMkX
namespace Go.Proofs.YtbojmbeopnlmiaaGreatDoor
open Go.RowKit Go.Shelf
set_option maxHeartbeats 1600000 in
set_option maxRecDepth 100000 in
theorem implFnPieces (C : MkC) (M : Mk) (k : Nat) (r : FRec) (w : World) (hM : MkAt C w M) (hr : M.F[k]? = some r) (h6 : r.ty.kind = 6) (hkl : r.kids.length ≤ 1048577) :
  Calls Tryz.prog 190 #[.pointer (some ⟨r.blk, 0, none⟩)] w fun e w' => ∃ v, e = .returned v ∧ PcOwn M.F w w' v (pcsOf r.ty r.kids) ∧ Below w.heap.size w w' := by
 obtain ⟨i0, hi0, hz0, hz1, hz2⟩ := info_parts Tryz.infoPc
 have hF := hM.each k r hr
 have hne : r.kids ≠ [] := hF.kids.ne (fn_kids hF.ok h6)
 have hnk : r.kids.length = r.ty.kids.length := hF.kids.1
 obtain ⟨ls, HLS⟩ : ∃ ls, Hid (r.kids.length = ls + 1) := ⟨r.kids.length - 1, by have := List.length_pos_iff.2 hne; show _ = _; omega⟩
 have hls := HLS.out
 obtain ⟨kl, hkl9⟩ : ∃ kl, r.kids[ls]? = some kl := ⟨_, List.getElem?_eq_getElem (by omega)⟩
 obtain ⟨tl, htl9⟩ : ∃ tl, r.ty.kids[ls]? = some tl := ⟨_, List.getElem?_eq_getElem (by omega)⟩
 have elast : lastTy r.ty.kids = tl := by
  have e : r.ty.kids.length - 1 = ls := by omega
  unfold lastTy
  rw [List.getLastD_eq_getLast?, List.getLast?_eq_getElem?, e, htl9]
  rfl
 have epcs : pcsOf r.ty r.kids = (pcT ⟨#[40]⟩ :: parPcs 0 (r.kids.take ls) ++ [pcT ⟨#[41, 32, 45, 62, 32]⟩]) ++ brPcs (decide (tl.kind = 7)) kl := by
  have e0 : r.kids.length - 1 = ls := by omega
  have e1 : r.kids.dropLast = r.kids.take ls := by rw [List.dropLast_eq_take, e0]
  have e2 : r.kids.getLastD 0 = kl := by
   rw [List.getLastD_eq_getLast?, List.getLast?_eq_getElem?, e0, hkl9]
   rfl
  unfold pcsOf
  rw [if_neg (by omega), if_neg (by omega), if_neg (by omega), if_neg (by omega), if_neg (by omega), if_neg (by omega), if_pos h6, e1, e2, elast]
 obtain ⟨ak, ck, hvk, hcap0, hek⟩ := hF.kidCells hM
 have hcap : ls + 1 ≤ ck := by have := hcap0 (by omega); omega
 have hcapi : (ls : Int) ≤ (ck : Int) := by omega
 clear hcap0
 have HEK : Hid (∀ j (h : j < r.kids.length), ∃ (b : Nat) (T : TypeId) (x : Value) (q : Option Addr) (h2 : j < r.ty.kids.length), ak = some ⟨b, 0, none⟩ ∧ b < w.heap.size ∧ w.cell? ⟨b, j, none⟩ = some (.iface T x) ∧ valAt M.F r.kids[j] = .iface T x ∧ ∀ wx : World, Sem.run Tryz.prog (Instr.typeAssert (.iface T x) 94 188 true) wx = .ok (.tuple #[.pointer q, .bool (decide (r.ty.kids[j].kind = 7))]) wx) := fun j h => by
  obtain ⟨b, q, e1, e2, e3, e4, e5, e6, e7⟩ := hek j h
  have h2 : j < r.ty.kids.length := by rw [← hnk]; exact h
  rw [List.getElem?_eq_getElem h2, Option.some.injEq] at e4
  obtain ⟨p, hp⟩ := assertPt7 q.ty.kind e5 ⟨q.blk, 0, none⟩
  exact ⟨b, _, _, p, h2, e1, e2, e6, e7, fun wx => by rw [hp wx, e4]⟩
 obtain ⟨bl, Tl, xl, ql, hl2, hakl, hbll, cl0, hvall, hasl⟩ := HEK.out ls (by omega)
 have hgk : r.kids[ls]'(by omega) = kl := by
  have := hkl9
  rw [List.getElem?_eq_getElem (by omega), Option.some.injEq] at this
  exact this
 have hgt : r.ty.kids[ls]'hl2 = tl := by
  have := htl9
  rw [List.getElem?_eq_getElem hl2, Option.some.injEq] at this
  exact this
 rw [hgk] at hvall
 rw [hgt] at hasl
 have HVALL : Hid (type_of% hvall) := hvall
 have HMORE : Hid (∀ j (h : j < r.kids.length), parPcs 0 (r.kids.take (j + 1)) = parPcs 0 (r.kids.take j) ++ [pcT (commaB (0 + j)), pcF r.kids[j]]) := fun j h => parPcs_more 0 _ j h
 have HLEN : Hid (∀ j, j ≤ r.kids.length → (parPcs 0 (r.kids.take j)).length = 2 * j) := fun j hj => by rw [parPcs_len, List.length_take, Nat.min_eq_left hj]
 obtain ⟨f0, f1, f2⟩ := hF.cells
 have hbl : r.blk < w.heap.size := World.block_lt_of_cell? w ⟨r.blk, 0, none⟩ f0
 rw [hvk, hls] at f1
 have HBR : Hid (∀ (T : TypeId) (x : Value) (wx : World), Calls Tryz.prog 193 #[.iface T x] wx fun e w' => e = .returned (.slice (some ⟨wx.heap.size, 0, none⟩) 3 3) ∧ w' = wx.alloc (.cells #[.string ⟨#[40]⟩, .nilIface, .string ⟨#[]⟩, .iface T x, .string ⟨#[41]⟩, .nilIface] 211)) := implBracketed
 have HCM : Hid (∀ (i : Nat) (wx : World), Calls Tryz.prog 192 #[.int .i64 i] wx fun e w' => e = .returned (.string (commaB i)) ∧ w' = wx) := implCommaAt
 have hlsb : ls ≤ 1048576 := by omega
 have hx0 : Below w.heap.size w (w.alloc (.cells #[.string ⟨#[40]⟩, .nilIface] 211)) := (Below.refl _ _).alloc (Nat.le_refl _) _
 have HS0 : Hid ((w.alloc (.cells #[.string ⟨#[40]⟩, .nilIface] 211)).ownsRow w.heap.size 211 2 (.slice (some ⟨w.heap.size, 0, none⟩) 1 1) 1 (pcCells M.F [pcT ⟨#[40]⟩])) := ⟨rfl, .inr ⟨w.heap.size, 1, _, rfl, Nat.le_refl _, (MapKept.heap_alloc w _).1, Nat.le_refl _, by unfold maxLen; omega, rfl, rfl⟩⟩
 have f1' := (hx0.cell (p := ⟨r.blk, 1, none⟩) hbl).trans f1
 obtain ⟨b7, hb7⟩ : ∃ b7, b7 = decide (tl.kind = 7) := ⟨_, rfl⟩
 rw [← hb7] at hasl epcs
 have HEP : Hid (type_of% epcs) := epcs
 have hcapk : ls + 1 ≤ 281474976710656 := by omega
 clear hek epcs hM hr hF hvk hnk hkl h6 hne elast hvall hb7 hgk hgt hkl9 htl9 hl2 hls
 go_enter Tryz.func190, Tryz.ntmps190
 go_wp2_with fail
 go_loopw [4, 27] (fun v i wr => ∃ (j : Nat), j ≤ ls ∧ i = .int .i64 j ∧ wr.ownsRow w.heap.size 211 2 v (1 + 2 * j) (pcCells M.F (pcT ⟨#[40]⟩ :: parPcs 0 (r.kids.take j))) ∧ Below w.heap.size w wr) (fun _ i _ => ls - (intOf i).toNat)
 case atStart => exact ⟨0, Nat.zero_le _, rfl, HS0.out, hx0⟩
 case round =>
  obtain ⟨j, hj, rfl, ho, hbe⟩ := hrel
  have hz : w.heap.size ≤ wr.heap.size := hbe.size
  obtain ⟨av, cv, hvv⟩ := slice_own2 ho
  subst hvv
  by_cases hlt : j < ls
  ·have hjk : j < r.kids.length := by rw [HLS.out]; omega
   obtain ⟨b2, T, x, q, hjt, hak2, hb2, ck0, hval, has⟩ := HEK.out j hjk
   rw [hak2] at hakl
   simp only [Option.some.injEq, Addr.mk.injEq] at hakl
   obtain ⟨rfl, _⟩ := hakl
   subst hak2
   have k0 := (hbe.cell (p := ⟨b2, j, none⟩) hb2).trans ck0
   have HM1 : Hid (type_of% (HMORE.out j hjk)) := HMORE.out j hjk
   have HVAL : Hid (type_of% hval) := hval
   have hji : (j : Int) < (ls : Int) := by omega
   clear ck0 hval HEK HMORE HLEN has
   generalize r.kids[j]'hjk = kk at *
   generalize parPcs 0 (r.kids.take j) = R at *
   go_wp2_with (go_at_call 192; refine (HCM.out j _).mono ?_; rintro e w9 ⟨rfl, rfl⟩; refine Hid.out ?_)
   refine Lib.hid ?_
   go_wp2_with (at_builtin; refine wpList_append_own_at _ rfl _ _ 163 rfl w.heap.size 211 i0 (.agg #[.string ⟨#[]⟩, .nilIface]) 2 32 Tryz.underlying163 hi0 hz0 hz1 hz2 rfl (by decide) _ _ _ rfl (ho.alloc _) ⟨w9.heap.size, 0, none⟩ 2 2 [.string (commaB j), .nilIface, .string ⟨#[]⟩, .iface T x] rfl rfl (cells_newP (arr := #[.string (commaB j), .nilIface, .string ⟨#[]⟩, .iface T x]) (MapKept.heap_alloc w9 _).1) (by intro u hu; simp at hu; rcases hu with rfl | rfl | rfl | rfl <;> rfl) (by unfold maxLen; omega) (by omega) (by simp; omega) ?_)
   intro v3 w3 hown3 hgrow3 _ _
   have hb3 : Below w.heap.size w w3 := (hbe.alloc hz _).grown hgrow3 (by simp; omega) (fun q hq => (ho.lt q hq).1)
   obtain ⟨a3, c3', hv3⟩ := slice_own2 hown3
   subst hv3
   have HO0 : w3.ownsRow w.heap.size 211 2 (.slice a3 (1 + 2 * j + 2) c3') (1 + 2 * (j + 1)) (pcCells M.F (pcT ⟨#[40]⟩ :: parPcs 0 (r.kids.take (j + 1)))) := by
    have e : pcCells M.F (pcT ⟨#[40]⟩ :: (R ++ [pcT (commaB (0 + j)), pcF kk])) = pcCells M.F (pcT ⟨#[40]⟩ :: R) ++ [.string (commaB j), .nilIface, .string ⟨#[]⟩, .iface T x] := by
     rw [← List.cons_append, pcCells_app, Nat.zero_add, ← HVAL.out]
     rfl
    have e2 : 1 + 2 * (j + 1) = 1 + 2 * j + 2 := by omega
    rw [HM1.out, e, e2]
    exact hown3
   have HO : Hid (type_of% HO0) := HO0
   clear HO0 hown3 hgrow3 ho HM1
   go_wp2_with fail
   go_roundw
   case rel => exact ⟨j + 1, by omega, by go_num, HO.out, hb3⟩
   case measure => simp [intOf]; omega
  ·have hjl : j = ls := by omega
   subst hjl
   have g1 := (hbe.cell (p := ⟨r.blk, 1, none⟩) hbl).trans f1
   subst hakl
   have l0 := (hbe.cell (p := ⟨bl, j, none⟩) hbll).trans cl0
   have hji : ¬ ((j : Int) < (j : Int)) := by omega
   have hli : (j : Int) < (j : Int) + 1 := by omega
   have HRL : Hid (type_of% (HLEN.out j (by rw [HLS.out]; omega))) := HLEN.out j (by rw [HLS.out]; omega)
   clear HEK HMORE HLEN f1 f1' hlt cl0
   generalize parPcs 0 (r.kids.take j) = R at *
   go_wp2_with (at_builtin; refine wpList_append_own_at _ rfl _ _ 163 rfl w.heap.size 211 i0 (.agg #[.string ⟨#[]⟩, .nilIface]) 2 32 Tryz.underlying163 hi0 hz0 hz1 hz2 rfl (by decide) _ _ _ rfl (ho.alloc _) ⟨wr.heap.size, 0, none⟩ 1 1 [.string ⟨#[41, 32, 45, 62, 32]⟩, .nilIface] rfl rfl (cells_newP (arr := #[.string ⟨#[41, 32, 45, 62, 32]⟩, .nilIface]) (MapKept.heap_alloc wr _).1) (by intro u hu; simp at hu; rcases hu with rfl | rfl <;> rfl) (by unfold maxLen; omega) (by omega) (by simp; omega) ?_)
   intro v1 w1 hown1 hgrow1 _ _
   have hb1 : Below w.heap.size w w1 := (hbe.alloc hz _).grown hgrow1 (by simp; omega) (fun q hq => (ho.lt q hq).1)
   have hz1w : w.heap.size ≤ w1.heap.size := hb1.size
   obtain ⟨a1, c1', hv1⟩ := slice_own2 hown1
   subst hv1
   have g1b : w1.cell? ⟨r.blk, 1, none⟩ = _ := (hb1.cell (p := ⟨r.blk, 1, none⟩) hbl).trans ((hbe.cell (p := ⟨r.blk, 1, none⟩) hbl).symm.trans g1)
   have l1 : w1.cell? ⟨bl, j, none⟩ = _ := (hb1.cell (p := ⟨bl, j, none⟩) hbll).trans ((hbe.cell (p := ⟨bl, j, none⟩) hbll).symm.trans l0)
   have has1 := hasl w1
   clear ho hgrow1 g1 l0
   cases b7 with
   | false =>
    go_wp2_with (at_builtin; refine wpList_append_own_at _ rfl _ _ 163 rfl w.heap.size 211 i0 (.agg #[.string ⟨#[]⟩, .nilIface]) 2 32 Tryz.underlying163 hi0 hz0 hz1 hz2 rfl (by decide) _ _ _ rfl (hown1.alloc _) ⟨w1.heap.size, 0, none⟩ 1 1 [.string ⟨#[]⟩, .iface Tl xl] rfl rfl (cells_newP (arr := #[.string ⟨#[]⟩, .iface Tl xl]) (MapKept.heap_alloc w1 _).1) (by intro u hu; simp at hu; rcases hu with rfl | rfl <;> rfl) (by unfold maxLen; omega) (by omega) (by simp; omega) ?_)
    intro v3 w3 hown3 hgrow3 _ _
    have hb3 : Below w.heap.size w w3 := (hb1.alloc hz1w _).grown hgrow3 (by simp; omega) (fun q hq => (hown1.lt q hq).1)
    obtain ⟨a3, c3', hv3⟩ := slice_own2 hown3
    subst hv3
    have HEND : Hid (PcOwn M.F w w3 (.slice a3 (1 + 2 * j + 1 + 1) c3') (pcsOf r.ty r.kids)) := by
     show World.ownsRow _ _ _ _ _ _ _
     rw [HEP.out]
     have e1 : ((pcT ⟨#[40]⟩ :: R ++ [pcT ⟨#[41, 32, 45, 62, 32]⟩]) ++ brPcs false kl).length = 1 + 2 * j + 1 + 1 := by
      rw [List.length_append, List.length_append, List.length_cons, HRL.out]
      show 2 * j + 1 + 1 + 1 = _
      omega
     have e2 : pcCells M.F ((pcT ⟨#[40]⟩ :: R ++ [pcT ⟨#[41, 32, 45, 62, 32]⟩]) ++ brPcs false kl) = pcCells M.F (pcT ⟨#[40]⟩ :: R) ++ ([.string ⟨#[41, 32, 45, 62, 32]⟩, .nilIface] ++ [.string ⟨#[]⟩, .iface Tl xl]) := by
      rw [pcCells_app, pcCells_app, ← HVALL.out, List.append_assoc]
      rfl
     rw [e1, e2]
     first
      | exact hown3
      | (rw [List.append_assoc] at hown3; exact hown3)
    clear hown3 hgrow3 hown1
    go_wp2_with fail
    go_ret
    exact ⟨_, rfl, HEND.out, hb3⟩
   | true =>
    go_wp2_with (go_at_call 193; refine (HBR.out _ _ _).mono ?_; rintro e w2 ⟨rfl, rfl⟩; refine Hid.out ?_)
    refine Lib.hid ?_
    go_wp2_with (at_builtin; refine wpList_append_own_at _ rfl _ _ 163 rfl w.heap.size 211 i0 (.agg #[.string ⟨#[]⟩, .nilIface]) 2 32 Tryz.underlying163 hi0 hz0 hz1 hz2 rfl (by decide) _ _ _ rfl (hown1.alloc _) ⟨w1.heap.size, 0, none⟩ 3 3 [.string ⟨#[40]⟩, .nilIface, .string ⟨#[]⟩, .iface Tl xl, .string ⟨#[41]⟩, .nilIface] rfl rfl (cells_newP (arr := #[.string ⟨#[40]⟩, .nilIface, .string ⟨#[]⟩, .iface Tl xl, .string ⟨#[41]⟩, .nilIface]) (MapKept.heap_alloc w1 _).1) (by intro u hu; simp at hu; rcases hu with rfl | rfl | rfl | rfl | rfl | rfl <;> rfl) (by unfold maxLen; omega) (by omega) (by simp; omega) ?_)
    intro v3 w3 hown3 hgrow3 _ _
    have hb3 : Below w.heap.size w w3 := (hb1.alloc hz1w _).grown hgrow3 (by simp; omega) (fun q hq => (hown1.lt q hq).1)
    obtain ⟨a3, c3', hv3⟩ := slice_own2 hown3
    subst hv3
    have HEND : Hid (PcOwn M.F w w3 (.slice a3 (1 + 2 * j + 1 + 3) c3') (pcsOf r.ty r.kids)) := by
     show World.ownsRow _ _ _ _ _ _ _
     rw [HEP.out]
     have e1 : ((pcT ⟨#[40]⟩ :: R ++ [pcT ⟨#[41, 32, 45, 62, 32]⟩]) ++ brPcs true kl).length = 1 + 2 * j + 1 + 3 := by
      rw [List.length_append, List.length_append, List.length_cons, HRL.out]
      show 2 * j + 1 + 1 + 3 = _
      omega
     have e2 : pcCells M.F ((pcT ⟨#[40]⟩ :: R ++ [pcT ⟨#[41, 32, 45, 62, 32]⟩]) ++ brPcs true kl) = pcCells M.F (pcT ⟨#[40]⟩ :: R) ++ ([.string ⟨#[41, 32, 45, 62, 32]⟩, .nilIface] ++ [.string ⟨#[40]⟩, .nilIface, .string ⟨#[]⟩, .iface Tl xl, .string ⟨#[41]⟩, .nilIface]) := by
      rw [pcCells_app, pcCells_app, ← HVALL.out, List.append_assoc]
      rfl
     rw [e1, e2]
     first
      | exact hown3
      | (rw [List.append_assoc] at hown3; exact hown3)
    clear hown3 hgrow3 hown1
    go_wp2_with fail
    go_ret
    exact ⟨_, rfl, HEND.out, hb3⟩
theorem own_one {w : World} {s : ByteArray} : (w.alloc (.cells #[.string s, .nilIface] 211)).ownsRow w.heap.size 211 2 (.slice (some ⟨w.heap.size, 0, none⟩) 1 1) 1 [.string s, .nilIface] := ⟨rfl, .inr ⟨w.heap.size, 1, _, rfl, Nat.le_refl _, (MapKept.heap_alloc w _).1, Nat.le_refl _, by unfold maxLen; omega, rfl, rfl⟩⟩
set_option maxHeartbeats 1600000 in
set_option maxRecDepth 100000 in
theorem implNewPieces (C : MkC) (M : Mk) (k : Nat) (r : FRec) (w : World) (hM : MkAt C w M) (hr : M.F[k]? = some r) (hkl : r.kids.length ≤ 1048577) :
  Calls Tryz.prog 186 #[r.val] w fun e w' => ∃ v, e = .returned v ∧ PcOwn M.F w w' v (pcsOf r.ty r.kids) ∧ Below w.heap.size w w' := by
 have hF := hM.each k r hr
 have hk : 0 ≤ r.ty.kind ∧ r.ty.kind ≤ 7 := by rcases right_kinds hF.ok with q | q | q | q <;> omega
 have hx : ∀ s : ByteArray, Below w.heap.size w (w.alloc (.cells #[.string s, .nilIface] 211)) := fun s => (Below.refl _ _).alloc (Nat.le_refl _) _
 have hval : r.val = .iface (ptT r.ty.kind) (.pointer (some ⟨r.blk, 0, none⟩)) := rfl
 rw [hval]
 obtain h0 | h0 | h0 | h0 | h0 | h0 | h0 | h0 : r.ty.kind = 0 ∨ r.ty.kind = 1 ∨ r.ty.kind = 2 ∨ r.ty.kind = 3 ∨ r.ty.kind = 4 ∨ r.ty.kind = 5 ∨ r.ty.kind = 6 ∨ r.ty.kind = 7 := by omega
 ·have HE : Hid (PcOwn M.F w (w.alloc (.cells #[.string ⟨#[105, 110, 116]⟩, .nilIface] 211)) (.slice (some ⟨w.heap.size, 0, none⟩) 1 1) (pcsOf r.ty r.kids)) := by
   unfold pcsOf
   rw [if_pos h0]
   exact own_one
  have ePT : ptT r.ty.kind = 190 := by rw [h0]; rfl
  rw [ePT]
  have a0 : Sem.run Tryz.prog (Instr.typeAssert (.iface 190 (.pointer (some ⟨r.blk, 0, none⟩))) 94 190 true) w = .ok (.tuple #[.pointer (some ⟨r.blk, 0, none⟩), .bool true]) w := by kernel_rfl
  clear hM hr hF hval ePT
  go_enter Tryz.func186, Tryz.ntmps186
  go_wp2_with fail
  go_ret
  exact ⟨_, rfl, HE.out, hx _⟩
 ·have HE : Hid (PcOwn M.F w (w.alloc (.cells #[.string ⟨#[116, 101, 120, 116]⟩, .nilIface] 211)) (.slice (some ⟨w.heap.size, 0, none⟩) 1 1) (pcsOf r.ty r.kids)) := by
   unfold pcsOf
   rw [if_neg (by omega), if_pos h0]
   exact own_one
  have ePT : ptT r.ty.kind = 193 := by rw [h0]; rfl
  rw [ePT]
  have a0 : Sem.run Tryz.prog (Instr.typeAssert (.iface 193 (.pointer (some ⟨r.blk, 0, none⟩))) 94 190 true) w = .ok (.tuple #[.pointer none, .bool false]) w := by kernel_rfl
  have a1 : Sem.run Tryz.prog (Instr.typeAssert (.iface 193 (.pointer (some ⟨r.blk, 0, none⟩))) 94 193 true) w = .ok (.tuple #[.pointer (some ⟨r.blk, 0, none⟩), .bool true]) w := by kernel_rfl
  clear hM hr hF hval ePT
  go_enter Tryz.func186, Tryz.ntmps186
  go_wp2_with fail
  go_ret
  exact ⟨_, rfl, HE.out, hx _⟩
 ·have HE : Hid (PcOwn M.F w (w.alloc (.cells #[.string ⟨#[98, 111, 111, 108]⟩, .nilIface] 211)) (.slice (some ⟨w.heap.size, 0, none⟩) 1 1) (pcsOf r.ty r.kids)) := by
   unfold pcsOf
   rw [if_neg (by omega), if_neg (by omega), if_pos h0]
   exact own_one
  have ePT : ptT r.ty.kind = 195 := by rw [h0]; rfl
  rw [ePT]
  have a0 : Sem.run Tryz.prog (Instr.typeAssert (.iface 195 (.pointer (some ⟨r.blk, 0, none⟩))) 94 190 true) w = .ok (.tuple #[.pointer none, .bool false]) w := by kernel_rfl
  have a1 : Sem.run Tryz.prog (Instr.typeAssert (.iface 195 (.pointer (some ⟨r.blk, 0, none⟩))) 94 193 true) w = .ok (.tuple #[.pointer none, .bool false]) w := by kernel_rfl
  have a2 : Sem.run Tryz.prog (Instr.typeAssert (.iface 195 (.pointer (some ⟨r.blk, 0, none⟩))) 94 195 true) w = .ok (.tuple #[.pointer (some ⟨r.blk, 0, none⟩), .bool true]) w := by kernel_rfl
  clear hM hr hF hval ePT
  go_enter Tryz.func186, Tryz.ntmps186
  go_wp2_with fail
  go_ret
  exact ⟨_, rfl, HE.out, hx _⟩
 ·have HE : Hid (PcOwn M.F w (w.alloc (.cells #[.string ⟨#[97, 110, 121]⟩, .nilIface] 211)) (.slice (some ⟨w.heap.size, 0, none⟩) 1 1) (pcsOf r.ty r.kids)) := by
   unfold pcsOf
   rw [if_neg (by omega), if_neg (by omega), if_neg (by omega), if_pos h0]
   exact own_one
  have ePT : ptT r.ty.kind = 187 := by rw [h0]; rfl
  rw [ePT]
  have a0 : Sem.run Tryz.prog (Instr.typeAssert (.iface 187 (.pointer (some ⟨r.blk, 0, none⟩))) 94 190 true) w = .ok (.tuple #[.pointer none, .bool false]) w := by kernel_rfl
  have a1 : Sem.run Tryz.prog (Instr.typeAssert (.iface 187 (.pointer (some ⟨r.blk, 0, none⟩))) 94 193 true) w = .ok (.tuple #[.pointer none, .bool false]) w := by kernel_rfl
  have a2 : Sem.run Tryz.prog (Instr.typeAssert (.iface 187 (.pointer (some ⟨r.blk, 0, none⟩))) 94 195 true) w = .ok (.tuple #[.pointer none, .bool false]) w := by kernel_rfl
  have a3 : Sem.run Tryz.prog (Instr.typeAssert (.iface 187 (.pointer (some ⟨r.blk, 0, none⟩))) 94 187 true) w = .ok (.tuple #[.pointer (some ⟨r.blk, 0, none⟩), .bool true]) w := by kernel_rfl
  clear hM hr hF hval ePT
  go_enter Tryz.func186, Tryz.ntmps186
  go_wp2_with fail
  go_ret
  exact ⟨_, rfl, HE.out, hx _⟩
 ·have c5 := hF.name4 h0
  have HE : Hid (PcOwn M.F w (w.alloc (.cells #[.string r.ty.name, .nilIface] 211)) (.slice (some ⟨w.heap.size, 0, none⟩) 1 1) (pcsOf r.ty r.kids)) := by
   unfold pcsOf
   rw [if_neg (by omega), if_neg (by omega), if_neg (by omega), if_neg (by omega), if_pos h0]
   exact own_one
  have ePT : ptT r.ty.kind = 197 := by rw [h0]; rfl
  rw [ePT]
  have a0 : Sem.run Tryz.prog (Instr.typeAssert (.iface 197 (.pointer (some ⟨r.blk, 0, none⟩))) 94 190 true) w = .ok (.tuple #[.pointer none, .bool false]) w := by kernel_rfl
  have a1 : Sem.run Tryz.prog (Instr.typeAssert (.iface 197 (.pointer (some ⟨r.blk, 0, none⟩))) 94 193 true) w = .ok (.tuple #[.pointer none, .bool false]) w := by kernel_rfl
  have a2 : Sem.run Tryz.prog (Instr.typeAssert (.iface 197 (.pointer (some ⟨r.blk, 0, none⟩))) 94 195 true) w = .ok (.tuple #[.pointer none, .bool false]) w := by kernel_rfl
  have a3 : Sem.run Tryz.prog (Instr.typeAssert (.iface 197 (.pointer (some ⟨r.blk, 0, none⟩))) 94 187 true) w = .ok (.tuple #[.pointer none, .bool false]) w := by kernel_rfl
  have a4 : Sem.run Tryz.prog (Instr.typeAssert (.iface 197 (.pointer (some ⟨r.blk, 0, none⟩))) 94 197 true) w = .ok (.tuple #[.pointer (some ⟨r.blk, 0, none⟩), .bool true]) w := by kernel_rfl
  clear hM hr hF hval ePT
  go_enter Tryz.func186, Tryz.ntmps186
  go_wp2_with fail
  go_ret
  exact ⟨_, rfl, HE.out, hx _⟩
 ·have HE : Hid (type_of% (implRecordPieces C M k r w hM hr h0 hkl)) := implRecordPieces C M k r w hM hr h0 hkl
  have ePT : ptT r.ty.kind = 200 := by rw [h0]; rfl
  rw [ePT]
  have a0 : Sem.run Tryz.prog (Instr.typeAssert (.iface 200 (.pointer (some ⟨r.blk, 0, none⟩))) 94 190 true) w = .ok (.tuple #[.pointer none, .bool false]) w := by kernel_rfl
  have a1 : Sem.run Tryz.prog (Instr.typeAssert (.iface 200 (.pointer (some ⟨r.blk, 0, none⟩))) 94 193 true) w = .ok (.tuple #[.pointer none, .bool false]) w := by kernel_rfl
  have a2 : Sem.run Tryz.prog (Instr.typeAssert (.iface 200 (.pointer (some ⟨r.blk, 0, none⟩))) 94 195 true) w = .ok (.tuple #[.pointer none, .bool false]) w := by kernel_rfl
  have a3 : Sem.run Tryz.prog (Instr.typeAssert (.iface 200 (.pointer (some ⟨r.blk, 0, none⟩))) 94 187 true) w = .ok (.tuple #[.pointer none, .bool false]) w := by kernel_rfl
  have a4 : Sem.run Tryz.prog (Instr.typeAssert (.iface 200 (.pointer (some ⟨r.blk, 0, none⟩))) 94 197 true) w = .ok (.tuple #[.pointer none, .bool false]) w := by kernel_rfl
  have a5 : Sem.run Tryz.prog (Instr.typeAssert (.iface 200 (.pointer (some ⟨r.blk, 0, none⟩))) 94 200 true) w = .ok (.tuple #[.pointer (some ⟨r.blk, 0, none⟩), .bool true]) w := by kernel_rfl
  clear hM hr hF hval ePT
  go_enter Tryz.func186, Tryz.ntmps186
  go_wp2_with fail
  refine HE.out.mono ?_
  rintro e w2 ⟨v, rfl, hp, hb⟩
  obtain ⟨a9, c9, hv⟩ := slice_own2 hp
  subst hv
  have HP : Hid (type_of% hp) := hp
  clear hp HE
  generalize (pcsOf r.ty r.kids).length = lp at *
  go_wp2_with fail
  go_ret
  exact ⟨_, rfl, HP.out, hb⟩
 ·have HE : Hid (type_of% (implFnPieces C M k r w hM hr h0 hkl)) := implFnPieces C M k r w hM hr h0 hkl
  have ePT : ptT r.ty.kind = 203 := by rw [h0]; rfl
  rw [ePT]
  have a0 : Sem.run Tryz.prog (Instr.typeAssert (.iface 203 (.pointer (some ⟨r.blk, 0, none⟩))) 94 190 true) w = .ok (.tuple #[.pointer none, .bool false]) w := by kernel_rfl
  have a1 : Sem.run Tryz.prog (Instr.typeAssert (.iface 203 (.pointer (some ⟨r.blk, 0, none⟩))) 94 193 true) w = .ok (.tuple #[.pointer none, .bool false]) w := by kernel_rfl
  have a2 : Sem.run Tryz.prog (Instr.typeAssert (.iface 203 (.pointer (some ⟨r.blk, 0, none⟩))) 94 195 true) w = .ok (.tuple #[.pointer none, .bool false]) w := by kernel_rfl
  have a3 : Sem.run Tryz.prog (Instr.typeAssert (.iface 203 (.pointer (some ⟨r.blk, 0, none⟩))) 94 187 true) w = .ok (.tuple #[.pointer none, .bool false]) w := by kernel_rfl
  have a4 : Sem.run Tryz.prog (Instr.typeAssert (.iface 203 (.pointer (some ⟨r.blk, 0, none⟩))) 94 197 true) w = .ok (.tuple #[.pointer none, .bool false]) w := by kernel_rfl
  have a5 : Sem.run Tryz.prog (Instr.typeAssert (.iface 203 (.pointer (some ⟨r.blk, 0, none⟩))) 94 200 true) w = .ok (.tuple #[.pointer none, .bool false]) w := by kernel_rfl
  have a6 : Sem.run Tryz.prog (Instr.typeAssert (.iface 203 (.pointer (some ⟨r.blk, 0, none⟩))) 94 203 true) w = .ok (.tuple #[.pointer (some ⟨r.blk, 0, none⟩), .bool true]) w := by kernel_rfl
  clear hM hr hF hval ePT
  go_enter Tryz.func186, Tryz.ntmps186
  go_wp2_with fail
  refine HE.out.mono ?_
  rintro e w2 ⟨v, rfl, hp, hb⟩
  obtain ⟨a9, c9, hv⟩ := slice_own2 hp
  subst hv
  have HP : Hid (type_of% hp) := hp
  clear hp HE
  generalize (pcsOf r.ty r.kids).length = lp at *
  go_wp2_with fail
  go_ret
  exact ⟨_, rfl, HP.out, hb⟩
 ·have HE : Hid (type_of% (implUnionPieces C M k r w hM hr h0 hkl)) := implUnionPieces C M k r w hM hr h0 hkl
  have ePT : ptT r.ty.kind = 188 := by rw [h0]; rfl
  rw [ePT]
  have a0 : Sem.run Tryz.prog (Instr.typeAssert (.iface 188 (.pointer (some ⟨r.blk, 0, none⟩))) 94 190 true) w = .ok (.tuple #[.pointer none, .bool false]) w := by kernel_rfl
  have a1 : Sem.run Tryz.prog (Instr.typeAssert (.iface 188 (.pointer (some ⟨r.blk, 0, none⟩))) 94 193 true) w = .ok (.tuple #[.pointer none, .bool false]) w := by kernel_rfl
  have a2 : Sem.run Tryz.prog (Instr.typeAssert (.iface 188 (.pointer (some ⟨r.blk, 0, none⟩))) 94 195 true) w = .ok (.tuple #[.pointer none, .bool false]) w := by kernel_rfl
  have a3 : Sem.run Tryz.prog (Instr.typeAssert (.iface 188 (.pointer (some ⟨r.blk, 0, none⟩))) 94 187 true) w = .ok (.tuple #[.pointer none, .bool false]) w := by kernel_rfl
  have a4 : Sem.run Tryz.prog (Instr.typeAssert (.iface 188 (.pointer (some ⟨r.blk, 0, none⟩))) 94 197 true) w = .ok (.tuple #[.pointer none, .bool false]) w := by kernel_rfl
  have a5 : Sem.run Tryz.prog (Instr.typeAssert (.iface 188 (.pointer (some ⟨r.blk, 0, none⟩))) 94 200 true) w = .ok (.tuple #[.pointer none, .bool false]) w := by kernel_rfl
  have a6 : Sem.run Tryz.prog (Instr.typeAssert (.iface 188 (.pointer (some ⟨r.blk, 0, none⟩))) 94 203 true) w = .ok (.tuple #[.pointer none, .bool false]) w := by kernel_rfl
  have a7 : Sem.run Tryz.prog (Instr.typeAssert (.iface 188 (.pointer (some ⟨r.blk, 0, none⟩))) 94 188 true) w = .ok (.tuple #[.pointer (some ⟨r.blk, 0, none⟩), .bool true]) w := by kernel_rfl
  clear hM hr hF hval ePT
  go_enter Tryz.func186, Tryz.ntmps186
  go_wp2_with fail
  refine HE.out.mono ?_
  rintro e w2 ⟨v, rfl, hp, hb⟩
  obtain ⟨a9, c9, hv⟩ := slice_own2 hp
  subst hv
  have HP : Hid (type_of% hp) := hp
  clear hp HE
  generalize (pcsOf r.ty r.kids).length = lp at *
  go_wp2_with fail
  go_ret
  exact ⟨_, rfl, HP.out, hb⟩
end Go.Proofs.YtbojmbeopnlmiaaGreatDoor
