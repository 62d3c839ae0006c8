/-
 The walk of impl.sizeOf.
-/
import Derived.Test.YtbojmbeopnlmiaaGreatDoorPcT
namespace Go.Proofs.YtbojmbeopnlmiaaGreatDoor
open Go.RowKit Go.Shelf
def PcOne (ks : List Nat) (p : Pc) : Prop := p.f = none ∨ ∃ i ∈ ks, p = pcF i
theorem rec_one {i : Nat} {xs : List ByteArray} {ks : List Nat} : ∀ p ∈ recPcs i xs ks, PcOne ks p := by
 induction xs generalizing i ks with
 | nil => intro p hp; simp [recPcs] at hp
 | cons x xs ih =>
  cases ks with
  | nil => intro p hp; simp [recPcs] at hp
  | cons k ks =>
   intro p hp
   simp only [recPcs, List.mem_cons] at hp
   rcases hp with rfl | rfl | rfl | rfl | hp
   ·exact .inl rfl
   ·exact .inl rfl
   ·exact .inl rfl
   ·exact .inr ⟨k, by simp, rfl⟩
   ·exact (ih p hp).imp id fun ⟨j, h1, h2⟩ => ⟨j, List.mem_cons_of_mem _ h1, h2⟩
theorem par_one {i : Nat} {ks : List Nat} : ∀ p ∈ parPcs i ks, PcOne ks p := by
 induction ks generalizing i with
 | nil => intro p hp; simp [parPcs] at hp
 | cons k ks ih =>
  intro p hp
  simp only [parPcs, List.mem_cons] at hp
  rcases hp with rfl | rfl | hp
  ·exact .inl rfl
  ·exact .inr ⟨k, by simp, rfl⟩
  ·exact (ih p hp).imp id fun ⟨j, h1, h2⟩ => ⟨j, List.mem_cons_of_mem _ h1, h2⟩
theorem br_one {b : Bool} {k : Nat} : ∀ p ∈ brPcs b k, PcOne [k] p := by
 intro p hp
 unfold brPcs at hp
 split at hp
 ·simp only [List.mem_cons, List.not_mem_nil, or_false] at hp
  rcases hp with rfl | rfl | rfl
  ·exact .inl rfl
  ·exact .inr ⟨k, by simp, rfl⟩
  ·exact .inl rfl
 ·simp only [List.mem_cons, List.not_mem_nil, or_false] at hp
  subst hp
  exact .inr ⟨k, by simp, rfl⟩
theorem uni_one {i : Nat} {ts : List Ty} {ks : List Nat} : ∀ p ∈ uniPcs i ts ks, PcOne ks p := by
 induction ts generalizing i ks with
 | nil => intro p hp; simp [uniPcs] at hp
 | cons t ts ih =>
  cases ks with
  | nil => intro p hp; simp [uniPcs] at hp
  | cons k ks =>
   intro p hp
   simp only [uniPcs, List.mem_append] at hp
   rcases hp with (hp | hp) | hp
   ·split at hp
    ·simp only [List.mem_cons, List.not_mem_nil, or_false] at hp
     subst hp
     exact .inl rfl
    ·simp at hp
   ·exact (br_one p hp).imp id fun ⟨j, h1, h2⟩ => ⟨j, by rw [List.mem_singleton] at h1; rw [h1]; simp, h2⟩
   ·exact (ih p hp).imp id fun ⟨j, h1, h2⟩ => ⟨j, List.mem_cons_of_mem _ h1, h2⟩
theorem pcs_one {t : Ty} {ks : List Nat} (hk6 : t.kind = 6 → ks ≠ []) : ∀ p ∈ pcsOf t ks, PcOne ks p := by
 intro p h
 have one : ∀ s, p ∈ [pcT s] → PcOne ks p := fun s hs => by
  rw [List.mem_singleton] at hs
  subst hs
  exact .inl rfl
 unfold pcsOf at h
 split at h
 ·exact one _ h
 split at h
 ·exact one _ h
 split at h
 ·exact one _ h
 split at h
 ·exact one _ h
 split at h
 ·exact one _ h
 split at h
 ·rcases List.mem_append.1 h with h | h
  ·rcases List.mem_cons.1 h with h | h
   ·exact one _ (List.mem_singleton.2 h)
   ·exact rec_one p h
  ·exact one _ h
 split at h
 ·rename_i h6
  rcases List.mem_append.1 h with h | h
  ·rcases List.mem_append.1 h with h | h
   ·rcases List.mem_cons.1 h with h | h
    ·exact one _ (List.mem_singleton.2 h)
    ·exact (par_one p h).imp id fun ⟨j, h1, h2⟩ => ⟨j, List.dropLast_subset _ h1, h2⟩
   ·exact one _ h
  ·refine (br_one p h).imp id fun ⟨j, h1, h2⟩ => ⟨j, ?_, h2⟩
   rw [List.mem_singleton] at h1
   have hne := hk6 h6
   rw [h1, List.getLastD_eq_getLast?, List.getLast?_eq_some_getLast hne]
   exact List.getLast_mem hne
 ·exact uni_one p h
def SizeAt (k : Nat) : Prop := ∀ (C : MkC) (M : Mk) (r : FRec) (w : World), MkAt C w M → M.F[k]? = some r → Calls Tryz.prog 154 #[r.val] w fun e w' => ∃ M', e = .returned (.int .i64 ((min r.ty.txt.size 8589934593 : Nat) : Int)) ∧ TStep C M M' w w'
theorem pcsTxt_more (F : List FRec) (ps : List Pc) (j : Nat) (h : j < ps.length) : (pcsTxt F (ps.take (j + 1))).length = (pcsTxt F (ps.take j)).length + (ps[j].txt F).length := by
 rw [List.take_succ_eq_append_getElem h, pcsTxt_app, List.length_append, pcsTxt_cons]
 simp [pcsTxt]
theorem pcs_len {t : Ty} {ks : List Nat} (ht : Ty.ok t) (hk : ks.length = t.kids.length) : (pcsOf t ks).length ≤ 4 * ks.length + 8 := by
 have hb : ∀ b k, (brPcs b k).length ≤ 3 := fun b k => by unfold brPcs; split <;> simp
 unfold pcsOf
 split
 ·simp
 split
 ·simp
 split
 ·simp
 split
 ·simp
 split
 ·simp
 split
 ·rename_i h5
  have h1 := recPcs_len 0 t.names ks
  have h2 := (right_rec ht h5).2.2
  simp only [List.length_append, List.length_cons, List.length_nil]
  omega
 split
 ·have h1 := parPcs_len 0 ks.dropLast
  have h2 := hb (decide ((lastTy t.kids).kind = 7)) (ks.getLastD 0)
  rw [List.length_dropLast] at h1
  simp only [List.length_append, List.length_cons, List.length_nil]
  omega
 ·have h1 := uniPcs_len 0 t.kids ks
  omega
theorem txt_pos {t : Ty} (h : Ty.ok t) : 0 < t.txt.size := by
 obtain ⟨c, r, e, _⟩ := head_cls h
 have : (bt t.txt).length = t.txt.size := rfl
 have e' : bt t.txt = c :: r := e
 rw [e'] at this
 simp at this
 omega
set_option maxHeartbeats 1600000 in
set_option maxRecDepth 100000 in
theorem implSizeOf (k : Nat) : SizeAt k := by
 induction k using Nat.strongRecOn with
 | _ k ih =>
  intro C M r w hM hr
  have hF := hM.each k r hr
  obtain ⟨vp, sz, hobj, hcache⟩ := hF.obj
  have hval : r.val = .iface (ptT r.ty.kind) (.pointer (some ⟨r.blk, 0, none⟩)) := rfl
  have hmeth : ∀ wy : World, Sem.run Tryz.prog (Go.method 361 (ptT r.ty.kind) (.pointer (some ⟨r.blk, 0, none⟩)) "loop.example/g00276/impl.base") wy = .ok (210, .pointer (some ⟨r.blk, 0, none⟩)) wy := fun wy => methBase _ _ _ rfl
  have HB0 : Hid (∀ (a : Addr) (wx : World), Calls Tryz.prog 210 #[.pointer (some a)] wx fun e w' => e = .returned (.pointer (some a)) ∧ w' = wx) := implBase
  have c4 : w.cell? ⟨r.blk, 4, none⟩ = some (.int .i64 sz) := by rw [cell_of_row w r.blk 4 _ _ (0, 0) hobj]; simp [FRec.cells]
  have htp := txt_pos hF.ok
  by_cases hsz : 0 < sz
  ·have esz : sz = min r.ty.txt.size 8589934593 := by
    rcases hcache.2 with q | q
    ·omega
    ·exact q
   have HEND : Hid (TStep C M M w w) := TStep.refl hM
   have HES : Hid (type_of% esz) := esz
   have hszi : (0 : Int) < (sz : Int) := by omega
   have m0 := hmeth w
   rw [hval]
   clear hM hr hF hobj hcache hval ih esz htp
   generalize ptT r.ty.kind = PT at *
   go_enter Tryz.func154, Tryz.ntmps154
   go_wp2_with (go_at_call 210; refine (HB0.out _ _).mono ?_; rintro e w9 ⟨rfl, rfl⟩)
   go_ret
   exact ⟨M, congrArg (fun x : Nat => Ending.returned (Value.int .i64 (x : Int))) HES.out, HEND.out⟩
  ·have hsz0 : sz = 0 := by omega
   subst hsz0
   have HFP0 := implFormPieces C M k r w hM hr (hM.small k r hr).2
   rw [hval] at HFP0
   have HFP : Hid (type_of% HFP0) := HFP0
   obtain ⟨PS, HPS⟩ : ∃ PS, Hid (PS = pcsOf r.ty r.kids) := ⟨_, rfl⟩
   rw [← HPS.out] at HFP
   have hone : ∀ p ∈ PS, PcOne r.kids p := by rw [HPS.out]; exact pcs_one fun c => hF.kids.ne (fn_kids hF.ok c)
   have htot : (pcsTxt M.F PS).length = r.ty.txt.size := by rw [HPS.out, pcs_text hF.ok hF.kids]; rfl
   have hsm := (hM.small k r hr).1
   have HJ : Hid (∀ j (h : j < PS.length), (pcsTxt M.F (PS.take (j + 1))).length = (pcsTxt M.F (PS.take j)).length + (PS[j].txt M.F).length) := fun j h => pcsTxt_more M.F PS j h
   have HLE : Hid (∀ j, (pcsTxt M.F (PS.take j)).length ≤ 1099511627776) := fun j => by
    have : (pcsTxt M.F PS).length = (pcsTxt M.F (PS.take j)).length + (pcsTxt M.F (PS.drop j)).length := by rw [← List.length_append, ← pcsTxt_app, List.take_append_drop]
    omega
   have HKID : Hid (∀ j (h : j < PS.length), (PS[j].f = none) ∨ ∃ i q, i < k ∧ M.F[i]? = some q ∧ PS[j] = pcF i) := fun j h => by
    rcases hone _ (List.getElem_mem h) with q | ⟨i, hi, e⟩
    ·exact .inl q
    ·obtain ⟨jj, hjj, rfl⟩ := List.getElem_of_mem hi
     obtain ⟨q, hq, _⟩ := hF.kids.2 jj hjj
     exact .inr ⟨_, q, hF.less _ hi, hq, e⟩
   have HIH : Hid (∀ i (q : FRec) (M' : Mk) (wx : World), i < k → M'.F = M.F → M.F[i]? = some q → MkAt C wx M' → Calls Tryz.prog 154 #[q.val] wx fun e w' => ∃ M2, e = .returned (.int .i64 ((min q.ty.txt.size 8589934593 : Nat) : Int)) ∧ TStep C M' M2 wx w') := fun i q M' wx hi hF' hq hM' => ih i hi C M' q wx hM' (by rw [hF']; exact hq)
   have HR : Hid (type_of% hr) := hr
   have HTOT : Hid (type_of% htot) := htot
   have m0 := hmeth w
   have hnp : PS.length ≤ 4194320 := by
    have h1 := pcs_len hF.ok hF.kids.1
    have h2 := (hM.small k r hr).2
    rw [HPS.out]
    omega
   rw [hval]
   clear hM hr hF hobj hcache hval ih HFP0 hone htot
   generalize ptT r.ty.kind = PT at *
   go_enter Tryz.func154, Tryz.ntmps154
   go_wp2_with (first | (go_at_call 210; refine (HB0.out _ _).mono ?_; rintro e w9 ⟨rfl, rfl⟩) | (go_at_call 174; refine HFP.out.mono ?_; rintro e w2 ⟨M1, b, cap, rfl, hts, hpr⟩; refine Hid.out ?_))
   refine Lib.hid ?_
   obtain ⟨np, HNPL, hnp2⟩ : ∃ np, Hid (PS.length = np) ∧ np ≤ 4194320 := ⟨_, rfl, hnp⟩
   rw [HNPL.out] at hpr ⊢
   clear hnp
   have HTS : Hid (type_of% hts) := hts
   have HPR : Hid (type_of% hpr) := hpr
   clear hts hpr HFP
   go_wp2_with fail
   go_loopw [3, 20] (fun s i wr => ∃ (j : Nat) (M2 : Mk), j ≤ np ∧ i = .int .i64 j ∧ s = .int .i64 ((min (pcsTxt M.F (PS.take j)).length 8589934593 : Nat) : Int) ∧ TStep C M M2 w9 wr ∧ PRow M2.ext wr M.F (.slice (some ⟨b, 0, none⟩) np cap) PS) (fun _ i _ => np - (intOf i).toNat)
   case atStart => exact ⟨0, M1, Nat.zero_le _, rfl, rfl, HTS.out, HPR.out⟩
   case round =>
    obtain ⟨j, M2, hj, rfl, rfl, hts, hpr⟩ := hrel
    have hle := HLE.out j
    by_cases hlt : j < np
    ·have hjP : j < PS.length := by rw [HNPL.out]; exact hlt
     obtain ⟨b', cap', hv', ha', hc'⟩ := id hpr
     simp only [Value.slice.injEq, Option.some.injEq, Addr.mk.injEq] at hv'
     obtain ⟨⟨rfl, _⟩, hx9, rfl⟩ := hv'
     clear hx9
     obtain ⟨p0, p1⟩ := hc' j hjP
     have HJ1 : Hid (type_of% (HJ.out j hjP)) := HJ.out j hjP
     have HTS2 : Hid (type_of% hts) := hts
     have HPR2 : Hid (type_of% hpr) := hpr
     have hji : (j : Int) < (np : Int) := by omega
     have hle1 := HLE.out (j + 1)
     rcases HKID.out j hjP with hn | ⟨i, q, hik, hq, he⟩
     ·have HX : Hid ((PS[j].txt M.F).length = PS[j].s.size) := by
       show _ = _
       unfold Pc.txt
       rw [hn]
       rfl
      rw [hn] at p1
      have p1' : wr.cell? ⟨b, j * 2 + 1, none⟩ = some .nilIface := p1
      have hsz2 : PS[j].s.size ≤ 1099511627776 := by rw [← HX.out]; have := HJ1.out; omega
      clear p1 hn hts hpr hc' HKID HIH HLE HJ HTS HPR ha'
      generalize PS[j].s = sx at *
      generalize (pcsTxt M.F (PS.take j)).length = tj at *
      have HNX : Hid ((min (pcsTxt M.F (PS.take (j + 1))).length 8589934593 : Nat) = min (min tj 8589934593 + sx.size) 8589934593) := by
       show _ = _
       rw [HJ1.out, HX.out]
       omega
      clear HJ1 HX
      have hbd : min tj 8589934593 ≤ 8589934593 := Nat.min_le_right _ _
      generalize min tj 8589934593 = mj at *
      go_wp2_with fail
      go_roundw
      case rel =>
       refine ⟨j + 1, M2, by omega, by go_num, by rw [HNX.out]; congr 1; omega, HTS2.out.below ((Below.refl _ _).alloc (Nat.le_refl _) _), HPR2.out.same (HTS2.out.here.extSame (MkF.ofBelow ((Below.refl _ _).alloc (Nat.le_refl _) _)))⟩
      case measure => simp [intOf]; omega
     ·have HX : Hid ((PS[j].txt M.F).length = q.ty.txt.size) := by
       show _ = _
       rw [he, pcF_txt, txtAt_some hq]
       rfl
      rw [he] at p0 p1
      have p0' : wr.cell? ⟨b, j * 2, none⟩ = some (.string ⟨#[]⟩) := p0
      have p1' : wr.cell? ⟨b, j * 2 + 1, none⟩ = some (.iface (ptT q.ty.kind) (.pointer (some ⟨q.blk, 0, none⟩))) := by
       rw [p1]
       show some (valAt M.F i) = _
       rw [val_iface hq]
      have hal : Below wr.heap.size wr (wr.alloc (.cells #[.string ⟨#[]⟩, .iface (ptT q.ty.kind) (.pointer (some ⟨q.blk, 0, none⟩))] 211)) := (Below.refl _ _).alloc (Nat.le_refl _) _
      have hC0 := HIH.out i q M2 (wr.alloc (.cells #[.string ⟨#[]⟩, .iface (ptT q.ty.kind) (.pointer (some ⟨q.blk, 0, none⟩))] 211)) hik hts.F hq (hts.here.below hal)
      have evq : q.val = .iface (ptT q.ty.kind) (.pointer (some ⟨q.blk, 0, none⟩)) := rfl
      rw [evq] at hC0
      have HC : Hid (type_of% hC0) := hC0
      have hqs : q.ty.txt.size ≤ 1099511627776 := by rw [← HX.out]; have := HJ1.out; omega
      have HALL : Hid (type_of% hal) := hal
      clear p0 p1 he hts hpr hc' HKID HIH HLE HJ HTS HPR ha' hC0 evq hal
      generalize (pcsTxt M.F (PS.take j)).length = tj at *
      have HNX : Hid ((min (pcsTxt M.F (PS.take (j + 1))).length 8589934593 : Nat) = min (min tj 8589934593 + min q.ty.txt.size 8589934593) 8589934593) := by
       show _ = _
       rw [HJ1.out, HX.out]
       omega
      clear HJ1 HX
      have hbd : min tj 8589934593 ≤ 8589934593 := Nat.min_le_right _ _
      have hbq : min q.ty.txt.size 8589934593 ≤ 8589934593 := Nat.min_le_right _ _
      generalize min tj 8589934593 = mj at *
      generalize min q.ty.txt.size 8589934593 = mq at *
      generalize ptT q.ty.kind = QT at *
      go_wp2_with fail
      refine HC.out.mono ?_
      rintro e w3 ⟨M3, rfl, hts3⟩
      have HT3 : Hid (TStep C M M3 w9 w3 ∧ PRow M3.ext w3 M.F (.slice (some ⟨b, 0, none⟩) np cap) PS) := by
       have h1 := HTS2.out.below HALL.out
       refine ⟨h1.trans hts3, ?_⟩
       exact ((HPR2.out.same (HTS2.out.here.extSame (MkF.ofBelow HALL.out))).same (h1.here.extSame hts3.fr)).sub hts3.extL
      clear hts3 HC
      go_wp2_with fail
      go_roundw
      case rel => exact ⟨j + 1, M3, by omega, by go_num, by rw [HNX.out]; congr 1; omega, HT3.out⟩
      case measure => simp [intOf]; omega
    ·have hjn : j = np := by omega
     have et : (pcsTxt M.F (PS.take j)).length = r.ty.txt.size := by
      rw [List.take_of_length_le (by rw [HNPL.out]; omega), HTOT.out]
     have hr2 : M2.F[k]? = some r := by rw [hts.F]; exact HR.out
     obtain ⟨vp2, sz2, hobj2, hcache2⟩ := (hts.here.each k r hr2).obj
     have hw3 : ∀ S : Nat, (wr.setCell ⟨r.blk, 4, none⟩ (.int .i64 S)).heap[r.blk]? = some (.cells (r.cells k vp2 S) (stT r.ty.kind) (0, 0)) := fun S => by
      rw [heap_setCell_same wr r.blk 4 _ _ _ hobj2, cells_set4]
     have HEND : Hid (TStep C M M2 w9 (wr.setCell ⟨r.blk, 4, none⟩ (.int .i64 ((min r.ty.txt.size 8589934593 : Nat) : Int)))) := by
      obtain ⟨q1, q2⟩ := hts.here.cache hr2 (hw3 (min r.ty.txt.size 8589934593)) (but_setCell wr r.blk 4 _) ⟨hcache2.1, .inr rfl⟩
      exact ⟨q1, hts.fr.trans q2, hts.F, hts.L, hts.T, hts.extL, hts.extR⟩
     have hfz : ∀ j, wr.frozen? ⟨r.blk, j, none⟩ = false := fun j => frozen_of_row _ _ j _ _ hobj2
     have d4 : wr.cell? ⟨r.blk, 4, none⟩ = some (.int .i64 sz2) := by rw [cell_of_row wr r.blk 4 _ _ (0, 0) hobj2]; simp [FRec.cells]
     have m3 := hmeth wr
     have hji : ¬ ((j : Int) < (np : Int)) := by omega
     rw [et] at *
     clear hts hpr hr2 hobj2 hcache2 hw3 HTS HPR HJ HLE HKID HIH HR HTOT et hle
     generalize hS9 : min r.ty.txt.size 8589934593 = S at *
     have HS9 : Hid (S = min r.ty.txt.size 8589934593) := hS9.symm
     clear hS9
     go_wp2_with (go_at_call 210; refine (HB0.out _ _).mono ?_; rintro e w8 ⟨rfl, rfl⟩)
     go_ret
     exact ⟨M2, congrArg (fun x : Nat => Ending.returned (Value.int .i64 (x : Int))) HS9.out, HEND.out⟩
end Go.Proofs.YtbojmbeopnlmiaaGreatDoor
