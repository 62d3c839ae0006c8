/-
  The walk of impl.sizeOf.
  Texts held against each other piece by piece, plainly. No program here.
  slices.Backward at pieces: its closure, for every loop body that keeps the row and the box that it reads.
-/
import Derived.Test.YtbojmbeopnlmiaaGreatDoorPcK
import Derived.RangeFuncNested
import Derived.RangeFuncBound
import Derived.RangeFuncCalls
import Derived.RangeFuncLeaves
import Derived.RangeFuncBox
import Derived.Shelf.Abstract
import Derived.Shelf.RegionOpen
import Derived.OwnWalkIn
import Derived.TacticsInMore
import Derived.LoopNIn
import Derived.LoopIn
namespace Go.Proofs.YtbojmbeopnlmiaaGreatDoor
open Go.RowKit Go.Shelf

/-- a piece is bytes alone, or a kid alone -/
def PcOne (ks : List Nat) (p : Pc) : Prop := p.f = none ∨ ∃ i ∈ ks, p = pcF i
theorem rec_one {i : Nat} {xs : List ByteArray} {ks : List Nat} : ∀ p ∈ recPcs i xs ks, PcOne ks p := by
  induction xs generalizing i ks with
  | nil => intro p hp; simp [recPcs] at hp
  | cons x xs ih =>
    cases ks with
    | nil => intro p hp; simp [recPcs] at hp
    | cons k ks =>
      intro p hp
      simp only [recPcs, List.mem_cons] at hp
      rcases hp with rfl | rfl | rfl | rfl | hp
      · exact .inl rfl
      · exact .inl rfl
      · exact .inl rfl
      · exact .inr ⟨k, by simp, rfl⟩
      · exact (ih p hp).imp id fun ⟨j, h1, h2⟩ => ⟨j, List.mem_cons_of_mem _ h1, h2⟩
theorem par_one {i : Nat} {ks : List Nat} : ∀ p ∈ parPcs i ks, PcOne ks p := by
  induction ks generalizing i with
  | nil => intro p hp; simp [parPcs] at hp
  | cons k ks ih =>
    intro p hp
    simp only [parPcs, List.mem_cons] at hp
    rcases hp with rfl | rfl | hp
    · exact .inl rfl
    · exact .inr ⟨k, by simp, rfl⟩
    · exact (ih p hp).imp id fun ⟨j, h1, h2⟩ => ⟨j, List.mem_cons_of_mem _ h1, h2⟩
theorem br_one {b : Bool} {k : Nat} : ∀ p ∈ brPcs b k, PcOne [k] p := by
  intro p hp
  unfold brPcs at hp
  split at hp
  · simp only [List.mem_cons, List.not_mem_nil, or_false] at hp
    rcases hp with rfl | rfl | rfl
    · exact .inl rfl
    · exact .inr ⟨k, by simp, rfl⟩
    · exact .inl rfl
  · simp only [List.mem_cons, List.not_mem_nil, or_false] at hp
    subst hp
    exact .inr ⟨k, by simp, rfl⟩
theorem uni_one {i : Nat} {ts : List Ty} {ks : List Nat} : ∀ p ∈ uniPcs i ts ks, PcOne ks p := by
  induction ts generalizing i ks with
  | nil => intro p hp; simp [uniPcs] at hp
  | cons t ts ih =>
    cases ks with
    | nil => intro p hp; simp [uniPcs] at hp
    | cons k ks =>
      intro p hp
      simp only [uniPcs, List.mem_append] at hp
      rcases hp with (hp | hp) | hp
      · split at hp
        · simp only [List.mem_cons, List.not_mem_nil, or_false] at hp
          subst hp
          exact .inl rfl
        · simp at hp
      · exact (br_one p hp).imp id fun ⟨j, h1, h2⟩ => ⟨j, by rw [List.mem_singleton] at h1; rw [h1]; simp, h2⟩
      · exact (ih p hp).imp id fun ⟨j, h1, h2⟩ => ⟨j, List.mem_cons_of_mem _ h1, h2⟩
theorem pcs_one {t : Ty} {ks : List Nat} (hk6 : t.kind = 6 → ks ≠ []) : ∀ p ∈ pcsOf t ks, PcOne ks p := by
  intro p h
  have one : ∀ s, p ∈ [pcT s] → PcOne ks p := fun s hs => by
    rw [List.mem_singleton] at hs
    subst hs
    exact .inl rfl
  unfold pcsOf at h
  split at h
  · exact one _ h
  split at h
  · exact one _ h
  split at h
  · exact one _ h
  split at h
  · exact one _ h
  split at h
  · exact one _ h
  split at h
  · rcases List.mem_append.1 h with h | h
    · rcases List.mem_cons.1 h with h | h
      · exact one _ (List.mem_singleton.2 h)
      · exact rec_one p h
    · exact one _ h
  split at h
  · rename_i h6
    rcases List.mem_append.1 h with h | h
    · rcases List.mem_append.1 h with h | h
      · rcases List.mem_cons.1 h with h | h
        · exact one _ (List.mem_singleton.2 h)
        · exact (par_one p h).imp id fun ⟨j, h1, h2⟩ => ⟨j, List.dropLast_subset _ h1, h2⟩
      · exact one _ h
    · refine (br_one p h).imp id fun ⟨j, h1, h2⟩ => ⟨j, ?_, h2⟩
      rw [List.mem_singleton] at h1
      have hne := hk6 h6
      rw [h1, List.getLastD_eq_getLast?, List.getLast?_eq_some_getLast hne]
      exact List.getLast_mem hne
  · exact uni_one p h

/-- what sizeOf leaves -/
def SizeAt (k : Nat) : Prop := ∀ (C : MkC) (M : Mk) (r : FRec) (w : World), MkAt C w M → M.F[k]? = some r → Calls Tryz.prog 154 #[r.val] w fun e w' => ∃ M', e = .returned (.int .i64 ((min r.ty.txt.size 8589934593 : Nat) : Int)) ∧ TStep C M M' w w'

theorem pcsTxt_more (F : List FRec) (ps : List Pc) (j : Nat) (h : j < ps.length) : (pcsTxt F (ps.take (j + 1))).length = (pcsTxt F (ps.take j)).length + (ps[j].txt F).length := by
  rw [List.take_succ_eq_append_getElem h, pcsTxt_app, List.length_append, pcsTxt_cons]
  simp [pcsTxt]
theorem pcs_len {t : Ty} {ks : List Nat} (ht : Ty.ok t) (hk : ks.length = t.kids.length) : (pcsOf t ks).length ≤ 4 * ks.length + 8 := by
  have hb : ∀ b k, (brPcs b k).length ≤ 3 := fun b k => by unfold brPcs; split <;> simp
  unfold pcsOf
  split
  · simp
  split
  · simp
  split
  · simp
  split
  · simp
  split
  · simp
  split
  · rename_i h5
    have h1 := recPcs_len 0 t.names ks
    have h2 := (right_rec ht h5).2.2
    simp only [List.length_append, List.length_cons, List.length_nil]
    omega
  split
  · have h1 := parPcs_len 0 ks.dropLast
    have h2 := hb (decide ((lastTy t.kids).kind = 7)) (ks.getLastD 0)
    rw [List.length_dropLast] at h1
    simp only [List.length_append, List.length_cons, List.length_nil]
    omega
  · have h1 := uniPcs_len 0 t.kids ks
    omega

theorem txt_pos {t : Ty} (h : Ty.ok t) : 0 < t.txt.size := by
  obtain ⟨c, r, e, _⟩ := head_cls h
  have : (bt t.txt).length = t.txt.size := rfl
  have e' : bt t.txt = c :: r := e
  rw [e'] at this
  simp at this
  omega

set_option maxHeartbeats 1600000 in
set_option maxRecDepth 100000 in
theorem implSizeOf (k : Nat) : SizeAt k := by
  induction k using Nat.strongRecOn with
  | _ k ih =>
    intro C M r w hM hr
    have hF := hM.each k r hr
    obtain ⟨vp, sz, hobj, hcache⟩ := hF.obj
    have hval : r.val = .iface (ptT r.ty.kind) (.pointer (some ⟨r.blk, 0, none⟩)) := rfl
    have hmeth : ∀ wy : World, Sem.run Tryz.prog (Go.method 361 (ptT r.ty.kind) (.pointer (some ⟨r.blk, 0, none⟩)) "loop.example/g00276/impl.base") wy = .ok (210, .pointer (some ⟨r.blk, 0, none⟩)) wy := fun wy => methBase _ _ _ rfl
    have HB0 : Hid (∀ (a : Addr) (wx : World), Calls Tryz.prog 210 #[.pointer (some a)] wx fun e w' => e = .returned (.pointer (some a)) ∧ w' = wx) := implBase
    have c4 : w.cell? ⟨r.blk, 4, none⟩ = some (.int .i64 sz) := by rw [cell_of_row w r.blk 4 _ _ (0, 0) hobj]; simp [FRec.cells]
    have htp := txt_pos hF.ok
    by_cases hsz : 0 < sz
    · have esz : sz = min r.ty.txt.size 8589934593 := by
        rcases hcache.2 with q | q
        · omega
        · exact q
      have HEND : Hid (TStep C M M w w) := TStep.refl hM
      have HES : Hid (type_of% esz) := esz
      have hszi : (0 : Int) < (sz : Int) := by omega
      have m0 := hmeth w
      rw [hval]
      clear hM hr hF hobj hcache hval ih esz htp
      generalize ptT r.ty.kind = PT at *
      go_enter Tryz.func154, Tryz.ntmps154
      go_wp2_with (go_at_call 210; refine (HB0.out _ _).mono ?_; rintro e w9 ⟨rfl, rfl⟩)
      go_ret
      exact ⟨M, congrArg (fun x : Nat => Ending.returned (Value.int .i64 (x : Int))) HES.out, HEND.out⟩
    · have hsz0 : sz = 0 := by omega
      subst hsz0
      have HFP0 := implFormPieces C M k r w hM hr (hM.small k r hr).2
      rw [hval] at HFP0
      have HFP : Hid (type_of% HFP0) := HFP0
      obtain ⟨PS, HPS⟩ : ∃ PS, Hid (PS = pcsOf r.ty r.kids) := ⟨_, rfl⟩
      rw [← HPS.out] at HFP
      have hone : ∀ p ∈ PS, PcOne r.kids p := by rw [HPS.out]; exact pcs_one fun c => hF.kids.ne (fn_kids hF.ok c)
      have htot : (pcsTxt M.F PS).length = r.ty.txt.size := by rw [HPS.out, pcs_text hF.ok hF.kids]; rfl
      have hsm := (hM.small k r hr).1
      have HJ : Hid (∀ j (h : j < PS.length), (pcsTxt M.F (PS.take (j + 1))).length = (pcsTxt M.F (PS.take j)).length + (PS[j].txt M.F).length) := fun j h => pcsTxt_more M.F PS j h
      have HLE : Hid (∀ j, (pcsTxt M.F (PS.take j)).length ≤ 1099511627776) := fun j => by
        have : (pcsTxt M.F PS).length = (pcsTxt M.F (PS.take j)).length + (pcsTxt M.F (PS.drop j)).length := by rw [← List.length_append, ← pcsTxt_app, List.take_append_drop]
        omega
      have HKID : Hid (∀ j (h : j < PS.length), (PS[j].f = none) ∨ ∃ i q, i < k ∧ M.F[i]? = some q ∧ PS[j] = pcF i) := fun j h => by
        rcases hone _ (List.getElem_mem h) with q | ⟨i, hi, e⟩
        · exact .inl q
        · obtain ⟨jj, hjj, rfl⟩ := List.getElem_of_mem hi
          obtain ⟨q, hq, _⟩ := hF.kids.2 jj hjj
          exact .inr ⟨_, q, hF.less _ hi, hq, e⟩
      have HIH : Hid (∀ i (q : FRec) (M' : Mk) (wx : World), i < k → M'.F = M.F → M.F[i]? = some q → MkAt C wx M' → Calls Tryz.prog 154 #[q.val] wx fun e w' => ∃ M2, e = .returned (.int .i64 ((min q.ty.txt.size 8589934593 : Nat) : Int)) ∧ TStep C M' M2 wx w') := fun i q M' wx hi hF' hq hM' => ih i hi C M' q wx hM' (by rw [hF']; exact hq)
      have HR : Hid (type_of% hr) := hr
      have HTOT : Hid (type_of% htot) := htot
      have m0 := hmeth w
      have hnp : PS.length ≤ 4194320 := by
        have h1 := pcs_len hF.ok hF.kids.1
        have h2 := (hM.small k r hr).2
        rw [HPS.out]
        omega
      rw [hval]
      clear hM hr hF hobj hcache hval ih HFP0 hone htot
      generalize ptT r.ty.kind = PT at *
      go_enter Tryz.func154, Tryz.ntmps154
      go_wp2_with (first | (go_at_call 210; refine (HB0.out _ _).mono ?_; rintro e w9 ⟨rfl, rfl⟩) | (go_at_call 174; refine HFP.out.mono ?_; rintro e w2 ⟨M1, b, cap, rfl, hts, hpr⟩; refine Hid.out ?_))
      refine Lib.hid ?_
      obtain ⟨np, HNPL, hnp2⟩ : ∃ np, Hid (PS.length = np) ∧ np ≤ 4194320 := ⟨_, rfl, hnp⟩
      rw [HNPL.out] at hpr ⊢
      clear hnp
      have HTS : Hid (type_of% hts) := hts
      have HPR : Hid (type_of% hpr) := hpr
      clear hts hpr HFP
      go_wp2_with fail
      go_loopw [3, 20] (fun s i wr => ∃ (j : Nat) (M2 : Mk), j ≤ np ∧ i = .int .i64 j ∧ s = .int .i64 ((min (pcsTxt M.F (PS.take j)).length 8589934593 : Nat) : Int) ∧ TStep C M M2 w9 wr ∧ PRow M2.ext wr M.F (.slice (some ⟨b, 0, none⟩) np cap) PS) (fun _ i _ => np - (intOf i).toNat)
      case atStart => exact ⟨0, M1, Nat.zero_le _, rfl, rfl, HTS.out, HPR.out⟩
      case round =>
        obtain ⟨j, M2, hj, rfl, rfl, hts, hpr⟩ := hrel
        have hle := HLE.out j
        by_cases hlt : j < np
        · have hjP : j < PS.length := by rw [HNPL.out]; exact hlt
          obtain ⟨b', cap', hv', ha', hc'⟩ := id hpr
          simp only [Value.slice.injEq, Option.some.injEq, Addr.mk.injEq] at hv'
          obtain ⟨⟨rfl, _⟩, hx9, rfl⟩ := hv'
          clear hx9
          obtain ⟨p0, p1⟩ := hc' j hjP
          have HJ1 : Hid (type_of% (HJ.out j hjP)) := HJ.out j hjP
          have HTS2 : Hid (type_of% hts) := hts
          have HPR2 : Hid (type_of% hpr) := hpr
          have hji : (j : Int) < (np : Int) := by omega
          have hle1 := HLE.out (j + 1)
          rcases HKID.out j hjP with hn | ⟨i, q, hik, hq, he⟩
          · have HX : Hid ((PS[j].txt M.F).length = PS[j].s.size) := by
              show _ = _
              unfold Pc.txt
              rw [hn]
              rfl
            rw [hn] at p1
            have p1' : wr.cell? ⟨b, j * 2 + 1, none⟩ = some .nilIface := p1
            have hsz2 : PS[j].s.size ≤ 1099511627776 := by rw [← HX.out]; have := HJ1.out; omega
            clear p1 hn hts hpr hc' HKID HIH HLE HJ HTS HPR ha'
            generalize PS[j].s = sx at *
            generalize (pcsTxt M.F (PS.take j)).length = tj at *
            have HNX : Hid ((min (pcsTxt M.F (PS.take (j + 1))).length 8589934593 : Nat) = min (min tj 8589934593 + sx.size) 8589934593) := by
              show _ = _
              rw [HJ1.out, HX.out]
              omega
            clear HJ1 HX
            have hbd : min tj 8589934593 ≤ 8589934593 := Nat.min_le_right _ _
            generalize min tj 8589934593 = mj at *
            go_wp2_with fail
            go_roundw
            case rel =>
              refine ⟨j + 1, M2, by omega, by go_num, by rw [HNX.out]; congr 1; omega, HTS2.out.below ((Below.refl _ _).alloc (Nat.le_refl _) _), HPR2.out.same (HTS2.out.here.extSame (MkF.ofBelow ((Below.refl _ _).alloc (Nat.le_refl _) _)))⟩
            case measure => simp [intOf]; omega
          · have HX : Hid ((PS[j].txt M.F).length = q.ty.txt.size) := by
              show _ = _
              rw [he, pcF_txt, txtAt_some hq]
              rfl
            rw [he] at p0 p1
            have p0' : wr.cell? ⟨b, j * 2, none⟩ = some (.string ⟨#[]⟩) := p0
            have p1' : wr.cell? ⟨b, j * 2 + 1, none⟩ = some (.iface (ptT q.ty.kind) (.pointer (some ⟨q.blk, 0, none⟩))) := by
              rw [p1]
              show some (valAt M.F i) = _
              rw [val_iface hq]
            have hal : Below wr.heap.size wr (wr.alloc (.cells #[.string ⟨#[]⟩, .iface (ptT q.ty.kind) (.pointer (some ⟨q.blk, 0, none⟩))] 211)) := (Below.refl _ _).alloc (Nat.le_refl _) _
            have hC0 := HIH.out i q M2 (wr.alloc (.cells #[.string ⟨#[]⟩, .iface (ptT q.ty.kind) (.pointer (some ⟨q.blk, 0, none⟩))] 211)) hik hts.F hq (hts.here.below hal)
            have evq : q.val = .iface (ptT q.ty.kind) (.pointer (some ⟨q.blk, 0, none⟩)) := rfl
            rw [evq] at hC0
            have HC : Hid (type_of% hC0) := hC0
            have hqs : q.ty.txt.size ≤ 1099511627776 := by rw [← HX.out]; have := HJ1.out; omega
            have HALL : Hid (type_of% hal) := hal
            clear p0 p1 he hts hpr hc' HKID HIH HLE HJ HTS HPR ha' hC0 evq hal
            generalize (pcsTxt M.F (PS.take j)).length = tj at *
            have HNX : Hid ((min (pcsTxt M.F (PS.take (j + 1))).length 8589934593 : Nat) = min (min tj 8589934593 + min q.ty.txt.size 8589934593) 8589934593) := by
              show _ = _
              rw [HJ1.out, HX.out]
              omega
            clear HJ1 HX
            have hbd : min tj 8589934593 ≤ 8589934593 := Nat.min_le_right _ _
            have hbq : min q.ty.txt.size 8589934593 ≤ 8589934593 := Nat.min_le_right _ _
            generalize min tj 8589934593 = mj at *
            generalize min q.ty.txt.size 8589934593 = mq at *
            generalize ptT q.ty.kind = QT at *
            go_wp2_with fail
            refine HC.out.mono ?_
            rintro e w3 ⟨M3, rfl, hts3⟩
            have HT3 : Hid (TStep C M M3 w9 w3 ∧ PRow M3.ext w3 M.F (.slice (some ⟨b, 0, none⟩) np cap) PS) := by
              have h1 := HTS2.out.below HALL.out
              refine ⟨h1.trans hts3, ?_⟩
              exact ((HPR2.out.same (HTS2.out.here.extSame (MkF.ofBelow HALL.out))).same (h1.here.extSame hts3.fr)).sub hts3.extL
            clear hts3 HC
            go_wp2_with fail
            go_roundw
            case rel => exact ⟨j + 1, M3, by omega, by go_num, by rw [HNX.out]; congr 1; omega, HT3.out⟩
            case measure => simp [intOf]; omega
        · have hjn : j = np := by omega
          have et : (pcsTxt M.F (PS.take j)).length = r.ty.txt.size := by
            rw [List.take_of_length_le (by rw [HNPL.out]; omega), HTOT.out]
          have hr2 : M2.F[k]? = some r := by rw [hts.F]; exact HR.out
          obtain ⟨vp2, sz2, hobj2, hcache2⟩ := (hts.here.each k r hr2).obj
          have hw3 : ∀ S : Nat, (wr.setCell ⟨r.blk, 4, none⟩ (.int .i64 S)).heap[r.blk]? = some (.cells (r.cells k vp2 S) (stT r.ty.kind) (0, 0)) := fun S => by
            rw [heap_setCell_same wr r.blk 4 _ _ _ hobj2, cells_set4]
          have HEND : Hid (TStep C M M2 w9 (wr.setCell ⟨r.blk, 4, none⟩ (.int .i64 ((min r.ty.txt.size 8589934593 : Nat) : Int)))) := by
            obtain ⟨q1, q2⟩ := hts.here.cache hr2 (hw3 (min r.ty.txt.size 8589934593)) (but_setCell wr r.blk 4 _) ⟨hcache2.1, .inr rfl⟩
            exact ⟨q1, hts.fr.trans q2, hts.F, hts.L, hts.T, hts.extL, hts.extR⟩
          have hfz : ∀ j, wr.frozen? ⟨r.blk, j, none⟩ = false := fun j => frozen_of_row _ _ j _ _ hobj2
          have d4 : wr.cell? ⟨r.blk, 4, none⟩ = some (.int .i64 sz2) := by rw [cell_of_row wr r.blk 4 _ _ (0, 0) hobj2]; simp [FRec.cells]
          have m3 := hmeth wr
          have hji : ¬ ((j : Int) < (np : Int)) := by omega
          rw [et] at *
          clear hts hpr hr2 hobj2 hcache2 hw3 HTS HPR HJ HLE HKID HIH HR HTOT et hle
          generalize hS9 : min r.ty.txt.size 8589934593 = S at *
          have HS9 : Hid (S = min r.ty.txt.size 8589934593) := hS9.symm
          clear hS9
          go_wp2_with (go_at_call 210; refine (HB0.out _ _).mono ?_; rintro e w8 ⟨rfl, rfl⟩)
          go_ret
          exact ⟨M2, congrArg (fun x : Nat => Ending.returned (Value.int .i64 (x : Int))) HS9.out, HEND.out⟩

end Go.Proofs.YtbojmbeopnlmiaaGreatDoor

namespace Go.Proofs.YtbojmbeopnlmiaaGreatDoor
open Go.RowKit Go.Shelf

/-- two texts are to each other as two others -/
def Alike (a b x y : List UInt8) : Prop := (a < b ↔ x < y) ∧ (a = b ↔ x = y)
theorem Alike.refl (a b : List UInt8) : Alike a b a b := ⟨Iff.rfl, Iff.rfl⟩
theorem Alike.trans {a b x y u v : List UInt8} (h : Alike a b x y) (k : Alike x y u v) : Alike a b u v := ⟨h.1.trans k.1, h.2.trans k.2⟩
theorem lt_app (p x y : List UInt8) : p ++ x < p ++ y ↔ x < y := by
  induction p with
  | nil => rfl
  | cons c p ih =>
    rw [List.cons_append, List.cons_append, List.cons_lt_cons_iff]
    constructor
    · rintro (h | ⟨_, h⟩)
      · exact absurd h (UInt8.lt_irrefl c)
      · exact ih.1 h
    · exact fun h => .inr ⟨rfl, ih.2 h⟩
/-- what both begin with doesn't count -/
theorem Alike.cut (p x y : List UInt8) : Alike (p ++ x) (p ++ y) x y := ⟨lt_app p x y, List.append_right_inj p⟩
/-- parted within what both have: the rest doesn't count -/
theorem Alike.part : ∀ (s t x y : List UInt8), s.length = t.length → s ≠ t → Alike (s ++ x) (t ++ y) s t := by
  intro s
  induction s with
  | nil =>
    intro t x y hl hne
    cases t with
    | nil => exact absurd rfl hne
    | cons c t => simp at hl
  | cons c s ih =>
    intro t x y hl hne
    cases t with
    | nil => simp at hl
    | cons d t =>
      have hl' : s.length = t.length := by simpa using hl
      rw [List.cons_append, List.cons_append]
      by_cases e : c = d
      · subst e
        have hne' : s ≠ t := fun q => hne (by rw [q])
        have h := ih t x y hl' hne'
        refine ⟨?_, ?_⟩
        · rw [List.cons_lt_cons_iff, List.cons_lt_cons_iff]
          constructor
          · rintro (q | ⟨_, q⟩)
            · exact .inl q
            · exact .inr ⟨rfl, h.1.1 q⟩
          · rintro (q | ⟨_, q⟩)
            · exact .inl q
            · exact .inr ⟨rfl, h.1.2 q⟩
        · rw [List.cons.injEq, List.cons.injEq]
          exact ⟨fun q => ⟨rfl, h.2.1 q.2⟩, fun q => ⟨rfl, h.2.2 q.2⟩⟩
      · refine ⟨?_, ?_⟩
        · rw [List.cons_lt_cons_iff, List.cons_lt_cons_iff]
          constructor
          · rintro (q | ⟨q, _⟩)
            · exact .inl q
            · exact absurd q e
          · rintro (q | ⟨q, _⟩)
            · exact .inl q
            · exact absurd q e
        · rw [List.cons.injEq, List.cons.injEq]
          exact ⟨fun q => absurd q.1 e, fun q => absurd q.1 e⟩

/-- a stack of pieces, the first one last: its text -/
def stTxt (F : List FRec) (L : List Pc) : List UInt8 := pcsTxt F L.reverse
theorem stTxt_push (F : List FRec) (L : List Pc) (p : Pc) : stTxt F (L ++ [p]) = p.txt F ++ stTxt F L := by
  unfold stTxt
  rw [List.reverse_append, List.reverse_singleton, List.singleton_append, pcsTxt_cons]
theorem stTxt_app (F : List FRec) (L K : List Pc) : stTxt F (L ++ K) = stTxt F K ++ stTxt F L := by
  unfold stTxt
  rw [List.reverse_append, pcsTxt_app]
/-- a piece that stands on a stack: bytes, or a form of the maker's -/
def Live (F : List FRec) (p : Pc) : Prop := (p.f = none ∧ 0 < p.s.size) ∨ ∃ i r, p = pcF i ∧ F[i]? = some r ∧ Ty.ok r.ty
theorem Live.pos {F : List FRec} {p : Pc} (h : Live F p) : 0 < (p.txt F).length := by
  rcases h with ⟨h1, h2⟩ | ⟨i, r, rfl, h2, h3⟩
  · unfold Pc.txt
    rw [h1]
    exact h2
  · rw [pcF_txt, txtAt_some h2]
    exact txt_pos h3
theorem live_txt {F : List FRec} {L : List Pc} (h : ∀ p ∈ L, Live F p) : L.length ≤ (stTxt F L).length := by
  induction L with
  | nil => simp
  | cons p L ih =>
    have e : p :: L = [p] ++ L := rfl
    rw [e, stTxt_app, List.length_append, List.length_append]
    have h1 := (h p (List.mem_cons_self ..)).pos
    have h2 := ih fun q hq => h q (List.mem_cons_of_mem _ hq)
    have h3 : (stTxt F [p]).length = (p.txt F).length := by
      unfold stTxt
      rw [List.reverse_singleton, pcsTxt_cons]
      simp [pcsTxt]
    rw [h3]
    simp only [List.length_singleton]
    omega

/-- the pieces that a form is opened to: all but the empty ones -/
def livePcs (ps : List Pc) : List Pc := ps.filter fun p => p.f.isSome || decide (p.s.size ≠ 0)
theorem pcsTxt_live (F : List FRec) (ps : List Pc) : pcsTxt F (livePcs ps) = pcsTxt F ps := by
  induction ps with
  | nil => rfl
  | cons p ps ih =>
    unfold livePcs at ih ⊢
    rw [List.filter_cons]
    split
    · rw [pcsTxt_cons, pcsTxt_cons, ih]
    · rename_i hc
      rw [pcsTxt_cons, ih]
      simp only [Bool.or_eq_true, decide_eq_true_eq, not_or, Bool.not_eq_true, Option.isSome_eq_false_iff, ne_eq, Decidable.not_not] at hc
      have : p.txt F = [] := by
        unfold Pc.txt
        rw [Option.isNone_iff_eq_none.1 hc.1]
        exact List.length_eq_zero_iff.1 hc.2
      rw [this, List.nil_append]
/-- opened: the text stays -/
theorem stTxt_open {F : List FRec} {L : List Pc} {i : Nat} {r : FRec} (hr : F[i]? = some r) (ht : Ty.ok r.ty) (hk : KidsOf F r.kids r.ty.kids) : stTxt F (L ++ (livePcs (pcsOf r.ty r.kids)).reverse) = stTxt F (L ++ [pcF i]) := by
  rw [stTxt_app, stTxt_push, pcF_txt, txtAt_some hr]
  congr 1
  unfold stTxt
  rw [List.reverse_reverse, pcsTxt_live, pcs_text ht hk]

/-- how much there is to do at a piece -/
def Pc.load (F : List FRec) (p : Pc) : Nat := match p.f with
  | none => p.s.size
  | some i => match F[i]? with
    | some r => r.ty.txt.size * (Ty.hi r.ty + 2)
    | none => 0
def loadOf (F : List FRec) (L : List Pc) : Nat := (L.map (Pc.load F)).sum
theorem loadOf_app (F : List FRec) (L K : List Pc) : loadOf F (L ++ K) = loadOf F L + loadOf F K := by simp [loadOf]
theorem load_le {F : List FRec} {ps : List Pc} {h : Nat} (hp : ∀ p ∈ ps, p.f = none ∨ ∃ i r, p = pcF i ∧ F[i]? = some r ∧ Ty.hi r.ty + 2 ≤ h) (h1 : 1 ≤ h) : loadOf F ps ≤ (pcsTxt F ps).length * h := by
  induction ps with
  | nil => simp [loadOf, pcsTxt]
  | cons p ps ih =>
    have h2 := ih fun q hq => hp q (List.mem_cons_of_mem _ hq)
    have h3 : p.load F ≤ (p.txt F).length * h := by
      rcases hp p (List.mem_cons_self ..) with q | ⟨i, r, rfl, q2, q3⟩
      · unfold Pc.load Pc.txt
        rw [q]
        show p.s.size ≤ p.s.size * h
        exact Nat.le_mul_of_pos_right _ h1
      · rw [pcF_txt, txtAt_some q2]
        have e : (pcF i).load F = r.ty.txt.size * (Ty.hi r.ty + 2) := by
          unfold Pc.load pcF
          simp only
          rw [q2]
        rw [e]
        exact Nat.mul_le_mul_left _ q3
    rw [pcsTxt_cons, List.length_append, Nat.add_mul]
    show p.load F + loadOf F ps ≤ _
    omega
theorem loadOf_perm (F : List FRec) (L : List Pc) : loadOf F L.reverse = loadOf F L := by
  unfold loadOf
  rw [List.map_reverse, List.sum_reverse]
/-- opened: there is less to do -/
theorem load_open {F : List FRec} {i : Nat} {r : FRec} (hr : F[i]? = some r) (ht : Ty.ok r.ty) (hk : KidsOf F r.kids r.ty.kids) : loadOf F (livePcs (pcsOf r.ty r.kids)).reverse < loadOf F [pcF i] := by
  rw [loadOf_perm]
  have hone : ∀ p ∈ livePcs (pcsOf r.ty r.kids), p.f = none ∨ ∃ i q, p = pcF i ∧ F[i]? = some q ∧ Ty.hi q.ty + 2 ≤ Ty.hi r.ty + 1 := fun p hp => by
    have hp' := (List.mem_filter.1 hp).1
    rcases pcs_one (fun c => hk.ne (fn_kids ht c)) p hp' with q | ⟨j, hj, e⟩
    · exact .inl q
    · obtain ⟨jj, hjj, rfl⟩ := List.getElem_of_mem hj
      obtain ⟨q, hq, hq2⟩ := hk.2 jj hjj
      have hmem : q.ty ∈ r.ty.kids := List.mem_of_getElem? hq2
      have h1 := hi_of_kids ht
      rw [if_neg (by have := List.length_pos_of_mem hmem; omega)] at h1
      have h2 := hiMost_le.1 (Nat.le_refl (hiMost r.ty.kids)) _ hmem
      exact .inr ⟨_, q, e, hq, by omega⟩
  have h1 := load_le hone (by omega)
  rw [pcsTxt_live, pcs_text ht hk] at h1
  have e : loadOf F [pcF i] = r.ty.txt.size * (Ty.hi r.ty + 2) := by
    unfold loadOf
    simp only [List.map_cons, List.map_nil, List.sum_cons, List.sum_nil, Nat.add_zero]
    unfold Pc.load pcF
    simp only
    rw [hr]
  have h2 := txt_pos ht
  have h3 : (bt r.ty.txt).length = r.ty.txt.size := rfl
  rw [e]
  rw [h3] at h1
  have h4 : r.ty.txt.size * (Ty.hi r.ty + 2) = r.ty.txt.size * (Ty.hi r.ty + 1) + r.ty.txt.size := by
    rw [← Nat.mul_succ]
  omega

end Go.Proofs.YtbojmbeopnlmiaaGreatDoor

namespace Go.Proofs.YtbojmbeopnlmiaaGreatDoor
open Go.RowKit Go.Shelf

attribute [local go_sem] Oper.semAt_some

/-- a piece that may be handed out: bytes, or a form of the maker's -/
def Told (FF : List FRec) (p : Pc) : Prop := p.f = none ∨ ∃ i r, p = pcF i ∧ FF[i]? = some r
abbrev BackE (FF : List FRec) := { x : Nat × Pc // Told FF x.2 }
def backV {FF : List FRec} (x : BackE FF) : Array Value := #[.int .i64 (x.1.1 : Nat), .agg #[.string x.1.2.s, pcV FF x.1.2.f]]
def backAt {FF : List FRec} (ps : List Pc) (h : ∀ p ∈ ps, Told FF p) (j : Nat) : BackE FF := ⟨(j, ps[j]?.getD (pcT ⟨#[]⟩)), by
  show Told FF (ps[j]?.getD (pcT ⟨#[]⟩))
  cases e : ps[j]? with
  | none => exact .inl rfl
  | some p => exact h p (List.mem_of_getElem? e)⟩
/-- what has come when k rounds are over -/
def backTo {FF : List FRec} (ps : List Pc) (h : ∀ p ∈ ps, Told FF p) (k : Nat) : List (BackE FF) := (List.range k).map fun t => backAt ps h (ps.length - 1 - t)
theorem backTo_succ {FF : List FRec} (ps : List Pc) (h : ∀ p ∈ ps, Told FF p) (k : Nat) : backTo ps h (k + 1) = backTo ps h k ++ [backAt ps h (ps.length - 1 - k)] := by simp [backTo, List.range_succ]
theorem backTo_length {FF : List FRec} (ps : List Pc) (h : ∀ p ∈ ps, Told FF p) (k : Nat) : (backTo ps h k).length = k := by simp [backTo]

/-- the row and the box that are read stay -/
def BackK (g Bs : Nat) (W W' : World) : Prop := W'.heap[g]? = W.heap[g]? ∧ W'.heap[Bs]? = W.heap[Bs]?

set_option maxRecDepth 100000 in
set_option maxHeartbeats 2000000 in
theorem back1_in (F : Fence) (n : Nat) (h55 : F.fn 187) (hro : F.round = none) (hn : 1 ≤ n) (l Bs g cap : Nat) (FF : List FRec) (ps : List Pc) (hp : ∀ p ∈ ps, Told FF p) (hlen : ps.length ≤ 281474976710656) (J Jx : List (BackE FF) → World → Prop)
    (hY : ∀ pre x W, J pre W → pre.length < ps.length → YieldAt F (n - 1) Tryz.prog l (backV x) W fun e W' =>
      (e = .returned (.bool true) ∧ J (pre ++ [x]) W' ∧ BackK g Bs W W') ∨ (e = .returned (.bool false) ∧ Jx (pre ++ [x]) W'))
    (W : World) (hBs : W.cell? ⟨Bs, 0, none⟩ = some (.slice (some ⟨g, 0, none⟩) ps.length cap)) (hc : ∀ j (h : j < ps.length), W.cell? ⟨g, j * 2, none⟩ = some (.string ps[j].s) ∧ W.cell? ⟨g, j * 2 + 1, none⟩ = some (pcV FF ps[j].f)) (h0 : J [] W) :
    CallsIn F n Tryz.prog 187 #[.func (.yield l) #[] #[], .pointer (some ⟨Bs, 0, none⟩)] W fun e W' => (∃ v, e = .returned v) ∧
      ((∃ ys, ys = backTo ps hp ps.length ∧ J ys W') ∨ (∃ pre, True ∧ Jx pre W')) := by
  have HC : Hid (type_of% hc) := hc
  clear hc
  refine callsIn_of_wp Tryz.func187 rfl h55 ?_ hro
  simp only [Tryz.ntmps187, List.size_toArray, List.length_cons, List.length_nil, Nat.reduceAdd, Nat.reduceSub, Array.replicate_succ, Array.replicate_zero, List.push_toArray, List.append_toArray, List.nil_append, List.cons_append]
  gi_wp2
  gi_loopw [3] (fun i wr => ∃ k m : Nat, k + m = ps.length ∧ i = .int .i64 ((m : Int) - 1) ∧ J (backTo ps hp k) wr ∧ BackK g Bs W wr)
    (fun i _ => (intOf i + 1).toNat)
  case atStart => exact ⟨0, ps.length, by omega, rfl, h0, rfl, rfl⟩
  case round =>
    obtain ⟨k, m, hkm, rfl, hJs, hk1, hk2⟩ := hrel
    have hBs2 : wr.cell? ⟨Bs, 0, none⟩ = some (.slice (some ⟨g, 0, none⟩) ps.length cap) := (World.cell?_of_block (w := W) (a := ⟨Bs, 0, none⟩) hk2).trans hBs
    cases m with
    | zero =>
      have hkl : k = ps.length := by omega
      have HE : Hid (J (backTo ps hp ps.length) wr) := by rw [hkl] at hJs; exact hJs
      clear hJs hkl hY
      gi_wp2
      go_end0
      exact ⟨⟨_, rfl⟩, .inl ⟨_, rfl, HE.out⟩⟩
    | succ m =>
      have hm : m < ps.length := by omega
      obtain ⟨c0, c1⟩ := HC.out m hm
      have d0 := (World.cell?_of_block (w := W) (a := ⟨g, m * 2, none⟩) hk1).trans c0
      have d1 := (World.cell?_of_block (w := W) (a := ⟨g, m * 2 + 1, none⟩) hk1).trans c1
      obtain ⟨fn, tmps, assign, body, hy, hR⟩ := hY _ (backAt ps hp m) wr hJs (by rw [backTo_length]; omega)
      have eV : backV (backAt ps hp m) = #[.int .i64 (m : Nat), .agg #[.string ps[m].s, pcV FF ps[m].f]] := by
        unfold backV backAt
        simp [List.getElem?_eq_getElem hm]
      rw [eV] at hy
      have hm1 : (((m + 1 : Nat) : Int) - 1) = (m : Int) := by omega
      rw [hm1]
      have hmi : (0 : Int) ≤ (m : Int) := by omega
      have hml : (m : Int) < (ps.length : Int) := by omega
      have HR : Hid (type_of% hR) := hR
      clear hR c0 c1
      generalize ps[m].s = sx at *
      generalize pcV FF ps[m].f = vx at *
      gi_wp2
      refine HR.out.mono ?_
      rintro e W3 (⟨rfl, hJ3, hk3⟩ | ⟨rfl, hJx3⟩)
      · have HJ3 : Hid (J (backTo ps hp (k + 1)) W3) := by
          have e : ps.length - 1 - k = m := by omega
          show J _ _
          rw [backTo_succ, e]
          exact hJ3
        have HK3 : Hid (BackK g Bs W W3) := ⟨hk3.1.trans hk1, hk3.2.trans hk2⟩
        clear hJ3 hk3 hY HR hy hJs hBs2
        gi_wp2
        go_roundw
        case rel => exact ⟨k + 1, m, by omega, by go_num, HJ3.out, HK3.out⟩
        case measure => simp [intOf]
      · have HX : Hid (type_of% hJx3) := hJx3
        clear hJx3 hY HR hy hJs hBs2
        gi_wp2
        refine bodyPost_ret (results_none rfl _ _ _) rfl ?_
        exact ⟨⟨_, rfl⟩, .inr ⟨_, trivial, HX.out⟩⟩

/-- slices.Backward: the row is boxed; the function value has the box -/
theorem back_in (F : Fence) (n : Nat) (h39 : F.fn 175) (hro : F.round = none) (a : Option Addr) (len cap : Nat) (w : World) :
    CallsIn F n Tryz.prog 175 #[.slice a len cap] w fun e w' => e = .returned (.func (.func 187) #[] #[.pointer (some ⟨w.heap.size, 0, none⟩)]) ∧ w' = w.alloc (.cells #[.slice a len cap] 163) := by
  refine callsIn_of_wp Tryz.func175 rfl h39 ?_ hro
  simp only [Tryz.ntmps175, List.size_toArray, List.length_cons, List.length_nil, Nat.reduceAdd, Nat.reduceSub, Array.replicate_succ, Array.replicate_zero, List.push_toArray, List.append_toArray, List.nil_append, List.cons_append]
  gi_wp2
  go_ret
  exact ⟨rfl, rfl⟩

theorem back_stops (F : Fence) (n : Nat) (h55 : F.fn 187) (hro : F.round = none) (hn : 1 ≤ n) (Bs g cap : Nat) (FF : List FRec) (ps : List Pc) (hp : ∀ p ∈ ps, Told FF p) (hlen : ps.length ≤ 281474976710656) (w : World) (hBl : Bs < w.heap.size) (hgl : g < w.heap.size)
    (hBs : w.cell? ⟨Bs, 0, none⟩ = some (.slice (some ⟨g, 0, none⟩) ps.length cap)) (hc : ∀ j (h : j < ps.length), w.cell? ⟨g, j * 2, none⟩ = some (.string ps[j].s) ∧ w.cell? ⟨g, j * 2 + 1, none⟩ = some (pcV FF ps[j].f)) :
    SeqStopsK F n Tryz.prog 187 #[.pointer (some ⟨Bs, 0, none⟩)] (backV (FF := FF)) (BackK g Bs) (fun ys => ys = backTo ps hp ps.length) (fun _ => True) ps.length w := fun l J Jx W hW _ _ hY h0 =>
  back1_in F n h55 hro hn l Bs g cap FF ps hp hlen J Jx hY W ((hW.cell (p := ⟨Bs, 0, none⟩) hBl).trans hBs) (fun j h => ⟨(hW.cell (p := ⟨g, j * 2, none⟩) hgl).trans (hc j h).1, (hW.cell (p := ⟨g, j * 2 + 1, none⟩) hgl).trans (hc j h).2⟩) h0

end Go.Proofs.YtbojmbeopnlmiaaGreatDoor
