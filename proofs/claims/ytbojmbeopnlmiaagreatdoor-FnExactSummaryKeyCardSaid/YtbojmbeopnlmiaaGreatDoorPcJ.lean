/-
 The walks of impl.fnPieces and impl.unionPieces.
-/
import Derived.Test.YtbojmbeopnlmiaaGreatDoorPcI
namespace Go.Proofs.YtbojmbeopnlmiaaGreatDoor
open Go.RowKit Go.Shelf
theorem assertPt7 (k : Int) (hk : 0 ≤ k ∧ k ≤ 7) (a : Addr) : ∃ p, ∀ w : World, Sem.run Tryz.prog (Instr.typeAssert (.iface (ptT k) (.pointer (some a))) 94 188 true) w = .ok (.tuple #[.pointer p, .bool (decide (k = 7))]) w := by
 refine ⟨if k = 7 then some a else none, fun w => ?_⟩
 obtain rfl | rfl | rfl | rfl | rfl | rfl | rfl | rfl : k = 0 ∨ k = 1 ∨ k = 2 ∨ k = 3 ∨ k = 4 ∨ k = 5 ∨ k = 6 ∨ k = 7 := by omega
 all_goals kernel_rfl
theorem assertPt6 (k : Int) (hk : 0 ≤ k ∧ k ≤ 7) (a : Addr) : ∃ p, ∀ w : World, Sem.run Tryz.prog (Instr.typeAssert (.iface (ptT k) (.pointer (some a))) 94 203 true) w = .ok (.tuple #[.pointer p, .bool (decide (k = 6))]) w := by
 refine ⟨if k = 6 then some a else none, fun w => ?_⟩
 obtain rfl | rfl | rfl | rfl | rfl | rfl | rfl | rfl : k = 0 ∨ k = 1 ∨ k = 2 ∨ k = 3 ∨ k = 4 ∨ k = 5 ∨ k = 6 ∨ k = 7 := by omega
 all_goals kernel_rfl
theorem assertPt3 (k : Int) (hk : 0 ≤ k ∧ k ≤ 7) (a : Addr) : ∃ p, ∀ w : World, Sem.run Tryz.prog (Instr.typeAssert (.iface (ptT k) (.pointer (some a))) 94 187 true) w = .ok (.tuple #[.pointer p, .bool (decide (k = 3))]) w := by
 refine ⟨if k = 3 then some a else none, fun w => ?_⟩
 obtain rfl | rfl | rfl | rfl | rfl | rfl | rfl | rfl : k = 0 ∨ k = 1 ∨ k = 2 ∨ k = 3 ∨ k = 4 ∨ k = 5 ∨ k = 6 ∨ k = 7 := by omega
 all_goals kernel_rfl
theorem parPcs_more (i : Nat) (ks : List Nat) (j : Nat) (h : j < ks.length) : parPcs i (ks.take (j + 1)) = parPcs i (ks.take j) ++ [pcT (commaB (i + j)), pcF ks[j]] := by
 induction j generalizing i ks with
 | zero =>
  cases ks with
  | nil => simp at h
  | cons k ks => simp [parPcs]
 | succ j ih =>
  cases ks with
  | nil => simp at h
  | cons k ks =>
   have := ih (i + 1) ks (by simpa using h)
   simp only [List.take_succ_cons, parPcs, List.cons_append, List.getElem_cons_succ]
   rw [this]
   have e : i + 1 + j = i + (j + 1) := by omega
   rw [e]
theorem parPcs_len (i : Nat) (ks : List Nat) : (parPcs i ks).length = 2 * ks.length := by
 induction ks generalizing i with
 | nil => rfl
 | cons k ks ih =>
  simp only [parPcs, List.length_cons]
  rw [ih]
  omega
theorem uniPcs_more (i : Nat) (ts : List Ty) (ks : List Nat) (j : Nat) (h1 : j < ts.length) (h2 : j < ks.length) : uniPcs i (ts.take (j + 1)) (ks.take (j + 1)) = uniPcs i (ts.take j) (ks.take j) ++ ((if 0 < i + j then [pcT ⟨#[32, 124, 32]⟩] else []) ++ brPcs (decide (ts[j].kind = 6)) ks[j]) := by
 induction j generalizing i ts ks with
 | zero =>
  cases ts with
  | nil => simp at h1
  | cons x xs =>
   cases ks with
   | nil => simp at h2
   | cons k ks => simp [uniPcs]
 | succ j ih =>
  cases ts with
  | nil => simp at h1
  | cons x xs =>
   cases ks with
   | nil => simp at h2
   | cons k ks =>
    have := ih (i + 1) xs ks (by simpa using h1) (by simpa using h2)
    simp only [List.take_succ_cons, uniPcs, List.getElem_cons_succ]
    rw [this]
    have e : i + 1 + j = i + (j + 1) := by omega
    rw [e]
    simp only [List.append_assoc]
theorem uniPcs_len (i : Nat) (ts : List Ty) (ks : List Nat) : (uniPcs i ts ks).length ≤ 4 * ts.length := by
 induction ts generalizing i ks with
 | nil => simp [uniPcs]
 | cons x xs ih =>
  cases ks with
  | nil => simp [uniPcs]
  | cons k ks =>
   have h := ih (i + 1) ks
   have hb : (brPcs (decide (x.kind = 6)) k).length ≤ 3 := by unfold brPcs; split <;> simp
   have hc : (if 0 < i then [pcT ⟨#[32, 124, 32]⟩] else []).length ≤ 1 := by split <;> simp
   simp only [uniPcs, List.length_append, List.length_cons]
   omega
theorem FormOk.kidCells {C : MkC} {w : World} {M : Mk} {k : Nat} {r : FRec} (hM : MkAt C w M) (hF : FormOk C w M k r) : ∃ ak ck, r.vk = .slice ak r.kids.length ck ∧ (0 < r.kids.length → r.kids.length ≤ ck) ∧ ∀ j (h : j < r.kids.length), ∃ b q, ak = some ⟨b, 0, none⟩ ∧ b < w.heap.size ∧ M.F[r.kids[j]]? = some q ∧ r.ty.kids[j]? = some q.ty ∧ (0 ≤ q.ty.kind ∧ q.ty.kind ≤ 7) ∧ w.cell? ⟨b, j, none⟩ = some (.iface (ptT q.ty.kind) (.pointer (some ⟨q.blk, 0, none⟩))) ∧ valAt M.F r.kids[j] = .iface (ptT q.ty.kind) (.pointer (some ⟨q.blk, 0, none⟩)) := by
 obtain ⟨a, cap, e, hc⟩ := hF.row.open
 rw [List.length_map] at e
 refine ⟨a, cap, e, fun h0 => VRow.cap (e ▸ hF.row) (by rw [List.length_map]; exact h0), fun j h => ?_⟩
 obtain ⟨b, e1, _, e2⟩ := hc j (by rw [List.length_map]; exact h)
 obtain ⟨q, hq, hq2⟩ := hF.kids.2 j h
 rw [List.getElem_map] at e2
 have hk : 0 ≤ q.ty.kind ∧ q.ty.kind ≤ 7 := by
  rcases right_kinds (hM.each _ q hq).ok with q | q | q | q <;> omega
 exact ⟨b, q, e1, World.block_lt_of_cell? w ⟨b, j, none⟩ e2, hq, hq2, hk, by rw [e2, val_iface hq], val_iface hq⟩
set_option maxHeartbeats 1600000 in
set_option maxRecDepth 100000 in
theorem implUnionPieces (C : MkC) (M : Mk) (k : Nat) (r : FRec) (w : World) (hM : MkAt C w M) (hr : M.F[k]? = some r) (h7 : r.ty.kind = 7) (hkl : r.kids.length ≤ 1048577) :
  Calls Tryz.prog 191 #[.pointer (some ⟨r.blk, 0, none⟩)] w fun e w' => ∃ v, e = .returned v ∧ PcOwn M.F w w' v (pcsOf r.ty r.kids) ∧ Below w.heap.size w w' := by
 obtain ⟨i0, hi0, hz0, hz1, hz2⟩ := info_parts Tryz.infoPc
 have hF := hM.each k r hr
 have epcs : pcsOf r.ty r.kids = uniPcs 0 r.ty.kids r.kids := by
  unfold pcsOf
  rw [if_neg (by omega), if_neg (by omega), if_neg (by omega), if_neg (by omega), if_neg (by omega), if_neg (by omega), if_neg (by omega)]
 have hnk : r.kids.length = r.ty.kids.length := hF.kids.1
 obtain ⟨ak, ck, hvk, _, hek⟩ := hF.kidCells hM
 have HEK : Hid (∀ j (h : j < r.kids.length), ∃ (b : Nat) (T : TypeId) (x : Value) (q : Option Addr) (h2 : j < r.ty.kids.length), ak = some ⟨b, 0, none⟩ ∧ b < w.heap.size ∧ w.cell? ⟨b, j, none⟩ = some (.iface T x) ∧ valAt M.F r.kids[j] = .iface T x ∧ ∀ wx : World, Sem.run Tryz.prog (Instr.typeAssert (.iface T x) 94 203 true) wx = .ok (.tuple #[.pointer q, .bool (decide (r.ty.kids[j].kind = 6))]) wx) := fun j h => by
  obtain ⟨b, q, e1, e2, e3, e4, e5, e6, e7⟩ := hek j h
  have h2 : j < r.ty.kids.length := by rw [← hnk]; exact h
  rw [List.getElem?_eq_getElem h2, Option.some.injEq] at e4
  obtain ⟨p, hp⟩ := assertPt6 q.ty.kind e5 ⟨q.blk, 0, none⟩
  exact ⟨b, _, _, p, h2, e1, e2, e6, e7, fun wx => by rw [hp wx, e4]⟩
 have HEP : Hid (type_of% epcs) := epcs
 have HMORE : Hid (∀ j (h1 : j < r.ty.kids.length) (h2 : j < r.kids.length), uniPcs 0 (r.ty.kids.take (j + 1)) (r.kids.take (j + 1)) = uniPcs 0 (r.ty.kids.take j) (r.kids.take j) ++ ((if 0 < 0 + j then [pcT ⟨#[32, 124, 32]⟩] else []) ++ brPcs (decide (r.ty.kids[j].kind = 6)) r.kids[j])) := fun j h1 h2 => uniPcs_more 0 _ _ j h1 h2
 have HLEN : Hid (∀ j, (uniPcs 0 (r.ty.kids.take j) (r.kids.take j)).length ≤ 4 * j) := fun j => by
  have := uniPcs_len 0 (r.ty.kids.take j) (r.kids.take j)
  rw [List.length_take] at this
  omega
 have HNK : Hid (type_of% hnk) := hnk
 obtain ⟨f0, f1, f2⟩ := hF.cells
 have hbl : r.blk < w.heap.size := World.block_lt_of_cell? w ⟨r.blk, 0, none⟩ f0
 rw [hvk] at f1
 have HBR : Hid (∀ (T : TypeId) (x : Value) (wx : World), Calls Tryz.prog 193 #[.iface T x] wx fun e w' => e = .returned (.slice (some ⟨wx.heap.size, 0, none⟩) 3 3) ∧ w' = wx.alloc (.cells #[.string ⟨#[40]⟩, .nilIface, .string ⟨#[]⟩, .iface T x, .string ⟨#[41]⟩, .nilIface] 211)) := implBracketed
 obtain ⟨nk, HN, hnk2⟩ : ∃ nk, Hid (r.kids.length = nk) ∧ nk ≤ 1048577 := ⟨_, rfl, hkl⟩
 rw [HN.out] at f1
 clear hek epcs hM hr hF hvk hnk hkl h7
 go_enter Tryz.func191, Tryz.ntmps191
 go_wp2_with fail
 go_loopw [3, 14] (fun v i wr => ∃ (j : Nat), j ≤ nk ∧ i = .int .i64 j ∧ wr.ownsRow w.heap.size 211 2 v (uniPcs 0 (r.ty.kids.take j) (r.kids.take j)).length (pcCells M.F (uniPcs 0 (r.ty.kids.take j) (r.kids.take j))) ∧ Below w.heap.size w wr) (fun _ i _ => nk - (intOf i).toNat)
 case atStart => exact ⟨0, Nat.zero_le _, rfl, World.ownsRow_nil _ _ _ _, Below.refl _ _⟩
 case round =>
  obtain ⟨j, hj, rfl, ho, hbe⟩ := hrel
  have hln := HLEN.out j
  have hz : w.heap.size ≤ wr.heap.size := hbe.size
  obtain ⟨av, cv, hvv⟩ := slice_own2 ho
  subst hvv
  by_cases hlt : j < nk
  ·have hjk : j < r.kids.length := by rw [HN.out]; exact hlt
   obtain ⟨b2, T, x, q, hjt, rfl, hb2, ck0, hval, has⟩ := HEK.out j hjk
   have k0 := (hbe.cell (p := ⟨b2, j, none⟩) hb2).trans ck0
   have HM1 : Hid (type_of% (HMORE.out j hjt hjk)) := HMORE.out j hjt hjk
   have HVAL : Hid (type_of% hval) := hval
   have hji : (j : Int) < (nk : Int) := by omega
   clear ck0 hval HEK HMORE HLEN
   generalize r.kids[j]'hjk = kk at *
   generalize hb6 : decide ((r.ty.kids[j]'hjt).kind = 6) = b6 at *
   clear hb6 hjt hjk
   generalize hRj : uniPcs 0 (r.ty.kids.take j) (r.kids.take j) = R at *
   clear hRj
   generalize hRl : R.length = lR at *
   have HRL : Hid (R.length = lR) := hRl
   clear hRl
   -- the end of a round, whatever was put
   have HNEXT : Hid (∀ (v3 : Value) (w3 : World) (ps : List Pc), ps = (if 0 < 0 + j then [pcT ⟨#[32, 124, 32]⟩] else []) ++ brPcs b6 kk → w3.ownsRow w.heap.size 211 2 v3 (lR + ps.length) (pcCells M.F R ++ pcCells M.F ps) → w3.ownsRow w.heap.size 211 2 v3 (uniPcs 0 (r.ty.kids.take (j + 1)) (r.kids.take (j + 1))).length (pcCells M.F (uniPcs 0 (r.ty.kids.take (j + 1)) (r.kids.take (j + 1))))) := fun v3 w3 ps hps h3 => by
    rw [HM1.out, ← hps, List.length_append, HRL.out, pcCells_app]
    exact h3
   clear HM1 HRL
   by_cases hj0 : 0 < j
   ·have hj0i : (0 : Int) < (j : Int) := by omega
    have HPS : Hid ((if 0 < 0 + j then [pcT ⟨#[32, 124, 32]⟩] else []) = [pcT ⟨#[32, 124, 32]⟩]) := if_pos (by omega)
    go_wp2_with (at_builtin; refine wpList_append_own_at _ rfl _ _ 163 rfl w.heap.size 211 i0 (.agg #[.string ⟨#[]⟩, .nilIface]) 2 32 Tryz.underlying163 hi0 hz0 hz1 hz2 rfl (by decide) _ _ _ rfl (ho.alloc _) ⟨wr.heap.size, 0, none⟩ 1 1 [.string ⟨#[32, 124, 32]⟩, .nilIface] rfl rfl (cells_newP (arr := #[.string ⟨#[32, 124, 32]⟩, .nilIface]) (MapKept.heap_alloc wr _).1) (by intro u hu; simp at hu; rcases hu with rfl | rfl <;> rfl) (by unfold maxLen; omega) (by omega) (by simp; omega) ?_)
    intro v1 w1 hown1 hgrow1 _ _
    have hb1 : Below w.heap.size w w1 := (hbe.alloc hz _).grown hgrow1 (by simp; omega) (fun q hq => (ho.lt q hq).1)
    have hz1w : w.heap.size ≤ w1.heap.size := hb1.size
    obtain ⟨a1, c1', hv1⟩ := slice_own2 hown1
    subst hv1
    have has1 := has w1
    clear ho hgrow1
    cases b6 with
    | false =>
     go_wp2_with (at_builtin; refine wpList_append_own_at _ rfl _ _ 163 rfl w.heap.size 211 i0 (.agg #[.string ⟨#[]⟩, .nilIface]) 2 32 Tryz.underlying163 hi0 hz0 hz1 hz2 rfl (by decide) _ _ _ rfl (hown1.alloc _) ⟨w1.heap.size, 0, none⟩ 1 1 [.string ⟨#[]⟩, .iface T x] rfl rfl (cells_newP (arr := #[.string ⟨#[]⟩, .iface T x]) (MapKept.heap_alloc w1 _).1) (by intro u hu; simp at hu; rcases hu with rfl | rfl <;> rfl) (by unfold maxLen; omega) (by omega) (by simp; omega) ?_)
     intro v3 w3 hown3 hgrow3 _ _
     have hb3 : Below w.heap.size w w3 := (hb1.alloc hz1w _).grown hgrow3 (by simp; omega) (fun q hq => (hown1.lt q hq).1)
     obtain ⟨a3, c3', hv3⟩ := slice_own2 hown3
     subst hv3
     have HO0 := HNEXT.out _ w3 ([pcT ⟨#[32, 124, 32]⟩] ++ brPcs false kk) (by rw [HPS.out]) (by
      have e : pcCells M.F ([pcT ⟨#[32, 124, 32]⟩] ++ brPcs false kk) = [.string ⟨#[32, 124, 32]⟩, .nilIface] ++ [.string ⟨#[]⟩, .iface T x] := by
       rw [← HVAL.out]
       rfl
      rw [e]
      exact hown3)
     have HO : Hid (type_of% HO0) := HO0
     clear HO0 HNEXT hown3 hgrow3 hown1 HPS
     go_wp2_with fail
     go_roundw
     case rel => exact ⟨j + 1, by omega, by go_num, HO.out, hb3⟩
     case measure => simp [intOf]; omega
    | true =>
     go_wp2_with (go_at_call 193; refine (HBR.out _ _ _).mono ?_; rintro e w2 ⟨rfl, rfl⟩; refine Hid.out ?_)
     refine Lib.hid ?_
     go_wp2_with (at_builtin; refine wpList_append_own_at _ rfl _ _ 163 rfl w.heap.size 211 i0 (.agg #[.string ⟨#[]⟩, .nilIface]) 2 32 Tryz.underlying163 hi0 hz0 hz1 hz2 rfl (by decide) _ _ _ rfl (hown1.alloc _) ⟨w1.heap.size, 0, none⟩ 3 3 [.string ⟨#[40]⟩, .nilIface, .string ⟨#[]⟩, .iface T x, .string ⟨#[41]⟩, .nilIface] rfl rfl (cells_newP (arr := #[.string ⟨#[40]⟩, .nilIface, .string ⟨#[]⟩, .iface T x, .string ⟨#[41]⟩, .nilIface]) (MapKept.heap_alloc w1 _).1) (by intro u hu; simp at hu; rcases hu with rfl | rfl | rfl | rfl | rfl | rfl <;> rfl) (by unfold maxLen; omega) (by omega) (by simp; omega) ?_)
     intro v3 w3 hown3 hgrow3 _ _
     have hb3 : Below w.heap.size w w3 := (hb1.alloc hz1w _).grown hgrow3 (by simp; omega) (fun q hq => (hown1.lt q hq).1)
     obtain ⟨a3, c3', hv3⟩ := slice_own2 hown3
     subst hv3
     have HO0 := HNEXT.out _ w3 ([pcT ⟨#[32, 124, 32]⟩] ++ brPcs true kk) (by rw [HPS.out]) (by
      have e : pcCells M.F ([pcT ⟨#[32, 124, 32]⟩] ++ brPcs true kk) = [.string ⟨#[32, 124, 32]⟩, .nilIface] ++ [.string ⟨#[40]⟩, .nilIface, .string ⟨#[]⟩, .iface T x, .string ⟨#[41]⟩, .nilIface] := by
       rw [← HVAL.out]
       rfl
      rw [e]
      exact hown3)
     have HO : Hid (type_of% HO0) := HO0
     clear HO0 HNEXT hown3 hgrow3 hown1 HPS
     go_wp2_with fail
     go_roundw
     case rel => exact ⟨j + 1, by omega, by go_num, HO.out, hb3⟩
     case measure => simp [intOf]; omega
   ·have hj0i : ¬ ((0 : Int) < (j : Int)) := by omega
    have HPS : Hid ((if 0 < 0 + j then [pcT ⟨#[32, 124, 32]⟩] else []) = []) := if_neg (by omega)
    have has1 := has wr
    cases b6 with
    | false =>
     go_wp2_with (at_builtin; refine wpList_append_own_at _ rfl _ _ 163 rfl w.heap.size 211 i0 (.agg #[.string ⟨#[]⟩, .nilIface]) 2 32 Tryz.underlying163 hi0 hz0 hz1 hz2 rfl (by decide) _ _ _ rfl (ho.alloc _) ⟨wr.heap.size, 0, none⟩ 1 1 [.string ⟨#[]⟩, .iface T x] rfl rfl (cells_newP (arr := #[.string ⟨#[]⟩, .iface T x]) (MapKept.heap_alloc wr _).1) (by intro u hu; simp at hu; rcases hu with rfl | rfl <;> rfl) (by unfold maxLen; omega) (by omega) (by simp; omega) ?_)
     intro v3 w3 hown3 hgrow3 _ _
     have hb3 : Below w.heap.size w w3 := (hbe.alloc hz _).grown hgrow3 (by simp; omega) (fun q hq => (ho.lt q hq).1)
     obtain ⟨a3, c3', hv3⟩ := slice_own2 hown3
     subst hv3
     have HO0 := HNEXT.out _ w3 ([] ++ brPcs false kk) (by rw [HPS.out]) (by
      have e : pcCells M.F ([] ++ brPcs false kk) = [.string ⟨#[]⟩, .iface T x] := by
       rw [← HVAL.out]
       rfl
      rw [e]
      exact hown3)
     have HO : Hid (type_of% HO0) := HO0
     clear HO0 HNEXT hown3 hgrow3 ho HPS
     go_wp2_with fail
     go_roundw
     case rel => exact ⟨j + 1, by omega, by go_num, HO.out, hb3⟩
     case measure => simp [intOf]; omega
    | true =>
     go_wp2_with (go_at_call 193; refine (HBR.out _ _ _).mono ?_; rintro e w2 ⟨rfl, rfl⟩; refine Hid.out ?_)
     refine Lib.hid ?_
     go_wp2_with (at_builtin; refine wpList_append_own_at _ rfl _ _ 163 rfl w.heap.size 211 i0 (.agg #[.string ⟨#[]⟩, .nilIface]) 2 32 Tryz.underlying163 hi0 hz0 hz1 hz2 rfl (by decide) _ _ _ rfl (ho.alloc _) ⟨wr.heap.size, 0, none⟩ 3 3 [.string ⟨#[40]⟩, .nilIface, .string ⟨#[]⟩, .iface T x, .string ⟨#[41]⟩, .nilIface] rfl rfl (cells_newP (arr := #[.string ⟨#[40]⟩, .nilIface, .string ⟨#[]⟩, .iface T x, .string ⟨#[41]⟩, .nilIface]) (MapKept.heap_alloc wr _).1) (by intro u hu; simp at hu; rcases hu with rfl | rfl | rfl | rfl | rfl | rfl <;> rfl) (by unfold maxLen; omega) (by omega) (by simp; omega) ?_)
     intro v3 w3 hown3 hgrow3 _ _
     have hb3 : Below w.heap.size w w3 := (hbe.alloc hz _).grown hgrow3 (by simp; omega) (fun q hq => (ho.lt q hq).1)
     obtain ⟨a3, c3', hv3⟩ := slice_own2 hown3
     subst hv3
     have HO0 := HNEXT.out _ w3 ([] ++ brPcs true kk) (by rw [HPS.out]) (by
      have e : pcCells M.F ([] ++ brPcs true kk) = [.string ⟨#[40]⟩, .nilIface, .string ⟨#[]⟩, .iface T x, .string ⟨#[41]⟩, .nilIface] := by
       rw [← HVAL.out]
       rfl
      rw [e]
      exact hown3)
     have HO : Hid (type_of% HO0) := HO0
     clear HO0 HNEXT hown3 hgrow3 ho HPS
     go_wp2_with fail
     go_roundw
     case rel => exact ⟨j + 1, by omega, by go_num, HO.out, hb3⟩
     case measure => simp [intOf]; omega
  ·have HEND : Hid (PcOwn M.F w wr (.slice av (uniPcs 0 (r.ty.kids.take j) (r.kids.take j)).length cv) (pcsOf r.ty r.kids)) := by
    have e1 : r.ty.kids.take j = r.ty.kids := List.take_of_length_le (by rw [← HNK.out, HN.out]; omega)
    have e2 : r.kids.take j = r.kids := List.take_of_length_le (by rw [HN.out]; omega)
    rw [e1, e2] at ho ⊢
    show _ = _ ∧ _
    rw [HEP.out]
    exact ho
   clear HEK HMORE HLEN ho
   generalize (uniPcs 0 (r.ty.kids.take j) (r.kids.take j)).length = lR at *
   go_wp2_with fail
   go_ret
   exact ⟨_, rfl, HEND.out, hbe⟩
end Go.Proofs.YtbojmbeopnlmiaaGreatDoor
namespace Go.Proofs.YtbojmbeopnlmiaaGreatDoor
open Go.RowKit
theorem TyAt.shape {w : World} {n : Nat} {cs : List Value} {t : Ty} (h : TyAt w n cs t) : ∃ an ln cn ak lk ck, cs = [.int .i64 t.kind, .string t.name, .slice an ln cn, .slice ak lk ck] := by
 cases n with
 | zero => exact h.elim
 | succ n =>
  obtain ⟨vn, vk, h1, _, _, ⟨h4, _, _⟩, _, h6⟩ := h
  obtain ⟨a, l, c, e1⟩ : ∃ a l c, vn = .slice a l c := by
   rcases h4 with ⟨_, a, c, q⟩ | ⟨g, off, c, q, _⟩
   ·exact ⟨a, _, c, q⟩
   ·exact ⟨_, _, c, q⟩
  obtain ⟨a', l', c', e2⟩ : ∃ a l c, vk = .slice a l c := by
   rcases h6 with ⟨_, a, c, q⟩ | ⟨g, off, c, q, _⟩
   ·exact ⟨a, _, c, q⟩
   ·exact ⟨_, _, c, q⟩
  exact ⟨a, l, c, a', l', c', by rw [h1, e1, e2]⟩
end Go.Proofs.YtbojmbeopnlmiaaGreatDoor
namespace Go.Proofs.YtbojmbeopnlmiaaGreatDoor
open Go.RowKit Go.Shelf
structure MkTab (C : MkC) (w : World) : Prop where
 cls : ClsIs w
 low : 0 < C.B
 pow : Lib.TabBelow Tryz.prog C.B w "internal/strconv.uint64pow10" .u64 Lib.pow10Tab
theorem MkTab.step {C : MkC} {w w' : World} (h : MkTab C w) (hf : MkF C w w') (hB : C.B ≤ w.heap.size) : MkTab C w' := ⟨h.cls.below (hf.below hB) h.low, h.low, h.pow.on (hf.below hB)⟩
theorem MkAt.base {C : MkC} {w : World} {M : Mk} (h : MkAt C w M) : C.B ≤ w.heap.size := by
 obtain ⟨_, _, _, hs, _⟩ := h.self
 have := (Array.getElem?_eq_some_iff.1 hs).1
 have := h.geo.2.2.2.1
 omega
def FOPost (C : MkC) (M : Mk) (A : Nat → Prop) (n : Nat) (t : Ty) (d : Int) (w : World) (e : Ending) (w' : World) : Prop := ∃ (v : Value) (ok : Bool) (M' : Mk), e = .returned (.tuple #[v, .bool ok]) ∧ (ok = true ↔ Right n t d) ∧ (ok = true → ∃ (j : Nat) (r : FRec), v = r.val ∧ M'.F[j]? = some r ∧ r.ty = t) ∧ Step C M M' w w' A ∧ M'.F.length ≤ M.F.length + Ty.bulk n t + 1 ∧ (ok = true → ∀ r ∈ M'.L, r ∈ M.L ∨ hiMost r.ts < Ty.hi t)
def FormOfAt (n : Nat) : Prop := ∀ (C : MkC) (M : Mk) (A : Nat → Prop) (cs : List Value) (t : Ty) (deep : Nat) (w : World), MkAt C w M → ExtOk C w A → MkTab C w → TyR A w n cs t → Ty.bulk n t ≤ 1048576 → deep ≤ 14 → M.F.length + Ty.bulk n t + 1 ≤ 2305843009213693952 →
 Calls Tryz.prog 66 #[.pointer (some ⟨C.mb, 0, none⟩), .agg cs.toArray, .int .i64 deep] w (FOPost C M A n t (12 - (deep : Int)) w)
theorem Tryz.infoFormK : (Tryz.prog.info? 94).map (fun i => (i.zero, i.size, i.bytes)) = some (some .nilIface, 1, 16) := by kernel_rfl
theorem rowROpen {A : Nat → Prop} {w : World} {n : Nat} {v : Value} {ks : List Ty} (h : RowR A w (TyR A w n) v ks) : ∃ a cap, v = .slice a ks.length cap ∧ ∀ k (hk : k < ks.length), ∃ b off x0 x1 x2 x3, a = some ⟨b, off, none⟩ ∧ A b ∧ TyR A w n [x0, x1, x2, x3] ks[k] ∧ w.cell? ⟨b, off + k * 4, none⟩ = some x0 ∧ w.cell? ⟨b, off + k * 4 + 1, none⟩ = some x1 ∧ w.cell? ⟨b, off + k * 4 + 2, none⟩ = some x2 ∧ w.cell? ⟨b, off + k * 4 + 3, none⟩ = some x3 := by
 rcases h with ⟨e, a, cap, e2⟩ | ⟨b, off, cap, e, ha, _, hc⟩
 ·subst e
  exact ⟨a, cap, e2, fun k hk => absurd hk (by simp)⟩
 ·refine ⟨_, cap, e, fun k hk => ?_⟩
  obtain ⟨cs, h1, h2⟩ := hc k hk
  have hl := h1.at.len
  match cs, hl with
  | [x0, x1, x2, x3], _ => exact ⟨b, off, x0, x1, x2, x3, rfl, ha, h1, h2 0 x0 rfl, h2 1 x1 rfl, h2 2 x2 rfl, h2 3 x3 rfl⟩
def FSPost (C : MkC) (M : Mk) (A : Nat → Prop) (n : Nat) (ks : List Ty) (d : Int) (w : World) (e : Ending) (w' : World) : Prop := ∃ (v : Value) (ok : Bool) (M' : Mk), e = .returned (.tuple #[v, .bool ok]) ∧ (ok = true ↔ ∀ q ∈ ks, Right n q d) ∧ (ok = true → ∃ nums, KidsOf M'.F nums ks ∧ w'.ownsRow w.heap.size 94 1 v nums.length (nums.map (valAt M'.F))) ∧ Step C M M' w w' A ∧ M'.F.length ≤ M.F.length + rowBulk n ks ∧ (∃ a l c, v = .slice a l c) ∧ (ok = true → ∀ r ∈ M'.L, r ∈ M.L ∨ ∃ q ∈ ks, hiMost r.ts < Ty.hi q)
theorem Step.grown {C : MkC} {M M1 : Mk} {w w1 w2 : World} {A : Nat → Prop} {base e z n : Nat} {v : Value} {xs : List Value} (h : Step C M M1 w w1 A) (ho : w1.ownsRow base e z v n xs) (he : ¬ mkT e) (hx : ∀ g, v.ownBlock = some g → ¬ M1.ext g) (hg : w1.grownBy w2 v.ownBlock) (hb : w.heap.size ≤ base) : Step C M M1 w w2 A := by
 have hrow : ∀ g, v.ownBlock = some g → base ≤ g ∧ ∃ c, w1.heap[g]? = some (.cells c e (0, 0)) := fun g hgv => by
  rcases ho.2 with ⟨rfl, _⟩ | ⟨g', cap, cur, rfl, hb', hh, _⟩
  ·simp [Value.ownBlock] at hgv
  ·simp only [Value.ownBlock, Option.some.injEq] at hgv
   subst hgv
   exact ⟨hb', _, hh⟩
 refine ⟨h.here.same (fun b hm => hg.block b ?_ ?_) (fun b hb' => hg.block b (h.here.extok b hb').1 fun e2 => hx b e2.symm hb') hg.size, ⟨hg.os.trans h.fr.os, hg.tape.trans h.fr.tape, hg.output.trans h.fr.output, Nat.le_trans h.fr.size hg.size, fun b hb' hm => (hg.block b (Nat.lt_of_lt_of_le hb' h.fr.size) fun e2 => ?_).trans (h.fr.old b hb' hm)⟩, h.F, h.T, h.extL, h.extR⟩
 ·rcases hm.2 with ⟨es, clk, e2, _⟩ | ⟨c, T, fz, e2, _⟩
  ·exact (Array.getElem?_eq_some_iff.1 e2).1
  ·exact (Array.getElem?_eq_some_iff.1 e2).1
 ·intro e2
  obtain ⟨_, c, hc⟩ := hrow b e2.symm
  rcases hm.2 with ⟨es, clk, e3, _⟩ | ⟨c', T, fz, e3, hT⟩
  ·rw [hc] at e3; simp at e3
  ·rw [hc] at e3
   simp only [Option.some.injEq, Obj.cells.injEq] at e3
   rw [← e3.2.1] at hT
   exact he hT
 ·have := (hrow b e2.symm).1
  omega
set_option maxHeartbeats 1600000 in
set_option maxRecDepth 100000 in
theorem implFormsOf (n : Nat) (ih : FormOfAt n) (C : MkC) (M : Mk) (A : Nat → Prop) (vk : Value) (ks : List Ty) (deep : Nat) (w : World) (hM : MkAt C w M) (hA : ExtOk C w A) (hT : MkTab C w) (hrow : RowR A w (TyR A w n) vk ks) (hbk : rowBulk n ks ≤ 1048576) (hd : deep ≤ 14) (hFl : M.F.length + rowBulk n ks + 1 ≤ 2305843009213693952) :
  Calls Tryz.prog 119 #[.pointer (some ⟨C.mb, 0, none⟩), vk, .int .i64 deep] w (FSPost C M A n ks (12 - (deep : Int)) w) := by
 obtain ⟨i0, hi0, hz0, hz1, hz2⟩ := info_parts Tryz.infoFormK
 obtain ⟨av, capv, rfl, hel⟩ := rowROpen hrow
 have hlen : ks.length ≤ 1048576 := by unfold rowBulk at hbk; omega
 have HSA : Hid (∀ wx : World, MkF C w wx → SameOn A w wx ∧ ExtOk C wx A ∧ MkTab C wx) := fun wx hx => ⟨hA.sameF hx, hA.step hx, hT.step hx hM.base⟩
 have HEL : Hid (∀ k (hk : k < ks.length) (wx : World), MkF C w wx → ∃ b off x0 x1 x2 x3, av = some ⟨b, off, none⟩ ∧ TyR A wx n [x0, x1, x2, x3] ks[k] ∧ wx.cell? ⟨b, off + k * 4, none⟩ = some x0 ∧ wx.cell? ⟨b, off + k * 4 + 1, none⟩ = some x1 ∧ wx.cell? ⟨b, off + k * 4 + 2, none⟩ = some x2 ∧ wx.cell? ⟨b, off + k * 4 + 3, none⟩ = some x3) := fun k hk wx hx => by
  obtain ⟨b, off, x0, x1, x2, x3, e, ha, hty, c0, c1, c2, c3⟩ := hel k hk
  have hb := hA.sameF hx b ha
  exact ⟨b, off, x0, x1, x2, x3, e, hty.same (hA.sameF hx), (World.cell?_of_block (w := w) (a := ⟨b, off + k * 4, none⟩) hb).trans c0, (World.cell?_of_block (w := w) (a := ⟨b, off + k * 4 + 1, none⟩) hb).trans c1, (World.cell?_of_block (w := w) (a := ⟨b, off + k * 4 + 2, none⟩) hb).trans c2, (World.cell?_of_block (w := w) (a := ⟨b, off + k * 4 + 3, none⟩) hb).trans c3⟩
 have HSUM : Hid (∀ k (hk : k < ks.length), ((ks.take (k + 1)).map (Ty.bulk n)).sum = ((ks.take k).map (Ty.bulk n)).sum + Ty.bulk n ks[k]) := fun k hk => sum_more n ks k hk
 have HSLE : Hid (∀ k, ((ks.take k).map (Ty.bulk n)).sum ≤ (ks.map (Ty.bulk n)).sum) := fun k => sum_le n ks k
 have hrb : rowBulk n ks = ks.length + (ks.map (Ty.bulk n)).sum := rfl
 have HIH : Hid (type_of% ih) := ih
 have HM0 : Hid (type_of% hM) := hM
 have HAL : Hid (∀ b, A b → b < w.heap.size) := fun b hb => (hA b hb).1
 have hnf : ¬ mkT 94 := by unfold mkT; decide
 clear hrow hel ih hA hT hM
 go_enter Tryz.func119, Tryz.ntmps119
 go_wp2_with fail
 go_loopw [8, 15] (fun v i wr => ∃ (k : Nat) (M1 : Mk) (nums : List Nat), k ≤ ks.length ∧ i = .int .i64 k ∧ nums.length = k ∧ wr.ownsRow w.heap.size 94 1 v k (nums.map (valAt M1.F)) ∧ KidsOf M1.F nums (ks.take k) ∧ Step C M M1 w wr A ∧ M1.F.length ≤ M.F.length + k + ((ks.take k).map (Ty.bulk n)).sum ∧ (∀ g, v.ownBlock = some g → ¬ M1.ext g) ∧ (∀ q ∈ ks.take k, Right n q (12 - (deep : Int))) ∧ ∀ r ∈ M1.L, r ∈ M.L ∨ ∃ q ∈ ks, hiMost r.ts < Ty.hi q) (fun _ i _ => ks.length - (intOf i).toNat)
 case atStart => exact ⟨0, M, [], Nat.zero_le _, rfl, rfl, World.ownsRow_nil _ _ _ _, ⟨rfl, fun j h => absurd h (by simp)⟩, Step.refl HM0.out A, by simp, fun g hg => by simp [Value.ownBlock] at hg, fun q hq => by simp at hq, fun r hr => .inl hr⟩
 case round =>
  obtain ⟨k, M1, nums, hk, rfl, hnl, ho, hkd, hst, hfl, hnx, hall, hls⟩ := hrel
  have HLS : Hid (type_of% hls) := hls
  clear hls
  obtain ⟨ao, capo, hv⟩ := slice_own1 ho
  subst hv
  have hz : w.heap.size ≤ wr.heap.size := hst.fr.size
  have hs1 := HSLE.out k
  by_cases hlt : k < ks.length
  ·obtain ⟨b, off, x0, x1, x2, x3, rfl, hty, a0, a1, a2, a3⟩ := HEL.out k hlt wr hst.fr
   obtain ⟨an, ln, cn, ak, lk, ck, e⟩ := hty.at.shape
   simp only [List.cons.injEq, and_true] at e
   obtain ⟨rfl, rfl, rfl, rfl⟩ := e
   obtain ⟨_, hA1, hT1⟩ := HSA.out wr hst.fr
   have hkb : Ty.bulk n ks[k] ≤ 1048576 := by have := kid_bulk n ks k hlt; omega
   have hal : Below wr.heap.size wr (wr.alloc (.cells #[.int .i64 ks[k].kind, .string ks[k].name, .slice an ln cn, .slice ak lk ck] 30)) := (Below.refl _ _).alloc (Nat.le_refl _) _
   have hs2 := HSUM.out k hlt
   have hs3 := HSLE.out (k + 1)
   have HC0 := HIH.out C M1 A _ ks[k] deep (wr.alloc (.cells #[.int .i64 ks[k].kind, .string ks[k].name, .slice an ln cn, .slice ak lk ck] 30)) (hst.here.below hal) (hA1.step (MkF.ofBelow hal)) (hT1.step (MkF.ofBelow hal) hst.here.base) (hty.same (hA1.sameF (MkF.ofBelow hal))) hkb hd (by omega)
   have HC : Hid (type_of% HC0) := HC0
   have HKD : Hid (type_of% hkd) := hkd
   have HALL : Hid (type_of% hall) := hall
   have HST : Hid (type_of% hst) := hst
   have HNX : Hid (type_of% hnx) := hnx
   clear hkd hall HC0 hst hty hA1 hT1 hnx HIH HEL HSA hs1 hs3
   go_wp2_with fail
   refine HC.out.mono ?_
   rintro e w2 ⟨v, ok, M2, rfl, hok, hfm, hst2, hfl2, hls2⟩
   have HLS2 : Hid (type_of% hls2) := hls2
   clear hls2
   clear HC
   have hst1 : Step C M M1 w (wr.alloc (.cells #[.int .i64 ks[k].kind, .string ks[k].name, .slice an ln cn, .slice ak lk ck] 30)) A := HST.out.alloc _
   have hst12 := hst1.trans hst2
   have ho2 := hst2.fr.owns (ho.alloc (.cells #[.int .i64 ks[k].kind, .string ks[k].name, .slice an ln cn, .slice ak lk ck] 30)) hnf
   have HOK : Hid (type_of% hok) := hok
   have HFM : Hid (type_of% hfm) := hfm
   have hoB := ho
   clear hok hfm ho
   cases ok with
   | false =>
    have HEND : Hid (¬ (∀ q ∈ ks, Right n q (12 - (deep : Int))) ∧ Step C M M2 w w2 A ∧ M2.F.length ≤ M.F.length + rowBulk n ks) := ⟨fun h => (by
     have := HOK.out.2 (h _ (List.getElem_mem hlt))
     cases this), hst12, (by have := HSLE.out (k + 1); omega)⟩
    clear HOK HFM HKD HALL HST HNX hst1 hst12 hst2 ho2
    go_wp2_with fail
    go_ret2
    exact ⟨_, false, M2, rfl, ⟨fun h => Bool.noConfusion h, fun h => absurd h HEND.out.1⟩, fun h => Bool.noConfusion h, HEND.out.2.1, HEND.out.2.2, ⟨none, 0, 0, rfl⟩, fun h => Bool.noConfusion h⟩
   | true =>
    obtain ⟨j2, r2, hv2, hr2, hty2⟩ := HFM.out rfl
    have hr := HOK.out.1 rfl
    have HR2 : Hid (M2.F[j2]? = some r2 ∧ r2.ty = ks[k] ∧ v = valAt M2.F j2) := ⟨hr2, hty2, by rw [valAt_some hr2]; exact hv2⟩
    have HVS : Hid (nums.map (valAt M2.F) = nums.map (valAt M1.F)) := hst2.vals HKD.out
    have HKD2 : Hid (KidsOf M2.F nums (ks.take k)) := hst2.kids HKD.out
    have HNX2 : Hid (∀ g, (Value.slice ao k capo).ownBlock = some g → ¬ M2.ext g) := fun g hg hx => by
     have hgl := ho2.lt g hg
     have hgw := (hoB.lt g hg).2
     rcases hst2.extR g hx with q | q | q
     ·exact HNX.out g hg q
     ·have := HAL.out g q
      omega
     ·simp at q
      omega
    obtain ⟨T2, x2', hve⟩ : ∃ T x, v = .iface T x := ⟨_, _, hv2⟩
    subst hve
    have HA2 : Hid (∀ q ∈ ks.take (k + 1), Right n q (12 - (deep : Int))) := fun q hq => by
     rw [List.take_succ_eq_append_getElem hlt, List.mem_append, List.mem_singleton] at hq
     rcases hq with hq | rfl
     ·exact HALL.out q hq
     ·exact hr
    have HS12 : Hid (type_of% hst12) := hst12
    clear HOK HFM HALL HST HNX hst1 hst2 hr2 hty2 hv2 hr hst12 HKD
    go_wp2_with (at_builtin; refine wpList_append_own_at _ rfl _ _ 131 rfl w.heap.size 94 i0 .nilIface 1 16 Tryz.underlying131 hi0 hz0 hz1 hz2 rfl (by decide) _ _ _ rfl (ho2.alloc _) ⟨w2.heap.size, 0, none⟩ 1 1 [.iface T2 x2'] rfl rfl ?c1 ?c2 ?c3 ?c4 ?c5 ?_)
    case c1 => exact one_cellK (cellNew 0 rfl)
    case c2 => intro u hu; simp at hu; subst hu; rfl
    case c3 => unfold maxLen; omega
    case c4 => omega
    case c5 => have := HS12.out.fr.size; simp; omega
    intro v' w3 hown' hgrow _ hloc
    have hs3 : Step C M M2 w w3 A := (HS12.out.alloc _).grown (ho2.alloc _) hnf HNX2.out hgrow (Nat.le_refl _)
    have HEND : Hid (∃ nums', nums'.length = k + 1 ∧ w3.ownsRow w.heap.size 94 1 v' (k + 1) (nums'.map (valAt M2.F)) ∧ KidsOf M2.F nums' (ks.take (k + 1)) ∧ M2.F.length ≤ M.F.length + (k + 1) + ((ks.take (k + 1)).map (Ty.bulk n)).sum ∧ ∀ g, v'.ownBlock = some g → ¬ M2.ext g) := by
     refine ⟨nums ++ [j2], by simp [hnl], ?_, ?_, by omega, fun g hg hx => ?_⟩
     ·rw [List.map_append, HVS.out, List.map_singleton, ← HR2.out.2.2]
      exact hown'
     ·refine ⟨by rw [List.length_append, HKD2.out.1, List.take_succ_eq_append_getElem hlt, List.length_append]; rfl, fun j hj => ?_⟩
      rw [List.take_succ_eq_append_getElem hlt]
      by_cases c : j < nums.length
      ·obtain ⟨r, q1, q2⟩ := HKD2.out.2 j c
       refine ⟨r, by rw [List.getElem_append_left c]; exact q1, ?_⟩
       rw [List.getElem?_append_left (by rw [← HKD2.out.1]; exact c)]
       exact q2
      ·have ej : j = nums.length := by rw [List.length_append, List.length_singleton] at hj; omega
       subst ej
       refine ⟨r2, ?_, ?_⟩
       ·rw [List.getElem_append_right (Nat.le_refl _)]
        simpa using HR2.out.1
       ·rw [List.getElem?_append_right (by rw [← HKD2.out.1]; exact Nat.le_refl _), ← HKD2.out.1, Nat.sub_self]
        simp [HR2.out.2.1]
     ·rcases hloc with e | e
      ·exact HNX2.out g (by rw [← e]; exact hg) hx
      ·rw [e] at hg
       simp only [Option.some.injEq] at hg
       have := (HS12.out.here.extok g hx).1
       omega
    have HS3 : Hid (type_of% hs3) := hs3
    clear hgrow ho2 hown' hloc hs3 HS12 HVS HKD2 HNX2 HR2
    go_wp2_with fail
    go_roundw
    case rel =>
     obtain ⟨nums', q1, q2, q3, q4, q5⟩ := HEND.out
     refine ⟨k + 1, M2, nums', by omega, by go_num, q1, q2, q3, HS3.out, q4, q5, HA2.out, fun r hr => ?_⟩
     rcases HLS2.out (by trivial) r hr with q | q
     ·exact HLS.out r q
     ·exact .inr ⟨ks[k], List.getElem_mem hlt, q⟩
    case measure => simp [intOf]; omega
  ·have hke : k = ks.length := by omega
   have HEND : Hid ((∀ q ∈ ks, Right n q (12 - (deep : Int))) ∧ (∃ nums, KidsOf M1.F nums ks ∧ wr.ownsRow w.heap.size 94 1 (.slice ao k capo) nums.length (nums.map (valAt M1.F))) ∧ Step C M M1 w wr A ∧ M1.F.length ≤ M.F.length + rowBulk n ks) := by
    have et : ks.take k = ks := by rw [hke]; exact List.take_length
    rw [et] at hall hkd hfl
    refine ⟨hall, ⟨nums, hkd, by rw [hnl]; exact ho⟩, hst, by omega⟩
   clear hkd hall hst hfl ho hnx HEL HIH HSA hs1 hke
   go_wp2_with fail
   go_ret2
   exact ⟨_, true, M1, rfl, ⟨fun _ => HEND.out.1, fun _ => rfl⟩, fun _ => HEND.out.2.1, HEND.out.2.2.1, HEND.out.2.2.2, ⟨ao, k, capo, rfl⟩, fun _ => HLS.out⟩
end Go.Proofs.YtbojmbeopnlmiaaGreatDoor
