/-
 The walks of impl.commaAt, impl.bracketed and impl.recordPieces.
-/
import Derived.Test.YtbojmbeopnlmiaaGreatDoorIndexLib
import Derived.Deep.AppendLies
import Derived.Deep.RegionHeld3
namespace Go.Proofs.YtbojmbeopnlmiaaGreatDoor
open Go.RowKit Go.Shelf
def pcCells (F : List FRec) (ps : List Pc) : List Value := ps.flatMap fun p => [.string p.s, pcV F p.f]
theorem pcCells_app (F : List FRec) (a b : List Pc) : pcCells F (a ++ b) = pcCells F a ++ pcCells F b := by simp [pcCells]
theorem pcCells_len (F : List FRec) (a : List Pc) : (pcCells F a).length = a.length * 2 := by
 induction a with
 | nil => rfl
 | cons p r ih =>
  show ([Value.string p.s, pcV F p.f] ++ pcCells F r).length = _
  rw [List.length_append, ih, List.length_cons]
  show 2 + r.length * 2 = (r.length + 1) * 2
  omega
theorem step_openP {P : Program} {ops : Array Oper} {o : Oper} {a : Act} {w : World} {K : Act → World → Prop} {Q : Exit → Act → World → Prop} {E : Prop} (hg : o.guard = none) (h : Oper.wp P o a w K Q) : if Region.wanted o (yielded ops a.tmps) = true then Oper.wp P o a w K Q else E := by
 have hw : Region.wanted o (yielded ops a.tmps) = true := by simp [Region.wanted, hg]
 rw [if_pos hw]
 exact h
theorem cells_newP {X : World} {G : Nat} {arr : Array Value} {T : TypeId} (h : X.heap[G]? = some (.cells arr T (0, 0))) : ∀ j u, arr.toList[j]? = some u → X.cell? ((⟨G, 0, none⟩ : Addr).add j) = some u := by
 intro j u hj
 have : X.cell? ⟨G, j, none⟩ = arr[j]? := cell_of_row X G j _ _ (0, 0) h
 rw [Array.getElem?_toList] at hj
 have e : ((⟨G, 0, none⟩ : Addr).add j) = ⟨G, j, none⟩ := by
  cases j with
  | zero => rfl
  | succ j => simp [Addr.add]
 rw [e, this, hj]
theorem recPcs_more (i : Nat) (xs : List ByteArray) (ks : List Nat) (j : Nat) (h1 : j < xs.length) (h2 : j < ks.length) : recPcs i (xs.take (j + 1)) (ks.take (j + 1)) = recPcs i (xs.take j) (ks.take j) ++ [pcT (commaB (i + j)), pcT xs[j], pcT ⟨#[58, 32]⟩, pcF ks[j]] := by
 induction j generalizing i xs ks with
 | zero =>
  cases xs with
  | nil => simp at h1
  | cons x xs =>
   cases ks with
   | nil => simp at h2
   | cons k ks => simp [recPcs]
 | succ j ih =>
  cases xs with
  | nil => simp at h1
  | cons x xs =>
   cases ks with
   | nil => simp at h2
   | cons k ks =>
    have := ih (i + 1) xs ks (by simpa using h1) (by simpa using h2)
    simp only [List.take_succ_cons, recPcs, List.cons_append, List.getElem_cons_succ]
    rw [this]
    have e : i + 1 + j = i + (j + 1) := by omega
    rw [e]
theorem recPcs_len (i : Nat) (xs : List ByteArray) (ks : List Nat) : (recPcs i xs ks).length ≤ 4 * xs.length := by
 induction xs generalizing i ks with
 | nil => simp [recPcs]
 | cons x xs ih =>
  cases ks with
  | nil => simp [recPcs]
  | cons k ks =>
   simp only [recPcs, List.length_cons]
   have := ih (i + 1) ks
   omega
set_option maxHeartbeats 800000 in
set_option maxRecDepth 100000 in
theorem implCommaAt (i : Nat) (w : World) : Calls Tryz.prog 192 #[.int .i64 i] w fun e w' => e = .returned (.string (commaB i)) ∧ w' = w := by
 unfold commaB
 by_cases h : 0 < i
 ·rw [if_pos h]
  have hi : (0 : Int) < (i : Int) := by omega
  go_enter Tryz.func192, Tryz.ntmps192
  go_wp2_with fail
  go_ret
  exact ⟨rfl, rfl⟩
 ·rw [if_neg h]
  have hi : ¬ ((0 : Int) < (i : Int)) := by omega
  go_enter Tryz.func192, Tryz.ntmps192
  go_wp2_with fail
  go_ret
  exact ⟨rfl, rfl⟩
set_option maxHeartbeats 800000 in
set_option maxRecDepth 100000 in
theorem implBracketed (T : TypeId) (x : Value) (w : World) : Calls Tryz.prog 193 #[.iface T x] w fun e w' => e = .returned (.slice (some ⟨w.heap.size, 0, none⟩) 3 3) ∧ w' = w.alloc (.cells #[.string ⟨#[40]⟩, .nilIface, .string ⟨#[]⟩, .iface T x, .string ⟨#[41]⟩, .nilIface] 211) := by
 go_enter Tryz.func193, Tryz.ntmps193
 go_wp2_with fail
 go_ret
 exact ⟨rfl, rfl⟩
theorem slice_own2 {w : World} {B e z : Nat} {v : Value} {n : Nat} {xs : List Value} (h : w.ownsRow B e z v n xs) : ∃ a cap, v = .slice a n cap := by
 rcases h.2 with ⟨rfl, h0⟩ | ⟨g, cap, cur, hv, _⟩
 ·exact ⟨none, 0, by rw [h0]⟩
 ·exact ⟨_, cap, hv⟩
theorem Tryz.infoPc : (Tryz.prog.info? 211).map (fun i => (i.zero, i.size, i.bytes)) = some (some (.agg #[.string ⟨#[]⟩, .nilIface]), 2, 32) := by kernel_rfl
def PcOwn (F : List FRec) (w w' : World) (v : Value) (ps : List Pc) : Prop := w'.ownsRow w.heap.size 211 2 v ps.length (pcCells F ps)
theorem FormOk.names5 {C : MkC} {w : World} {M : Mk} {k : Nat} {r : FRec} (h : FormOk C w M k r) (h5 : r.ty.kind = 5) : w.cell? ⟨r.blk, 5, none⟩ = some r.vn := by
 obtain ⟨vp, sz, h1, _⟩ := h.obj
 rw [cell_of_row w r.blk 5 _ _ (0, 0) h1]
 simp [FRec.cells, FRec.more, h5]
theorem FormOk.name4 {C : MkC} {w : World} {M : Mk} {k : Nat} {r : FRec} (h : FormOk C w M k r) (h4 : r.ty.kind = 4) : w.cell? ⟨r.blk, 5, none⟩ = some (.string r.ty.name) := by
 obtain ⟨vp, sz, h1, _⟩ := h.obj
 rw [cell_of_row w r.blk 5 _ _ (0, 0) h1]
 simp [FRec.cells, FRec.more, h4]
theorem val_iface {F : List FRec} {i : Nat} {r : FRec} (h : F[i]? = some r) : valAt F i = .iface (ptT r.ty.kind) (.pointer (some ⟨r.blk, 0, none⟩)) := by rw [valAt_some h]; rfl
set_option maxHeartbeats 1600000 in
set_option maxRecDepth 100000 in
theorem implRecordPieces (C : MkC) (M : Mk) (k : Nat) (r : FRec) (w : World) (hM : MkAt C w M) (hr : M.F[k]? = some r) (h5 : r.ty.kind = 5) (hkl : r.kids.length ≤ 1048577) :
  Calls Tryz.prog 189 #[.pointer (some ⟨r.blk, 0, none⟩)] w fun e w' => ∃ v, e = .returned v ∧ PcOwn M.F w w' v (pcsOf r.ty r.kids) ∧ Below w.heap.size w w' := by
 obtain ⟨i0, hi0, hz0, hz1, hz2⟩ := info_parts Tryz.infoPc
 have hF := hM.each k r hr
 have hnk : r.ty.names.length = r.kids.length := by rw [hF.kids.1]; exact (right_rec hF.ok h5).2.2
 have epcs : pcsOf r.ty r.kids = pcT ⟨#[123]⟩ :: recPcs 0 r.ty.names r.kids ++ [pcT ⟨#[125]⟩] := by
  unfold pcsOf
  rw [if_neg (by omega), if_neg (by omega), if_neg (by omega), if_neg (by omega), if_neg (by omega), if_pos h5]
 have hcs := hF.cells
 have hc5 := hF.names5 h5
 obtain ⟨an, cn, hvn, hen⟩ : ∃ an cn, r.vn = .slice an r.kids.length cn ∧ ∀ j (h : j < r.ty.names.length), ∃ b off, an = some ⟨b, off, none⟩ ∧ b < w.heap.size ∧ w.cell? ⟨b, off + j, none⟩ = some (.string r.ty.names[j]) := by
  rcases hF.names h5 with ⟨e, a, cap, e2⟩ | ⟨b, off, cap, e, ha, hc⟩
  ·exact ⟨a, cap, by rw [e2, ← hnk, e]; rfl, fun j h => absurd h (by rw [e]; simp)⟩
  ·exact ⟨_, cap, by rw [e, hnk], fun j h => ⟨b, off, rfl, World.block_lt_of_cell? w ⟨b, off + j, none⟩ (hc j h), hc j h⟩⟩
 obtain ⟨ak, ck, hvk, hek⟩ : ∃ ak ck, r.vk = .slice ak r.kids.length ck ∧ ∀ j (h : j < r.kids.length), ∃ b T x, ak = some ⟨b, 0, none⟩ ∧ b < w.heap.size ∧ w.cell? ⟨b, j, none⟩ = some (.iface T x) ∧ valAt M.F r.kids[j] = .iface T x := by
  obtain ⟨a, cap, e, hc⟩ := hF.row.open
  rw [List.length_map] at e
  refine ⟨a, cap, e, fun j h => ?_⟩
  obtain ⟨b, e1, _, e2⟩ := hc j (by rw [List.length_map]; exact h)
  obtain ⟨q, hq, _⟩ := hF.kids.2 j h
  rw [List.getElem_map] at e2
  exact ⟨b, _, _, e1, World.block_lt_of_cell? w ⟨b, j, none⟩ e2, by rw [e2, val_iface hq], val_iface hq⟩
 have HEN : Hid (type_of% hen) := hen
 have HEK : Hid (type_of% hek) := hek
 have HEP : Hid (type_of% epcs) := epcs
 have HMORE : Hid (∀ j (h1 : j < r.ty.names.length) (h2 : j < r.kids.length), recPcs 0 (r.ty.names.take (j + 1)) (r.kids.take (j + 1)) = recPcs 0 (r.ty.names.take j) (r.kids.take j) ++ [pcT (commaB (0 + j)), pcT r.ty.names[j], pcT ⟨#[58, 32]⟩, pcF r.kids[j]]) := fun j h1 h2 => recPcs_more 0 _ _ j h1 h2
 have HLEN : Hid (∀ j, (recPcs 0 (r.ty.names.take j) (r.kids.take j)).length ≤ 4 * j) := fun j => by
  have := recPcs_len 0 (r.ty.names.take j) (r.kids.take j)
  rw [List.length_take] at this
  omega
 have HNK : Hid (type_of% hnk) := hnk
 have hbl : r.blk < w.heap.size := World.block_lt_of_cell? w ⟨r.blk, 0, none⟩ hcs.1
 obtain ⟨f0, f1, f2⟩ := hcs
 rw [hvk] at f1
 rw [hvn] at hc5
 have HCM : Hid (∀ (i : Nat) (wx : World), Calls Tryz.prog 192 #[.int .i64 i] wx fun e w' => e = .returned (.string (commaB i)) ∧ w' = wx) := implCommaAt
 obtain ⟨nk, HN, hnk2⟩ : ∃ nk, Hid (r.kids.length = nk) ∧ nk ≤ 1048577 := ⟨_, rfl, hkl⟩
 rw [HN.out] at f1 hc5
 clear hen hek epcs hM hr hF hvn hvk hnk hkl h5
 have hx0 : Below w.heap.size w (w.alloc (.cells #[.string ⟨#[123]⟩, .nilIface] 211)) := (Below.refl _ _).alloc (Nat.le_refl _) _
 have HS0 : Hid ((w.alloc (.cells #[.string ⟨#[123]⟩, .nilIface] 211)).ownsRow w.heap.size 211 2 (.slice (some ⟨w.heap.size, 0, none⟩) 1 1) 1 (pcCells M.F [pcT ⟨#[123]⟩])) := ⟨rfl, .inr ⟨w.heap.size, 1, _, rfl, Nat.le_refl _, (MapKept.heap_alloc w _).1, Nat.le_refl _, by unfold maxLen; omega, rfl, rfl⟩⟩
 have f1' := (hx0.cell (p := ⟨r.blk, 1, none⟩) hbl).trans f1
 have f5' := (hx0.cell (p := ⟨r.blk, 5, none⟩) hbl).trans hc5
 go_enter Tryz.func189, Tryz.ntmps189
 go_wp2_with fail
 go_loopw [3, 13] (fun v i wr => ∃ (j : Nat) (cap g : Nat), j ≤ nk ∧ i = .int .i64 j ∧ v = .slice (some ⟨g, 0, none⟩) (1 + (recPcs 0 (r.ty.names.take j) (r.kids.take j)).length) cap ∧ wr.ownsRow w.heap.size 211 2 v (1 + (recPcs 0 (r.ty.names.take j) (r.kids.take j)).length) (pcCells M.F (pcT ⟨#[123]⟩ :: recPcs 0 (r.ty.names.take j) (r.kids.take j))) ∧ Below w.heap.size w wr) (fun _ i _ => nk - (intOf i).toNat)
 case atStart => exact ⟨0, 1, w.heap.size, Nat.zero_le _, rfl, rfl, HS0.out, hx0⟩
 case round =>
  obtain ⟨j, cap, g, hj, rfl, rfl, ho, hbe⟩ := hrel
  have hln := HLEN.out j
  have g1 := (hbe.cell (p := ⟨r.blk, 1, none⟩) hbl).trans f1
  have hz : w.heap.size ≤ wr.heap.size := hbe.size
  by_cases hlt : j < nk
  ·have hjk : j < r.kids.length := by rw [HN.out]; exact hlt
   have hjn : j < r.ty.names.length := by rw [HNK.out]; exact hjk
   obtain ⟨b, off, rfl, hb, cn0⟩ := HEN.out j hjn
   obtain ⟨b2, T, x, rfl, hb2, ck0, hval⟩ := HEK.out j hjk
   have n0 := (hbe.cell (p := ⟨b, off + j, none⟩) hb).trans cn0
   have k0 := (hbe.cell (p := ⟨b2, j, none⟩) hb2).trans ck0
   have HM1 : Hid (type_of% (HMORE.out j hjn hjk)) := HMORE.out j hjn hjk
   have HVAL : Hid (type_of% hval) := hval
   have hji : (j : Int) < (nk : Int) := by omega
   clear cn0 ck0 hval HEN HEK HMORE HLEN
   generalize r.ty.names[j]'hjn = nm at *
   generalize r.kids[j]'hjk = kk at *
   clear hjk hjn
   generalize hRj : recPcs 0 (r.ty.names.take j) (r.kids.take j) = R at *
   clear hRj
   generalize hRl : R.length = lR at *
   have HRL : Hid (R.length = lR) := hRl
   clear hRl
   go_wp2_with fail
   go_region_law
    (first
     | (refine step_openP (by rfl) ?_; go_simp; go_at_call 192; refine (HCM.out j _).mono ?_; rintro e w9 ⟨rfl, rfl⟩)
     | (refine step_append_lies _ (by rfl) _ _ _ (by rfl) w.heap.size 211 i0 _ 2 32 Tryz.underlying163 hi0 hz0 hz1 hz2 rfl (by omega) (.slice (some ⟨g, 0, none⟩) (1 + lR) cap) (1 + lR) _ (by rfl) (by first | exact (ho.alloc _) | exact (ho.drew.alloc _)) ⟨wr.heap.size, 0, none⟩ 4 4 [.string (commaB j), .nilIface, .string nm, .nilIface, .string ⟨#[58, 32]⟩, .nilIface, .string ⟨#[]⟩, .iface T x] (by rfl) (by rfl) (cells_newP (by first | exact (MapKept.heap_alloc wr _).1 | exact (MapKept.heap_alloc wr.drew _).1)) (by intro u hu; simp at hu; rcases hu with rfl | rfl | rfl | rfl | rfl | rfl | rfl | rfl <;> rfl) (by omega) (by unfold maxLen; omega) (by omega) (by simp; omega) _ rfl ?_; intro g' cap' w3 hown3 hgrow3 hloc3 hlt3))
   all_goals
    have hb3 : Below w.heap.size w w3 := by first | exact (hbe.alloc hz _).grown hgrow3 (by simp; omega) (fun q hq => (ho.lt q hq).1) | exact (hbe.drew.alloc hz _).grown hgrow3 (by simp; omega) (fun q hq => (ho.lt q hq).1)
    have HEN : Hid (w3.ownsRow w.heap.size 211 2 (.slice (some ⟨g', 0, none⟩) (1 + lR + 4) cap') (1 + lR + 4) (pcCells M.F (pcT ⟨#[123]⟩ :: recPcs 0 (r.ty.names.take (j + 1)) (r.kids.take (j + 1)))) ∧ (recPcs 0 (r.ty.names.take (j + 1)) (r.kids.take (j + 1))).length = lR + 4) := by
     rw [HM1.out]
     refine ⟨?_, by rw [List.length_append, HRL.out]; rfl⟩
     have e : pcCells M.F (pcT ⟨#[123]⟩ :: (R ++ [pcT (commaB (0 + j)), pcT nm, pcT ⟨#[58, 32]⟩, pcF kk])) = pcCells M.F (pcT ⟨#[123]⟩ :: R) ++ [.string (commaB j), .nilIface, .string nm, .nilIface, .string ⟨#[58, 32]⟩, .nilIface, .string ⟨#[]⟩, .iface T x] := by
      rw [← List.cons_append, pcCells_app, Nat.zero_add, ← HVAL.out]
      rfl
     rw [e]
     exact hown3
    clear hown3 hgrow3 hloc3 hlt3 HM1 HVAL HRL ho
    go_wp2_with fail
    go_roundw
    case rel =>
     refine ⟨j + 1, cap', g', by omega, by go_num, ?_, ?_, hb3⟩
     ·rw [HEN.out.2, ← Nat.add_assoc]
     ·rw [HEN.out.2, ← Nat.add_assoc]
      exact HEN.out.1
    case measure => simp [intOf]; omega
  ·have hjn : j = nk := by omega
   have et : r.ty.names.take j = r.ty.names ∧ r.kids.take j = r.kids := ⟨List.take_of_length_le (by rw [HNK.out, HN.out]; omega), List.take_of_length_le (by rw [HN.out]; omega)⟩
   rw [et.1, et.2] at ho hln ⊢
   generalize hRl : (recPcs 0 r.ty.names r.kids).length = lR at *
   have HRL : Hid (type_of% hRl) := hRl
   clear hRl et HEN HEK HMORE HLEN
   go_wp2_with (at_builtin; refine wpList_append_own_at _ rfl _ _ 163 rfl w.heap.size 211 i0 (.agg #[.string ⟨#[]⟩, .nilIface]) 2 32 Tryz.underlying163 hi0 hz0 hz1 hz2 rfl (by decide) _ _ _ rfl (ho.alloc _) ⟨wr.heap.size, 0, none⟩ 1 1 [.string ⟨#[125]⟩, .nilIface] rfl rfl ?c1 ?c2 ?c3 ?c4 ?c5 ?_)
   case c1 => exact cells_newP (arr := #[.string ⟨#[125]⟩, .nilIface]) (MapKept.heap_alloc wr _).1
   case c2 => intro u hu; simp at hu; rcases hu with rfl | rfl <;> rfl
   case c3 => unfold maxLen; omega
   case c4 => omega
   case c5 => simp; omega
   intro v' w3 hown' hgrow _ _
   have hb3 : Below w.heap.size w w3 := (hbe.alloc hz _).grown hgrow (by simp; omega) (fun q hq => (ho.lt q hq).1)
   have HEND : Hid (PcOwn M.F w w3 v' (pcsOf r.ty r.kids)) := by
    rw [HEP.out]
    unfold PcOwn
    have e1 : (pcT ⟨#[123]⟩ :: recPcs 0 r.ty.names r.kids ++ [pcT ⟨#[125]⟩]).length = 1 + lR + 1 := by
     rw [List.length_append, List.length_cons, HRL.out]
     show lR + 1 + 1 = _
     omega
    rw [e1, pcCells_app]
    exact hown'
   obtain ⟨a3, c3', hv3⟩ := slice_own2 hown'
   subst hv3
   clear hown' hgrow ho
   go_wp2_with fail
   go_ret
   exact ⟨_, rfl, HEND.out, hb3⟩
end Go.Proofs.YtbojmbeopnlmiaaGreatDoor
