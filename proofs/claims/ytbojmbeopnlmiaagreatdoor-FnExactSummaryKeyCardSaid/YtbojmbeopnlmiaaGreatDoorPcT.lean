/-
 The pieces of a form's text, one behind the other, are its type's text. No program here.
-/
import Derived.Test.YtbojmbeopnlmiaaGreatDoorPcK
namespace Go.Proofs.YtbojmbeopnlmiaaGreatDoor
open Go.RowKit
def txtAt (F : List FRec) (i : Nat) : List UInt8 := match F[i]? with
 | some r => bt r.ty.txt
 | none => []
theorem txtAt_some {F : List FRec} {i : Nat} {r : FRec} (h : F[i]? = some r) : txtAt F i = bt r.ty.txt := by unfold txtAt; rw [h]
def Pc.txt (F : List FRec) (p : Pc) : List UInt8 := match p.f with
 | none => bt p.s
 | some i => txtAt F i
def pcsTxt (F : List FRec) (ps : List Pc) : List UInt8 := ps.flatMap (Pc.txt F)
theorem pcsTxt_app (F : List FRec) (a b : List Pc) : pcsTxt F (a ++ b) = pcsTxt F a ++ pcsTxt F b := by simp [pcsTxt]
theorem pcsTxt_cons (F : List FRec) (p : Pc) (b : List Pc) : pcsTxt F (p :: b) = p.txt F ++ pcsTxt F b := by simp [pcsTxt]
theorem pcT_txt (F : List FRec) (s : ByteArray) : (pcT s).txt F = bt s := rfl
theorem pcF_txt (F : List FRec) (i : Nat) : (pcF i).txt F = txtAt F i := rfl
theorem kid_txt {F : List FRec} {ks : List Nat} {ts : List Ty} (h : KidsOf F ks ts) : ks.map (txtAt F) = ts.map fun t => bt t.txt := by
 refine List.ext_getElem (by rw [List.length_map, List.length_map, h.1]) fun j h1 h2 => ?_
 rw [List.getElem_map, List.getElem_map]
 have hj : j < ks.length := by rw [List.length_map] at h1; exact h1
 have hj2 : j < ts.length := by rw [List.length_map] at h2; exact h2
 obtain ⟨r, q1, q2⟩ := h.2 j hj
 rw [List.getElem?_eq_getElem hj2, Option.some.injEq] at q2
 rw [txtAt_some q1, q2]
theorem bt_comma (i : Nat) : bt (commaB (i + 1)) = [44, 32] := by unfold commaB; rw [if_pos (by omega)]; rfl
theorem bt_comma0 : bt (commaB 0) = [] := by unfold commaB; rw [if_neg (by omega)]; rfl
theorem rec_tail (F : List FRec) (xs : List ByteArray) (ks : List Nat) (us : List (List UInt8)) (i : Nat) (h : ks.map (txtAt F) = us) (hl : xs.length = ks.length) : pcsTxt F (recPcs (i + 1) xs ks) = ((xs.zip us).map fun p => bt p.1 ++ [58, 32] ++ p.2).flatMap fun x => [44, 32] ++ x := by
 induction xs generalizing ks us i with
 | nil => simp [recPcs, pcsTxt]
 | cons x xs ih =>
  cases ks with
  | nil => simp at hl
  | cons k ks =>
   subst h
   simp only [recPcs, List.map_cons, List.zip_cons_cons, List.flatMap_cons]
   rw [pcsTxt_cons, pcsTxt_cons, pcsTxt_cons, pcsTxt_cons, pcT_txt, pcT_txt, pcT_txt, pcF_txt, bt_comma, ih ks _ (i + 1) rfl (by simpa using hl)]
   have e : bt ⟨#[58, 32]⟩ = [58, 32] := rfl
   rw [e]
   simp [List.append_assoc]
theorem rec_all (F : List FRec) (xs : List ByteArray) (ks : List Nat) (us : List (List UInt8)) (h : ks.map (txtAt F) = us) (hl : xs.length = ks.length) : pcsTxt F (recPcs 0 xs ks) = joinB [44, 32] ((xs.zip us).map fun p => bt p.1 ++ [58, 32] ++ p.2) := by
 cases xs with
 | nil => simp [recPcs, pcsTxt, joinB]
 | cons x xs =>
  cases ks with
  | nil => simp at hl
  | cons k ks =>
   subst h
   simp only [recPcs, List.map_cons, List.zip_cons_cons, joinB]
   rw [pcsTxt_cons, pcsTxt_cons, pcsTxt_cons, pcsTxt_cons, pcT_txt, pcT_txt, pcT_txt, pcF_txt, bt_comma0, rec_tail F xs ks _ 0 rfl (by simpa using hl)]
   have e : bt ⟨#[58, 32]⟩ = [58, 32] := rfl
   rw [e]
   simp [List.append_assoc]
theorem par_tail (F : List FRec) (ks : List Nat) (i : Nat) : pcsTxt F (parPcs (i + 1) ks) = (ks.map (txtAt F)).flatMap fun x => [44, 32] ++ x := by
 induction ks generalizing i with
 | nil => rfl
 | cons k ks ih =>
  simp only [parPcs, List.map_cons, List.flatMap_cons]
  rw [pcsTxt_cons, pcsTxt_cons, pcT_txt, pcF_txt, bt_comma, ih (i + 1)]
  simp
theorem par_all (F : List FRec) (ks : List Nat) : pcsTxt F (parPcs 0 ks) = joinB [44, 32] (ks.map (txtAt F)) := by
 cases ks with
 | nil => rfl
 | cons k ks =>
  simp only [parPcs, List.map_cons, joinB]
  rw [pcsTxt_cons, pcsTxt_cons, pcT_txt, pcF_txt, bt_comma0, par_tail F ks 0]
  simp
theorem br_txt (F : List FRec) (b : Bool) (k : Nat) : pcsTxt F (brPcs b k) = if b then 40 :: (txtAt F k ++ [41]) else txtAt F k := by
 cases b
 ·simp [brPcs, pcsTxt, pcF_txt]
 ·simp [brPcs, pcsTxt, pcF_txt, pcT_txt]
  rfl
def unTxt (t : Ty) : List UInt8 := if t.kind = 6 then 40 :: (bt t.txt ++ [41]) else bt t.txt
theorem uni_tail (F : List FRec) (ts : List Ty) (ks : List Nat) (i : Nat) (h : ks.map (txtAt F) = ts.map fun t => bt t.txt) : pcsTxt F (uniPcs (i + 1) ts ks) = (ts.map unTxt).flatMap fun x => [32, 124, 32] ++ x := by
 induction ts generalizing ks i with
 | nil => simp [uniPcs, pcsTxt]
 | cons t ts ih =>
  cases ks with
  | nil => simp at h
  | cons k ks =>
   simp only [List.map_cons, List.cons.injEq] at h
   simp only [uniPcs, List.map_cons, List.flatMap_cons]
   rw [if_pos (by omega), pcsTxt_app, pcsTxt_app, br_txt, h.1, ih ks (i + 1) h.2]
   have e : pcsTxt F [pcT ⟨#[32, 124, 32]⟩] = [32, 124, 32] := rfl
   rw [e]
   unfold unTxt
   by_cases c : t.kind = 6
   ·rw [if_pos c, decide_eq_true c]; rfl
   ·rw [if_neg c, decide_eq_false c]; rfl
theorem uni_all (F : List FRec) (ts : List Ty) (ks : List Nat) (h : ks.map (txtAt F) = ts.map fun t => bt t.txt) : pcsTxt F (uniPcs 0 ts ks) = joinB [32, 124, 32] (ts.map unTxt) := by
 cases ts with
 | nil => simp [uniPcs, pcsTxt, joinB]
 | cons t ts =>
  cases ks with
  | nil => simp at h
  | cons k ks =>
   simp only [List.map_cons, List.cons.injEq] at h
   simp only [uniPcs, List.map_cons, joinB]
   rw [if_neg (by omega), pcsTxt_app, List.nil_append, br_txt, h.1, uni_tail F ts ks 0 h.2]
   unfold unTxt
   by_cases c : t.kind = 6
   ·rw [if_pos c, decide_eq_true c]; rfl
   ·rw [if_neg c, decide_eq_false c]; rfl
theorem pcs_text {F : List FRec} {t : Ty} {ks : List Nat} (ht : Ty.ok t) (hk : KidsOf F ks t.kids) : pcsTxt F (pcsOf t ks) = bt t.txt := by
 have h12 : ∀ k ∈ t.kids, tb 12 k = bt k.txt := fun k hk' => by
  unfold tb
  rw [(ht.2.1 k hk').text (by omega)]
 have e0 : bt t.txt = tb 13 t := rfl
 have hkt := kid_txt hk
 rcases right_kinds ht with ⟨q0, q4⟩ | q | q | q
 ·rw [e0, tb_word q0 q4]
  unfold pcsOf
  by_cases c0 : t.kind = 0
  ·rw [if_pos c0, if_pos c0]; rfl
  rw [if_neg c0, if_neg c0]
  by_cases c1 : t.kind = 1
  ·rw [if_pos c1, if_pos c1]; rfl
  rw [if_neg c1, if_neg c1]
  by_cases c2 : t.kind = 2
  ·rw [if_pos c2, if_pos c2]; rfl
  rw [if_neg c2, if_neg c2]
  by_cases c3 : t.kind = 3
  ·rw [if_pos c3, if_pos c3]; rfl
  rw [if_neg c3, if_neg c3]
  have c4 : t.kind = 4 := by omega
  rw [if_pos c4]
  simp [pcsTxt, pcT_txt]
 ·unfold pcsOf
  rw [if_neg (by omega), if_neg (by omega), if_neg (by omega), if_neg (by omega), if_neg (by omega), if_pos q, e0, tb_rec q]
  have hn := (right_rec ht q).2.2
  rw [pcsTxt_app, pcsTxt_cons, rec_all F t.names ks _ hkt (by rw [hk.1]; exact hn)]
  have e1 : (pcT ⟨#[123]⟩).txt F = [123] := rfl
  have e2 : pcsTxt F [pcT ⟨#[125]⟩] = [125] := rfl
  rw [e1, e2]
  have e3 : ((t.names.zip (t.kids.map fun t => bt t.txt)).map fun p => bt p.1 ++ [58, 32] ++ p.2) = (t.names.zip t.kids).map fun p => bt p.1 ++ [58, 32] ++ tb 12 p.2 := by
   rw [List.zip_map_right, List.map_map]
   refine List.map_congr_left fun p hp => ?_
   show bt p.1 ++ [58, 32] ++ bt p.2.txt = _
   rw [h12 p.2 (List.of_mem_zip hp).2]
  rw [e3]
  rfl
 ·unfold pcsOf
  rw [if_neg (by omega), if_neg (by omega), if_neg (by omega), if_neg (by omega), if_neg (by omega), if_neg (by omega), if_pos q, e0, tb_fn q]
  have hne := (right_fn ht q).2.2
  have hkne : ks ≠ [] := hk.ne hne
  have hlast : txtAt F (ks.getLastD 0) = tb 12 (lastTy t.kids) := by
   have hl := hk.1
   have hp : 0 < ks.length := List.length_pos_iff.2 hkne
   obtain ⟨r, q1, q2⟩ := hk.2 (ks.length - 1) (by omega)
   have e1 : ks.getLastD 0 = ks[ks.length - 1]'(by omega) := by
    rw [List.getLastD_eq_getLast?, List.getLast?_eq_getElem?, List.getElem?_eq_getElem (by omega)]
    rfl
   have e2 : lastTy t.kids = r.ty := by
    unfold lastTy
    rw [List.getLastD_eq_getLast?, List.getLast?_eq_getElem?, ← hl, q2]
    rfl
   rw [e1, txtAt_some q1, e2, h12 r.ty (by rw [← e2]; exact (lastTy_mem hne).1)]
  have hpar : ks.dropLast.map (txtAt F) = t.kids.dropLast.map (tb 12) := by
   have e1 : ks.dropLast.map (txtAt F) = (ks.map (txtAt F)).dropLast := by rw [List.map_dropLast]
   rw [e1, hkt, ← List.map_dropLast]
   exact List.map_congr_left fun k hk' => (h12 k (List.dropLast_subset _ hk')).symm
  rw [pcsTxt_app, pcsTxt_app, pcsTxt_cons, par_all, br_txt, hpar, hlast]
  have e1 : (pcT ⟨#[40]⟩).txt F = [40] := rfl
  have e2 : pcsTxt F [pcT ⟨#[41, 32, 45, 62, 32]⟩] = [41, 32, 45, 62, 32] := rfl
  rw [e1, e2]
  by_cases c : (lastTy t.kids).kind = 7
  ·rw [if_pos c, decide_eq_true c]
   simp
  ·rw [if_neg c, decide_eq_false c]
   simp
 ·unfold pcsOf
  rw [if_neg (by omega), if_neg (by omega), if_neg (by omega), if_neg (by omega), if_neg (by omega), if_neg (by omega), if_neg (by omega), e0, tb_un q, uni_all F t.kids ks hkt]
  have e : t.kids.map unTxt = t.kids.map (ub 12) := List.map_congr_left fun k hk' => by
   show (if k.kind = 6 then 40 :: (bt k.txt ++ [41]) else bt k.txt) = (if k.kind = 6 then 40 :: (tb 12 k ++ [41]) else tb 12 k)
   rw [h12 k hk']
  rw [e]
end Go.Proofs.YtbojmbeopnlmiaaGreatDoor
namespace Go.Proofs.YtbojmbeopnlmiaaGreatDoor
open Go.RowKit Go.Shelf
theorem MkAt.cache {C : MkC} {w w' : World} {M : Mk} {k : Nat} {r : FRec} {vp' : Value} {sz' : Nat} (h : MkAt C w M) (hr : M.F[k]? = some r) (hw : w'.heap[r.blk]? = some (.cells (r.cells k vp' sz') (stT r.ty.kind) (0, 0))) (hb : But r.blk w w') (hc : CacheOk w M r vp' sz') : MkAt C w' M ∧ MkF C w w' := by
 have hmine := h.mineForm hr
 have hF : MkF C w w' := MkF.wrote (MkF.refl C w) hb hmine
 have hS : SameOn M.ext w w' := h.extSame hF
 obtain ⟨vp0, sz0, ho0, _⟩ := (h.each k r hr).obj
 have hcl : ∀ {b : Nat} {c : Array Value} {T : TypeId} {fz : Nat × Nat}, w.heap[b]? = some (.cells c T fz) → T ≠ stT r.ty.kind → w'.heap[b]? = w.heap[b]? := fun {b c T fz} e hT => hb.2.2.2.2 b fun e2 => by
  rw [e2, ho0] at e
  simp only [Option.some.injEq, Obj.cells.injEq] at e
  exact hT e.2.1.symm
 have hmp : ∀ {b : Nat} {es : Array MapEntry} {clk : Nat}, w.heap[b]? = some (.map es clk) → w'.heap[b]? = w.heap[b]? := fun {b es clk} e => hb.2.2.2.2 b fun e2 => by rw [e2, ho0] at e; simp at e
 obtain ⟨vkey, nk, xs, hs1, hs2⟩ := h.self
 refine ⟨⟨h.geo, ⟨vkey, nk, xs, (hcl hs1 fun e => (st_ne _).2 e.symm).trans hs1, hs2.1, ?_⟩, ?_, ?_, ?_, fun p hp => ?_, fun k' q hq => ?_, h.uniq, h.blks, fun q hq => (h.ls q hq).same hS, ExtOk.step (A := M.ext) h.extok hF, h.small⟩, hF⟩
 ·rcases hs2.2 with q | ⟨g, cap, cur, hv, hg, hh, q⟩
  ·exact .inl q
  ·exact .inr ⟨g, cap, cur, hv, hg, (hcl hh fun e => (st_ne _).1 e.symm).trans hh, q⟩
 ·obtain ⟨es, c, q1, q2⟩ := h.forms
  exact ⟨es, c, (hmp q1).trans q1, q2⟩
 ·obtain ⟨es, c, q1, q2⟩ := h.lists
  exact ⟨es, c, (hmp q1).trans q1, q2⟩
 ·obtain ⟨es, c, q1, q2⟩ := h.types
  exact ⟨es, c, (hmp q1).trans q1, q2⟩
 ·obtain ⟨q, q1, q2⟩ := h.tys p hp
  exact ⟨q, q1, q2.same hS⟩
 ·by_cases c : k' = k
  ·subst c
   rw [hr, Option.some.injEq] at hq
   subst hq
   have hf := h.each k' r hr
   exact ⟨hf.ok, hf.base, hf.kids, hf.less, hf.row.same hS, fun q => (hf.names q).same hS, vp', sz', hw, hc.1.imp id fun q => q.same hS, hc.2⟩
  ·refine (h.each k' q hq).same hS (hb.2.2.2.2 _ fun e => c (h.blks k' k q r hq hr e))
theorem but_setCell (w : World) (b c : Nat) (v : Value) : But b w (w.setCell ⟨b, c, none⟩ v) := ⟨rfl, rfl, rfl, by simp, fun x hx => Below.heap_setCell _ _ _ _ hx⟩
theorem cells_set3 (r : FRec) (k : Nat) (vp v : Value) (sz : Nat) : (r.cells k vp sz).setIfInBounds 3 v = r.cells k v sz := by simp [FRec.cells]
theorem cells_set4 (r : FRec) (k : Nat) (vp : Value) (sz s : Nat) : (r.cells k vp sz).setIfInBounds 4 (.int .i64 s) = r.cells k vp s := by simp [FRec.cells]
theorem pcs_ne {t : Ty} {ks : List Nat} (hk : ks.length = t.kids.length) (ht : Ty.ok t) : 0 < (pcsOf t ks).length := by
 unfold pcsOf
 split
 ·simp
 split
 ·simp
 split
 ·simp
 split
 ·simp
 split
 ·simp
 split
 ·simp
 split
 ·simp
 ·rename_i h0 h1 h2 h3 h4 h5 h6
  have h7 : t.kind = 7 := by rcases right_kinds ht with q | q | q | q <;> omega
  obtain ⟨_, _, _, a, b, r, e⟩ := right_union ht h7
  rw [e] at hk ⊢
  cases ks with
  | nil => simp at hk
  | cons k ks =>
   simp only [uniPcs, List.length_append]
   have : 0 < (brPcs (decide (a.kind = 6)) k).length := by unfold brPcs; split <;> simp
   omega
theorem PcOwn.row {F : List FRec} {w w' : World} {v : Value} {ps : List Pc} (h : PcOwn F w w' v ps) (hp : 0 < ps.length) : ∃ g cap cur, v = .slice (some ⟨g, 0, none⟩) ps.length cap ∧ w.heap.size ≤ g ∧ w'.heap[g]? = some (.cells cur 211 (0, 0)) ∧ ∀ A : Nat → Prop, A g → PRow A w' F v ps := by
 rcases h.2 with ⟨_, h0⟩ | ⟨g, cap, cur, hv, hg, hh, h1, h2, h3, h4⟩
 ·omega
 ·refine ⟨g, cap, cur, hv, hg, hh, fun A hA => ⟨g, cap, hv, hA, fun j hj => ?_⟩⟩
  have hl := pcCells_len F ps
  have hget : ∀ c, c < 2 → (pcCells F ps)[j * 2 + c]? = [Value.string ps[j].s, pcV F ps[j].f][c]? := fun c hc => by
   clear h hl h3 h4 hh hv
   induction ps generalizing j with
   | nil => simp at hj
   | cons p r ih =>
    cases j with
    | zero =>
     show ([Value.string p.s, pcV F p.f] ++ pcCells F r)[0 * 2 + c]? = _
     rw [List.getElem?_append_left (by simp; omega)]
     simp
    | succ j =>
     show ([Value.string p.s, pcV F p.f] ++ pcCells F r)[(j + 1) * 2 + c]? = _
     rw [List.getElem?_append_right (by simp; omega)]
     have e : (j + 1) * 2 + c - [Value.string p.s, pcV F p.f].length = j * 2 + c := by simp; omega
     rw [e]
     have hj' : j < r.length := by simpa using hj
     exact ih (by omega) (by simp at h1 ⊢; omega) j hj'
  have hcell := h.cells (g := g) (by rw [hv]; rfl)
  have c0 := hget 0 (by omega)
  have c1 := hget 1 (by omega)
  have e0 := hcell (j * 2) _ (by rw [Nat.add_zero] at c0; rw [c0]; rfl)
  have e1 := hcell (j * 2 + 1) _ (by rw [c1]; rfl)
  have ea : ∀ x : Nat, ((⟨g, 0, none⟩ : Addr).add x) = ⟨g, x, none⟩ := fun x => by
   cases x with
   | zero => rfl
   | succ x => simp [Addr.add]
  rw [ea] at e0 e1
  exact ⟨e0, e1⟩
set_option maxHeartbeats 1600000 in
set_option maxRecDepth 100000 in
theorem implFormPieces (C : MkC) (M : Mk) (k : Nat) (r : FRec) (w : World) (hM : MkAt C w M) (hr : M.F[k]? = some r) (hkl : r.kids.length ≤ 1048577) :
  Calls Tryz.prog 174 #[r.val] w fun e w' => ∃ (M' : Mk) (b cap : Nat), e = .returned (.slice (some ⟨b, 0, none⟩) (pcsOf r.ty r.kids).length cap) ∧ TStep C M M' w w' ∧ PRow M'.ext w' M.F (.slice (some ⟨b, 0, none⟩) (pcsOf r.ty r.kids).length cap) (pcsOf r.ty r.kids) := by
 have hF := hM.each k r hr
 obtain ⟨vp, sz, hobj, hcache⟩ := hF.obj
 have hval : r.val = .iface (ptT r.ty.kind) (.pointer (some ⟨r.blk, 0, none⟩)) := rfl
 have hmeth : ∀ wy : World, Sem.run Tryz.prog (Go.method 361 (ptT r.ty.kind) (.pointer (some ⟨r.blk, 0, none⟩)) "loop.example/g00276/impl.base") wy = .ok (210, .pointer (some ⟨r.blk, 0, none⟩)) wy := fun wy => methBase _ _ _ rfl
 have HB0 : Hid (∀ (a : Addr) (wx : World), Calls Tryz.prog 210 #[.pointer (some a)] wx fun e w' => e = .returned (.pointer (some a)) ∧ w' = wx) := implBase
 have c3 : w.cell? ⟨r.blk, 3, none⟩ = some vp := by rw [cell_of_row w r.blk 3 _ _ (0, 0) hobj]; simp [FRec.cells]
 have hpn := pcs_ne hF.kids.1 hF.ok
 rw [hval]
 rcases hcache.1 with hnil | hrow
 ·subst hnil
  have hNP0 := implNewPieces C M k r w hM hr hkl
  rw [hval] at hNP0
  have HNP : Hid (type_of% hNP0) := hNP0
  have heq : ∀ wx : World, Sem.run Tryz.prog (binOp BinOp.eql 163 (.slice none 0 0) (.slice none 0 0)) wx = .ok (.bool true) wx := fun wx => by kernel_rfl
  have hbl : r.blk < w.heap.size := (Array.getElem?_eq_some_iff.1 hobj).1
  have HM : Hid (type_of% hM) := hM
  have HR : Hid (type_of% hr) := hr
  have HOB : Hid (type_of% hobj) := hobj
  have HCA : Hid (type_of% hcache) := hcache
  have m0 := hmeth w
  clear hM hr hF hobj hcache hval hNP0
  generalize ptT r.ty.kind = PT at *
  go_enter Tryz.func174, Tryz.ntmps174
  go_wp2_with (first | (go_at_call 210; refine (HB0.out _ _).mono ?_; rintro e w9 ⟨rfl, rfl⟩) | (go_at_call 186; refine HNP.out.mono ?_; rintro e w2 ⟨v, rfl, hp, hb2⟩; refine Hid.out ?_))
  refine Lib.hid ?_
  obtain ⟨g, capg, cur, hvg, hg, hh, hPR⟩ := hp.row hpn
  subst hvg
  have hobj2 := (hb2.block r.blk hbl).trans HOB.out
  have hM2 : MkAt C w2 (M.more fun x => x = g) := (HM.out.below hb2).wider fun x hx => by
   subst hx
   exact ⟨(Array.getElem?_eq_some_iff.1 hh).1, .inr ⟨_, _, hh, .inr (.inr (.inr rfl))⟩⟩
  have hw3 : (w2.setCell ⟨r.blk, 3, none⟩ (.slice (some ⟨g, 0, none⟩) (pcsOf r.ty r.kids).length capg)).heap[r.blk]? = some (.cells (r.cells k (.slice (some ⟨g, 0, none⟩) (pcsOf r.ty r.kids).length capg) sz) (stT r.ty.kind) (0, 0)) := by
   rw [heap_setCell_same w2 r.blk 3 _ _ _ hobj2, cells_set3]
  obtain ⟨hM3, hF3⟩ := hM2.cache HR.out hw3 (but_setCell w2 r.blk 3 _) ⟨.inr (hPR _ (.inr rfl)), HCA.out.2⟩
  have HEND : Hid (TStep C M (M.more fun x => x = g) w9 (w2.setCell ⟨r.blk, 3, none⟩ (.slice (some ⟨g, 0, none⟩) (pcsOf r.ty r.kids).length capg)) ∧ PRow (M.more fun x => x = g).ext (w2.setCell ⟨r.blk, 3, none⟩ (.slice (some ⟨g, 0, none⟩) (pcsOf r.ty r.kids).length capg)) M.F (.slice (some ⟨g, 0, none⟩) (pcsOf r.ty r.kids).length capg) (pcsOf r.ty r.kids)) := by
   refine ⟨⟨hM3, (MkF.ofBelow hb2).trans hF3, rfl, rfl, rfl, fun x hx => .inl hx, fun x hx => ?_⟩, (hPR _ (.inr rfl)).same (hM2.extSame hF3)⟩
   rcases hx with hx | rfl
   ·exact .inl hx
   ·exact .inr hg
  have hfz : ∀ j, w2.frozen? ⟨r.blk, j, none⟩ = false := fun j => frozen_of_row _ _ j _ _ hobj2
  have d3 : w2.cell? ⟨r.blk, 3, none⟩ = some (.slice none 0 0) := by rw [cell_of_row w2 r.blk 3 _ _ (0, 0) hobj2]; simp [FRec.cells]
  have e3 : (w2.setCell ⟨r.blk, 3, none⟩ (.slice (some ⟨g, 0, none⟩) (pcsOf r.ty r.kids).length capg)).cell? ⟨r.blk, 3, none⟩ = some (.slice (some ⟨g, 0, none⟩) (pcsOf r.ty r.kids).length capg) := by rw [cell_of_row _ r.blk 3 _ _ (0, 0) hw3]; simp [FRec.cells]
  have m3 := hmeth (w2.setCell ⟨r.blk, 3, none⟩ (.slice (some ⟨g, 0, none⟩) (pcsOf r.ty r.kids).length capg))
  clear hp hPR hobj2 hM2 hw3 hM3 hF3 HM HR HOB HCA HNP hb2 hh
  go_wp2_with (go_at_call 210; refine (HB0.out _ _).mono ?_; rintro e w9 ⟨rfl, rfl⟩)
  go_ret
  exact ⟨_, g, capg, rfl, HEND.out⟩
 ·obtain ⟨b, cap, hvp, hrest⟩ := id hrow
  subst hvp
  clear hrest
  have heq : ∀ wx : World, Sem.run Tryz.prog (binOp BinOp.eql 163 (.slice (some ⟨b, 0, none⟩) (pcsOf r.ty r.kids).length cap) (.slice none 0 0)) wx = .ok (.bool false) wx := fun wx => by kernel_rfl
  have HEND : Hid (TStep C M M w w ∧ PRow M.ext w M.F (.slice (some ⟨b, 0, none⟩) (pcsOf r.ty r.kids).length cap) (pcsOf r.ty r.kids)) := ⟨TStep.refl hM, hrow⟩
  have m0 := hmeth w
  clear hM hr hF hobj hcache hval hrow
  generalize ptT r.ty.kind = PT at *
  generalize (pcsOf r.ty r.kids).length = lp at *
  go_enter Tryz.func174, Tryz.ntmps174
  go_wp2_with (go_at_call 210; refine (HB0.out _ _).mono ?_; rintro e w9 ⟨rfl, rfl⟩)
  go_ret
  exact ⟨M, b, cap, rfl, HEND.out⟩
end Go.Proofs.YtbojmbeopnlmiaaGreatDoor
