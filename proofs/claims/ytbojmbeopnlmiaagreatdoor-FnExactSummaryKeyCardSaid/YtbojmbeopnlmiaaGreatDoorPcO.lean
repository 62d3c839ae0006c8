/-
 The walk of impl.opened: a form's pieces in its place on a stack, but for those that are empty.
-/
import Derived.Test.YtbojmbeopnlmiaaGreatDoorPcN
import Derived.Maps.OwnIn
import Derived.Lib.Small
import Derived.Lib.Bytealg
namespace Go.Proofs.YtbojmbeopnlmiaaGreatDoor
open Go.RowKit Go.Shelf
attribute [local go_sem] Oper.semAt_some
def cameLive {FF : List FRec} (pre : List (BackE FF)) : List Pc := livePcs (pre.map fun x => x.1.2)
theorem cameLive_snoc {FF : List FRec} (pre : List (BackE FF)) (x : BackE FF) : cameLive (pre ++ [x]) = cameLive pre ++ livePcs [x.1.2] := by simp [cameLive, livePcs]
theorem came_all {FF : List FRec} (ps : List Pc) (h : ∀ p ∈ ps, Told FF p) : cameLive (backTo ps h ps.length) = (livePcs ps).reverse := by
 have e : (backTo ps h ps.length).map (fun x => x.1.2) = ps.reverse := by
  refine List.ext_getElem (by simp [backTo]) fun j h1 h2 => ?_
  have hj : j < ps.length := by simpa using h2
  simp only [backTo, List.map_map, List.getElem_map, List.getElem_range, Function.comp, backAt, List.getElem_reverse]
  rw [List.getElem?_eq_getElem (by omega)]
  rfl
 unfold cameLive
 rw [e]
 unfold livePcs
 rw [List.filter_reverse]
theorem own_cut2 {w : World} {B e g n m cap : Nat} {xs ys : List Value} (h : w.ownsRow B e 2 (.slice (some ⟨g, 0, none⟩) n cap) n xs) (hm : m ≤ n) (hy : ys = xs.take (m * 2)) : w.ownsRow B e 2 (.slice (some ⟨g, 0, none⟩) m cap) m ys := by
 rcases h.2 with ⟨q, _⟩ | ⟨g', c', cur, q, h1, h2, h3, h4, h5, h6⟩
 ·simp at q
 ·simp only [Value.slice.injEq, Option.some.injEq, Addr.mk.injEq, true_and, and_true] at q
  obtain ⟨rfl, rfl⟩ := q
  have hl := h.1
  refine ⟨by rw [hy, List.length_take, hl]; omega, .inr ⟨g, cap, cur, rfl, h1, h2, by omega, h4, h5, ?_⟩⟩
  rw [hy, ← h6, List.take_take]
  congr 1
  omega
def But2 (b c : Nat) (w w' : World) : Prop := w'.os = w.os ∧ w'.tape = w.tape ∧ w'.output = w.output ∧ w.heap.size ≤ w'.heap.size ∧ ∀ x, x < w.heap.size → x ≠ b → x ≠ c → w'.heap[x]? = w.heap[x]?
theorem But2.refl (b c : Nat) (w : World) : But2 b c w w := ⟨rfl, rfl, rfl, Nat.le_refl _, fun _ _ _ _ => rfl⟩
theorem But2.own (b c : Nat) (w : World) : OwnFrom (β := Unit) w.heap.size (fun _ W => But2 b c w W) := fun _ W W' row hs hg hr => by
 obtain ⟨h1, h2, h3, h4, h5⟩ := hs
 refine ⟨hg.os.trans h1, hg.tape.trans h2, hg.output.trans h3, Nat.le_trans h4 hg.size, fun x hx hb hc => (hg.block x (Nat.lt_of_lt_of_le hx h4) fun e => ?_).trans (h5 x hx hb hc)⟩
 have := (hr x e.symm).1
 omega
theorem owns_pos2 {w : World} {B e z : Nat} {v : Value} {n : Nat} {xs : List Value} (h : w.ownsRow B e z v n xs) (hn : 0 < n) : ∃ g cap, v = .slice (some ⟨g, 0, none⟩) n cap := by
 rcases h.2 with ⟨_, h0⟩ | ⟨g, cap, cur, hv, _⟩
 ·omega
 ·exact ⟨g, cap, hv⟩
theorem live_yes {p : Pc} (h : p.f.isSome = true ∨ p.s.size ≠ 0) : livePcs [p] = [p] := by
 unfold livePcs
 rw [List.filter_cons, if_pos (by simpa using h)]
 rfl
theorem live_no {p : Pc} (h1 : p.f = none) (h2 : p.s.size = 0) : livePcs [p] = [] := by
 unfold livePcs
 rw [List.filter_cons, if_neg (by simp [h1, h2])]
 rfl
theorem app_old {W4 W w1 : World} {gs Bl : Nat} {v v' : Value} {o : Obj} (hz : W4.heap.size ≤ W.heap.size) (hG : ∀ x, v.ownBlock = some x → x = gs ∨ W4.heap.size ≤ x) (hg : (W.alloc o).grownBy w1 v.ownBlock) : ∀ x, x < W4.heap.size → x ≠ gs → x ≠ Bl → (w1.setCell ⟨Bl, 0, none⟩ v').heap[x]? = W.heap[x]? := fun x h1 h2 h3 => by
 rw [Below.heap_setCell _ _ _ _ h3, hg.block x (by simp; omega) fun e => by rcases hG x e.symm with q | q <;> omega]
 exact (MapKept.heap_alloc W o).2 x (by omega)
theorem app_but {W4 W w1 : World} {gs Bl : Nat} {v v' : Value} {o : Obj} (hB : But2 gs Bl W4 W) (hG : ∀ x, v.ownBlock = some x → x = gs ∨ W4.heap.size ≤ x) (hg : (W.alloc o).grownBy w1 v.ownBlock) : But2 gs Bl W4 (w1.setCell ⟨Bl, 0, none⟩ v') := by
 obtain ⟨h1, h2, h3, h4, h5⟩ := hB
 refine ⟨hg.os.trans h1, hg.tape.trans h2, hg.output.trans h3, ?_, fun x hx hb hc => (app_old h4 hG hg x hx hb hc).trans (h5 x hx hb hc)⟩
 have := hg.size
 simp at this ⊢
 omega
structure OpenPost (C : MkC) (M M' : Mk) (base gs : Nat) (w w' : World) (v : Value) (K : List Pc) : Prop where
 here : MkAt C w' M'
 F : M'.F = M.F
 L : M'.L = M.L
 T : M'.T = M.T
 extL : ∀ b, M.ext b → M'.ext b
 extR : ∀ b, M'.ext b → M.ext b ∨ w.heap.size ≤ b
 row : w'.ownsRow base 211 2 v K.length (pcCells M.F K)
 out : ∀ x, v.ownBlock = some x → ¬ M'.ext x ∧ (x = gs ∨ w.heap.size ≤ x)
 os : w'.os = w.os
 tape : w'.tape = w.tape
 output : w'.output = w.output
 size : w.heap.size ≤ w'.heap.size
 old : ∀ b, b < w.heap.size → ¬ Mine C w b → b ≠ gs → w'.heap[b]? = w.heap[b]?
set_option maxRecDepth 100000 in
set_option maxHeartbeats 2000000 in
theorem opened_in (C : MkC) (M : Mk) (i : Nat) (r : FRec) (L : List Pc) (base gs caps : Nat) (w : World) (hM : MkAt C w M) (hr : M.F[i]? = some r) (hL : L.length ≤ 2199023255552) (hst : w.ownsRow base 211 2 (.slice (some ⟨gs, 0, none⟩) (L.length + 1) caps) (L.length + 1) (pcCells M.F (L ++ [pcF i]))) (hx : ¬ M.ext gs) (hb : base ≤ w.heap.size) :
  CallsIn Fence.wide 3 Tryz.prog 155 #[.slice (some ⟨gs, 0, none⟩) (L.length + 1) caps] w fun e w' => ∃ (M' : Mk) (v : Value), e = .returned v ∧ OpenPost C M M' base gs w w' v (L ++ (livePcs (pcsOf r.ty r.kids)).reverse) := by
 have hF := hM.each i r hr
 have evr : r.val = .iface (ptT r.ty.kind) (.pointer (some ⟨r.blk, 0, none⟩)) := rfl
 obtain ⟨W0, hW0⟩ : ∃ W0, W0 = w.alloc (.cells #[.slice (some ⟨gs, 0, none⟩) (L.length + 1) caps] 163) := ⟨_, rfl⟩
 have hB0 : Below w.heap.size w W0 := by rw [hW0]; exact (Below.refl _ _).alloc (Nat.le_refl _) _
 have hst0 : W0.ownsRow base 211 2 (.slice (some ⟨gs, 0, none⟩) (L.length + 1) caps) (L.length + 1) (pcCells M.F (L ++ [pcF i])) := by rw [hW0]; exact hst.alloc _
 have hbox0 : Boxed W0 w.heap.size 163 (.slice (some ⟨gs, 0, none⟩) (L.length + 1) caps) := by rw [hW0]; exact Boxed.new w _ _
 have c0 := hbox0.cell
 have ctop : W0.cell? ⟨gs, L.length * 2 + 1, none⟩ = some (.iface (ptT r.ty.kind) (.pointer (some ⟨r.blk, 0, none⟩))) := by
  have h := hst0.cells (g := gs) rfl (L.length * 2 + 1) (valAt M.F i) (by
   rw [pcCells_app, List.getElem?_append_right (by rw [pcCells_len]; omega), pcCells_len]
   have e : L.length * 2 + 1 - L.length * 2 = 1 := by omega
   rw [e]
   rfl)
  have e : ((⟨gs, 0, none⟩ : Addr).add (L.length * 2 + 1)) = ⟨gs, L.length * 2 + 1, none⟩ := by simp [Addr.add]
  rw [e, val_iface hr] at h
  exact h
 have HFP0 := implFormPieces C M i r W0 (hM.below hB0) hr (hM.small i r hr).2
 rw [evr] at HFP0
 have HFP : Hid (type_of% HFP0) := HFP0
 have hli : (L.length : Int) < ((L.length + 1 : Nat) : Int) := by omega
 have hcap : L.length + 1 ≤ caps := by
  rcases hst.2 with ⟨q, _⟩ | ⟨g', c', cur, q, _, _, h1, _⟩
  ·simp at q
  ·simp only [Value.slice.injEq] at q
   omega
 have h0i : (0 : Int) ≤ (L.length : Int) := by omega
 have hcapi : (L.length : Int) ≤ (caps : Int) := by omega
 have hst9 := hst
 have hext9 : ∀ b, M.ext b → b < w.heap.size ∧ True := fun b hb' => ⟨(hM.extok b hb').1, trivial⟩
 have hone9 : ∀ p ∈ pcsOf r.ty r.kids, Told M.F p := fun p hp => by
  rcases pcs_one (fun c => hF.kids.ne (fn_kids hF.ok c)) p hp with q | ⟨j, hj, e⟩
  ·exact .inl q
  ·obtain ⟨jj, hjj, rfl⟩ := List.getElem_of_mem hj
   obtain ⟨q, hq, _⟩ := hF.kids.2 jj hjj
   exact .inr ⟨_, q, e, hq⟩
 have hlen9 : (pcsOf r.ty r.kids).length ≤ 4194320 := by
  have h1 := pcs_len hF.ok hF.kids.1
  have h2 := (hM.small i r hr).2
  omega
 clear hM hr hF evr hst HFP0
 subst hW0
 refine callsIn_of_wp_marks Tryz.func155 rfl trivial ?_ rfl
 simp only [Tryz.ntmps155, List.size_toArray, List.length_cons, List.length_nil, Nat.reduceAdd, Nat.reduceSub, Array.replicate_succ, Array.replicate_zero, List.push_toArray, List.append_toArray, List.nil_append, List.cons_append]
 gi_wp2_with (refine ⟨trivial, ?_⟩; gi_at_call 174; refine (callsIn_wide.2 HFP.out).mono ?_; rintro e w2 ⟨M1, g, capg, rfl, hts, hpr⟩; refine Hid.out ?_)
 refine Lib.hid ?_
 have hnp : ¬ mkT 211 := by unfold mkT; decide
 have hnl : ¬ mkT 163 := by unfold mkT; decide
 have hbox2 : Boxed w2 w.heap.size 163 (.slice (some ⟨gs, 0, none⟩) (L.length + 1) caps) := hts.fr.row hbox0 hnl
 have hst2 := hts.fr.owns hst0 hnp
 have hgsw : gs < w.heap.size ∨ gs = w.heap.size + 1 := .inl (by
  have := (hst9.lt gs rfl).2
  exact this)
 have c2 := hbox2.cell
 have f2 := hbox2.frozen
 have HTS : Hid (type_of% hts) := hts
 have HPR : Hid (type_of% hpr) := hpr
 have HST2 : Hid (type_of% hst2) := hst2
 have HBX2 : Hid (type_of% hbox2) := hbox2
 clear hts hpr hst2 hbox2 HFP hst0 hbox0 c0 ctop hB0
 gi_wp2_with (refine ⟨trivial, ?_⟩; gi_at_call 175; refine (back_in Fence.wide _ trivial rfl _ _ _ _).mono ?_; rintro e w4 ⟨rfl, hw4⟩; refine Hid.out ?_)
 refine Lib.hid ?_
 subst hw4
 gi_wp2
 have hgsl : gs < w.heap.size := (hst9.lt gs rfl).2
 obtain ⟨PS, HPS⟩ : ∃ PS, Hid (PS = pcsOf r.ty r.kids) := ⟨_, rfl⟩
 rw [← HPS.out] at HPR ⊢
 have hsz2 : w.heap.size + 1 ≤ w2.heap.size := by have := HTS.out.fr.size; simpa using this
 obtain ⟨W4, hW4⟩ : ∃ W4, (w2.setCell ⟨w.heap.size, 0, none⟩ (.slice (some ⟨gs, 0, none⟩) L.length caps)).alloc (.cells #[.slice (some ⟨g, 0, none⟩) PS.length capg] 163) = W4 := ⟨_, rfl⟩
 -- what W4 is
 have hbw4 : ∀ x, x < w2.heap.size → x ≠ w.heap.size → W4.heap[x]? = w2.heap[x]? := fun x hx hne => by
  rw [← hW4, (MapKept.heap_alloc _ _).2 x (by simp; exact hx)]
  exact Below.heap_setCell _ _ _ _ hne
 have hsz4 : W4.heap.size = w2.heap.size + 1 := by rw [← hW4]; simp
 have hboxL : Boxed W4 w.heap.size 163 (.slice (some ⟨gs, 0, none⟩) L.length caps) := by
  rw [← hW4]
  exact (HBX2.out.set _).alloc _
 have hboxS : W4.heap[w2.heap.size]? = some (.cells #[.slice (some ⟨g, 0, none⟩) PS.length capg] 163 (0, 0)) := by
  have := (MapKept.heap_alloc (w2.setCell ⟨w.heap.size, 0, none⟩ (.slice (some ⟨gs, 0, none⟩) L.length caps)) (.cells #[.slice (some ⟨g, 0, none⟩) PS.length capg] 163)).1
  rw [← hW4]
  simpa using this
 have hnoL : ¬ M1.ext w.heap.size := fun q => by
  rcases HTS.out.extR _ q with q | q
  ·have := (hext9 _ q).1
   omega
  ·have q' : w.heap.size + 1 ≤ w.heap.size := by simpa using q
   omega
 have hnoG : ¬ M1.ext gs := fun q => by
  rcases HTS.out.extR _ q with q | q
  ·exact hx q
  ·simp at q
   omega
 obtain ⟨g', capg', hv', hag, hcg⟩ := HPR.out
 simp only [Value.slice.injEq, Option.some.injEq, Addr.mk.injEq, true_and, and_true] at hv'
 obtain ⟨rfl, rfl⟩ := hv'
 have hgl : g < w2.heap.size := (HTS.out.here.extok g hag).1
 have hgL : g ≠ w.heap.size := fun e => hnoL (e ▸ hag)
 have hggs : g ≠ gs := fun e => hnoG (e ▸ hag)
 have hM4 : MkAt C W4 M1 := by
  refine HTS.out.here.same (fun b hm => hbw4 b ?_ fun e => ?_) (fun b hb' => hbw4 b (HTS.out.here.extok b hb').1 fun e => hnoL (e ▸ hb')) (by omega)
  ·rcases hm.2 with ⟨es, clk, q, _⟩ | ⟨c, T, fz, q, _⟩
   ·exact (Array.getElem?_eq_some_iff.1 q).1
   ·exact (Array.getElem?_eq_some_iff.1 q).1
  ·subst e
   rcases hm.2 with ⟨es, clk, q, _⟩ | ⟨c, T, fz, q, hT⟩
   ·rw [show w2.heap[w.heap.size]? = _ from HBX2.out] at q; simp at q
   ·rw [show w2.heap[w.heap.size]? = _ from HBX2.out] at q
    simp only [Option.some.injEq, Obj.cells.injEq] at q
    rw [← q.2.1] at hT
    exact hnl hT
 have hst4 : W4.ownsRow base 211 2 (.slice (some ⟨gs, 0, none⟩) L.length caps) L.length (pcCells M.F L) := by
  have h1 : w2.ownsRow base 211 2 (.slice (some ⟨gs, 0, none⟩) L.length caps) L.length (pcCells M.F L) := own_cut2 HST2.out (by omega) (by rw [pcCells_app, List.take_left' (pcCells_len _ _)])
  refine ⟨h1.1, ?_⟩
  rcases h1.2 with q | ⟨g', c', cur, q, h2, h3, h4⟩
  ·exact .inl q
  ·refine .inr ⟨g', c', cur, q, h2, ?_, h4⟩
   simp only [Value.slice.injEq, Option.some.injEq, Addr.mk.injEq, true_and, and_true] at q
   obtain ⟨rfl, rfl⟩ := q
   rw [hbw4 gs (by omega) (by omega)]
   exact h3
 have htold : ∀ p ∈ PS, Told M.F p := by
  rw [HPS.out]
  exact hone9
 have hc4 : ∀ j (h : j < PS.length), W4.cell? ⟨g, j * 2, none⟩ = some (.string PS[j].s) ∧ W4.cell? ⟨g, j * 2 + 1, none⟩ = some (pcV M.F PS[j].f) := fun j h => by
  have hb9 : W4.heap[g]? = w2.heap[g]? := hbw4 g hgl hgL
  exact ⟨(World.cell?_of_block (w := w2) (a := ⟨g, j * 2, none⟩) hb9).trans (hcg j h).1, (World.cell?_of_block (w := w2) (a := ⟨g, j * 2 + 1, none⟩) hb9).trans (hcg j h).2⟩
 have cS : W4.cell? ⟨w2.heap.size, 0, none⟩ = some (.slice (some ⟨g, 0, none⟩) PS.length capg) := by rw [cell_of_row W4 _ 0 _ _ (0, 0) hboxS]; rfl
 have hPSl : PS.length ≤ 4194320 := by rw [HPS.out]; exact hlen9
 obtain ⟨i0, hi0, hz0, hz1, hz2⟩ := info_parts Tryz.infoPc
 rw [hW4]
 refine wpIn_rangeFunc_ownH rfl (by omega) (gf := 187) (lb := #[.pointer (some ⟨w2.heap.size, 0, none⟩)]) rfl trivial (enters_of Tryz.func187 (by kernel_rfl) rfl)
  (back_stops Fence.wide (3 - 1) trivial rfl (by omega) w2.heap.size g capg M.F PS htold (by omega) W4 (by omega) (by omega) cS hc4)
  (fun h k => ⟨k.1.trans h.1, k.2.trans h.2⟩)
  (fun W l o o' hl _ _ _ => ⟨World.putObj_heap_other (by omega), World.putObj_heap_other (by omega)⟩)
  (Below.refl _ _) (fun _ => rfl)
  (fun pre W => (∃ v, Boxed W w.heap.size 163 v ∧ W.ownsRow base 211 2 v (L ++ cameLive pre).length (pcCells M.F (L ++ cameLive pre)) ∧ (∀ x, v.ownBlock = some x → x = gs ∨ W4.heap.size ≤ x)) ∧ But2 gs w.heap.size W4 W ∧ (L ++ cameLive pre).length ≤ L.length + pre.length)
  (fun _ _ _ => False)
  (OwnFrom.and (Own.from (holdsRow_own base w.heap.size 163 211 2 (fun pre => (L ++ cameLive pre).length) (fun pre => pcCells M.F (L ++ cameLive pre)) (fun pre v => ∀ x, v.ownBlock = some x → x = gs ∨ W4.heap.size ≤ x)) _) (fun pre X Y row hs hg hr => ⟨But2.own gs w.heap.size W4 () X Y row hs.1 hg hr, hs.2⟩))
  (fun _ _ _ _ _ hs _ _ => hs)
  ⟨⟨_, hboxL, by simpa [cameLive, livePcs] using hst4, fun x hx' => .inl (by simpa [Value.ownBlock] using hx'.symm)⟩, But2.refl _ _ _, by simp [cameLive, livePcs]⟩
  (fun x a' W => ∃ Bx, W4.heap.size ≤ Bx ∧ W.heap[Bx]? = some (.cells #[.string x.1.2.s, pcV M.F x.1.2.f] 211 (0, 0)) ∧ a' = { tmps := #[.slice (some ⟨gs, 0, none⟩) (L.length + 1) caps, .pointer (some ⟨w.heap.size, 0, none⟩), .slice none 0 0, .int .i64 L.length, .slice (some ⟨g, 0, none⟩) PS.length capg, undef, .pointer (some ⟨Bx, 0, none⟩), .slice (some ⟨gs, 0, none⟩) (L.length + 1) caps, .int .i64 (L.length + 1), .int .i64 L.length, .slice (some ⟨gs, 0, none⟩) (L.length + 1) caps, .int .i64 L.length, .pointer (some ⟨gs, L.length * 2, none⟩), .pointer (some ⟨gs, L.length * 2 + 1, none⟩), .iface (ptT r.ty.kind) (.pointer (some ⟨r.blk, 0, none⟩)), .slice (some ⟨g, 0, none⟩) PS.length capg, .slice (some ⟨gs, 0, none⟩) (L.length + 1) caps, .int .i64 L.length, .slice (some ⟨gs, 0, none⟩) L.length caps, .slice (some ⟨g, 0, none⟩) PS.length capg, .func (.func 187) #[] #[.pointer (some ⟨w2.heap.size, 0, none⟩)], .int .i64 (x.1.1 : Nat), .agg #[.string x.1.2.s, pcV M.F x.1.2.f], undef, undef, undef, undef, undef, undef, undef, undef, undef, undef, undef, undef, undef], defers := [] })
  (fun x a' _ X Y row hs hg hr => by
   obtain ⟨Bx, h1, h2, h3⟩ := hs
   refine ⟨Bx, h1, (hg.block Bx (Array.getElem?_eq_some_iff.1 h2).1 fun e => ?_).trans h2, h3⟩
   obtain ⟨o, ho, hc⟩ := (hr Bx e.symm).2
   rw [h2] at ho
   cases ho
   cases hc)
  ?assign ?body ?done ?stop
 case assign =>
  rintro l pre ⟨⟨j, p⟩, hp⟩ W K ⟨⟨v, hv, hrow, hG⟩, hB2, hle⟩ hK
  have hzW : W4.heap.size ≤ W.heap.size := hB2.2.2.2.1
  have HKK : Hid (type_of% hK) := hK
  have HB2 : Hid (type_of% hB2) := hB2
  have old : ∀ (o : Obj) (x : Nat), x < W4.heap.size → (W.alloc o).heap[x]? = W.heap[x]? := fun o x hx' => (MapKept.heap_alloc W o).2 x (by omega)
  have HI : Hid (∀ o : Obj, (∃ v, Boxed (W.alloc o) w.heap.size 163 v ∧ (W.alloc o).ownsRow base 211 2 v (L ++ cameLive pre).length (pcCells M.F (L ++ cameLive pre)) ∧ (∀ x, v.ownBlock = some x → x = gs ∨ W4.heap.size ≤ x)) ∧ But2 gs w.heap.size W4 (W.alloc o) ∧ (L ++ cameLive pre).length ≤ L.length + pre.length) := fun o => ⟨⟨v, hv.alloc _, hrow.alloc _, hG⟩, But2.own gs w.heap.size W4 () W _ none hB2 (World.grownBy_alloc W o none) (fun r e => by cases e), hle⟩
  have HK2 : Hid (∀ o : Obj, BackK g w2.heap.size W (W.alloc o)) := fun o => ⟨old o g (by omega), old o w2.heap.size (by omega)⟩
  clear hK hB2 hrow hv hG old
  rcases hp with hn | ⟨i', r', he, hq⟩
  ·have hn' : p.f = none := hn
   simp only [backV, hn', pcV]
   gi_wp2
   refine HKK.out _ _ ((KeepsOthers.alloc _ _).from _) (HK2.out _) (HI.out _) ⟨W.heap.size, hzW, ?_, ?_⟩
   ·simp only [hn', pcV]
    exact (MapKept.heap_alloc W _).1
   ·simp only [hn', pcV]
  ·have he' : p = pcF i' := he
   subst he'
   have hvv : pcV M.F (pcF i').f = .iface (ptT r'.ty.kind) (.pointer (some ⟨r'.blk, 0, none⟩)) := val_iface hq
   simp only [backV, hvv]
   generalize hPT : ptT r'.ty.kind = PT at *
   gi_wp2
   refine HKK.out _ _ ((KeepsOthers.alloc _ _).from _) (HK2.out _) (HI.out _) ⟨W.heap.size, hzW, ?_, ?_⟩
   ·simp only [hvv]
    exact (MapKept.heap_alloc W _).1
   ·simp only [hvv]
 case body =>
  rintro l pre ⟨⟨j, p⟩, hp⟩ a' W hl ⟨rr, hrr⟩ ⟨⟨v, hv, hrow, hG⟩, hB2, hle⟩ ⟨Bx, hBx, bX, rfl⟩ hlt
  have hzW : W4.heap.size ≤ W.heap.size := hB2.2.2.2.1
  have hlL : (L ++ cameLive pre).length ≤ L.length + 4194320 := by omega
  have cL := hv.cell
  obtain ⟨av, cv, hvv9⟩ := slice_own2 hrow
  subst hvv9
  rcases hp with hn | ⟨i', r', he, hq⟩
  ·have hn' : p.f = none := hn
   simp only [hn', pcV] at bX ⊢
   have x0 : W.cell? ⟨Bx, 0, none⟩ = some (.string p.s) := by rw [cell_of_row W _ 0 _ _ (0, 0) bX]; rfl
   have x1 : W.cell? ⟨Bx, 1, none⟩ = some .nilIface := by rw [cell_of_row W _ 1 _ _ (0, 0) bX]; rfl
   by_cases h0 : p.s.size = 0
   ·have hs0 : p.s = ⟨#[]⟩ := empty_bytes h0
    have HFIN : Hid ((∃ v, Boxed W w.heap.size 163 v ∧ W.ownsRow base 211 2 v (L ++ cameLive (pre ++ [(⟨(j, p), .inl hn'⟩ : BackE M.F)])).length (pcCells M.F (L ++ cameLive (pre ++ [(⟨(j, p), .inl hn'⟩ : BackE M.F)]))) ∧ (∀ x, v.ownBlock = some x → x = gs ∨ W4.heap.size ≤ x)) ∧ But2 gs w.heap.size W4 W ∧ (L ++ cameLive (pre ++ [(⟨(j, p), .inl hn'⟩ : BackE M.F)])).length ≤ L.length + (pre ++ [(⟨(j, p), .inl hn'⟩ : BackE M.F)]).length) := by
     rw [cameLive_snoc, live_no hn' h0, List.append_nil]
     exact ⟨⟨_, hv, hrow, hG⟩, hB2, by simp only [List.length_append, List.length_singleton] at hle ⊢; omega⟩
    rw [hs0] at x0
    clear hrow hv hG hB2 hle
    gi_wp2
    exact ⟨KeepsFrom.refl _ _, ⟨rfl, rfl⟩, HFIN.out⟩
   ·have hs0 : p.s.toList.isEmpty = false := by
     rw [List.isEmpty_eq_false_iff]
     intro e
     refine h0 ?_
     rw [ByteArray.toList_eq] at e
     show p.s.data.toList.length = 0
     rw [e]
     rfl
    obtain ⟨LL, hLL⟩ : ∃ l, l = L ++ cameLive pre := ⟨_, rfl⟩
    rw [← hLL] at hv hrow hG hle hlL cL
    have HLL : Hid (type_of% hLL) := hLL
    clear hLL
    obtain ⟨nL, hnL⟩ : ∃ l, l = LL.length := ⟨_, rfl⟩
    rw [← hnL] at hv hrow hle hlL cL hG
    have HNL : Hid (type_of% hnL) := hnL
    clear hnL
    have EE : Hid (L ++ cameLive (pre ++ [(⟨(j, p), .inl hn'⟩ : BackE M.F)]) = LL ++ [p]) := by
     show L ++ cameLive (pre ++ [(⟨(j, p), .inl hn'⟩ : BackE M.F)]) = LL ++ [p]
     rw [cameLive_snoc, live_yes (.inr h0), ← List.append_assoc, ← HLL.out]
    have EL : Hid ((LL ++ [p]).length = nL + 1) := by
     show (LL ++ [p]).length = nL + 1
     rw [List.length_append, HNL.out]
     rfl
    have EP : Hid (pcCells M.F [p] = [.string p.s, .nilIface]) := by
     show pcCells M.F [p] = _
     simp [pcCells, hn', pcV]
    gi_wp2_with (gi_at_builtin; refine wpListIn_append_own_at _ rfl _ _ 163 rfl base 211 i0 (.agg #[.string ⟨#[]⟩, .nilIface]) 2 32 Tryz.underlying163 hi0 hz0 hz1 hz2 rfl (by decide) _ _ _ rfl (hrow.alloc _) ⟨W.heap.size, 0, none⟩ 1 1 [.string p.s, .nilIface] rfl rfl (cells_newP (arr := #[.string p.s, .nilIface]) (MapKept.heap_alloc W _).1) (by intro u hu; simp at hu; rcases hu with rfl | rfl <;> rfl) (by unfold maxLen; omega) (by omega) (by simp; omega) ?_; intro v' w1 hown' hgrow _ hloc; obtain ⟨g', cap', hv'⟩ := owns_pos2 hown' (by omega); subst hv'; obtain ⟨hv1, hv2, hr2, hk2, _⟩ := hv.appended (by decide) hrow (by omega) hb hown' hgrow; have hc1 := hv1.cell; have hf1 := hv1.frozen)
    refine ⟨hk2.from _, ⟨app_old (v := .slice av nL cv) hzW hG hgrow g (by omega) hggs hgL, app_old (v := .slice av nL cv) hzW hG hgrow w2.heap.size (by omega) (by omega) (by omega)⟩, ⟨_, hv2, ?_, fun x9 hx9 => ?_⟩, app_but (v := .slice av nL cv) hB2 hG hgrow, ?_⟩
    ·rw [EE.out, EL.out, pcCells_app, EP.out]
     exact hr2
    ·rcases hloc with q | q
     ·exact hG x9 (q.symm.trans hx9)
     ·have q2 := q.symm.trans hx9
      simp at q2
      omega
    ·rw [EE.out, EL.out, List.length_append, List.length_singleton]
     omega
  ·have he' : p = pcF i' := he
   subst he'
   have hvv : pcV M.F (pcF i').f = .iface (ptT r'.ty.kind) (.pointer (some ⟨r'.blk, 0, none⟩)) := val_iface hq
   have EP : Hid (pcCells M.F [pcF i'] = [.string ⟨#[]⟩, .iface (ptT r'.ty.kind) (.pointer (some ⟨r'.blk, 0, none⟩))]) := by
    show pcCells M.F [pcF i'] = _
    simp only [pcCells, List.flatMap_cons, List.flatMap_nil, List.append_nil, hvv]
    rfl
   simp only [hvv] at bX ⊢
   have x0 : W.cell? ⟨Bx, 0, none⟩ = some (.string ⟨#[]⟩) := by rw [cell_of_row W _ 0 _ _ (0, 0) bX]; rfl
   have x1 : W.cell? ⟨Bx, 1, none⟩ = some (.iface (ptT r'.ty.kind) (.pointer (some ⟨r'.blk, 0, none⟩))) := by rw [cell_of_row W _ 1 _ _ (0, 0) bX]; rfl
   obtain ⟨LL, hLL⟩ : ∃ l, l = L ++ cameLive pre := ⟨_, rfl⟩
   rw [← hLL] at hv hrow hG hle hlL cL
   have HLL : Hid (type_of% hLL) := hLL
   clear hLL
   obtain ⟨nL, hnL⟩ : ∃ l, l = LL.length := ⟨_, rfl⟩
   rw [← hnL] at hv hrow hle hlL cL hG
   have HNL : Hid (type_of% hnL) := hnL
   clear hnL
   have EE : Hid (L ++ cameLive (pre ++ [(⟨(j, (pcF i')), .inr ⟨i', r', rfl, hq⟩⟩ : BackE M.F)]) = LL ++ [(pcF i')]) := by
    show L ++ cameLive (pre ++ [(⟨(j, (pcF i')), .inr ⟨i', r', rfl, hq⟩⟩ : BackE M.F)]) = LL ++ [(pcF i')]
    rw [cameLive_snoc, live_yes (.inl rfl), ← List.append_assoc, ← HLL.out]
   have EL : Hid ((LL ++ [(pcF i')]).length = nL + 1) := by
    show (LL ++ [(pcF i')]).length = nL + 1
    rw [List.length_append, HNL.out]
    rfl
   generalize hPT : ptT r'.ty.kind = PT at *
   gi_wp2_with (gi_at_builtin; refine wpListIn_append_own_at _ rfl _ _ 163 rfl base 211 i0 (.agg #[.string ⟨#[]⟩, .nilIface]) 2 32 Tryz.underlying163 hi0 hz0 hz1 hz2 rfl (by decide) _ _ _ rfl (hrow.alloc _) ⟨W.heap.size, 0, none⟩ 1 1 [.string ⟨#[]⟩, .iface PT (.pointer (some ⟨r'.blk, 0, none⟩))] rfl rfl (cells_newP (arr := #[.string ⟨#[]⟩, .iface PT (.pointer (some ⟨r'.blk, 0, none⟩))]) (MapKept.heap_alloc W _).1) (by intro u hu; simp at hu; rcases hu with rfl | rfl <;> rfl) (by unfold maxLen; omega) (by omega) (by simp; omega) ?_; intro v' w1 hown' hgrow _ hloc; obtain ⟨g', cap', hv'⟩ := owns_pos2 hown' (by omega); subst hv'; obtain ⟨hv1, hv2, hr2, hk2, _⟩ := hv.appended (by decide) hrow (by omega) hb hown' hgrow; have hc1 := hv1.cell; have hf1 := hv1.frozen)
   refine ⟨hk2.from _, ⟨app_old (v := .slice av nL cv) hzW hG hgrow g (by omega) hggs hgL, app_old (v := .slice av nL cv) hzW hG hgrow w2.heap.size (by omega) (by omega) (by omega)⟩, ⟨_, hv2, ?_, fun x9 hx9 => ?_⟩, app_but (v := .slice av nL cv) hB2 hG hgrow, ?_⟩
   ·rw [EE.out, EL.out, pcCells_app, EP.out]
    exact hr2
   ·rcases hloc with q | q
    ·exact hG x9 (q.symm.trans hx9)
    ·have q2 := q.symm.trans hx9
     simp at q2
     omega
   ·rw [EE.out, EL.out, List.length_append, List.length_singleton]
    omega
 case done =>
  rintro D ys W hD rfl ⟨⟨v, hv, hrow, hG⟩, hB2, hle⟩ hK
  have cL := hv.cell
  obtain ⟨av, cv, hvv9⟩ := slice_own2 hrow
  subst hvv9
  generalize hLL : L ++ cameLive (backTo PS htold PS.length) = LL at *
  generalize hnL : LL.length = nL at *
  have HLL : Hid (type_of% hLL) := hLL
  have HNL : Hid (type_of% hnL) := hnL
  clear hLL hnL
  gi_wp2
  refine ⟨by simp, .inl ⟨_, _, rfl, run_takeDeferred hK, ?_⟩⟩
  have hX : ∀ b, b < W4.heap.size → b ≠ gs → b ≠ w.heap.size → (W.putObj D (Obj.deferred none)).heap[b]? = W4.heap[b]? := fun b h1 h2 h3 => (World.putObj_heap_other (by omega)).trans (hB2.2.2.2.2 b h1 h2 h3)
  have hXz : (W.putObj D (Obj.deferred none)).heap.size = W.heap.size := by simp [World.putObj]
  have hzW : W4.heap.size ≤ W.heap.size := hB2.2.2.2.1
  have eLL : L ++ (livePcs (pcsOf r.ty r.kids)).reverse = LL := by rw [← HPS.out, ← came_all PS htold]; exact HLL.out
  have eW4 : W4.os = w2.os ∧ W4.tape = w2.tape ∧ W4.output = w2.output := by rw [← hW4]; exact ⟨rfl, rfl, rfl⟩
  obtain ⟨fzg, cug, hgs4⟩ : ∃ cg fg, W4.heap[gs]? = some (.cells cg 211 fg) := by
   rcases hst4.2 with ⟨q, _⟩ | ⟨g', c', cur, q, _, h3, _⟩
   ·simp at q
   ·simp only [Value.slice.injEq, Option.some.injEq, Addr.mk.injEq, true_and, and_true] at q
    obtain ⟨rfl, rfl⟩ := q
    exact ⟨_, _, h3⟩
  have hTS := HTS.out
  have hzz : (w.alloc (Obj.cells #[Value.slice (some { block := gs, off := 0 }) (L.length + 1) caps] 163)).heap.size = w.heap.size + 1 := by simp
  refine ⟨_, results_tmp rfl _ _ _, M1, _, rfl, ?_⟩
  refine { here := ?_, F := hTS.F, L := hTS.L, T := hTS.T, extL := hTS.extL, extR := fun b hb9 => (hTS.extR b hb9).imp id fun q => by omega, row := ?_, out := fun x hx9 => ?_, os := ?_, tape := ?_, output := ?_, size := by omega, old := fun b h1 h2 h3 => ?_ }
  ·refine hM4.same (fun b hm => ?_) (fun b hb9 => hX b (hM4.extok b hb9).1 (fun e => hnoG (e ▸ hb9)) fun e => hnoL (e ▸ hb9)) (by omega)
   rcases hm.2 with ⟨es, clk, q, _⟩ | ⟨c, T, fz, q, hT⟩
   ·refine hX b (Array.getElem?_eq_some_iff.1 q).1 (fun e => ?_) fun e => ?_
    ·subst e
     rw [hgs4] at q
     simp at q
    ·subst e
     rw [show W4.heap[w.heap.size]? = _ from hboxL] at q
     simp at q
   ·refine hX b (Array.getElem?_eq_some_iff.1 q).1 (fun e => ?_) fun e => ?_
    ·subst e
     rw [hgs4] at q
     simp only [Option.some.injEq, Obj.cells.injEq] at q
     rw [← q.2.1] at hT
     exact hnp hT
    ·subst e
     rw [show W4.heap[w.heap.size]? = _ from hboxL] at q
     simp only [Option.some.injEq, Obj.cells.injEq] at q
     rw [← q.2.1] at hT
     exact hnl hT
  ·rw [eLL, HNL.out]
   exact ownsRow_putObj hrow _ hK rfl
  ·rcases hG x hx9 with q | q
   ·subst q
    exact ⟨hnoG, .inl rfl⟩
   ·exact ⟨fun e => by have := (hM4.extok x e).1; omega, .inr (by omega)⟩
  ·exact hB2.1.trans (eW4.1.trans hTS.fr.os)
  ·exact hB2.2.1.trans (eW4.2.1.trans hTS.fr.tape)
  ·exact hB2.2.2.1.trans (eW4.2.2.trans hTS.fr.output)
  ·have e0 := (MapKept.heap_alloc w (Obj.cells #[Value.slice (some { block := gs, off := 0 }) (L.length + 1) caps] 163)).2 b h1
   rw [hX b (by omega) h3 (by omega), hbw4 b (by omega) (by omega), hTS.fr.old b (by omega) (fun q => h2 ((Mine.same e0).1 q))]
   exact e0
 case stop =>
  rintro D c pre W _ _ h _
  exact h.elim
end Go.Proofs.YtbojmbeopnlmiaaGreatDoor
namespace Go.Proofs.YtbojmbeopnlmiaaGreatDoor
open Go.RowKit Go.Shelf
def cutL (L : List Pc) (s : ByteArray) (c : Nat) : List Pc := if s.size ≤ c then L else L ++ [⟨s.extract c s.size, none⟩]
theorem set_top {α : Type} (a : List α) (x y z : α) : (a ++ [x, y]).set a.length z = a ++ [z, y] := by
 rw [List.set_append_right _ _ (Nat.le_refl _), Nat.sub_self]
 rfl
theorem pcCells_one (F : List FRec) (s : ByteArray) : pcCells F [⟨s, none⟩] = [.string s, .nilIface] := by simp [pcCells, pcV]
theorem but_set (w : World) (g j : Nat) (u : Value) : But g w (w.setCell ⟨g, j, none⟩ u) := ⟨rfl, rfl, rfl, by simp, fun b hb => Below.heap_setCell _ _ _ _ hb⟩
set_option maxRecDepth 100000 in
set_option maxHeartbeats 400000 in
theorem implCutFirst (F : List FRec) (L : List Pc) (s : ByteArray) (c : Nat) (base gs caps : Nat) (w : World) (hL : L.length ≤ 2199023255552) (hst : w.ownsRow base 211 2 (.slice (some ⟨gs, 0, none⟩) (L.length + 1) caps) (L.length + 1) (pcCells F (L ++ [⟨s, none⟩]))) (hc : c ≤ s.size) :
  Calls Tryz.prog 153 #[.slice (some ⟨gs, 0, none⟩) (L.length + 1) caps, .int .i64 (c : Nat)] w fun e w' => ∃ k, e = .returned (.slice (some ⟨gs, 0, none⟩) k caps) ∧ But gs w w' ∧ k = (cutL L s c).length ∧ w'.ownsRow base 211 2 (.slice (some ⟨gs, 0, none⟩) k caps) k (pcCells F (cutL L s c)) := by
 have hcap : L.length + 1 ≤ caps := by
  rcases hst.2 with ⟨q, _⟩ | ⟨g', c', cur, q, _, _, h1, _⟩
  ·simp at q
  ·simp only [Value.slice.injEq] at q
   omega
 rw [pcCells_app, pcCells_one] at hst
 have x0 : w.cell? ⟨gs, L.length * 2, none⟩ = some (.string s) := by
  have h := hst.cells (g := gs) rfl (L.length * 2) (.string s) (by
   rw [List.getElem?_append_right (by rw [pcCells_len]; omega), pcCells_len, Nat.sub_self]
   rfl)
  have e : ((⟨gs, 0, none⟩ : Addr).add (L.length * 2)) = ⟨gs, L.length * 2, none⟩ := by simp [Addr.add]; omega
  rw [e] at h
  exact h
 have f0 := hst.frozenAt (L.length * 2)
 have HST : Hid (type_of% hst) := hst
 clear hst
 have hli : (L.length : Int) < ((L.length + 1 : Nat) : Int) := by omega
 have h0i : (0 : Int) ≤ (L.length : Int) := by omega
 have hcapi : (L.length : Int) ≤ (caps : Int) := by omega
 have h1i : (0 : Int) ≤ (c : Int) := by omega
 have h2i : (c : Int) ≤ (s.size : Int) := by omega
 by_cases h : s.size ≤ c
 ·have e0 : s.extract c s.size = ⟨#[]⟩ := empty_bytes (by simp; omega)
  go_enter Tryz.func153, Tryz.ntmps153
  go_wp2_with fail
  go_ret
  refine ⟨_, rfl, but_set w gs _ _, ?_, ?_⟩
  ·unfold cutL
   rw [if_pos h]
  ·unfold cutL
   rw [if_pos h]
   refine own_cut2 (HST.out.stored (L.length * 2) (.string ⟨#[]⟩)).1 (by omega) ?_
   rw [← pcCells_len F L, set_top, List.take_left' rfl]
 ·have e0 : (s.extract c s.size).toList.isEmpty = false := by
   rw [List.isEmpty_eq_false_iff]
   intro e
   rw [ByteArray.toList_eq] at e
   have h2 : (s.extract c s.size).data.toList.length = 0 := by rw [e]; rfl
   have h3 : (s.extract c s.size).size = 0 := h2
   simp at h3
   omega
  generalize hT : s.extract c s.size = T at *
  go_enter Tryz.func153, Tryz.ntmps153
  go_wp2_with fail
  go_ret
  refine ⟨_, rfl, but_set w gs _ _, ?_, ?_⟩
  ·unfold cutL
   rw [if_neg h, List.length_append]
   rfl
  ·unfold cutL
   rw [if_neg h, hT, pcCells_app, pcCells_one]
   have := (HST.out.stored (L.length * 2) (.string T)).1
   rw [← pcCells_len F L, set_top] at this
   rw [pcCells_len] at this
   exact this
theorem bt_head (s : ByteArray) (c : Nat) : bt (s.extract 0 c) = (bt s).take c := by
 unfold bt
 rw [ByteArray.data_extract, Array.toList_extract]
 simp [List.extract]
theorem bt_tail (s : ByteArray) (c : Nat) : bt (s.extract c s.size) = (bt s).drop c := by
 unfold bt
 rw [ByteArray.data_extract, Array.toList_extract]
 simp only [List.extract]
 refine List.take_of_length_le ?_
 rw [List.length_drop]
 exact Nat.le_refl _
structure CmpSt (F : List FRec) (a b : List UInt8) (L K : List Pc) : Prop where
 left : ∀ p ∈ L, Live F p
 right : ∀ p ∈ K, Live F p
 alike : Alike a b (stTxt F L) (stTxt F K)
 lenL : (stTxt F L).length ≤ a.length
 lenR : (stTxt F K).length ≤ b.length
theorem stTxt_one {F : List FRec} {i : Nat} {r : FRec} (h : F[i]? = some r) : stTxt F [pcF i] = bt r.ty.txt := by
 have := stTxt_push F [] (pcF i)
 rw [List.nil_append, pcF_txt, txtAt_some h] at this
 rw [this]
 simp [stTxt, pcsTxt]
theorem CmpSt.start {F : List FRec} {i j : Nat} {r q : FRec} (hr : F[i]? = some r) (hq : F[j]? = some q) (h1 : Ty.ok r.ty) (h2 : Ty.ok q.ty) : CmpSt F (bt r.ty.txt) (bt q.ty.txt) [pcF i] [pcF j] := by
 refine ⟨fun p hp => ?_, fun p hp => ?_, ?_, ?_, ?_⟩
 ·rw [List.mem_singleton] at hp
  exact .inr ⟨i, r, hp, hr, h1⟩
 ·rw [List.mem_singleton] at hp
  exact .inr ⟨j, q, hp, hq, h2⟩
 ·rw [stTxt_one hr, stTxt_one hq]
  exact Alike.refl _ _
 ·rw [stTxt_one hr]
  exact Nat.le_refl _
 ·rw [stTxt_one hq]
  exact Nat.le_refl _
theorem CmpSt.same {F : List FRec} {a b : List UInt8} {L K : List Pc} {p : Pc} (h : CmpSt F a b (L ++ [p]) (K ++ [p])) : CmpSt F a b L K := by
 have ha := h.alike
 have hl := h.lenL
 have hr := h.lenR
 rw [stTxt_push] at hl hr
 rw [stTxt_push, stTxt_push] at ha
 rw [List.length_append] at hl hr
 exact ⟨fun q hq => h.left q (List.mem_append_left _ hq), fun q hq => h.right q (List.mem_append_left _ hq), ha.trans (Alike.cut _ _ _), by omega, by omega⟩
theorem load_push (F : List FRec) (L : List Pc) (p : Pc) : loadOf F (L ++ [p]) = loadOf F L + p.load F := by
 rw [loadOf_app]
 simp [loadOf]
theorem live_open {F : List FRec} {r : FRec} (ht : Ty.ok r.ty) (hk : KidsOf F r.kids r.ty.kids) : ∀ p ∈ (livePcs (pcsOf r.ty r.kids)).reverse, Live F p := fun p hp => by
 have hp' := List.mem_filter.1 (List.mem_reverse.1 hp)
 rcases pcs_one (fun c => hk.ne (fn_kids ht c)) p hp'.1 with q | ⟨j, hj, e⟩
 ·have h2 := hp'.2
  rw [q] at h2
  exact .inl ⟨q, Nat.pos_of_ne_zero (by simpa only [Option.isSome_none, Bool.false_or, decide_eq_true_eq] using h2)⟩
 ·obtain ⟨jj, hjj, rfl⟩ := List.getElem_of_mem hj
  obtain ⟨q, hq, hq2⟩ := hk.2 jj hjj
  exact .inr ⟨_, q, e, hq, ht.kid (List.mem_of_getElem? hq2)⟩
theorem CmpSt.openL {F : List FRec} {a b : List UInt8} {L K : List Pc} {i : Nat} {r : FRec} (h : CmpSt F a b (L ++ [pcF i]) K) (hr : F[i]? = some r) (ht : Ty.ok r.ty) (hk : KidsOf F r.kids r.ty.kids) : CmpSt F a b (L ++ (livePcs (pcsOf r.ty r.kids)).reverse) K := by
 refine ⟨fun p hp => ?_, h.right, ?_, ?_, h.lenR⟩
 ·rcases List.mem_append.1 hp with q | q
  ·exact h.left p (List.mem_append_left _ q)
  ·exact live_open ht hk p q
 ·rw [stTxt_open hr ht hk]
  exact h.alike
 ·rw [stTxt_open hr ht hk]
  exact h.lenL
theorem CmpSt.openR {F : List FRec} {a b : List UInt8} {L K : List Pc} {i : Nat} {r : FRec} (h : CmpSt F a b L (K ++ [pcF i])) (hr : F[i]? = some r) (ht : Ty.ok r.ty) (hk : KidsOf F r.kids r.ty.kids) : CmpSt F a b L (K ++ (livePcs (pcsOf r.ty r.kids)).reverse) := by
 refine ⟨h.left, fun p hp => ?_, ?_, h.lenL, ?_⟩
 ·rcases List.mem_append.1 hp with q | q
  ·exact h.right p (List.mem_append_left _ q)
  ·exact live_open ht hk p q
 ·rw [stTxt_open hr ht hk]
  exact h.alike
 ·rw [stTxt_open hr ht hk]
  exact h.lenR
theorem stTxt_cut (F : List FRec) (L : List Pc) (s : ByteArray) (c : Nat) : stTxt F (cutL L s c) = (bt s).drop c ++ stTxt F L := by
 unfold cutL
 split
 ·rename_i h
  have : (bt s).drop c = [] := List.drop_eq_nil_iff.2 h
  rw [this, List.nil_append]
 ·rw [stTxt_push]
  congr 1
  exact bt_tail s c
theorem stTxt_text (F : List FRec) (L : List Pc) (s : ByteArray) : stTxt F (L ++ [⟨s, none⟩]) = bt s ++ stTxt F L := stTxt_push F L _
theorem live_cut {F : List FRec} {L : List Pc} {s : ByteArray} {c : Nat} (h : ∀ p ∈ L, Live F p) : ∀ p ∈ cutL L s c, Live F p := fun p hp => by
 unfold cutL at hp
 split at hp
 ·exact h p hp
 ·rename_i hc
  rcases List.mem_append.1 hp with q | q
  ·exact h p q
  ·rw [List.mem_singleton] at q
   subst q
   exact .inl ⟨rfl, by simp; omega⟩
theorem CmpSt.cut {F : List FRec} {a b : List UInt8} {L K : List Pc} {s t : ByteArray} {c : Nat} (h : CmpSt F a b (L ++ [⟨s, none⟩]) (K ++ [⟨t, none⟩])) (he : bt (s.extract 0 c) = bt (t.extract 0 c)) : CmpSt F a b (cutL L s c) (cutL K t c) := by
 have ha := h.alike
 have hl := h.lenL
 have hr := h.lenR
 rw [stTxt_text] at hl hr
 rw [stTxt_text, stTxt_text] at ha
 rw [List.length_append] at hl hr
 refine ⟨live_cut fun q hq => h.left q (List.mem_append_left _ hq), live_cut fun q hq => h.right q (List.mem_append_left _ hq), ?_, ?_, ?_⟩
 ·rw [stTxt_cut, stTxt_cut]
  rw [bt_head, bt_head] at he
  have e1 : bt s ++ stTxt F L = (bt s).take c ++ ((bt s).drop c ++ stTxt F L) := by rw [← List.append_assoc, List.take_append_drop]
  have e2 : bt t ++ stTxt F K = (bt s).take c ++ ((bt t).drop c ++ stTxt F K) := by rw [he, ← List.append_assoc, List.take_append_drop]
  rw [e1, e2] at ha
  exact ha.trans (Alike.cut _ _ _)
 ·rw [stTxt_cut, List.length_append, List.length_drop]
  omega
 ·rw [stTxt_cut, List.length_append, List.length_drop]
  omega
theorem load_text (F : List FRec) (L : List Pc) (s : ByteArray) : loadOf F (L ++ [⟨s, none⟩]) = loadOf F L + s.size := load_push F L _
theorem load_cut (F : List FRec) (L : List Pc) (s : ByteArray) (c : Nat) : loadOf F (cutL L s c) = loadOf F L + (s.size - c) := by
 unfold cutL
 split
 ·omega
 ·rw [load_text]
  simp
theorem cmpB_zero : ∀ (s t : List UInt8), Lib.compareBytes s t = 0 ↔ s = t
 | [], [] => by simp [Lib.compareBytes]
 | [], _ :: _ => by simp [Lib.compareBytes]
 | _ :: _, [] => by simp [Lib.compareBytes]
 | x :: s, y :: t => by
  unfold Lib.compareBytes
  by_cases h : x < y
  ·rw [if_pos h]
   have : x ≠ y := fun e => UInt8.lt_irrefl y (e ▸ h)
   simp [this]
  ·by_cases h2 : y < x
   ·rw [if_neg h, if_pos h2]
    have : x ≠ y := fun e => UInt8.lt_irrefl y (e ▸ h2)
    simp [this]
   ·rw [if_neg h, if_neg h2, cmpB_zero s t]
    have : x = y := UInt8.le_antisymm (UInt8.not_lt.1 h2) (UInt8.not_lt.1 h)
    simp [this]
theorem cmpB_neg : ∀ (s t : List UInt8), Lib.compareBytes s t < 0 ↔ s < t
 | [], [] => by simp [Lib.compareBytes]
 | [], _ :: _ => by simp [Lib.compareBytes]
 | _ :: _, [] => by simp [Lib.compareBytes]
 | x :: s, y :: t => by
  unfold Lib.compareBytes
  rw [List.cons_lt_cons_iff]
  by_cases h : x < y
  ·rw [if_pos h]
   simp [h]
  ·by_cases h2 : y < x
   ·rw [if_neg h, if_pos h2]
    have : x ≠ y := fun e => UInt8.lt_irrefl y (e ▸ h2)
    simp [this, h]
   ·rw [if_neg h, if_neg h2, cmpB_neg s t]
    have : x = y := UInt8.le_antisymm (UInt8.not_lt.1 h2) (UInt8.not_lt.1 h)
    subst this
    simp [h]
def Orders (o : Int) (a b : List UInt8) : Prop := (o < 0 ↔ a < b) ∧ (o = 0 ↔ a = b)
theorem CmpSt.part {F : List FRec} {a b : List UInt8} {L K : List Pc} {s t : ByteArray} {c : Nat} (h : CmpSt F a b (L ++ [⟨s, none⟩]) (K ++ [⟨t, none⟩])) (h1 : c ≤ s.size) (h2 : c ≤ t.size) (he : Lib.compareBytes (bt (s.extract 0 c)) (bt (t.extract 0 c)) ≠ 0) : Orders (Lib.compareBytes (bt (s.extract 0 c)) (bt (t.extract 0 c))) a b := by
 have ha := h.alike
 rw [stTxt_text, stTxt_text] at ha
 have hne : (bt s).take c ≠ (bt t).take c := fun e => he ((cmpB_zero _ _).2 (by rw [bt_head, bt_head, e]))
 have e1 : bt s ++ stTxt F L = (bt s).take c ++ ((bt s).drop c ++ stTxt F L) := by rw [← List.append_assoc, List.take_append_drop]
 have e2 : bt t ++ stTxt F K = (bt t).take c ++ ((bt t).drop c ++ stTxt F K) := by rw [← List.append_assoc, List.take_append_drop]
 rw [e1, e2] at ha
 have l1 : (bt s).length = s.size := rfl
 have l2 : (bt t).length = t.size := rfl
 have hp := ha.trans (Alike.part _ _ ((bt s).drop c ++ stTxt F L) ((bt t).drop c ++ stTxt F K) (by rw [List.length_take, List.length_take, l1, l2]; omega) hne)
 unfold Orders
 rw [cmpB_neg, cmpB_zero, bt_head, bt_head]
 exact ⟨hp.1.symm, hp.2.symm⟩
theorem CmpSt.ends {F : List FRec} {a b : List UInt8} {L K : List Pc} (h : CmpSt F a b L K) (he : L = [] ∨ K = []) : Orders (Lib.compareInt L.length K.length) a b := by
 have ha := h.alike
 have h1 := live_txt h.left
 have h2 := live_txt h.right
 have e0 : stTxt F [] = [] := rfl
 unfold Orders Lib.compareInt
 rw [ha.1, ha.2]
 rcases he with rfl | rfl
 ·rw [e0]
  cases K with
  | nil => simp [e0]
  | cons p K =>
   cases hx : stTxt F (p :: K) with
   | nil => rw [hx] at h2; simp at h2
   | cons y ys => simp
 ·rw [e0]
  cases L with
  | nil => simp [e0]
  | cons p L =>
   cases hx : stTxt F (p :: L) with
   | nil => rw [hx] at h1; simp at h1
   | cons y ys => simp; omega
end Go.Proofs.YtbojmbeopnlmiaaGreatDoor
namespace Go.Proofs
open Go.Shelf
def Tryz.lays106_ren : Go.Shelf.Ren := ⟨fun | 106 => 152 | 213 => 173 | 265 => 185 | n => n, fun | 9 => 9 | 3 => 3 | n => n, fun | n => n⟩
theorem Tryz.lays106 : Go.Proofs.Lays.n106 Tryz.prog Tryz.lays106_ren := {
 mixed := by kernel_rfl
 f106 := Tryz.func152.trans (congrArg some (by kernel_rfl))
 f213 := Tryz.func173.trans (congrArg some (by kernel_rfl))
 f265 := Tryz.func185.trans (congrArg some (by kernel_rfl))
 t3 := Tryz.underlying3
 a3 := Tryz.isAgg3
 z3 := Tryz.sizeOf3
 v3 := Tryz.zeroValue3
 t9 := Tryz.underlying9
 a9 := Tryz.isAgg9
 z9 := Tryz.sizeOf9
 v9 := Tryz.zeroValue9 }
open Go.RowKit in
theorem Tryz.strings_Compare (a b : ByteArray) (w : World) :
  Calls Tryz.prog 152 #[.string a, .string b] w fun e w' => e = .returned (.int .i64 (Lib.compareBytes a.data.toList b.data.toList)) ∧ w' = w := Any.strings_Compare Tryz.lays106 a b w
def Tryz.lays122_ren : Go.Shelf.Ren := ⟨fun | 122 => 156 | 215 => 176 | n => n, fun | 3 => 3 | 4 => 4 | n => n, fun | n => n⟩
theorem Tryz.lays122 : Go.Proofs.Lays.n122 Tryz.prog Tryz.lays122_ren := {
 mixed := by kernel_rfl
 f122 := Tryz.func156.trans (congrArg some (by kernel_rfl))
 f215 := Tryz.func176.trans (congrArg some (by kernel_rfl))
 t3 := Tryz.underlying3
 a3 := Tryz.isAgg3
 z3 := Tryz.sizeOf3
 v3 := Tryz.zeroValue3
 t4 := Tryz.underlying4
 a4 := Tryz.isAgg4
 z4 := Tryz.sizeOf4
 v4 := Tryz.zeroValue4 }
open Go.RowKit in
theorem Tryz.cmp_Compare_int (x y : Int) (w : World) :
  Calls Tryz.prog 156 #[.int .i64 x, .int .i64 y] w fun e w' => e = .returned (.int .i64 (Lib.compareInt x y)) ∧ w' = w := Any.cmp_Compare_int Tryz.lays122 x y w
end Go.Proofs
