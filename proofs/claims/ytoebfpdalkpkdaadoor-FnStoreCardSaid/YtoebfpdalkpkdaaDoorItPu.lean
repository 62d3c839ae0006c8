/-
  What a store is with an item put; the walk of a stock's put.
-/
import Derived.Test.YtoebfpdalkpkdaaDoorItGt
import Derived.Test.YtoebfpdalkpkdaaDoorItE
import Derived.Deep.CutRange
namespace Go.Proofs.YtoebfpdalkpkdaaDoor
open Go.RowKit
open Go.MuLone

/-- the items but for that of an input -/
def RestIs (es : List Itm) (s : ByteArray) (R : List Itm) : Prop :=
  ((∀ j (hj : j < es.length), es[j].2.1 ≠ s) ∧ R = es) ∨ ∃ j, ∃ hj : j < es.length, es[j].2.1 = s ∧ (∀ i (hi : i < j), (es[i]'(by omega)).2.1 ≠ s) ∧ R = es.eraseIdx j

theorem three_cells {W : World} {b : Nat} {y0 y1 y2 : Value} {t : TypeId} (h : W.heap[b]? = some (.cells #[y0, y1, y2] t (0, 0))) : W.cell? ⟨b, 0, none⟩ = some y0 ∧ W.cell? ⟨b, 1, none⟩ = some y1 ∧ W.cell? ⟨b, 2, none⟩ = some y2 := by
  refine ⟨?_, ?_, ?_⟩
  · rw [cell_of_row W b 0 _ _ (0, 0) h]; rfl
  · rw [cell_of_row W b 1 _ _ (0, 0) h]; rfl
  · rw [cell_of_row W b 2 _ _ (0, 0) h]; rfl

set_option maxHeartbeats 3200000 in
set_option maxRecDepth 100000 in
theorem stkPut (B sb M : Nat) (room : Int) (a : Option Addr) (c : Nat) (es R : List Itm) (x0 x1 x2 : ByteArray) (w : World) (h : Stk B w sb M 0 room (.slice a es.length c) es) (hT : TMap w M (stoD es es.length)) (hR : RestIs es x1 R) (hr0 : 0 ≤ room) (hr1 : room ≤ 100) (her : (es.length : Int) ≤ room) :
    Calls Tryd.prog 35 #[.pointer (some ⟨sb, 0, none⟩), .agg #[.string x0, .string x1, .string x2]] w fun e w' => e = .returned (.tuple #[]) ∧ ∃ v', Stk B w' sb M 0 room v' (((x0, x1, x2) :: R).take room.toNat) ∧ Below B w w' := by
  obtain ⟨i0, hi0, hz0, hz1, hz2⟩ := info_parts Tryd.infoItem
  have hsl : sb < w.heap.size := (Array.getElem?_eq_some_iff.1 h.box).1
  have hMl := h.map.lt
  have hBw : B ≤ w.heap.size := by have := h.bs; omega
  have bX : Below w.heap.size w (w.alloc (.cells #[.string x0, .string x1, .string x2] 50)) := (Below.refl _ _).alloc (Nat.le_refl _) _
  have hX := h.below bX
  obtain ⟨s0, f0⟩ : (w.alloc (.cells #[.string x0, .string x1, .string x2] 50)).cell? ⟨sb, 0, none⟩ = some (.int .i32 0) ∧ (w.alloc (.cells #[.string x0, .string x1, .string x2] 50)).frozen? ⟨sb, 0, none⟩ = false := ⟨(block5 hX.box).1.1, (block5 hX.box).2 0⟩
  have h1 := hX.lock 1
  have u0 : ((w.alloc (.cells #[.string x0, .string x1, .string x2] 50)).setCell ⟨sb, 0, none⟩ (.int .i32 1)).heap[w.heap.size]? = some (.cells #[.string x0, .string x1, .string x2] 50 (0, 0)) := by
    rw [Below.heap_setCell _ _ _ _ (by simp; omega)]
    exact (MapKept.heap_alloc w _).1
  have hb1 : Below B w ((w.alloc (.cells #[.string x0, .string x1, .string x2] 50)).setCell ⟨sb, 0, none⟩ (.int .i32 1)) := ((Below.refl _ _).alloc hBw _).setCell h.bs _
  have hT1 : TMap ((w.alloc (.cells #[.string x0, .string x1, .string x2] 50)).setCell ⟨sb, 0, none⟩ (.int .i32 1)) M (stoD es es.length) := (hT.same (bX.block M hMl)).set h.neM.symm
  obtain ⟨z, kb, hlk, hcase⟩ : ∃ (z : Value) (kb : Bool), (∀ q, Sem.run Tryd.prog (Instr.lookup 80 (.map (some M)) (.string x1) true) (((w.alloc (.cells #[.string x0, .string x1, .string x2] 50)).setCell ⟨sb, 0, none⟩ (.int .i32 1)).drewN q) = .ok (.tuple #[z, .bool kb]) (((w.alloc (.cells #[.string x0, .string x1, .string x2] 50)).setCell ⟨sb, 0, none⟩ (.int .i32 1)).drewN q)) ∧ ((kb = false ∧ R = es) ∨ (kb = true ∧ ∃ j, ∃ _ : j < es.length, z = .int .i64 (j : Nat) ∧ R = es.eraseIdx j)) := by
    rcases hR with ⟨hno, rfl⟩ | ⟨j, hj, he, hf, rfl⟩
    · exact ⟨_, false, fun q => lookTkNo (W := ((w.alloc (.cells #[.string x0, .string x1, .string x2] 50)).setCell ⟨sb, 0, none⟩ (.int .i32 1)).drewN q) (hT1.same rfl) x1 (stoD_none _ _ (Nat.le_refl _) x1 hno), .inl ⟨rfl, rfl⟩⟩
    · exact ⟨_, true, fun q => lookTk (W := ((w.alloc (.cells #[.string x0, .string x1, .string x2] 50)).setCell ⟨sb, 0, none⟩ (.int .i32 1)).drewN q) (hT1.same rfl) x1 _ (stoD_some _ _ (Nat.le_refl _) x1 j hj he hf), .inr ⟨rfl, j, hj, rfl, rfl⟩⟩
  have HCA : Hid (type_of% hcase) := hcase
  have s4 := (block5 h1.box).1.2.2.2.2
  have k1 := (three_cells u0).2.1
  have H1 : Hid (type_of% h1) := h1
  have hwz : w.heap.size < ((w.alloc (.cells #[.string x0, .string x1, .string x2] 50)).setCell ⟨sb, 0, none⟩ (.int .i32 1)).heap.size := by simp
  have hgw : ∀ g, (Value.slice a es.length c).ownBlock = some g → g < w.heap.size := fun g e => (h.row.lt g e).2
  clear h hT hR hX h1 hT1 hcase bX
  generalize hA1 : w.alloc (.cells #[.string x0, .string x1, .string x2] 50) = A1 at *
  go_enter_defers Tryd.func35, Tryd.ntmps35
  go_wp2_with (go_at_call 54; refine (lock_free Tryd.muLib ⟨sb, 0, none⟩ _ s0 f0).mono ?_; rintro e w' ⟨rfl, rfl⟩)
  clear hA1
  generalize A1.setCell ⟨sb, 0, none⟩ (.int .i32 1) = Y0 at *
  clear s0 f0
  go_quiet (fail)
  go_upto_if 24 with fail
  have hsl1 : sb < Y0.heap.size := by omega
  have HY : Hid (∀ q, Y0.drewN q = Y0.drewN q) := fun _ => rfl
  have H2 : Hid (Stk B (Y0.drewN nq) sb M 1 room (.slice a es.length c) es) := ⟨H1.out.box, H1.out.row, H1.out.map, H1.out.bs, H1.out.bm⟩
  have u2 : (Y0.drewN nq).heap[w.heap.size]? = some (.cells #[.string x0, .string x1, .string x2] 50 (0, 0)) := u0
  have hb2 : Below B w (Y0.drewN nq) := hb1.trans ⟨rfl, rfl, rfl, Nat.le_refl _, fun _ _ => rfl⟩
  have hwz2 : w.heap.size < (Y0.drewN nq).heap.size := hwz
  clear hlk H1 u0 hb1 hwz s4 k1 HY hsl1
  generalize Y0.drewN nq = Y at *
  go_cut [4] from 23 to 39 (fun p wx => ∃ (t : Nat) (es2 : List Itm) (g2 c2 : Nat), p = .int .i64 t ∧ Stk B wx sb M 1 room (.slice (some ⟨g2, 0, none⟩) es2.length c2) es2 ∧ t < es2.length ∧ es2.length ≤ 101 ∧ es2.eraseIdx t = R ∧ wx.heap[w.heap.size]? = some (.cells #[.string x0, .string x1, .string x2] 50 (0, 0)) ∧ (g2 = w.heap.size → t = 0) ∧ Below B w wx)
  case first =>
    have s3 : Y.cell? ⟨sb, 3, none⟩ = some (.slice a es.length c) := (block5 H2.out.box).1.2.2.2.1
    have f3 : Y.frozen? ⟨sb, 3, none⟩ = false := (block5 H2.out.box).2 3
    obtain ⟨c0, c1, c2⟩ := three_cells u2
    rcases HCA.out with ⟨rfl, hRe⟩ | ⟨rfl, j, hj, rfl, hRe⟩
    · have HRE : Hid (type_of% hRe) := hRe
      have bX : Below Y.heap.size Y (Y.alloc (.cells #[.string x0, .string x1, .string x2] 50)).drew := ((Below.refl _ _).alloc (Nat.le_refl _) _).drew
      have hX := H2.out.below bX
      have uX : (Y.alloc (.cells #[.string x0, .string x1, .string x2] 50)).drew.heap[Y.heap.size]? = some (.cells #[.string x0, .string x1, .string x2] 50 (0, 0)) := (MapKept.heap_alloc Y _).1
      have HCE : Hid (∀ j u, (itV [((x0, x1, x2) : Itm)])[j]? = some u → (Y.alloc (.cells #[.string x0, .string x1, .string x2] 50)).drew.cell? ((⟨Y.heap.size, 0, none⟩ : Addr).add j) = some u) := fun j u hu => by
        obtain ⟨k0, k1, k2⟩ := three_cells uX
        rw [Addr.add_lit]
        match j, hu with
        | 0, hu => exact k0.trans hu
        | 1, hu => exact k1.trans hu
        | 2, hu => exact k2.trans hu
        | j + 3, hu => simp [itV] at hu
      have hOW : Hid ((Y.alloc (.cells #[.string x0, .string x1, .string x2] 50)).drew.ownsRow B 50 3 (.slice a es.length c) es.length (itV es)) := hX.row
      have HST : Hid (∀ (w5 : World) (v5 : Value), w5.ownsRow B 50 3 v5 (es.length + 1) (itV es ++ itV [((x0, x1, x2) : Itm)]) → (Y.alloc (.cells #[.string x0, .string x1, .string x2] 50)).drew.grownBy w5 (Value.slice a es.length c).ownBlock → (v5 = .slice none 0 0 ↔ (Value.slice a es.length c = .slice none 0 0 ∧ (1 : Nat) = 0)) → w5.cell? ⟨sb, 3, none⟩ = some (.slice a es.length c) ∧ w5.frozen? ⟨sb, 3, none⟩ = false ∧ ∃ g2 c2, v5 = .slice (some ⟨g2, 0, none⟩) (es.length + 1) c2 ∧ Hid (Stk B (w5.setCell ⟨sb, 3, none⟩ v5) sb M 1 room v5 (es ++ [((x0, x1, x2) : Itm)]) ∧ (w5.setCell ⟨sb, 3, none⟩ v5).heap[w.heap.size]? = some (.cells #[.string x0, .string x1, .string x2] 50 (0, 0)) ∧ (g2 = w.heap.size → es.length = 0) ∧ Below B w (w5.setCell ⟨sb, 3, none⟩ v5))) := fun w5 v5 ho hg hiff => by
        rw [← itV_app] at ho
        obtain ⟨g2, c2, hv⟩ := own_someI ho (fun e => by
          have := (hiff.1 e).2
          omega)
        subst hv
        have hsz : (Y.alloc (.cells #[.string x0, .string x1, .string x2] 50)).drew.heap.size = Y.heap.size + 1 := by simp
        have hsY : sb < Y.heap.size := (Array.getElem?_eq_some_iff.1 H2.out.box).1
        have hMY := H2.out.map.lt
        have q1 := (hg.block sb (by omega) (fun e => (H2.out.neRow e.symm).1 rfl)).trans hX.box
        have q2 := hg.block M (by omega) (fun e => (H2.out.neRow e.symm).2 rfl)
        have q3 := (hg.block w.heap.size (by omega) (fun e => absurd (hgw _ e.symm) (Nat.lt_irrefl _))).trans ((bX.block _ hwz2).trans u2)
        have hbY : Below B w (Y.alloc (.cells #[.string x0, .string x1, .string x2] 50)).drew := hb2.trans (bX.mono (by omega))
        have hb5 : Below B w w5 := hbY.grown hg (by omega) (fun k hk => (H2.out.row.lt k hk).1)
        have hne2 : g2 ≠ sb ∧ (g2 = w.heap.size → es.length = 0) := by
          rcases ho.2 with ⟨e, _⟩ | ⟨g', cap, cur, hv, hBg, hh, h1, h2, h3, h4⟩
          · cases e
          · simp only [Value.slice.injEq, Option.some.injEq, Addr.mk.injEq, and_true, true_and] at hv
            obtain ⟨rfl, rfl⟩ := hv
            refine ⟨fun e => ?_, fun e => ?_⟩
            · rw [e, q1] at hh
              cases hh
            · rw [e, q3] at hh
              simp only [Option.some.injEq, Obj.cells.injEq, and_true] at hh
              obtain rfl := hh
              have h3' : (3 : Nat) = c2 * 3 := h3
              omega
        refine ⟨(block5 q1).1.2.2.2.1, (block5 q1).2 3, g2, c2, rfl, ⟨(heap_set5 q1 _).2, ?_, (hX.map.same q2).same (Below.heap_setCell _ _ _ _ (by simpa using H2.out.neM.symm)), H2.out.bs, H2.out.bm⟩, ?_, hne2.2, hb5.setCell H2.out.bs _⟩
        · rw [show (es ++ [((x0, x1, x2) : Itm)]).length = es.length + 1 from by simp]
          exact itLow ho (Nat.le_refl _) fun g hg => Below.heap_setCell _ _ _ _ (by
            simp only [Value.ownBlock, Option.some.injEq] at hg
            subst hg
            simpa using hne2.1)
        · rw [Below.heap_setCell _ _ _ _ (by simp; omega)]
          exact q3
      have hBX : B ≤ (Y.alloc (.cells #[.string x0, .string x1, .string x2] 50)).drew.heap.size := by
        have := hX.bs
        have := (Array.getElem?_eq_some_iff.1 hX.box).1
        omega
      have hl1 : es.length ≤ 100 := by omega
      have s3X : (Y.alloc (.cells #[.string x0, .string x1, .string x2] 50)).cell? ⟨sb, 3, none⟩ = some (.slice a es.length c) := (block5 hX.box).1.2.2.2.1
      clear hX uX bX hb2 u2 hgw H2 HCA hRe her
      go_wp2_with fail
      refine wp_region_noPanic ?_
      go_region_law (first | (refine step_append_ownI rfl (.tmp 34) (.tmp 36) 27 rfl B 50 i0 (.agg #[.string ⟨#[]⟩, .string ⟨#[]⟩, .string ⟨#[]⟩]) 3 48 Tryd.underlying27 hi0 hz0 hz1 hz2 rfl (by decide) (.slice a es.length c) es.length (itV es) rfl hOW.out ⟨Y.heap.size, 0, none⟩ 1 1 (itV [((x0, x1, x2) : Itm)]) rfl rfl HCE.out (itV_one _) (by unfold maxLen; omega) (by omega) hBX ?_; intro v5 w5 o5 g5 n5; obtain ⟨d3, df3, g2, c2, rfl, HF⟩ := HST.out w5 v5 o5 g5 n5; clear o5 g5 n5))
      all_goals refine NoPanic.normal ?_
      all_goals
        go_wp2_with fail
        go_meet
        exact ⟨es.length, es ++ [((x0, x1, x2) : Itm)], g2, c2, rfl, by rw [show (es ++ [((x0, x1, x2) : Itm)]).length = es.length + 1 from by simp]; exact HF.out.1, by simp, by simp; omega, by rw [HRE.out, List.eraseIdx_append_of_length_le (Nat.le_refl _), Nat.sub_self]; simp, HF.out.2.1, HF.out.2.2.1, HF.out.2.2.2⟩
    · have HRE : Hid (type_of% hRe) := hRe
      obtain ⟨g, c', e', _, hgl, hcap⟩ := H2.out.some (by omega)
      simp only [Value.slice.injEq, true_and] at e'
      obtain ⟨rfl, rfl⟩ := e'
      have hng := hgw g rfl
      go_wp2_with fail
      go_meet
      exact ⟨j, es, g, c, rfl, H2.out, hj, by omega, HRE.out.symm, u2, by omega, hb2⟩
  case rest =>
    obtain ⟨t, es2, g2, c2, rfl, hS, ht, hl2, hR2, hu, hal, hbw⟩ := hcut
    obtain ⟨w1, rfl⟩ : ∃ w1, w1 = wc := ⟨_, rfl⟩
    clear H2 u2 hb2 hwz2 HCA
    have HPR : Hid ((es2.set t (x0, x1, x2))[t]'(by rw [List.length_set]; exact ht) :: (es2.set t (x0, x1, x2)).eraseIdx t = (x0, x1, x2) :: R) := by
      show _ = _
      rw [List.getElem_set_self, List.eraseIdx_set_eq, hR2]
    have ht0 : (0 : Int) ≤ (t : Int) := by omega
    have ht1 : (t : Int) < (es2.length : Int) := by omega
    go_upto_region 7 with fail
    go_cut [] from 40 to 46 (fun wx => Stk B wx sb M 1 room (.slice (some ⟨g2, 0, none⟩) es2.length c2) (es2.set t (x0, x1, x2)) ∧ Below B w wx)
    case first =>
      obtain ⟨i0, i1, i2⟩ := three_cells hu
      have hQ0 : w1.cell? ⟨sb, 3, none⟩ = some (.slice (some ⟨g2, 0, none⟩) es2.length c2) ∧ w1.cell? ⟨w.heap.size, 0, none⟩ = some (.string x0) ∧ w1.cell? ⟨w.heap.size, 1, none⟩ = some (.string x1) ∧ w1.cell? ⟨w.heap.size, 2, none⟩ = some (.string x2) := ⟨(block5 hS.box).1.2.2.2.1, i0, i1, i2⟩
      have hne := hS.neRow (g := g2) rfl
      have hR := hS.row
      have hBg := (hR.lt g2 rfl).1
      have hYl : (itV es2).length = es2.length * 3 := hR.1
      obtain ⟨S1, _⟩ := hR.stored (t * 3) (.string x0)
      obtain ⟨S2, _⟩ := S1.stored (t * 3 + 1) (.string x1)
      have q0 : ∃ u, w1.cell? ⟨g2, t * 3, none⟩ = some u := by rw [hR.cellAt (t * 3) (by omega)]; exact ⟨_, List.getElem?_eq_getElem (by omega)⟩
      have q1 : ∃ u, (w1.setCell ⟨g2, t * 3, none⟩ (.string x0)).cell? ⟨g2, t * 3 + 1, none⟩ = some u := by rw [S1.cellAt (t * 3 + 1) (by omega)]; exact ⟨_, List.getElem?_eq_getElem (by rw [List.length_set]; omega)⟩
      have q2 : ∃ u, ((w1.setCell ⟨g2, t * 3, none⟩ (.string x0)).setCell ⟨g2, t * 3 + 1, none⟩ (.string x1)).cell? ⟨g2, t * 3 + 2, none⟩ = some u := by rw [S2.cellAt (t * 3 + 2) (by omega)]; exact ⟨_, List.getElem?_eq_getElem (by rw [List.length_set, List.length_set]; omega)⟩
      obtain ⟨u0, q0⟩ := q0
      obtain ⟨u1, q1⟩ := q1
      obtain ⟨u2, q2⟩ := q2
      have f0 := hR.frozenAt (t * 3)
      have f1 := S1.frozenAt (t * 3 + 1)
      have f2 := S2.frozenAt (t * 3 + 2)
      have hP := hS.put t ht (x0, x1, x2)
      have hoth : ∀ b j u, b ≠ g2 → w1.cell? ⟨b, j, none⟩ = some u → (((w1.setCell ⟨g2, t * 3, none⟩ (.string x0)).setCell ⟨g2, t * 3 + 1, none⟩ (.string x1)).setCell ⟨g2, t * 3 + 2, none⟩ (.string x2)).cell? ⟨b, j, none⟩ = some u := fun b j u hb h => by
        rw [World.cell?_setCell_other _ _ _ _ (fun e => hb.symm (congrArg Addr.block e)), World.cell?_setCell_other _ _ _ _ (fun e => hb.symm (congrArg Addr.block e)), World.cell?_setCell_other _ _ _ _ (fun e => hb.symm (congrArg Addr.block e))]
        exact h
      have hbox : (((w1.setCell ⟨g2, t * 3, none⟩ (.string x0)).setCell ⟨g2, t * 3 + 1, none⟩ (.string x1)).setCell ⟨g2, t * 3 + 2, none⟩ (.string x2)).cell? ⟨w.heap.size, 0, none⟩ = some (.string x0) ∧ (((w1.setCell ⟨g2, t * 3, none⟩ (.string x0)).setCell ⟨g2, t * 3 + 1, none⟩ (.string x1)).setCell ⟨g2, t * 3 + 2, none⟩ (.string x2)).cell? ⟨w.heap.size, 1, none⟩ = some (.string x1) ∧ (((w1.setCell ⟨g2, t * 3, none⟩ (.string x0)).setCell ⟨g2, t * 3 + 1, none⟩ (.string x1)).setCell ⟨g2, t * 3 + 2, none⟩ (.string x2)).cell? ⟨w.heap.size, 2, none⟩ = some (.string x2) := by
        by_cases e : g2 = w.heap.size
        · obtain ⟨v0, v1, v2⟩ := itV_at (es2.set t (x0, x1, x2)) t (by rw [List.length_set]; exact ht)
          rw [List.getElem_set_self] at v0 v1 v2
          have hr := hP.row
          rw [List.length_set] at hr
          have k0 := (hr.cellAt (t * 3) (by omega)).trans v0
          have k1 := (hr.cellAt (t * 3 + 1) (by omega)).trans v1
          have k2 := (hr.cellAt (t * 3 + 2) (by omega)).trans v2
          have e0 := hal e
          subst e0
          rw [← e]
          exact ⟨k0, k1, k2⟩
        · exact ⟨hoth _ _ _ (fun h => e h.symm) i0, hoth _ _ _ (fun h => e h.symm) i1, hoth _ _ _ (fun h => e h.symm) i2⟩
      have hQ5 : (((w1.setCell ⟨g2, t * 3, none⟩ (.string x0)).setCell ⟨g2, t * 3 + 1, none⟩ (.string x1)).setCell ⟨g2, t * 3 + 2, none⟩ (.string x2)).cell? ⟨sb, 3, none⟩ = some (.slice (some ⟨g2, 0, none⟩) es2.length c2) ∧ (((w1.setCell ⟨g2, t * 3, none⟩ (.string x0)).setCell ⟨g2, t * 3 + 1, none⟩ (.string x1)).setCell ⟨g2, t * 3 + 2, none⟩ (.string x2)).cell? ⟨w.heap.size, 0, none⟩ = some (.string x0) ∧ (((w1.setCell ⟨g2, t * 3, none⟩ (.string x0)).setCell ⟨g2, t * 3 + 1, none⟩ (.string x1)).setCell ⟨g2, t * 3 + 2, none⟩ (.string x2)).cell? ⟨w.heap.size, 1, none⟩ = some (.string x1) ∧ (((w1.setCell ⟨g2, t * 3, none⟩ (.string x0)).setCell ⟨g2, t * 3 + 1, none⟩ (.string x1)).setCell ⟨g2, t * 3 + 2, none⟩ (.string x2)).cell? ⟨w.heap.size, 2, none⟩ = some (.string x2) := ⟨hoth _ _ _ hne.1.symm hQ0.1, hbox⟩
      have HEND : Hid (Stk B (((w1.setCell ⟨g2, t * 3, none⟩ (.string x0)).setCell ⟨g2, t * 3 + 1, none⟩ (.string x1)).setCell ⟨g2, t * 3 + 2, none⟩ (.string x2)) sb M 1 room (.slice (some ⟨g2, 0, none⟩) es2.length c2) (es2.set t (x0, x1, x2)) ∧ Below B w (((w1.setCell ⟨g2, t * 3, none⟩ (.string x0)).setCell ⟨g2, t * 3 + 1, none⟩ (.string x1)).setCell ⟨g2, t * 3 + 2, none⟩ (.string x2))) := ⟨hP, ((hbw.setCell hBg _).setCell hBg _).setCell hBg _⟩
      clear hP hR S1 S2 hne hYl hoth hbox hu hal hbw hS HPR hR2 i0 i1 i2 hi0 hz0 hz1 hz2
      go_region_held3 (fun w' => w'.cell? ⟨sb, 3, none⟩ = some (.slice (some ⟨g2, 0, none⟩) es2.length c2) ∧ w'.cell? ⟨w.heap.size, 0, none⟩ = some (.string x0) ∧ w'.cell? ⟨w.heap.size, 1, none⟩ = some (.string x1) ∧ w'.cell? ⟨w.heap.size, 2, none⟩ = some (.string x2)) (first | exact hQ0 | exact hQ5) (fail)
      go_wp2_with fail
      go_meet
      exact ⟨HEND.out.1.drew, HEND.out.2.drew⟩
    case rest =>
      obtain ⟨hS2, hbw2⟩ := hcut
      obtain ⟨w2, rfl⟩ : ∃ w2, w2 = wc := ⟨_, rfl⟩
      have hlR : ((x0, x1, x2) :: R).length = es2.length := by
        rw [← hR2, List.length_cons, List.length_eraseIdx, if_pos ht]
        omega
      have HK0 := stkBring B sb M t 1 room g2 c2 es2.length (es2.set t (x0, x1, x2)) w2 hS2 (by rw [List.length_set]) (by rw [List.length_set]; exact ht) (by rw [List.length_set]; omega)
      rw [HPR.out] at HK0
      have HK : Hid (type_of% HK0) := HK0
      have HLR : Hid (type_of% hlR) := hlR
      clear HK0 HPR hS hS2 hlR hR2 hu hal hbw hi0 hz0 hz1 hz2
      go_wp2_with fail
      refine HK.out.mono ?_
      rintro e w3 ⟨rfl, hS3, hb3⟩
      have s2 : w3.cell? ⟨sb, 2, none⟩ = some (.int .i64 room) := (block5 hS3.box).1.2.2.1
      rw [← HLR.out] at hS3
      have HE0 := stkKeep B sb M 1 room room _ c2 _ w3 hS3 hr0 (by omega) (by rw [HLR.out]; omega)
      rw [Nat.min_comm, ← List.take_eq_take_min] at HE0
      have HE : Hid (type_of% HE0) := HE0
      have hbw3 := hbw2.trans hb3
      clear HK HE0 hS3 hb3 hbw2
      go_wp2_with fail
      refine HE.out.mono ?_
      rintro e w4 ⟨rfl, hS4, hb4⟩
      obtain ⟨t0, g0⟩ : w4.cell? ⟨sb, 0, none⟩ = some (.int .i32 1) ∧ w4.frozen? ⟨sb, 0, none⟩ = false := ⟨(block5 hS4.box).1.1, (block5 hS4.box).2 0⟩
      have hS5 := hS4.lock 0
      have hb5 : Below B w (w4.setCell ⟨sb, 0, none⟩ (.int .i32 0)) := (hbw3.trans hb4).setCell hS4.bs _
      have HF : Hid (type_of% hS5) := hS5
      clear HE hS4 hS5 hbw3 hb4 s2
      go_wp2_with fail
      refine leaves_cons (f := 55) (args := #[.pointer (some ⟨sb, 0, none⟩)]) (by simp) (by simp [go_sem]) ?_
      refine (unlock_deferred Tryd.muLib ⟨sb, 0, none⟩ .returning _ t0 g0).mono ?_
      rintro e u' w'' ⟨rfl, rfl, rfl⟩
      exact ⟨_, results_none rfl _ _ _, rfl, _, HF.out, hb5⟩

end Go.Proofs.YtoebfpdalkpkdaaDoor
