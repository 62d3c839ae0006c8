/-
  The walks of a stock's set and bringFirst.
-/
import Derived.Test.YtoebfpdalkpkdaaDoorItK
import Derived.Test.YtoebfpdalkpkdaaDoorItV
import Derived.Deep.CutRange
namespace Go.Proofs.YtoebfpdalkpkdaaDoor
open Go.RowKit
open Go.MuLone

/-- but for blocks M and g all that was there is as it was -/
def Asd (M g : Nat) (w w' : World) : Prop := w.heap.size ≤ w'.heap.size ∧ ∀ b, b < w.heap.size → b ≠ M → b ≠ g → w'.heap[b]? = w.heap[b]?
theorem Asd.refl (M g : Nat) (w : World) : Asd M g w w := ⟨Nat.le_refl _, fun _ _ _ _ => rfl⟩
theorem Asd.trans {M g : Nat} {a b c : World} (h : Asd M g a b) (k : Asd M g b c) : Asd M g a c := ⟨Nat.le_trans h.1 k.1, fun i h1 h2 h3 => (k.2 i (Nat.lt_of_lt_of_le h1 h.1) h2 h3).trans (h.2 i h1 h2 h3)⟩
theorem Asd.of_below {M g : Nat} {w w' : World} (h : Below w.heap.size w w') : Asd M g w w' := ⟨h.size, fun b hb _ _ => h.block b hb⟩
theorem Asd.set {M g : Nat} {w w' : World} (h : Asd M g w w') (i : Nat) (u : Value) : Asd M g w (w'.setCell ⟨g, i, none⟩ u) := ⟨by simpa using h.1, fun b h1 h2 h3 => by rw [Below.heap_setCell _ _ _ _ (by simpa using h3)]; exact h.2 b h1 h2 h3⟩
theorem Asd.turn {M g : Nat} {w w' w3 : World} (h : Asd M g w w') (hb : ButT M w'.drew w3) : Asd M g w w3 := by
  have hz : w3.heap.size = w'.heap.size := hb.2.2.2.1
  refine ⟨by rw [hz]; exact h.1, fun b h1 h2 h3 => ?_⟩
  have : w3.heap[b]? = w'.heap[b]? := hb.2.2.2.2 b h2
  rw [this]
  exact h.2 b h1 h2 h3

/-- one of a stock's items put anew -/
theorem Stk.put {B : Nat} {w : World} {sb M : Nat} {lk room : Int} {g c : Nat} {es : List Itm} (h : Stk B w sb M lk room (.slice (some ⟨g, 0, none⟩) es.length c) es) (k : Nat) (hk : k < es.length) (e : Itm) : Stk B (((w.setCell ⟨g, k * 3, none⟩ (.string e.1)).setCell ⟨g, k * 3 + 1, none⟩ (.string e.2.1)).setCell ⟨g, k * 3 + 2, none⟩ (.string e.2.2)) sb M lk room (.slice (some ⟨g, 0, none⟩) es.length c) (es.set k e) := by
  have hne := h.neRow (g := g) rfl
  obtain ⟨S1, _⟩ := h.row.stored (k * 3) (.string e.1)
  obtain ⟨S2, _⟩ := S1.stored (k * 3 + 1) (.string e.2.1)
  obtain ⟨S3, _⟩ := S2.stored (k * 3 + 2) (.string e.2.2)
  rw [itV_set es k hk e] at S3
  refine ⟨?_, by rw [List.length_set]; exact S3, h.map.same ?_, h.bs, h.bm⟩
  · rw [Below.heap_setCell _ _ _ _ (by simpa using hne.1.symm), Below.heap_setCell _ _ _ _ (by simpa using hne.1.symm), Below.heap_setCell _ _ _ _ (by simpa using hne.1.symm)]
    exact h.box
  · rw [Below.heap_setCell _ _ _ _ (by simpa using hne.2.symm), Below.heap_setCell _ _ _ _ (by simpa using hne.2.symm), Below.heap_setCell _ _ _ _ (by simpa using hne.2.symm)]

theorem Stk.some {B : Nat} {w : World} {sb M : Nat} {lk room : Int} {v : Value} {es : List Itm} (h : Stk B w sb M lk room v es) (h0 : 0 < es.length) : ∃ g c, v = .slice (some ⟨g, 0, none⟩) es.length c ∧ B ≤ g ∧ g < w.heap.size ∧ es.length ≤ c := by
  rcases h.row.2 with ⟨_, e⟩ | ⟨g, c, cur, e, hg, hh, h1, _⟩
  · omega
  · exact ⟨g, c, e, hg, (Array.getElem?_eq_some_iff.1 hh).1, h1⟩
theorem Stk.drew {B : Nat} {w : World} {sb M : Nat} {lk room : Int} {v : Value} {es : List Itm} (h : Stk B w sb M lk room v es) : Stk B w.drew sb M lk room v es := ⟨h.box, h.row, h.map, h.bs, h.bm⟩

set_option maxHeartbeats 1600000 in
set_option maxRecDepth 100000 in
theorem stkSet (B sb M k : Nat) (lk room : Int) (g c : Nat) (es : List Itm) (x0 x1 x2 : ByteArray) (w : World) (h : Stk B w sb M lk room (.slice (some ⟨g, 0, none⟩) es.length c) es) (hk : k < es.length) (hlen : es.length ≤ 4194306) :
    Calls Tryd.prog 70 #[.pointer (some ⟨sb, 0, none⟩), .int .i64 k, .agg #[.string x0, .string x1, .string x2]] w fun e w' => e = .returned (.tuple #[]) ∧ Stk B w' sb M lk room (.slice (some ⟨g, 0, none⟩) es.length c) (es.set k (x0, x1, x2)) ∧ Below B w w' ∧ Asd M g w w' := by
  obtain ⟨g', c', e', hBg, hgl, hcap⟩ := h.some (by omega)
  simp only [Value.slice.injEq, Option.some.injEq, Addr.mk.injEq, and_true, true_and] at e'
  obtain ⟨rfl, rfl⟩ := e'
  have hBw : B ≤ w.heap.size := by omega
  have bX : Below w.heap.size w (w.alloc (.cells #[.string x0, .string x1, .string x2] 50)) := (Below.refl _ _).alloc (Nat.le_refl _) _
  have hX := h.below bX
  have i0 : (w.alloc (.cells #[.string x0, .string x1, .string x2] 50)).cell? ⟨w.heap.size, 0, none⟩ = some (.string x0) := itNew 0 rfl
  have i1 : (w.alloc (.cells #[.string x0, .string x1, .string x2] 50)).cell? ⟨w.heap.size, 1, none⟩ = some (.string x1) := itNew 1 rfl
  have i2 : (w.alloc (.cells #[.string x0, .string x1, .string x2] 50)).cell? ⟨w.heap.size, 2, none⟩ = some (.string x2) := itNew 2 rfl
  have hbB : Below B w (w.alloc (.cells #[.string x0, .string x1, .string x2] 50)) := (Below.refl _ _).alloc hBw _
  have hk0 : (0 : Int) ≤ (k : Int) := by omega
  have hk1 : (k : Int) < (es.length : Int) := by omega
  have HAX : Hid (Asd M g w (w.alloc (.cells #[.string x0, .string x1, .string x2] 50))) := Asd.of_below bX
  clear bX h
  go_enter Tryd.func70, Tryd.ntmps70
  go_wp2_with fail
  generalize (w.alloc (.cells #[.string x0, .string x1, .string x2] 50)) = X at *
  have H0 : Hid (type_of% hX) := hX
  go_cut [] from 6 to 12 (fun wx => Stk B wx sb M lk room (.slice (some ⟨g, 0, none⟩) es.length c) (es.set k (x0, x1, x2)) ∧ wx.cell? ⟨w.heap.size, 1, none⟩ = some (.string x1) ∧ Below B w wx ∧ Asd M g w wx)
  case first =>
    have hQ0 : X.cell? ⟨sb, 3, none⟩ = some (.slice (some ⟨g, 0, none⟩) es.length c) ∧ X.cell? ⟨w.heap.size, 0, none⟩ = some (.string x0) ∧ X.cell? ⟨w.heap.size, 1, none⟩ = some (.string x1) ∧ X.cell? ⟨w.heap.size, 2, none⟩ = some (.string x2) := ⟨(block5 hX.box).1.2.2.2.1, i0, i1, i2⟩
    have hne := hX.neRow (g := g) rfl
    have hR := hX.row
    have hYl : (itV es).length = es.length * 3 := hR.1
    obtain ⟨S1, _⟩ := hR.stored (k * 3) (.string x0)
    obtain ⟨S2, _⟩ := S1.stored (k * 3 + 1) (.string x1)
    have q0 : ∃ u, X.cell? ⟨g, k * 3, none⟩ = some u := by rw [hR.cellAt (k * 3) (by omega)]; exact ⟨_, List.getElem?_eq_getElem (by omega)⟩
    have q1 : ∃ u, (X.setCell ⟨g, k * 3, none⟩ (.string x0)).cell? ⟨g, k * 3 + 1, none⟩ = some u := by rw [S1.cellAt (k * 3 + 1) (by omega)]; exact ⟨_, List.getElem?_eq_getElem (by rw [List.length_set]; omega)⟩
    have q2 : ∃ u, ((X.setCell ⟨g, k * 3, none⟩ (.string x0)).setCell ⟨g, k * 3 + 1, none⟩ (.string x1)).cell? ⟨g, k * 3 + 2, none⟩ = some u := by rw [S2.cellAt (k * 3 + 2) (by omega)]; exact ⟨_, List.getElem?_eq_getElem (by rw [List.length_set, List.length_set]; omega)⟩
    obtain ⟨u0, q0⟩ := q0
    obtain ⟨u1, q1⟩ := q1
    obtain ⟨u2, q2⟩ := q2
    have f0 := hR.frozenAt (k * 3)
    have f1 := S1.frozenAt (k * 3 + 1)
    have f2 := S2.frozenAt (k * 3 + 2)
    have hoth : ∀ b j u, b ≠ g → X.cell? ⟨b, j, none⟩ = some u → (((X.setCell ⟨g, k * 3, none⟩ (.string x0)).setCell ⟨g, k * 3 + 1, none⟩ (.string x1)).setCell ⟨g, k * 3 + 2, none⟩ (.string x2)).cell? ⟨b, j, none⟩ = some u := fun b j u hb h => by
      rw [World.cell?_setCell_other _ _ _ _ (fun e => hb.symm (congrArg Addr.block e)), World.cell?_setCell_other _ _ _ _ (fun e => hb.symm (congrArg Addr.block e)), World.cell?_setCell_other _ _ _ _ (fun e => hb.symm (congrArg Addr.block e))]
      exact h
    have hQ5 : (((X.setCell ⟨g, k * 3, none⟩ (.string x0)).setCell ⟨g, k * 3 + 1, none⟩ (.string x1)).setCell ⟨g, k * 3 + 2, none⟩ (.string x2)).cell? ⟨sb, 3, none⟩ = some (.slice (some ⟨g, 0, none⟩) es.length c) ∧ (((X.setCell ⟨g, k * 3, none⟩ (.string x0)).setCell ⟨g, k * 3 + 1, none⟩ (.string x1)).setCell ⟨g, k * 3 + 2, none⟩ (.string x2)).cell? ⟨w.heap.size, 0, none⟩ = some (.string x0) ∧ (((X.setCell ⟨g, k * 3, none⟩ (.string x0)).setCell ⟨g, k * 3 + 1, none⟩ (.string x1)).setCell ⟨g, k * 3 + 2, none⟩ (.string x2)).cell? ⟨w.heap.size, 1, none⟩ = some (.string x1) ∧ (((X.setCell ⟨g, k * 3, none⟩ (.string x0)).setCell ⟨g, k * 3 + 1, none⟩ (.string x1)).setCell ⟨g, k * 3 + 2, none⟩ (.string x2)).cell? ⟨w.heap.size, 2, none⟩ = some (.string x2) := ⟨hoth _ _ _ hne.1.symm hQ0.1, hoth _ _ _ (by omega) i0, hoth _ _ _ (by omega) i1, hoth _ _ _ (by omega) i2⟩
    have HEND : Hid (Stk B (((X.setCell ⟨g, k * 3, none⟩ (.string x0)).setCell ⟨g, k * 3 + 1, none⟩ (.string x1)).setCell ⟨g, k * 3 + 2, none⟩ (.string x2)) sb M lk room (.slice (some ⟨g, 0, none⟩) es.length c) (es.set k (x0, x1, x2)) ∧ Below B w (((X.setCell ⟨g, k * 3, none⟩ (.string x0)).setCell ⟨g, k * 3 + 1, none⟩ (.string x1)).setCell ⟨g, k * 3 + 2, none⟩ (.string x2)) ∧ Asd M g w (((X.setCell ⟨g, k * 3, none⟩ (.string x0)).setCell ⟨g, k * 3 + 1, none⟩ (.string x1)).setCell ⟨g, k * 3 + 2, none⟩ (.string x2))) := ⟨hX.put k hk (x0, x1, x2), ((hbB.setCell hBg _).setCell hBg _).setCell hBg _, ((HAX.out.set _ _).set _ _).set _ _⟩
    clear hX hR S1 S2 hne hYl hoth H0
    go_region_held3 (fun w' => w'.cell? ⟨sb, 3, none⟩ = some (.slice (some ⟨g, 0, none⟩) es.length c) ∧ w'.cell? ⟨w.heap.size, 0, none⟩ = some (.string x0) ∧ w'.cell? ⟨w.heap.size, 1, none⟩ = some (.string x1) ∧ w'.cell? ⟨w.heap.size, 2, none⟩ = some (.string x2)) (first | exact hQ0 | exact hQ5) (fail)
    go_wp2_with fail
    go_meet
    exact ⟨HEND.out.1.drew, hQ5.2.2.1, HEND.out.2.1.drew, HEND.out.2.2⟩
  case rest =>
    obtain ⟨hS, j1, hbw, hAs⟩ := hcut
    obtain ⟨w1, rfl⟩ : ∃ w1, w1 = wc := ⟨_, rfl⟩
    clear hX H0 i0 i1 i2 hbB
    obtain ⟨w3, hrun0, hM3, hbut⟩ := run_update_any (P := Tryd.prog) (w := w1.drew) (T := 80) (k := 9) (e := 3) Tryd.underlying80 Tryd.underlying9 (hS.map.same rfl) x1 (.int .i64 k)
    have hrun : Sem.run Tryd.prog (Instr.mapUpdate 80 (.map (some M)) (.string x1) (.int .i64 k)) w1.drew = .ok () w3 := hrun0
    have s4 := (block5 hS.box).1.2.2.2.2
    have hQ0 : w1.cell? ⟨sb, 4, none⟩ = some (.map (some M)) ∧ w1.cell? ⟨w.heap.size, 1, none⟩ = some (.string x1) := ⟨s4, j1⟩
    have hQ3 : w3.cell? ⟨sb, 4, none⟩ = some (.map (some M)) ∧ w3.cell? ⟨w.heap.size, 1, none⟩ = some (.string x1) := ⟨butCell hbut hS.map.map s4, butCell hbut hS.map.map j1⟩
    have HEND : Hid (Stk B w3 sb M lk room (.slice (some ⟨g, 0, none⟩) es.length c) (es.set k (x0, x1, x2)) ∧ Below B w w3 ∧ Asd M g w w3) := ⟨hS.turn hM3 hbut, hbw.drew.trans (hbut.below hS.bm), hAs.turn hbut⟩
    clear hrun0 hM3 hbut hS s4 j1 hbw hAs
    go_wp2_with fail
    go_region_held3 (fun w' => w'.cell? ⟨sb, 4, none⟩ = some (.map (some M)) ∧ w'.cell? ⟨w.heap.size, 1, none⟩ = some (.string x1)) (first | exact hQ0 | exact hQ3) (fail)
    go_wp2_with fail
    go_end0
    exact ⟨rfl, HEND.out⟩

set_option maxHeartbeats 1600000 in
set_option maxRecDepth 100000 in
theorem stkBring (B sb M j : Nat) (lk room : Int) (g c n : Nat) (es : List Itm) (w : World) (h : Stk B w sb M lk room (.slice (some ⟨g, 0, none⟩) n c) es) (hn : es.length = n) (hj : j < es.length) (hlen : es.length ≤ 4194306) :
    Calls Tryd.prog 56 #[.pointer (some ⟨sb, 0, none⟩), .int .i64 j] w fun e w' => e = .returned (.tuple #[]) ∧ Stk B w' sb M lk room (.slice (some ⟨g, 0, none⟩) n c) (es[j] :: es.eraseIdx j) ∧ Below B w w' := by
  subst hn
  have hgl : g < w.heap.size ∧ B ≤ g := by
    have := h.row.lt g rfl
    exact ⟨this.2, this.1⟩
  have hMl := h.map.lt
  obtain ⟨v0, v1, v2⟩ := itV_at es j hj
  have c0 : w.cell? ⟨g, j * 3, none⟩ = some (.string es[j].1) := by rw [h.row.cellAt (j * 3) (by omega), v0]
  have c1 : w.cell? ⟨g, j * 3 + 1, none⟩ = some (.string es[j].2.1) := by rw [h.row.cellAt (j * 3 + 1) (by omega), v1]
  have c2 : w.cell? ⟨g, j * 3 + 2, none⟩ = some (.string es[j].2.2) := by rw [h.row.cellAt (j * 3 + 2) (by omega), v2]
  have s3 := (block5 h.box).1.2.2.2.1
  have HF : Hid ((shiftI es 0 j).set 0 (es[j].1, es[j].2.1, es[j].2.2) = es[j] :: es.eraseIdx j) := shiftI_first es j hj
  obtain ⟨x, hx⟩ : ∃ x, x = es[j] := ⟨_, rfl⟩
  rw [← hx] at c0 c1 c2 HF ⊢
  clear hx v0 v1 v2
  obtain ⟨x0, x1, x2⟩ := x
  simp only at c0 c1 c2 HF
  have bX : Below w.heap.size w (w.alloc (.cells #[.string x0, .string x1, .string x2] 50)) := (Below.refl _ _).alloc (Nat.le_refl _) _
  have hX := h.below bX
  have u0 : (w.alloc (.cells #[.string x0, .string x1, .string x2] 50)).heap[w.heap.size]? = some (.cells #[.string x0, .string x1, .string x2] 50 (0, 0)) := (MapKept.heap_alloc w _).1
  have hbB : Below B w (w.alloc (.cells #[.string x0, .string x1, .string x2] 50)) := (Below.refl _ _).alloc (by omega) _
  have hj0 : (0 : Int) ≤ (j : Int) := by omega
  have hj1 : (j : Int) < (es.length : Int) := by omega
  have H0 : Hid (type_of% hX) := hX
  clear bX h hX
  go_enter Tryd.func56, Tryd.ntmps56
  go_wp2_with fail
  generalize (w.alloc (.cells #[.string x0, .string x1, .string x2] 50)) = X at *
  clear c0 c1 c2 s3
  go_loopw [1] (fun a wr => ∃ i : Nat, i ≤ j ∧ a = .int .i64 i ∧ Stk B wr sb M lk room (.slice (some ⟨g, 0, none⟩) es.length c) (shiftI es i j) ∧ wr.heap[w.heap.size]? = some (.cells #[.string x0, .string x1, .string x2] 50 (0, 0)) ∧ Below B w wr) (fun a _ => (intOf a).toNat)
  case atStart => exact ⟨j, Nat.le_refl _, rfl, by rw [shiftI_all]; exact H0.out, u0, hbB⟩
  case round =>
    obtain ⟨i, hi, rfl, hS, hu, hbe⟩ := hrel
    clear H0 u0 hbB
    have hsl := shiftI_length es i j
    have hzw : w.heap.size < wr.heap.size := (Array.getElem?_eq_some_iff.1 hu).1
    have hneM : w.heap.size ≠ M := by omega
    have hneg : w.heap.size ≠ g := by omega
    by_cases hgo : 0 < i
    · obtain ⟨q, rfl⟩ : ∃ q, i = q + 1 := ⟨i - 1, by omega⟩
      obtain ⟨v0, v1, v2⟩ := itV_at (shiftI es (q + 1) j) q (by omega)
      rw [shiftI_at es q j hj hi] at v0 v1 v2
      have hrow := hS.row
      rw [hsl] at hrow
      have c0 : wr.cell? ⟨g, q * 3, none⟩ = some (.string es[q].1) := by rw [hrow.cellAt (q * 3) (by omega), v0]
      have c1 : wr.cell? ⟨g, q * 3 + 1, none⟩ = some (.string es[q].2.1) := by rw [hrow.cellAt (q * 3 + 1) (by omega), v1]
      have c2 : wr.cell? ⟨g, q * 3 + 2, none⟩ = some (.string es[q].2.2) := by rw [hrow.cellAt (q * 3 + 2) (by omega), v2]
      have s3 := (block5 hS.box).1.2.2.2.1
      have hSS := hS
      rw [← hsl] at hSS
      have HC0 := stkSet B sb M (q + 1) lk room g c (shiftI es (q + 1) j) es[q].1 es[q].2.1 es[q].2.2 wr hSS (by omega) (by omega)
      rw [hsl, show ((es[q].1, es[q].2.1, es[q].2.2) : Itm) = es[q] from rfl, shiftI_step es q j hi hj] at HC0
      have HC : Hid (type_of% HC0) := HC0
      have hq0 : (0 : Int) ≤ (q : Int) := by omega
      have hq1 : (q : Int) < (es.length : Int) := by omega
      have hgo2 : (0 : Int) < (q : Int) + 1 := by omega
      clear hS hSS HC0 v0 v1 v2 HF hgo hrow
      generalize es[q].1 = y0 at *
      generalize es[q].2.1 = y1 at *
      generalize es[q].2.2 = y2 at *
      go_wp2_with fail
      refine HC.out.mono ?_
      rintro e w2 ⟨rfl, hS2, hb2, hA2⟩
      have HS2 : Hid (type_of% hS2) := hS2
      have hu2 := (hA2.2 _ hzw hneM hneg).trans hu
      clear HC hS2 hA2 hu c0 c1 c2 s3
      go_wp2_with fail
      go_roundw
      case rel => exact ⟨q, by omega, by go_num, HS2.out, hu2, hbe.trans hb2⟩
      case measure => simp [intOf]
    · obtain rfl : i = 0 := by omega
      have hSS := hS
      rw [← hsl] at hSS
      have HC0 := stkSet B sb M 0 lk room g c (shiftI es 0 j) x0 x1 x2 wr hSS (by omega) (by omega)
      rw [hsl, HF.out] at HC0
      have HC : Hid (type_of% HC0) := HC0
      have k0 : wr.cell? ⟨w.heap.size, 0, none⟩ = some (.string x0) := by rw [cell_of_row _ _ 0 _ _ (0, 0) hu]; rfl
      have k1 : wr.cell? ⟨w.heap.size, 1, none⟩ = some (.string x1) := by rw [cell_of_row _ _ 1 _ _ (0, 0) hu]; rfl
      have k2 : wr.cell? ⟨w.heap.size, 2, none⟩ = some (.string x2) := by rw [cell_of_row _ _ 2 _ _ (0, 0) hu]; rfl
      clear hS hSS HC0 HF hu hgo
      go_wp2_with fail
      refine HC.out.mono ?_
      rintro e w2 ⟨rfl, hS2, hb2, _⟩
      have HS2 : Hid (type_of% hS2) := hS2
      clear HC hS2
      go_wp2_with fail
      go_end0
      exact ⟨rfl, HS2.out, hbe.trans hb2⟩

end Go.Proofs.YtoebfpdalkpkdaaDoor
