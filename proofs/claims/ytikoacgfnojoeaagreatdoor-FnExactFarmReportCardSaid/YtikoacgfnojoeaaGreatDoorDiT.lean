/-
  The walks of the laws' own helpers toDiag and toDiagS: a copy in new memory; diags that are handed in, opened.
-/
import Derived.Test.YtikoacgfnojoeaaGreatDoorDiD
import Derived.ProofKit
import Derived.OpenShut
namespace Go.Proofs.YtikoacgfnojoeaaGreatDoor
open Go.ChangeShapes Go.WideShapes Go.ChangeAt Go.RowKit

theorem dgNew {w : World} {cs : Array Value} {t : TypeId} {b : Nat} (i : Nat) (h : b = w.heap.size) : (w.alloc (.cells cs t)).cell? ⟨b, i, none⟩ = cs[i]? := by
  subst h
  simp
theorem dgOld {w : World} {o : Obj} {b : Nat} (i : Nat) (h : b < w.heap.size) : (w.alloc o).cell? ⟨b, i, none⟩ = w.cell? ⟨b, i, none⟩ := ((Below.refl w.heap.size w).alloc (Nat.le_refl _) o).cell (p := ⟨b, i, none⟩) h
theorem dgLow {X Y : World} {B B' e z : Nat} {v : Value} {n : Nat} {xs : List Value} (h : X.ownsRow B e z v n xs) (hB : B' ≤ B) (hs : ∀ g, v.ownBlock = some g → Y.heap[g]? = X.heap[g]?) : Y.ownsRow B' e z v n xs := by
  refine ⟨h.1, ?_⟩
  rcases h.2 with q | ⟨g, cap, cur, hv, hg, hh, q⟩
  · exact .inl q
  · exact .inr ⟨g, cap, cur, hv, Nat.le_trans hB hg, (hs g (by rw [hv]; rfl)).trans hh, q⟩

theorem ret_dg {R : Ending → World → Prop} {W : World} {tmps : Array Value} {b : Nat} {x0 x1 : Value} (hp : tmps[2]?.getD undef = .pointer (some ⟨b, 0, none⟩))
    (h : W.cell? ⟨b, 0, none⟩ = some x0 ∧ W.cell? ⟨b, 1, none⟩ = some x1) (hR : R (.returned (.agg #[x0, x1])) W) :
    bodyPost Tryz.prog Tryz.f70 R .ret { tmps := tmps, defers := [] } W := by
  obtain ⟨h0, h1⟩ := h
  refine bodyPost_ret (v := .agg #[x0, x1]) ?_ rfl hR
  simp [results, Tryz.results70, go_sem, hp, h0, h1]

set_option maxHeartbeats 800000 in
set_option maxRecDepth 100000 in
theorem lawsToDg (ln : Int) (cd : ByteArray) (w : World) :
    Calls Tryz.prog 70 #[.agg #[.int .i64 ln, .string cd]] w fun e w' => e = .returned (.agg #[.int .i64 ln, .string cd]) ∧ Below w.heap.size w w' := by
  go_enter Tryz.func70, Tryz.ntmps70
  go_wp2_with fail
  refine ret_dg (b := w.heap.size + 1) rfl ⟨?_, ?_⟩ ⟨rfl, ?_⟩
  · rw [dgOld _ (by simp), dgNew _ (by simp)]; rfl
  · rw [dgOld _ (by simp), dgNew _ (by simp)]; rfl
  · exact (((Below.refl _ _).alloc (Nat.le_refl _) _).alloc (by simp) _).alloc (by simp; omega) _

theorem Tryz.infoDiag : (Tryz.prog.info? 100).map (fun i => (i.zero, i.size, i.bytes)) = some (some (.agg #[.int .i64 0, .string ⟨#[]⟩]), 2, 24) := by kernel_rfl

/-- the cells of diags -/
def dgV (es : List Dg) : List Value := es.flatMap fun e => [.int .i64 e.1, .string e.2]
theorem dgV_length (es : List Dg) : (dgV es).length = es.length * 2 := by
  induction es with
  | nil => rfl
  | cons e r ih => simp only [dgV, List.flatMap_cons, List.length_append] at ih ⊢; rw [ih]; simp; omega
theorem dgV_app (a b : List Dg) : dgV (a ++ b) = dgV a ++ dgV b := by simp [dgV]
theorem dgV_at (es : List Dg) (j : Nat) (h : j < es.length) : (dgV es)[j * 2]? = some (.int .i64 es[j].1) ∧ (dgV es)[j * 2 + 1]? = some (.string es[j].2) := by
  induction es generalizing j with
  | nil => simp at h
  | cons e r ih =>
    have hc : dgV (e :: r) = .int .i64 e.1 :: .string e.2 :: dgV r := rfl
    rw [hc]
    match j, h with
    | 0, _ => exact ⟨rfl, rfl⟩
    | j + 1, h =>
      have h2 : j < r.length := by simpa using h
      have := ih j h2
      rw [show (j + 1) * 2 = j * 2 + 1 + 1 from by omega]
      exact this
/-- a row in memory of its own that holds these diags is a slice of diags -/
theorem dgRow {w : World} {B : Nat} {v : Value} {es : List Dg} (ho : w.ownsRow B 100 2 v es.length (dgV es)) : DiAt w v es := by
  rcases ho.2 with ⟨e, h0⟩ | ⟨g, c, cur, e, _⟩
  · exact .inl ⟨List.length_eq_zero_iff.1 h0, _, _, e⟩
  · subst e
    refine .inr ⟨g, 0, c, rfl, fun j hj => ?_⟩
    obtain ⟨h1, h2⟩ := dgV_at es j hj
    have hl := dgV_length es
    rw [Nat.zero_add]
    exact ⟨by rw [ho.cellAt (j * 2) (by omega), h1], by rw [ho.cellAt (j * 2 + 1) (by omega), h2]⟩
/-- the diags of a row, one of them put anew -/
theorem dgV_set (es : List Dg) (k : Nat) (hk : k < es.length) (e : Dg) : ((dgV es).set (k * 2) (.int .i64 e.1)).set (k * 2 + 1) (.string e.2) = dgV (es.set k e) := by
  induction es generalizing k with
  | nil => simp at hk
  | cons x r ih =>
    have hc : dgV (x :: r) = .int .i64 x.1 :: .string x.2 :: dgV r := rfl
    match k, hk with
    | 0, _ => rfl
    | k + 1, hk =>
      have h2 : k < r.length := by simpa using hk
      have := ih k h2
      rw [hc, show (k + 1) * 2 = k * 2 + 1 + 1 from by omega]
      show Value.int .i64 x.1 :: Value.string x.2 :: (((dgV r).set (k * 2) (.int .i64 e.1)).set (k * 2 + 1) (.string e.2)) = dgV (x :: r.set k e)
      rw [this]
      rfl

theorem dgKept {w w' : World} {B e z : Nat} {v : Value} {n : Nat} {xs : List Value} (h : w.ownsRow B e z v n xs) (hb : Below w.heap.size w w') : w'.ownsRow B e z v n xs := by
  refine ⟨h.1, ?_⟩
  rcases h.2 with e | ⟨g, c, cur, e1, e2, e3, e4⟩
  · exact .inl e
  · refine .inr ⟨g, c, cur, e1, e2, ?_, e4⟩
    rw [hb.block g (by
      have := h.lt g (by rw [e1]; rfl)
      exact this.2)]
    exact e3

/-- of a list the first so many, then nothing -/
def dgFill (es : List Dg) (k : Nat) : List Dg := es.take k ++ List.replicate (es.length - k) (0, ⟨#[]⟩)
theorem dgFill_length (es : List Dg) (k : Nat) (h : k ≤ es.length) : (dgFill es k).length = es.length := by simp [dgFill]; omega
theorem dgFill_more (es : List Dg) (k : Nat) (h : k < es.length) : (dgFill es k).set k es[k] = dgFill es (k + 1) := by
  unfold dgFill
  have hl : (es.take k).length = k := by simp; omega
  rw [List.set_append_right _ _ (by omega), hl, Nat.sub_self, show es.length - k = (es.length - (k + 1)) + 1 from by omega, List.replicate_succ, List.set_cons_zero, List.take_succ_eq_append_getElem h, List.append_assoc]
  rfl
theorem dgFill_all (es : List Dg) : dgFill es es.length = es := by simp [dgFill]
theorem dgFill_zero (es : List Dg) : dgV (dgFill es 0) = (madeCells #[Value.int .i64 0, .string ⟨#[]⟩] (es.length * 2)).toList := by
  have hl : (dgFill es 0).length = es.length := dgFill_length es 0 (Nat.zero_le _)
  apply List.ext_getElem
  · rw [dgV_length, hl]
    simp [madeCells]
  · intro i h1 h2
    rw [dgV_length, hl] at h1
    have hv : ∀ j (h : j < (dgFill es 0).length), (dgFill es 0)[j] = (0, ⟨#[]⟩) := fun j h => by simp [dgFill]
    obtain ⟨a0, a1⟩ := dgV_at (dgFill es 0) (i / 2) (by omega)
    rw [hv] at a0 a1
    have hr : i = i / 2 * 2 ∨ i = i / 2 * 2 + 1 := by omega
    rcases hr with e | e
    · have hm : (madeCells #[Value.int .i64 0, .string ⟨#[]⟩] (es.length * 2)).toList[i] = .int .i64 0 := by
        simp only [madeCells, Array.getElem_toList, Array.getElem_map, Array.getElem_range]
        have : i % 2 = 0 := by omega
        simp [this]
      rw [hm]
      have hs : (dgV (dgFill es 0))[i]? = some (.int .i64 0) := by rw [e]; exact a0
      exact (List.getElem?_eq_some_iff.1 hs).2
    · have hm : (madeCells #[Value.int .i64 0, .string ⟨#[]⟩] (es.length * 2)).toList[i] = .string ⟨#[]⟩ := by
        simp only [madeCells, Array.getElem_toList, Array.getElem_map, Array.getElem_range]
        have : i % 2 = 1 := by omega
        simp [this]
      rw [hm]
      have hs : (dgV (dgFill es 0))[i]? = some (.string ⟨#[]⟩) := by rw [e]; exact a1
      exact (List.getElem?_eq_some_iff.1 hs).2

set_option maxHeartbeats 1600000 in
set_option maxRecDepth 100000 in
theorem lawsToDgs (v : Value) (es : List Dg) (w : World) (hrow : DiAt w v es) (hlen : es.length ≤ 1048576) :
    Calls Tryz.prog 58 #[v] w fun e w' => e = .returned (.slice (some ⟨w.heap.size, 0, none⟩) es.length es.length) ∧ w'.ownsRow w.heap.size 100 2 (.slice (some ⟨w.heap.size, 0, none⟩) es.length es.length) es.length (dgV es) ∧ Below w.heap.size w w' := by
  obtain ⟨i0, hi, hz0, hz1, hz2⟩ := info_parts Tryz.infoDiag
  obtain ⟨a, capa, rfl, ha⟩ := diOpen hrow
  have HEA : Hid (type_of% ha) := ha
  clear hrow ha
  go_enter Tryz.func58, Tryz.ntmps58
  go_wp2_with (at_make; refine wpList_make_full _ rfl _ _ 61 rfl w.heap.size 100 i0 (.agg #[.int .i64 0, .string ⟨#[]⟩]) 2 Tryz.underlying61 hi hz0 hz1 .i64 .i64 _ _ es.length rfl rfl rfl rfl (by rw [hz2]; omega) (by unfold maxLen; omega) (Nat.le_refl _) ?_)
  intro w1 hown hgrow
  have hB : Below w.heap.size w w1 := (Below.refl _ _).grown hgrow (Nat.le_refl _) (fun k hk => by cases hk)
  have hX : w1.ownsRow w.heap.size 100 2 (.slice (some ⟨w.heap.size, 0, none⟩) es.length es.length) es.length (dgV (dgFill es 0)) := by
    rw [dgFill_zero]
    exact hown
  have HX : Hid (type_of% hX) := hX
  clear hown hgrow hX
  go_wp2_with fail
  go_loopw [4] (fun i wr => ∃ (k : Nat), k ≤ es.length ∧ i = .int .i64 k ∧ wr.ownsRow w.heap.size 100 2 (.slice (some ⟨w.heap.size, 0, none⟩) es.length es.length) es.length (dgV (dgFill es k)) ∧ Below w.heap.size w wr) (fun i _ => es.length - (intOf i).toNat)
  case atStart => exact ⟨0, Nat.zero_le _, rfl, HX.out, hB⟩
  case round =>
    obtain ⟨k, hk, rfl, ho, hbe⟩ := hrel
    clear HX hB
    have hYl : (dgV (dgFill es k)).length = es.length * 2 := ho.1
    by_cases hlt : k < es.length
    · obtain ⟨ba, oa, rfl, hba, a0, a1⟩ := HEA.out k hlt
      have A0 := (hbe.cell (p := ⟨ba, oa + k * 2, none⟩) hba).trans a0
      have A1 := (hbe.cell (p := ⟨ba, oa + k * 2 + 1, none⟩) hba).trans a1
      have HC0 := lawsToDg es[k].1 es[k].2 wr
      have HC : Hid (type_of% HC0) := HC0
      have HR2 : Hid (((dgV (dgFill es k)).set (k * 2) (.int .i64 es[k].1)).set (k * 2 + 1) (.string es[k].2) = dgV (dgFill es (k + 1))) := by
        show _ = _
        rw [dgV_set (dgFill es k) k (by rw [dgFill_length es k (by omega)]; exact hlt), dgFill_more es k hlt]
      clear a0 a1 HEA HC0
      generalize dgV (dgFill es k) = Y at *
      obtain ⟨Y2, hY2⟩ : ∃ Y2, Y2 = dgV (dgFill es (k + 1)) := ⟨_, rfl⟩
      have HY2 : Hid (type_of% hY2) := hY2
      rw [← hY2] at HR2
      clear hY2
      generalize es[k].1 = ln at *
      generalize es[k].2 = cd at *
      go_wp2_with fail
      refine HC.out.mono ?_
      rintro e w2 ⟨rfl, hb2⟩
      have o1 := dgKept ho hb2
      have hbe2 : Below w.heap.size w w2 := hbe.trans (hb2.mono hbe.size)
      clear ho hbe hb2 HC
      have f1 := o1.frozenAt (k * 2)
      have q1 : ∃ u, w2.cell? ⟨w.heap.size, k * 2, none⟩ = some u := by rw [o1.cellAt (k * 2) (by omega)]; exact ⟨_, List.getElem?_eq_getElem (by omega)⟩
      obtain ⟨u1, q1⟩ := q1
      obtain ⟨o2, _⟩ := o1.stored (k * 2) (.int .i64 ln)
      have f2 := o2.frozenAt (k * 2 + 1)
      have q2 : ∃ u, (w2.setCell ⟨w.heap.size, k * 2, none⟩ (.int .i64 ln)).cell? ⟨w.heap.size, k * 2 + 1, none⟩ = some u := by rw [o2.cellAt (k * 2 + 1) (by omega)]; exact ⟨_, List.getElem?_eq_getElem (by simp; omega)⟩
      obtain ⟨u2, q2⟩ := q2
      obtain ⟨o4, _⟩ := o2.stored (k * 2 + 1) (.string cd)
      rw [HR2.out] at o4
      have HR1 : Hid (type_of% o4) := o4
      have HR3 : Hid (Below w.heap.size w ((w2.setCell ⟨w.heap.size, k * 2, none⟩ (.int .i64 ln)).setCell ⟨w.heap.size, k * 2 + 1, none⟩ (.string cd))) := (hbe2.setCell (Nat.le_refl _) _).setCell (Nat.le_refl _) _
      clear o1 o2 o4 hbe2 HR2
      go_wp2_with fail
      go_roundw
      case rel => exact ⟨k + 1, by omega, by go_num, by rw [← HY2.out]; exact HR1.out, HR3.out⟩
      case measure => simp [intOf]; omega
    · have hke : k = es.length := by omega
      subst hke
      rw [dgFill_all] at ho
      have HR : Hid (type_of% ho) := ho
      clear HEA ho hYl
      go_wp2_with fail
      go_ret
      exact ⟨rfl, HR.out, hbe⟩

set_option maxRecDepth 100000 in
theorem opened_dg {H : Type} {enc : TypeId × Value → H} {W : World} {base : Nat} {sp : Nat → Bool} {held : Bool} (n : Nat) (cs : List Value) (x : DataW H × List MemPlace) (h : DataW.trod enc Tryz.prog W base sp held n 162 cs = some x) : ∃ e : Dg, cs = [.int .i64 e.1, .string e.2] ∧ (-9223372036854775808 ≤ e.1 ∧ e.1 ≤ 9223372036854775807) ∧ e.2.size ≤ maxLen := by
  have c2 : Tryz.prog.cellsOf 162 = 2 := by kernel_rfl
  have cst : Tryz.prog.cellsOf 9 = 1 := by kernel_rfl
  have ci : Tryz.prog.cellsOf 3 = 1 := by kernel_rfl
  obtain ⟨xs, m, rfl, rfl, hl, hxl, hf⟩ := DataW.trod_struct Tryz.underlying162 h
  rw [c2] at hl
  have hxl2 : xs.length = 2 := hxl
  match cs, hl, xs, hxl2 with
  | [v0, v1], _, [y0, y1], _ =>
    have e0 : DataW.trod enc Tryz.prog W base sp held m 3 (List.take (Tryz.prog.cellsOf 3) [v0, v1]) = some y0 := hf 0 _ rfl
    rw [ci] at e0
    have f0 : DataW.trod enc Tryz.prog W base sp held m 3 [v0] = some y0 := e0
    have e1 : DataW.trod enc Tryz.prog W base sp held m 9 (List.take (Tryz.prog.cellsOf 9) [v1]) = some y1 := hf 1 _ rfl
    rw [cst] at e1
    have f1 : DataW.trod enc Tryz.prog W base sp held m 9 [v1] = some y1 := e1
    obtain ⟨a, ha, _, hwf⟩ := DataW.trod_int Tryz.underlying3 f0
    obtain ⟨b, hb, _, hsb⟩ := DataW.trod_string Tryz.underlying9 f1
    obtain rfl : v0 = .int .i64 a := by simpa using ha
    obtain rfl : v1 = .string b := by simpa using hb
    have hx : -9223372036854775808 ≤ a ∧ a ≤ 9223372036854775807 := by simpa [Lit.wf, IntKind.min, IntKind.max, IntKind.signed, IntKind.bits] using hwf
    exact ⟨(a, b), rfl, hx, hsb⟩

set_option maxRecDepth 100000 in
theorem opened_dgs {H : Type} {enc : TypeId × Value → H} {W : World} {base : Nat} {sp : Nat → Bool} {held : Bool} (n : Nat) (v : Value) (x : DataW H × List MemPlace) (h : DataW.trod enc Tryz.prog W base sp held n 87 [v] = some x) : ∃ es : List Dg, DiAt W v es ∧ es.length ≤ maxLen ∧ ∀ e ∈ es, (-9223372036854775808 ≤ e.1 ∧ e.1 ≤ 9223372036854775807) ∧ e.2.size ≤ maxLen := by
  have c2 : Tryz.prog.cellsOf 162 = 2 := by kernel_rfl
  rcases DataW.trod_slice Tryz.underlying87 h with ⟨hcs, _⟩ | ⟨a, len, cap, elems, rest, m2, rfl, hcs, _, hb, hlc, hcm, hel, heach, _, _⟩
  · obtain rfl : v = .slice none 0 0 := by simpa using hcs
    exact ⟨[], .inl ⟨rfl, _, _, rfl⟩, by simp, by simp⟩
  · obtain rfl : v = .slice (some a) len cap := by simpa using hcs
    rw [c2] at heach
    have each : ∀ i, i < len → ∃ q : Dg, ((-9223372036854775808 ≤ q.1 ∧ q.1 ≤ 9223372036854775807) ∧ q.2.size ≤ maxLen) ∧ ∀ c u, [Value.int .i64 q.1, Value.string q.2][c]? = some u → W.cell? ((a.add (i * 2)).add c) = some u := fun i hi => by
      have hi2 := heach i hi
      rw [List.getElem?_eq_getElem (by omega)] at hi2
      obtain ⟨cs', h1, h2⟩ := Option.bind_eq_some_iff.1 hi2
      obtain ⟨t, rfl, ht1, ht2⟩ := opened_dg m2 cs' _ h2
      obtain ⟨_, hlen, hcell⟩ := World.cells?_some h1
      refine ⟨t, ⟨ht1, ht2⟩, fun c u hu => ?_⟩
      have hc : c < 2 := by
        have : c < [Value.int .i64 t.1, Value.string t.2].length := (List.getElem?_eq_some_iff.1 hu).1
        simpa using this
      rw [hcell c hc]
      exact hu
    haveI : Inhabited Dg := ⟨(0, ByteArray.empty)⟩
    obtain ⟨q, hq⟩ := Go.Deep.choose_lt each
    refine ⟨(List.range len).map fun i => q i, ?_, by simp; omega, fun e he => ?_⟩
    · by_cases h0 : len = 0
      · subst h0
        exact .inl ⟨rfl, _, _, rfl⟩
      · obtain ⟨b, off, spot⟩ := a
        have hspot : spot = none := by
          obtain ⟨h1, h2⟩ := hq 0 (by omega)
          have hc := h2 0 _ rfl
          simpa [Addr.add] using World.cell?_spot hc
        subst hspot
        refine .inr ⟨b, off, cap, by simp, fun j hj => ?_⟩
        have hj2 : j < len := by simpa using hj
        obtain ⟨h1, h2⟩ := hq j hj2
        simp only [List.getElem_map, List.getElem_range]
        have g0 := h2 0 _ rfl
        have g1 := h2 1 _ rfl
        rw [Addr.add_lit, Addr.add_lit] at g0 g1
        exact ⟨g0, g1⟩
    · obtain ⟨i, hi, rfl⟩ := List.mem_map.1 he
      exact (hq i (by simpa using hi)).1

end Go.Proofs.YtikoacgfnojoeaaGreatDoor
