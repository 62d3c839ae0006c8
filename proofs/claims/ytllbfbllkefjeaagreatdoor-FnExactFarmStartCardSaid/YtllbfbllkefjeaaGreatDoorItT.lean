/-
  The walks of the laws' own helpers toItem, toItemS and toStore: a copy in new memory; a store that is handed in, opened.
  The walk of the laws' own helper toFarm: a copy in new memory.
-/
import Derived.Test.YtllbfbllkefjeaaGreatDoorItD
import Derived.ProofKit
import Derived.OpenShut
import Derived.Test.YtllbfbllkefjeaaGreatDoorFmO
namespace Go.Proofs.YtllbfbllkefjeaaGreatDoor
open Go.ChangeShapes Go.WideShapes Go.ChangeAt Go.RowKit

theorem itNew {w : World} {cs : Array Value} {t : TypeId} {b : Nat} (i : Nat) (h : b = w.heap.size) : (w.alloc (.cells cs t)).cell? ⟨b, i, none⟩ = cs[i]? := by
  subst h
  simp
theorem itOld {w : World} {o : Obj} {b : Nat} (i : Nat) (h : b < w.heap.size) : (w.alloc o).cell? ⟨b, i, none⟩ = w.cell? ⟨b, i, none⟩ := ((Below.refl w.heap.size w).alloc (Nat.le_refl _) o).cell (p := ⟨b, i, none⟩) h

theorem itFrozen {w : World} {cs : Array Value} {t : TypeId} {b : Nat} (i : Nat) (h : b = w.heap.size) : (w.alloc (.cells cs t)).frozen? ⟨b, i, none⟩ = false := by
  subst h
  simp
theorem itFrozenOld {w : World} {o : Obj} {b : Nat} (i : Nat) (h : b < w.heap.size) : (w.alloc o).frozen? ⟨b, i, none⟩ = w.frozen? ⟨b, i, none⟩ := ((Below.refl w.heap.size w).alloc (Nat.le_refl _) o).frozen (p := ⟨b, i, none⟩) h
theorem itLow {X Y : World} {B B' e z : Nat} {v : Value} {n : Nat} {xs : List Value} (h : X.ownsRow B e z v n xs) (hB : B' ≤ B) (hs : ∀ g, v.ownBlock = some g → Y.heap[g]? = X.heap[g]?) : Y.ownsRow B' e z v n xs := by
  refine ⟨h.1, ?_⟩
  rcases h.2 with q | ⟨g, cap, cur, hv, hg, hh, q⟩
  · exact .inl q
  · exact .inr ⟨g, cap, cur, hv, Nat.le_trans hB hg, (hs g (by rw [hv]; rfl)).trans hh, q⟩

theorem ret_it {R : Ending → World → Prop} {W : World} {tmps : Array Value} {b : Nat} {x0 x1 x2 : Value} (hp : tmps[2]?.getD undef = .pointer (some ⟨b, 0, none⟩))
    (h : W.cell? ⟨b, 0, none⟩ = some x0 ∧ W.cell? ⟨b, 1, none⟩ = some x1 ∧ W.cell? ⟨b, 2, none⟩ = some x2) (hR : R (.returned (.agg #[x0, x1, x2])) W) :
    bodyPost Tryz.prog Tryz.f49 R .ret { tmps := tmps, defers := [] } W := by
  obtain ⟨h0, h1, h2⟩ := h
  refine bodyPost_ret (v := .agg #[x0, x1, x2]) ?_ rfl hR
  simp [results, Tryz.results49, go_sem, hp, h0, h1, h2]

set_option maxHeartbeats 800000 in
set_option maxRecDepth 100000 in
theorem lawsToIt (ky inp out : ByteArray) (w : World) :
    Calls Tryz.prog 49 #[.agg #[.string ky, .string inp, .string out]] w fun e w' => e = .returned (.agg #[.string ky, .string inp, .string out]) ∧ Below w.heap.size w w' := by
  go_enter Tryz.func49, Tryz.ntmps49
  go_wp2_with fail
  refine ret_it (b := w.heap.size + 1) rfl ⟨?_, ?_, ?_⟩ ⟨rfl, ?_⟩
  · rw [itOld _ (by simp), itNew _ (by simp)]; rfl
  · rw [itOld _ (by simp), itNew _ (by simp)]; rfl
  · rw [itOld _ (by simp), itNew _ (by simp)]; rfl
  · exact (((Below.refl _ _).alloc (Nat.le_refl _) _).alloc (by simp) _).alloc (by simp; omega) _

theorem Tryz.infoItem : (Tryz.prog.info? 83).map (fun i => (i.zero, i.size, i.bytes)) = some (some (.agg #[.string ⟨#[]⟩, .string ⟨#[]⟩, .string ⟨#[]⟩]), 3, 48) := by kernel_rfl

/-- the cells of items -/
def itV (es : List Itm) : List Value := es.flatMap fun e => [.string e.1, .string e.2.1, .string e.2.2]
theorem itV_length (es : List Itm) : (itV es).length = es.length * 3 := by
  induction es with
  | nil => rfl
  | cons e r ih => simp only [itV, List.flatMap_cons, List.length_append] at ih ⊢; rw [ih]; simp; omega
theorem itV_app (a b : List Itm) : itV (a ++ b) = itV a ++ itV b := by simp [itV]
theorem itV_at (es : List Itm) (j : Nat) (h : j < es.length) : (itV es)[j * 3]? = some (.string es[j].1) ∧ (itV es)[j * 3 + 1]? = some (.string es[j].2.1) ∧ (itV es)[j * 3 + 2]? = some (.string es[j].2.2) := by
  induction es generalizing j with
  | nil => simp at h
  | cons e r ih =>
    have hc : itV (e :: r) = .string e.1 :: .string e.2.1 :: .string e.2.2 :: itV r := rfl
    rw [hc]
    match j, h with
    | 0, _ => exact ⟨rfl, rfl, rfl⟩
    | j + 1, h =>
      have h2 : j < r.length := by simpa using h
      have := ih j h2
      rw [show (j + 1) * 3 = j * 3 + 1 + 1 + 1 from by omega]
      exact this
/-- a row in memory of its own that holds these items is a slice of items -/
theorem itRow {w : World} {B : Nat} {v : Value} {es : List Itm} (ho : w.ownsRow B 83 3 v es.length (itV es)) : ItAt w v es := by
  rcases ho.2 with ⟨e, h0⟩ | ⟨g, c, cur, e, _⟩
  · exact .inl ⟨List.length_eq_zero_iff.1 h0, _, _, e⟩
  · subst e
    refine .inr ⟨g, 0, c, rfl, fun j hj => ?_⟩
    obtain ⟨h1, h2, h3⟩ := itV_at es j hj
    have hl := itV_length es
    rw [Nat.zero_add]
    exact ⟨by rw [ho.cellAt (j * 3) (by omega), h1], by rw [ho.cellAt (j * 3 + 1) (by omega), h2], by rw [ho.cellAt (j * 3 + 2) (by omega), h3]⟩
/-- the items of a row, one of them put anew -/
theorem itV_set (es : List Itm) (k : Nat) (hk : k < es.length) (e : Itm) : (((itV es).set (k * 3) (.string e.1)).set (k * 3 + 1) (.string e.2.1)).set (k * 3 + 2) (.string e.2.2) = itV (es.set k e) := by
  induction es generalizing k with
  | nil => simp at hk
  | cons x r ih =>
    have hc : itV (x :: r) = .string x.1 :: .string x.2.1 :: .string x.2.2 :: itV r := rfl
    match k, hk with
    | 0, _ => rfl
    | k + 1, hk =>
      have h2 : k < r.length := by simpa using hk
      have := ih k h2
      rw [hc, show (k + 1) * 3 = k * 3 + 1 + 1 + 1 from by omega]
      show Value.string x.1 :: Value.string x.2.1 :: Value.string x.2.2 :: ((((itV r).set (k * 3) (.string e.1)).set (k * 3 + 1) (.string e.2.1)).set (k * 3 + 2) (.string e.2.2)) = itV (x :: r.set k e)
      rw [this]
      rfl

theorem itKept {w w' : World} {B e z : Nat} {v : Value} {n : Nat} {xs : List Value} (h : w.ownsRow B e z v n xs) (hb : Below w.heap.size w w') : w'.ownsRow B e z v n xs := by
  refine ⟨h.1, ?_⟩
  rcases h.2 with e | ⟨g, c, cur, e1, e2, e3, e4⟩
  · exact .inl e
  · refine .inr ⟨g, c, cur, e1, e2, ?_, e4⟩
    rw [hb.block g (by
      have := h.lt g (by rw [e1]; rfl)
      exact this.2)]
    exact e3

/-- of a list the first so many, then nothing -/
def itFill (es : List Itm) (k : Nat) : List Itm := es.take k ++ List.replicate (es.length - k) (⟨#[]⟩, ⟨#[]⟩, ⟨#[]⟩)
theorem itFill_length (es : List Itm) (k : Nat) (h : k ≤ es.length) : (itFill es k).length = es.length := by simp [itFill]; omega
theorem itFill_more (es : List Itm) (k : Nat) (h : k < es.length) : (itFill es k).set k es[k] = itFill es (k + 1) := by
  unfold itFill
  have hl : (es.take k).length = k := by simp; omega
  rw [List.set_append_right _ _ (by omega), hl, Nat.sub_self, show es.length - k = (es.length - (k + 1)) + 1 from by omega, List.replicate_succ, List.set_cons_zero, List.take_succ_eq_append_getElem h, List.append_assoc]
  rfl
theorem itFill_all (es : List Itm) : itFill es es.length = es := by simp [itFill]
theorem itFill_zero (es : List Itm) : itV (itFill es 0) = (madeCells #[Value.string ⟨#[]⟩, .string ⟨#[]⟩, .string ⟨#[]⟩] (es.length * 3)).toList := by
  have hl : (itFill es 0).length = es.length := itFill_length es 0 (Nat.zero_le _)
  apply List.ext_getElem
  · rw [itV_length, hl]
    simp [madeCells]
  · intro i h1 h2
    rw [itV_length, hl] at h1
    have hv : ∀ j (h : j < (itFill es 0).length), (itFill es 0)[j] = (⟨#[]⟩, ⟨#[]⟩, ⟨#[]⟩) := fun j h => by simp [itFill]
    obtain ⟨a0, a1, a2⟩ := itV_at (itFill es 0) (i / 3) (by omega)
    rw [hv] at a0 a1 a2
    have hm : (madeCells #[Value.string ⟨#[]⟩, .string ⟨#[]⟩, .string ⟨#[]⟩] (es.length * 3)).toList[i] = .string ⟨#[]⟩ := by
      simp only [madeCells, Array.getElem_toList, Array.getElem_map, Array.getElem_range]
      have : i % 3 = 0 ∨ i % 3 = 1 ∨ i % 3 = 2 := by omega
      rcases this with e | e | e <;> simp [e]
    rw [hm]
    have hr : i = i / 3 * 3 ∨ i = i / 3 * 3 + 1 ∨ i = i / 3 * 3 + 2 := by omega
    have hs : (itV (itFill es 0))[i]? = some (.string ⟨#[]⟩) := by
      rcases hr with e | e | e
      · rw [e]; exact a0
      · rw [e]; exact a1
      · rw [e]; exact a2
    exact (List.getElem?_eq_some_iff.1 hs).2

set_option maxHeartbeats 1600000 in
set_option maxRecDepth 100000 in
theorem lawsToIts (v : Value) (es : List Itm) (w : World) (hrow : ItAt w v es) (hlen : es.length ≤ 1048576) :
    Calls Tryz.prog 24 #[v] w fun e w' => e = .returned (.slice (some ⟨w.heap.size, 0, none⟩) es.length es.length) ∧ w'.ownsRow w.heap.size 83 3 (.slice (some ⟨w.heap.size, 0, none⟩) es.length es.length) es.length (itV es) ∧ Below w.heap.size w w' := by
  obtain ⟨i0, hi, hz0, hz1, hz2⟩ := info_parts Tryz.infoItem
  obtain ⟨a, capa, rfl, ha⟩ := itOpen hrow
  have HEA : Hid (type_of% ha) := ha
  clear hrow ha
  go_enter Tryz.func24, Tryz.ntmps24
  go_wp2_with (at_make; refine wpList_make_full _ rfl _ _ 33 rfl w.heap.size 83 i0 (.agg #[.string ⟨#[]⟩, .string ⟨#[]⟩, .string ⟨#[]⟩]) 3 Tryz.underlying33 hi hz0 hz1 .i64 .i64 _ _ es.length rfl rfl rfl rfl (by rw [hz2]; omega) (by unfold maxLen; omega) (Nat.le_refl _) ?_)
  intro w1 hown hgrow
  have hB : Below w.heap.size w w1 := (Below.refl _ _).grown hgrow (Nat.le_refl _) (fun k hk => by cases hk)
  have hX : w1.ownsRow w.heap.size 83 3 (.slice (some ⟨w.heap.size, 0, none⟩) es.length es.length) es.length (itV (itFill es 0)) := by
    rw [itFill_zero]
    exact hown
  have HX : Hid (type_of% hX) := hX
  clear hown hgrow hX
  go_wp2_with fail
  go_loopw [4] (fun i wr => ∃ (k : Nat), k ≤ es.length ∧ i = .int .i64 k ∧ wr.ownsRow w.heap.size 83 3 (.slice (some ⟨w.heap.size, 0, none⟩) es.length es.length) es.length (itV (itFill es k)) ∧ Below w.heap.size w wr) (fun i _ => es.length - (intOf i).toNat)
  case atStart => exact ⟨0, Nat.zero_le _, rfl, HX.out, hB⟩
  case round =>
    obtain ⟨k, hk, rfl, ho, hbe⟩ := hrel
    clear HX hB
    have hYl : (itV (itFill es k)).length = es.length * 3 := ho.1
    by_cases hlt : k < es.length
    · obtain ⟨ba, oa, rfl, hba, a0, a1, a2⟩ := HEA.out k hlt
      have A0 := (hbe.cell (p := ⟨ba, oa + k * 3, none⟩) hba).trans a0
      have A1 := (hbe.cell (p := ⟨ba, oa + k * 3 + 1, none⟩) hba).trans a1
      have A2 := (hbe.cell (p := ⟨ba, oa + k * 3 + 2, none⟩) hba).trans a2
      have HC0 := lawsToIt es[k].1 es[k].2.1 es[k].2.2 wr
      have HC : Hid (type_of% HC0) := HC0
      have HR2 : Hid ((((itV (itFill es k)).set (k * 3) (.string es[k].1)).set (k * 3 + 1) (.string es[k].2.1)).set (k * 3 + 2) (.string es[k].2.2) = itV (itFill es (k + 1))) := by
        show _ = _
        rw [itV_set (itFill es k) k (by rw [itFill_length es k (by omega)]; exact hlt), itFill_more es k hlt]
      clear a0 a1 a2 HEA HC0
      generalize itV (itFill es k) = Y at *
      obtain ⟨Y2, hY2⟩ : ∃ Y2, Y2 = itV (itFill es (k + 1)) := ⟨_, rfl⟩
      have HY2 : Hid (type_of% hY2) := hY2
      rw [← hY2] at HR2
      clear hY2
      generalize es[k].1 = ky at *
      generalize es[k].2.1 = inp at *
      generalize es[k].2.2 = out at *
      go_wp2_with fail
      refine HC.out.mono ?_
      rintro e w2 ⟨rfl, hb2⟩
      have o1 := itKept ho hb2
      have hbe2 : Below w.heap.size w w2 := hbe.trans (hb2.mono hbe.size)
      clear ho hbe hb2 HC
      have f1 := o1.frozenAt (k * 3)
      have q1 : ∃ u, w2.cell? ⟨w.heap.size, k * 3, none⟩ = some u := by rw [o1.cellAt (k * 3) (by omega)]; exact ⟨_, List.getElem?_eq_getElem (by omega)⟩
      obtain ⟨u1, q1⟩ := q1
      obtain ⟨o2, _⟩ := o1.stored (k * 3) (.string ky)
      have f2 := o2.frozenAt (k * 3 + 1)
      have q2 : ∃ u, (w2.setCell ⟨w.heap.size, k * 3, none⟩ (.string ky)).cell? ⟨w.heap.size, k * 3 + 1, none⟩ = some u := by rw [o2.cellAt (k * 3 + 1) (by omega)]; exact ⟨_, List.getElem?_eq_getElem (by simp; omega)⟩
      obtain ⟨u2, q2⟩ := q2
      obtain ⟨o3, _⟩ := o2.stored (k * 3 + 1) (.string inp)
      have f3 := o3.frozenAt (k * 3 + 2)
      have q3 : ∃ u, ((w2.setCell ⟨w.heap.size, k * 3, none⟩ (.string ky)).setCell ⟨w.heap.size, k * 3 + 1, none⟩ (.string inp)).cell? ⟨w.heap.size, k * 3 + 2, none⟩ = some u := by rw [o3.cellAt (k * 3 + 2) (by omega)]; exact ⟨_, List.getElem?_eq_getElem (by simp; omega)⟩
      obtain ⟨u3, q3⟩ := q3
      obtain ⟨o4, _⟩ := o3.stored (k * 3 + 2) (.string out)
      rw [HR2.out] at o4
      have HR1 : Hid (type_of% o4) := o4
      have HR3 : Hid (Below w.heap.size w (((w2.setCell ⟨w.heap.size, k * 3, none⟩ (.string ky)).setCell ⟨w.heap.size, k * 3 + 1, none⟩ (.string inp)).setCell ⟨w.heap.size, k * 3 + 2, none⟩ (.string out))) := ((hbe2.setCell (Nat.le_refl _) _).setCell (Nat.le_refl _) _).setCell (Nat.le_refl _) _
      clear o1 o2 o3 o4 hbe2 HR2
      go_wp2_with fail
      go_roundw
      case rel => exact ⟨k + 1, by omega, by go_num, by rw [← HY2.out]; exact HR1.out, HR3.out⟩
      case measure => simp [intOf]; omega
    · have hke : k = es.length := by omega
      subst hke
      rw [itFill_all] at ho
      have HR : Hid (type_of% ho) := ho
      clear HEA ho hYl
      go_wp2_with fail
      go_ret
      exact ⟨rfl, HR.out, hbe⟩

theorem ret_store {R : Ending → World → Prop} {W : World} {tmps : Array Value} {b : Nat} {x0 x1 : Value} (hp : tmps[2]?.getD undef = .pointer (some ⟨b, 0, none⟩))
    (h : W.cell? ⟨b, 0, none⟩ = some x0 ∧ W.cell? ⟨b, 1, none⟩ = some x1) (hR : R (.returned (.agg #[x0, x1])) W) :
    bodyPost Tryz.prog Tryz.f8 R .ret { tmps := tmps, defers := [] } W := by
  obtain ⟨h0, h1⟩ := h
  refine bodyPost_ret (v := .agg #[x0, x1]) ?_ rfl hR
  simp [results, Tryz.results8, go_sem, hp, h0, h1]

set_option maxHeartbeats 1600000 in
set_option maxRecDepth 100000 in
theorem lawsToStore (room : Int) (v : Value) (es : List Itm) (w : World) (hrow : ItAt w v es) (hlen : es.length ≤ 1048576) :
    Calls Tryz.prog 8 #[.agg #[.int .i64 room, v]] w fun e w' => ∃ g, e = .returned (.agg #[.int .i64 room, .slice (some ⟨g, 0, none⟩) es.length es.length]) ∧ w'.ownsRow w.heap.size 83 3 (.slice (some ⟨g, 0, none⟩) es.length es.length) es.length (itV es) ∧ Below w.heap.size w w' := by
  obtain ⟨av, capv, rfl, _⟩ := itOpen hrow
  have hB3 : Below w.heap.size w (((w.alloc (.cells #[.int .i64 room, .slice av es.length capv] 25)).alloc (.cells #[.int .i64 0, .slice none 0 0] 35)).alloc (.cells #[.int .i64 room, .slice none 0 0] 35)) := (((Below.refl _ _).alloc (Nat.le_refl _) _).alloc (by simp) _).alloc (by simp; omega) _
  have h3 : (((w.alloc (.cells #[.int .i64 room, .slice av es.length capv] 25)).alloc (.cells #[.int .i64 0, .slice none 0 0] 35)).alloc (.cells #[.int .i64 room, .slice none 0 0] 35)).heap.size = w.heap.size + 1 + 1 + 1 := by simp
  have c2 : ∀ i, (((w.alloc (.cells #[.int .i64 room, .slice av es.length capv] 25)).alloc (.cells #[.int .i64 0, .slice none 0 0] 35)).alloc (.cells #[.int .i64 room, .slice none 0 0] 35)).cell? ⟨w.heap.size + 1 + 1, i, none⟩ = #[.int .i64 room, .slice none 0 0][i]? := fun i => itNew _ (by simp)
  have c1 : ∀ i, (((w.alloc (.cells #[.int .i64 room, .slice av es.length capv] 25)).alloc (.cells #[.int .i64 0, .slice none 0 0] 35)).alloc (.cells #[.int .i64 room, .slice none 0 0] 35)).cell? ⟨w.heap.size + 1, i, none⟩ = #[.int .i64 0, .slice none 0 0][i]? := fun i => by rw [itOld _ (by simp), itNew _ (by simp)]
  have f2 : ∀ i, (((w.alloc (.cells #[.int .i64 room, .slice av es.length capv] 25)).alloc (.cells #[.int .i64 0, .slice none 0 0] 35)).alloc (.cells #[.int .i64 room, .slice none 0 0] 35)).frozen? ⟨w.heap.size + 1 + 1, i, none⟩ = false := fun i => itFrozen _ (by simp)
  have f1 : ∀ i, (((w.alloc (.cells #[.int .i64 room, .slice av es.length capv] 25)).alloc (.cells #[.int .i64 0, .slice none 0 0] 35)).alloc (.cells #[.int .i64 room, .slice none 0 0] 35)).frozen? ⟨w.heap.size + 1, i, none⟩ = false := fun i => by rw [itFrozenOld _ (by simp), itFrozen _ (by simp)]
  have HC : Hid (∀ wx, Below w.heap.size w wx → Calls Tryz.prog 24 #[.slice av es.length capv] wx fun e w' => e = .returned (.slice (some ⟨wx.heap.size, 0, none⟩) es.length es.length) ∧ w'.ownsRow wx.heap.size 83 3 (.slice (some ⟨wx.heap.size, 0, none⟩) es.length es.length) es.length (itV es) ∧ Below wx.heap.size wx w') := fun wx hx => lawsToIts _ es wx (hrow.below hx) hlen
  clear hrow
  go_enter Tryz.func8, Tryz.ntmps8
  go_wp2_with fail
  generalize (((w.alloc (.cells #[.int .i64 room, .slice av es.length capv] 25)).alloc (.cells #[.int .i64 0, .slice none 0 0] 35)).alloc (.cells #[.int .i64 room, .slice none 0 0] 35)) = W3 at *
  refine (HC.out _ hB3).mono ?_
  rintro e w2 ⟨rfl, ho, hb2⟩
  have hbw2 : Below w.heap.size w w2 := hB3.trans (hb2.mono (by omega))
  have s1 : w.heap.size + 1 < W3.heap.size := by omega
  have s2 : w.heap.size + 1 + 1 < W3.heap.size := by omega
  have a0 : w2.cell? ⟨w.heap.size + 1 + 1, 0, none⟩ = some (.int .i64 room) := (hb2.cell (p := ⟨w.heap.size + 1 + 1, 0, none⟩) s2).trans (c2 0)
  have a1 : w2.cell? ⟨w.heap.size + 1 + 1, 1, none⟩ = some (.slice none 0 0) := (hb2.cell (p := ⟨w.heap.size + 1 + 1, 1, none⟩) s2).trans (c2 1)
  have b0 : w2.cell? ⟨w.heap.size + 1, 0, none⟩ = some (.int .i64 0) := (hb2.cell (p := ⟨w.heap.size + 1, 0, none⟩) s1).trans (c1 0)
  have b1 : w2.cell? ⟨w.heap.size + 1, 1, none⟩ = some (.slice none 0 0) := (hb2.cell (p := ⟨w.heap.size + 1, 1, none⟩) s1).trans (c1 1)
  have g1 := (hb2.frozen (p := ⟨w.heap.size + 1 + 1, 1, none⟩) s2).trans (f2 1)
  have d0 := (hb2.frozen (p := ⟨w.heap.size + 1, 0, none⟩) s1).trans (f1 0)
  have d1 := (hb2.frozen (p := ⟨w.heap.size + 1, 1, none⟩) s1).trans (f1 1)
  have HO : Hid (type_of% ho) := ho
  rw [h3] at HO ⊢
  clear ho c1 c2 f1 f2 hb2 HC hB3
  go_wp2_with fail
  refine ret_store (b := w.heap.size + 1) (x0 := .int .i64 room) (x1 := .slice (some ⟨w.heap.size + 1 + 1 + 1, 0, none⟩) es.length es.length) rfl ⟨?_, ?_⟩ ⟨_, rfl, ?_, ?_⟩
  · rw [World.cell?_setCell_other _ _ _ _ (by simp), World.cell?_setCell_same _ _ _ (by rw [World.cell?_setCell_other _ _ _ _ (by simp)]; exact b0)]
  · rw [World.cell?_setCell_same _ _ _ (by rw [World.cell?_setCell_other _ _ _ _ (by simp), World.cell?_setCell_other _ _ _ _ (by simp)]; exact b1)]
  · refine itLow HO.out (by omega) fun g hg => ?_
    have hg' : g = w.heap.size + 1 + 1 + 1 := by simpa [Value.ownBlock] using hg.symm
    subst hg'
    rw [Below.heap_setCell _ _ _ _ (by simp <;> omega), Below.heap_setCell _ _ _ _ (by simp <;> omega), Below.heap_setCell _ _ _ _ (by simp <;> omega)]
  · exact ((hbw2.setCell (by simp; omega) _).setCell (by simp) _).setCell (by simp) _

end Go.Proofs.YtllbfbllkefjeaaGreatDoor

namespace Go.Proofs.YtllbfbllkefjeaaGreatDoor
open Go.RowKit

/-- what holds in every world that has these blocks as they are -/
def Keeps (B : Nat) (X : World) (P : World → Prop) : Prop := ∀ F, Above B X F → P F
theorem Keeps.step {B : Nat} {X Y : World} {P : World → Prop} (h : Keeps B X P) (ha : Above B X Y) : Keeps B Y P := fun F hF => h F (ha.trans hF)

def put10 (X : World) (b : Nat) (x0 x1 x2 x3 x4 x5 x6 x7 x8 x9 : Value) : World := ((((((((((X.setCell ⟨b, 0, none⟩ x0).setCell ⟨b, 1, none⟩ x1).setCell ⟨b, 2, none⟩ x2).setCell ⟨b, 3, none⟩ x3).setCell ⟨b, 4, none⟩ x4).setCell ⟨b, 5, none⟩ x5).setCell ⟨b, 6, none⟩ x6).setCell ⟨b, 7, none⟩ x7).setCell ⟨b, 8, none⟩ x8).setCell ⟨b, 9, none⟩ x9)
theorem put10_above (X : World) (b B : Nat) (x0 x1 x2 x3 x4 x5 x6 x7 x8 x9 : Value) (h : b < B) : Above B X (put10 X b x0 x1 x2 x3 x4 x5 x6 x7 x8 x9) := ((((((((((Above.set _ _ _ h).trans (Above.set _ _ _ h)).trans (Above.set _ _ _ h)).trans (Above.set _ _ _ h)).trans (Above.set _ _ _ h)).trans (Above.set _ _ _ h)).trans (Above.set _ _ _ h)).trans (Above.set _ _ _ h)).trans (Above.set _ _ _ h)).trans (Above.set _ _ _ h))
theorem put10_below (X w : World) (b : Nat) (x0 x1 x2 x3 x4 x5 x6 x7 x8 x9 : Value) (h : Below w.heap.size w X) (hb : w.heap.size ≤ b) : Below w.heap.size w (put10 X b x0 x1 x2 x3 x4 x5 x6 x7 x8 x9) := ((((((((((h.setCell (p := ⟨b, 0, none⟩) hb _).setCell (p := ⟨b, 1, none⟩) hb _).setCell (p := ⟨b, 2, none⟩) hb _).setCell (p := ⟨b, 3, none⟩) hb _).setCell (p := ⟨b, 4, none⟩) hb _).setCell (p := ⟨b, 5, none⟩) hb _).setCell (p := ⟨b, 6, none⟩) hb _).setCell (p := ⟨b, 7, none⟩) hb _).setCell (p := ⟨b, 8, none⟩) hb _).setCell (p := ⟨b, 9, none⟩) hb _)
theorem put10R {X : World} {b : Nat} {z0 z1 z2 z3 z4 z5 z6 z7 z8 z9 x0 x1 x2 x3 x4 x5 x6 x7 x8 x9 : Value} {t : TypeId} (h : X.heap[b]? = some (.cells #[z0, z1, z2, z3, z4, z5, z6, z7, z8, z9] t (0, 0))) : (put10 X b x0 x1 x2 x3 x4 x5 x6 x7 x8 x9).heap[b]? = some (.cells #[x0, x1, x2, x3, x4, x5, x6, x7, x8, x9] t (0, 0)) := by
  have h0 : (X.setCell ⟨b, 0, none⟩ x0).heap[b]? = some (.cells #[x0, z1, z2, z3, z4, z5, z6, z7, z8, z9] t (0, 0)) := heap_setCell_same _ _ 0 _ _ _ h
  have h1 : ((X.setCell ⟨b, 0, none⟩ x0).setCell ⟨b, 1, none⟩ x1).heap[b]? = some (.cells #[x0, x1, z2, z3, z4, z5, z6, z7, z8, z9] t (0, 0)) := heap_setCell_same _ _ 1 _ _ _ h0
  have h2 : (((X.setCell ⟨b, 0, none⟩ x0).setCell ⟨b, 1, none⟩ x1).setCell ⟨b, 2, none⟩ x2).heap[b]? = some (.cells #[x0, x1, x2, z3, z4, z5, z6, z7, z8, z9] t (0, 0)) := heap_setCell_same _ _ 2 _ _ _ h1
  have h3 : ((((X.setCell ⟨b, 0, none⟩ x0).setCell ⟨b, 1, none⟩ x1).setCell ⟨b, 2, none⟩ x2).setCell ⟨b, 3, none⟩ x3).heap[b]? = some (.cells #[x0, x1, x2, x3, z4, z5, z6, z7, z8, z9] t (0, 0)) := heap_setCell_same _ _ 3 _ _ _ h2
  have h4 : (((((X.setCell ⟨b, 0, none⟩ x0).setCell ⟨b, 1, none⟩ x1).setCell ⟨b, 2, none⟩ x2).setCell ⟨b, 3, none⟩ x3).setCell ⟨b, 4, none⟩ x4).heap[b]? = some (.cells #[x0, x1, x2, x3, x4, z5, z6, z7, z8, z9] t (0, 0)) := heap_setCell_same _ _ 4 _ _ _ h3
  have h5 : ((((((X.setCell ⟨b, 0, none⟩ x0).setCell ⟨b, 1, none⟩ x1).setCell ⟨b, 2, none⟩ x2).setCell ⟨b, 3, none⟩ x3).setCell ⟨b, 4, none⟩ x4).setCell ⟨b, 5, none⟩ x5).heap[b]? = some (.cells #[x0, x1, x2, x3, x4, x5, z6, z7, z8, z9] t (0, 0)) := heap_setCell_same _ _ 5 _ _ _ h4
  have h6 : (((((((X.setCell ⟨b, 0, none⟩ x0).setCell ⟨b, 1, none⟩ x1).setCell ⟨b, 2, none⟩ x2).setCell ⟨b, 3, none⟩ x3).setCell ⟨b, 4, none⟩ x4).setCell ⟨b, 5, none⟩ x5).setCell ⟨b, 6, none⟩ x6).heap[b]? = some (.cells #[x0, x1, x2, x3, x4, x5, x6, z7, z8, z9] t (0, 0)) := heap_setCell_same _ _ 6 _ _ _ h5
  have h7 : ((((((((X.setCell ⟨b, 0, none⟩ x0).setCell ⟨b, 1, none⟩ x1).setCell ⟨b, 2, none⟩ x2).setCell ⟨b, 3, none⟩ x3).setCell ⟨b, 4, none⟩ x4).setCell ⟨b, 5, none⟩ x5).setCell ⟨b, 6, none⟩ x6).setCell ⟨b, 7, none⟩ x7).heap[b]? = some (.cells #[x0, x1, x2, x3, x4, x5, x6, x7, z8, z9] t (0, 0)) := heap_setCell_same _ _ 7 _ _ _ h6
  have h8 : (((((((((X.setCell ⟨b, 0, none⟩ x0).setCell ⟨b, 1, none⟩ x1).setCell ⟨b, 2, none⟩ x2).setCell ⟨b, 3, none⟩ x3).setCell ⟨b, 4, none⟩ x4).setCell ⟨b, 5, none⟩ x5).setCell ⟨b, 6, none⟩ x6).setCell ⟨b, 7, none⟩ x7).setCell ⟨b, 8, none⟩ x8).heap[b]? = some (.cells #[x0, x1, x2, x3, x4, x5, x6, x7, x8, z9] t (0, 0)) := heap_setCell_same _ _ 8 _ _ _ h7
  have h9 : ((((((((((X.setCell ⟨b, 0, none⟩ x0).setCell ⟨b, 1, none⟩ x1).setCell ⟨b, 2, none⟩ x2).setCell ⟨b, 3, none⟩ x3).setCell ⟨b, 4, none⟩ x4).setCell ⟨b, 5, none⟩ x5).setCell ⟨b, 6, none⟩ x6).setCell ⟨b, 7, none⟩ x7).setCell ⟨b, 8, none⟩ x8).setCell ⟨b, 9, none⟩ x9).heap[b]? = some (.cells #[x0, x1, x2, x3, x4, x5, x6, x7, x8, x9] t (0, 0)) := heap_setCell_same _ _ 9 _ _ _ h8
  exact h9

end Go.Proofs.YtllbfbllkefjeaaGreatDoor
