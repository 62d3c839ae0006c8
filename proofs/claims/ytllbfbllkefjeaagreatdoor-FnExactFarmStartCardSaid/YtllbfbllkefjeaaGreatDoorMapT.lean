/-
  A map whose keys are texts, by what it holds (as TMap, for seats that have no types): found and not found, one more put beside; whatever it holds: something put, something taken out. No program here.
  The walk of slices.Clone at items; where the inputs of items stand.
-/
import Derived.Test.YtllbfbllkefjeaaGreatDoorTextsD
import Derived.Maps.OwnOps
import Derived.MapKept
import Derived.Test.YtllbfbllkefjeaaGreatDoorItT
namespace Go.Proofs.YtllbfbllkefjeaaGreatDoor
open Go.RowKit

/-- but for block M all is as it was -/
def ButT (M : Nat) (w w' : World) : Prop := w'.os = w.os ∧ w'.tape = w.tape ∧ w'.output = w.output ∧ w'.heap.size = w.heap.size ∧ ∀ b, b ≠ M → w'.heap[b]? = w.heap[b]?
theorem ButT.below {M B : Nat} {w w' : World} (h : ButT M w w') (hB : B ≤ M) : Below B w w' := ⟨h.1, h.2.1, h.2.2.1, by rw [h.2.2.2.1]; exact Nat.le_refl _, fun k hk => h.2.2.2.2 k (by omega)⟩
theorem ButT.owns {M B e z n : Nat} {w w' : World} {v : Value} {xs : List Value} (h : ButT M w w') (hM : ∃ es clock, w.heap[M]? = some (.map es clock)) (ho : w.ownsRow B e z v n xs) : w'.ownsRow B e z v n xs := by
  obtain ⟨es, clock, hM⟩ := hM
  refine ⟨ho.1, ?_⟩
  rcases ho.2 with g | ⟨g, cap, cur, hv, hg, hh, r⟩
  · exact .inl g
  · refine .inr ⟨g, cap, cur, hv, hg, ?_, r⟩
    rw [h.2.2.2.2 g (fun e => by subst e; rw [hM] at hh; simp at hh)]
    exact hh

/-- what stands at a text -/
def lookT : List (ByteArray × Value) → ByteArray → Option Value
  | [], _ => none
  | p :: r, s => if p.1 = s then some p.2 else lookT r s
theorem lookT_app (D E : List (ByteArray × Value)) (s : ByteArray) : lookT (D ++ E) s = (lookT D s).or (lookT E s) := by
  induction D with
  | nil => rfl
  | cons p r ih =>
    show (if p.1 = s then some p.2 else lookT (r ++ E) s) = (if p.1 = s then some p.2 else lookT r s).or _
    split
    · rfl
    · exact ih
/-- the map in block M holds these, in the order in which they were put -/
def TMap (w : World) (M : Nat) (D : List (ByteArray × Value)) : Prop := ∃ es clock, w.heap[M]? = some (.map es clock) ∧ es.toList.map (fun x => (x.key, x.val)) = D.map fun p => (Value.string p.1, p.2)

theorem beq_textT (a b : ByteArray) : (a == b) = decide (a = b) := by
  by_cases h : a = b
  · subst h
    rw [beq_toListBytes, decide_eq_true rfl]
    exact beq_self_eq_true _
  · rw [beq_toListBytes, decide_eq_false h, beq_eq_false_iff_ne]
    intro e
    refine h ?_
    rw [ByteArray.toList_eq, ByteArray.toList_eq] at e
    obtain ⟨⟨x⟩⟩ := a
    obtain ⟨⟨y⟩⟩ := b
    exact congrArg _ (congrArg _ e)

theorem findNow_textT (s : ByteArray) : ∀ (es : List MapEntry) (D : List (ByteArray × Value)) (i : Nat), es.map (fun x => (x.key, x.val)) = D.map (fun p => (Value.string p.1, p.2)) → ∃ r, Instr.findNow .string (.string s) es i = some r ∧ r.map (·.2) = lookT D s := by
  intro es
  induction es with
  | nil =>
    intro D i h
    cases D with
    | nil => exact ⟨none, rfl, rfl⟩
    | cons p q => simp at h
  | cons x r ih =>
    intro D i h
    cases D with
    | nil => simp at h
    | cons p q =>
      simp only [List.map_cons, List.cons.injEq, Prod.mk.injEq] at h
      obtain ⟨⟨hk, hv⟩, hr⟩ := h
      obtain ⟨u, hu1, hu2⟩ := ih q (i + 1) hr
      by_cases c : p.1 = s
      · refine ⟨some (i, x.val), ?_, ?_⟩
        · simp only [Instr.findNow, hk, Instr.sameNow, beq_textT, c, decide_true]
        · show some x.val = if p.1 = s then some p.2 else lookT q s
          rw [if_pos c, hv]
      · refine ⟨u, ?_, ?_⟩
        · have c' : ¬ s = p.1 := fun e => c e.symm
          simp only [Instr.findNow, hk, Instr.sameNow, beq_textT, c', decide_false]
          exact hu1
        · show u.map (·.2) = if p.1 = s then some p.2 else lookT q s
          rw [if_neg c]
          exact hu2

theorem run_checkKey_textT (n : Nat) {P : Program} {w : World} {k : TypeId} {s : ByteArray} (hk : P.underlying k = some .string) (e : Bool) : (Instr.checkKey e (n + 1) k (.string s)).run P w = .ok () w := by
  simp [Instr.checkKey, run_underlying hk]

theorem run_lookup_textT {P : Program} {w : World} {T k e : TypeId} {M : Nat} {D : List (ByteArray × Value)} {z : Value} (hT : P.underlying T = some (.map k e)) (hk : P.underlying k = some .string) (hz : (zeroValue e).run P w = .ok z w) (hM : TMap w M D) (s : ByteArray) (ck : Bool) :
    (Instr.lookup T (.map (some M)) (.string s) ck).run P w = .ok (match lookT D s with | some v => (if ck then .tuple #[v, .bool true] else v) | none => (if ck then .tuple #[z, .bool false] else z)) w := by
  obtain ⟨es, clock, hb, hes⟩ := hM
  obtain ⟨r, h1, h2⟩ := findNow_textT s es.toList D 0 hes
  have hf : (Instr.findKey k (.string s) es.toList).run P w = .ok r w := by simp [Instr.findKey, run_underlying hk, h1]
  have hc : (Instr.checkKey es.isEmpty 10000 k (.string s)).run P w = .ok () w := run_checkKey_textT 9999 hk _
  rw [← h2]
  cases r with
  | none => simp [Instr.lookup, run_underlying hT, MapKept.run_getObj_map hb, hc, hf, hz, Result.andThen]
  | some p => simp [Instr.lookup, run_underlying hT, MapKept.run_getObj_map hb, hc, hf, Result.andThen]

theorem run_update_textT {P : Program} {w : World} {T k e : TypeId} {M : Nat} {D : List (ByteArray × Value)} (hT : P.underlying T = some (.map k e)) (hk : P.underlying k = some .string) (hM : TMap w M D) (s : ByteArray) (hs : lookT D s = none) (v : Value) :
    ∃ w', (Instr.mapUpdate T (.map (some M)) (.string s) v).run P w = .ok () w' ∧ TMap w' M (D ++ [(s, v)]) ∧ ButT M w w' := by
  obtain ⟨es, clock, hb, hes⟩ := hM
  obtain ⟨r, h1, h2⟩ := findNow_textT s es.toList D 0 hes
  rw [hs] at h2
  obtain rfl : r = none := by cases r <;> simp_all
  have hf : (Instr.findKey k (.string s) es.toList).run P w = .ok none w := by simp [Instr.findKey, run_underlying hk, h1]
  have hc : ∀ b, (Instr.checkKey b 10000 k (.string s)).run P w = .ok () w := fun b => run_checkKey_textT 9999 hk _
  have hr : (Instr.mapUpdate T (.map (some M)) (.string s) v).run P w = .ok () { w with heap := w.heap.setIfInBounds M (.map (es.push { key := .string s, val := v, born := clock }) (clock + 1)) } := by
    simp [Instr.mapUpdate, run_underlying hT, MapKept.run_getObj_map hb, hc, hf, MapKept.run_setObj_map _ hb, Result.andThen]
  obtain ⟨n1, n2⟩ := MapKept.heap_set (o' := .map (es.push { key := .string s, val := v, born := clock }) (clock + 1)) hb
  refine ⟨_, hr, ⟨_, _, n1, ?_⟩, ⟨rfl, rfl, rfl, by simp, fun b hb => n2 b hb⟩⟩
  rw [Array.toList_push, List.map_append, List.map_append, hes]
  rfl

theorem TMap.made {w : World} {M : Nat} (h : w.heap[M]? = some (.map #[] 0)) : TMap w M [] := ⟨#[], 0, h, rfl⟩
theorem TMap.same {w w' : World} {M : Nat} {D : List (ByteArray × Value)} (h : TMap w M D) (hM : w'.heap[M]? = w.heap[M]?) : TMap w' M D := by
  obtain ⟨es, clock, hb, hes⟩ := h
  exact ⟨es, clock, hM.trans hb, hes⟩
theorem TMap.lt {w : World} {M : Nat} {D : List (ByteArray × Value)} (h : TMap w M D) : M < w.heap.size := by
  obtain ⟨es, clock, hb, _⟩ := h
  exact (Array.getElem?_eq_some_iff.1 hb).1

/-- the block is a map whose keys are texts -/
def AMap (w : World) (M : Nat) : Prop := ∃ es clock, w.heap[M]? = some (.map es clock) ∧ ∀ x ∈ es.toList, ∃ s, x.key = .string s
theorem TMap.any {w : World} {M : Nat} {D : List (ByteArray × Value)} (h : TMap w M D) : AMap w M := by
  obtain ⟨es, clock, hb, hes⟩ := h
  refine ⟨es, clock, hb, fun x hx => ?_⟩
  have : (x.key, x.val) ∈ es.toList.map (fun x => (x.key, x.val)) := List.mem_map.2 ⟨x, hx, rfl⟩
  rw [hes] at this
  obtain ⟨p, _, hp⟩ := List.mem_map.1 this
  exact ⟨p.1, (congrArg Prod.fst hp).symm⟩
theorem AMap.same {w w' : World} {M : Nat} (h : AMap w M) (hM : w'.heap[M]? = w.heap[M]?) : AMap w' M := by
  obtain ⟨es, clock, hb, hes⟩ := h
  exact ⟨es, clock, hM.trans hb, hes⟩
theorem AMap.lt {w : World} {M : Nat} (h : AMap w M) : M < w.heap.size := by
  obtain ⟨es, clock, hb, _⟩ := h
  exact (Array.getElem?_eq_some_iff.1 hb).1
theorem AMap.map {w : World} {M : Nat} (h : AMap w M) : ∃ es clock, w.heap[M]? = some (.map es clock) := by
  obtain ⟨es, clock, hb, _⟩ := h
  exact ⟨es, clock, hb⟩

theorem findNow_any (s : ByteArray) : ∀ (es : List MapEntry) (i : Nat), (∀ x ∈ es, ∃ s, x.key = .string s) → ∃ r, Instr.findNow .string (.string s) es i = some r ∧ ∀ j v, r = some (j, v) → ∃ x, i ≤ j ∧ es[j - i]? = some x ∧ x.key = .string s := by
  intro es
  induction es with
  | nil => intro i _; exact ⟨none, rfl, fun j v h => by cases h⟩
  | cons x r ih =>
    intro i h
    obtain ⟨t, hk⟩ := h x (List.mem_cons_self ..)
    obtain ⟨u, hu1, hu2⟩ := ih (i + 1) fun y hy => h y (List.mem_cons_of_mem _ hy)
    by_cases c : s = t
    · subst c
      refine ⟨some (i, x.val), ?_, fun j v e => ?_⟩
      · simp only [Instr.findNow, hk, Instr.sameNow, beq_textT, decide_true]
      · simp only [Option.some.injEq, Prod.mk.injEq] at e
        obtain ⟨rfl, _⟩ := e
        exact ⟨x, Nat.le_refl _, by simp, hk⟩
    · refine ⟨u, ?_, fun j v e => ?_⟩
      · simp only [Instr.findNow, hk, Instr.sameNow, beq_textT, c, decide_false]
        exact hu1
      · obtain ⟨y, h1, h2, h3⟩ := hu2 j v e
        refine ⟨y, by omega, ?_, h3⟩
        rw [show j - i = (j - (i + 1)) + 1 from by omega, List.getElem?_cons_succ]
        exact h2

theorem run_update_any {P : Program} {w : World} {T k e : TypeId} {M : Nat} (hT : P.underlying T = some (.map k e)) (hk : P.underlying k = some .string) (hM : AMap w M) (s : ByteArray) (v : Value) :
    ∃ w', (Instr.mapUpdate T (.map (some M)) (.string s) v).run P w = .ok () w' ∧ AMap w' M ∧ ButT M w w' := by
  obtain ⟨es, clock, hb, hes⟩ := hM
  obtain ⟨r, h1, h2⟩ := findNow_any s es.toList 0 hes
  have hf : (Instr.findKey k (.string s) es.toList).run P w = .ok r w := by simp [Instr.findKey, run_underlying hk, h1]
  have hc : ∀ b, (Instr.checkKey b 10000 k (.string s)).run P w = .ok () w := fun b => run_checkKey_textT 9999 hk _
  cases r with
  | none =>
    have hr : (Instr.mapUpdate T (.map (some M)) (.string s) v).run P w = .ok () { w with heap := w.heap.setIfInBounds M (.map (es.push { key := .string s, val := v, born := clock }) (clock + 1)) } := by
      simp [Instr.mapUpdate, run_underlying hT, MapKept.run_getObj_map hb, hc, hf, MapKept.run_setObj_map _ hb, Result.andThen]
    obtain ⟨n1, n2⟩ := MapKept.heap_set (o' := .map (es.push { key := .string s, val := v, born := clock }) (clock + 1)) hb
    refine ⟨_, hr, ⟨_, _, n1, fun x hx => ?_⟩, ⟨rfl, rfl, rfl, by simp, fun b hb => n2 b hb⟩⟩
    rw [Array.toList_push, List.mem_append] at hx
    rcases hx with hx | hx
    · exact hes x hx
    · exact ⟨s, by rw [List.mem_singleton.1 hx]⟩
  | some p =>
    obtain ⟨j, val⟩ := p
    obtain ⟨x, _, hx, hxk⟩ := h2 j val rfl
    rw [Nat.sub_zero, Array.getElem?_toList] at hx
    have hst : (Instr.keyThatStays (((es[j]?).map (·.key)).getD (.string s)) (.string s)).run P w = .ok (.string s) w := by
      rw [hx]
      simp [Instr.keyThatStays, hxk, Instr.sameBits, beq_textT]
    have hr : (Instr.mapUpdate T (.map (some M)) (.string s) v).run P w = .ok () { w with heap := w.heap.setIfInBounds M (.map (es.modify j fun e => { e with key := .string s, val := v }) clock) } := by
      simp [Instr.mapUpdate, run_underlying hT, MapKept.run_getObj_map hb, hc, hf, hst, MapKept.run_setObj_map _ hb, Result.andThen]
    obtain ⟨n1, n2⟩ := MapKept.heap_set (o' := .map (es.modify j fun e => { e with key := .string s, val := v }) clock) hb
    refine ⟨_, hr, ⟨_, _, n1, fun y hy => ?_⟩, ⟨rfl, rfl, rfl, by simp, fun b hb => n2 b hb⟩⟩
    obtain ⟨i, hi, rfl⟩ := List.getElem_of_mem hy
    rw [Array.getElem_toList, Array.getElem_modify]
    split
    · exact ⟨s, rfl⟩
    · exact hes _ (by rw [← Array.getElem_toList]; exact List.getElem_mem _)

theorem run_delete_any {P : Program} {w : World} {T k e : TypeId} {M : Nat} (hT : P.underlying T = some (.map k e)) (hk : P.underlying k = some .string) (hM : AMap w M) (s : ByteArray) (ty : TypeId) :
    ∃ w', (Builtin.delete_ #[T, k] ty #[.map (some M), .string s]).run P w = .ok (.tuple #[]) w' ∧ AMap w' M ∧ ButT M w w' := by
  obtain ⟨es, clock, hb, hes⟩ := hM
  obtain ⟨r, h1, h2⟩ := findNow_any s es.toList 0 hes
  have hf : (Instr.findKey k (.string s) es.toList).run P w = .ok r w := by simp [Instr.findKey, run_underlying hk, h1]
  have hc : ∀ b, (Instr.checkKey b 10000 k (.string s)).run P w = .ok () w := fun b => run_checkKey_textT 9999 hk _
  cases r with
  | none =>
    have hr : (Builtin.delete_ #[T, k] ty #[.map (some M), .string s]).run P w = .ok (.tuple #[]) { w with heap := w.heap.setIfInBounds M (.map es clock) } := by
      simp [Builtin.delete_, run_underlying hT, MapKept.run_getObj_map hb, hc, hf, MapKept.run_setObj_map _ hb, Result.andThen]
    obtain ⟨n1, n2⟩ := MapKept.heap_set (o' := .map es clock) hb
    exact ⟨_, hr, ⟨_, _, n1, hes⟩, ⟨rfl, rfl, rfl, by simp, fun b hb => n2 b hb⟩⟩
  | some p =>
    obtain ⟨j, val⟩ := p
    have hr : (Builtin.delete_ #[T, k] ty #[.map (some M), .string s]).run P w = .ok (.tuple #[]) { w with heap := w.heap.setIfInBounds M (.map (es.eraseIdxIfInBounds j) clock) } := by
      simp [Builtin.delete_, run_underlying hT, MapKept.run_getObj_map hb, hc, hf, MapKept.run_setObj_map _ hb, Result.andThen]
    obtain ⟨n1, n2⟩ := MapKept.heap_set (o' := .map (es.eraseIdxIfInBounds j) clock) hb
    refine ⟨_, hr, ⟨_, _, n1, fun y hy => ?_⟩, ⟨rfl, rfl, rfl, by simp, fun b hb => n2 b hb⟩⟩
    have : y ∈ es.toList := by
      unfold Array.eraseIdxIfInBounds at hy
      split at hy
      · rw [Array.toList_eraseIdx] at hy
        exact List.mem_of_mem_eraseIdx hy
      · exact hy
    exact hes y this

end Go.Proofs.YtllbfbllkefjeaaGreatDoor

namespace Go.Proofs.YtllbfbllkefjeaaGreatDoor
open Go.RowKit

theorem own_emptyI {w : World} {g B : Nat} (h : w.heap[g]? = some (.cells #[] 83 (0, 0))) (hg : B ≤ g) : w.ownsRow B 83 3 (.slice (some ⟨g, 0, none⟩) 0 0) 0 [] :=
  ⟨rfl, .inr ⟨g, 0, #[], rfl, hg, h, by simp⟩⟩
theorem slice_ownI {w : World} {B e z : Nat} {v : Value} {n : Nat} {xs : List Value} (h : w.ownsRow B e z v n xs) : ∃ a c, v = .slice a n c := by
  rcases h.2 with ⟨e, h0⟩ | ⟨g, c, cur, e, _⟩
  · exact ⟨none, 0, by rw [e, h0]⟩
  · exact ⟨_, c, e⟩

/-- the cells of a slice of items -/
theorem itCells {w : World} {v : Value} {es : List Itm} (h : ItAt w v es) : ∃ av capv, v = .slice av es.length capv ∧ (0 < es.length → ∃ b off, av = some ⟨b, off, none⟩ ∧ b < w.heap.size ∧ ∀ j u, (itV es)[j]? = some u → w.cell? ⟨b, off + j, none⟩ = some u) := by
  rcases h with ⟨h, a, cap, e⟩ | ⟨b, off, cap, e, hc⟩
  · exact ⟨a, cap, by rw [h]; exact e, fun h0 => by rw [h] at h0; simp at h0⟩
  · refine ⟨_, cap, e, fun h0 => ⟨b, off, rfl, World.block_lt_of_cell? w ⟨b, off + 0 * 3, none⟩ (hc 0 h0).1, fun j u hu => ?_⟩⟩
    have hj := (List.getElem?_eq_some_iff.1 hu).1
    rw [itV_length] at hj
    have hq : j / 3 < es.length := by omega
    obtain ⟨c0, c1, c2⟩ := hc (j / 3) hq
    obtain ⟨a0, a1, a2⟩ := itV_at es (j / 3) hq
    have hr : j = j / 3 * 3 ∨ j = j / 3 * 3 + 1 ∨ j = j / 3 * 3 + 2 := by omega
    rcases hr with e | e | e
    · rw [e] at hu ⊢
      rw [c0, ← hu, a0]
    · rw [e] at hu ⊢
      rw [← Nat.add_assoc, c1, ← hu, a1]
    · rw [e] at hu ⊢
      rw [← Nat.add_assoc, c2, ← hu, a2]
theorem itV_one (es : List Itm) : ∀ u ∈ itV es, u.oneCell' = true := fun u hu => by
  simp only [itV, List.mem_flatMap] at hu
  obtain ⟨e, _, h⟩ := hu
  simp only [List.mem_cons, List.not_mem_nil, or_false] at h
  rcases h with rfl | rfl | rfl <;> rfl

set_option maxHeartbeats 800000 in
set_option maxRecDepth 100000 in
theorem slCloneI (v : Value) (es : List Itm) (w : World) (hT : ItAt w v es) (hl : es.length ≤ 4194304) :
    Calls Tryz.prog 84 #[v] w fun e w' => ∃ (a : Option Addr) (c : Nat), e = .returned (.slice a es.length c) ∧ w'.ownsRow w.heap.size 83 3 (.slice a es.length c) es.length (itV es) ∧ Below w.heap.size w w' := by
  obtain ⟨i0, hi0, hz0, hz1, hz2⟩ := info_parts Tryz.infoItem
  obtain ⟨a, cap, rfl, hc⟩ := itCells hT
  clear hT
  cases a with
  | none =>
    have h0 : es.length = 0 := by
      cases hh : es.length with
      | zero => rfl
      | succ m => obtain ⟨b, off, e, _⟩ := hc (by omega); cases e
    have ht : es = [] := List.length_eq_zero_iff.1 h0
    subst ht
    clear hc hl h0
    have hq : ∀ w : World, Sem.run Tryz.prog (binOp BinOp.eql 33 (.slice none 0 cap) (.slice none 0 0)) w = .ok (.bool true) w := fun w => by kernel_rfl
    go_enter Tryz.func84, Tryz.ntmps84
    go_wp2
    go_ret
    exact ⟨none, 0, rfl, World.ownsRow_nil _ _ _ _, Below.refl _ _⟩
  | some ad =>
    have HC : Hid (∀ X : World, Below w.heap.size w X → ∀ j u, (itV es)[j]? = some u → X.cell? (ad.add j) = some u) := fun X hX j u hu => by
      have hj := (List.getElem?_eq_some_iff.1 hu).1
      rw [itV_length] at hj
      obtain ⟨b, off, e, hbl, h⟩ := hc (by omega)
      simp only [Option.some.injEq] at e
      subst e
      rw [Addr.add_lit]
      exact (hX.cell (p := ⟨b, off + j, none⟩) hbl).trans (h j u hu)
    have hB1 : Below w.heap.size w (w.alloc (.cells #[] 83)) := (Below.refl _ _).alloc (Nat.le_refl _) _
    have hE : (w.alloc (.cells #[] 83)).ownsRow w.heap.size 83 3 (.slice (some ⟨w.heap.size, 0, none⟩) 0 0) 0 [] := own_emptyI (MapKept.heap_alloc w _).1 (Nat.le_refl _)
    clear hc
    have hq : ∀ w : World, Sem.run Tryz.prog (binOp BinOp.eql 33 (.slice (some ad) es.length cap) (.slice none 0 0)) w = .ok (.bool false) w := fun w => by kernel_rfl
    go_enter Tryz.func84, Tryz.ntmps84
    go_wp2_with (at_builtin; refine wpList_append_own _ rfl _ _ 33 rfl w.heap.size 83 i0 _ 3 48 Tryz.underlying33 hi0 hz0 hz1 hz2 rfl (by decide) _ _ _ rfl hE ad es.length cap (itV es) rfl (itV_length es) (HC.out _ hB1) (itV_one es) ?c3 ?c4 ?c5 ?_)
    case c3 => unfold maxLen; omega
    case c4 => omega
    case c5 => simp
    intro v' w3 hown' hgrow _
    have R1 : w3.ownsRow w.heap.size 83 3 v' es.length (itV es) := by simpa using hown'
    have R2 : Below w.heap.size w w3 := hB1.grown hgrow (by simp) (fun j hj => by simp [Value.ownBlock] at hj; omega)
    obtain ⟨a', c', hv⟩ := slice_ownI R1
    subst hv
    have HO : Hid (type_of% R1) := R1
    clear hown' hgrow R1 HC hE hB1
    go_wp2_with fail
    go_ret
    exact ⟨a', c', rfl, HO.out, R2⟩

/-- where the inputs of the first so many stand -/
def stoD (es : List Itm) (k : Nat) : List (ByteArray × Value) := (es.take k).zipIdx.map fun p => (p.1.2.1, .int .i64 (p.2 : Nat))
theorem stoD_more (es : List Itm) (k : Nat) (h : k < es.length) : stoD es (k + 1) = stoD es k ++ [(es[k].2.1, .int .i64 k)] := by
  unfold stoD
  rw [List.take_succ_eq_append_getElem h, List.zipIdx_append, List.map_append]
  have hl : (es.take k).length = k := by simp; omega
  simp [hl]
theorem stoD_none (es : List Itm) (k : Nat) (hk : k ≤ es.length) (s : ByteArray) (h : ∀ j (hj : j < k), (es[j]'(by omega)).2.1 ≠ s) : lookT (stoD es k) s = none := by
  induction k with
  | zero => rfl
  | succ k ih =>
    rw [stoD_more es k (by omega), lookT_app, ih (by omega) fun j hj => h j (by omega)]
    show (if es[k].2.1 = s then some _ else none) = none
    rw [if_neg (h k (by omega))]
theorem stoD_some (es : List Itm) (k : Nat) (hk : k ≤ es.length) (s : ByteArray) (j : Nat) (hj : j < k) (he : (es[j]'(by omega)).2.1 = s) (hf : ∀ i (hi : i < j), (es[i]'(by omega)).2.1 ≠ s) : lookT (stoD es k) s = some (.int .i64 j) := by
  induction k with
  | zero => omega
  | succ k ih =>
    rw [stoD_more es k (by omega), lookT_app]
    by_cases c : j = k
    · subst c
      rw [stoD_none es j (by omega) s hf]
      show (if es[j].2.1 = s then some _ else none) = _
      rw [if_pos he]
    · rw [ih (by omega) (by omega) he hf]
      rfl

theorem lookTk {W : World} {M : Nat} {D : List (ByteArray × Value)} (hM : TMap W M D) (s : ByteArray) (z : Value) (h : lookT D s = some z) : Sem.run Tryz.prog (Instr.lookup 95 (.map (some M)) (.string s) true) W = .ok (.tuple #[z, .bool true]) W := by
  have := run_lookup_textT (P := Tryz.prog) (T := 95) (k := 9) (e := 3) (z := .int .i64 0) Tryz.underlying95 Tryz.underlying9 (by kernel_rfl) hM s true
  rw [h] at this
  exact this
theorem lookTkNo {W : World} {M : Nat} {D : List (ByteArray × Value)} (hM : TMap W M D) (s : ByteArray) (h : lookT D s = none) : Sem.run Tryz.prog (Instr.lookup 95 (.map (some M)) (.string s) true) W = .ok (.tuple #[.int .i64 0, .bool false]) W := by
  have := run_lookup_textT (P := Tryz.prog) (T := 95) (k := 9) (e := 3) (z := .int .i64 0) Tryz.underlying95 Tryz.underlying9 (by kernel_rfl) hM s true
  rw [h] at this
  exact this

end Go.Proofs.YtllbfbllkefjeaaGreatDoor
