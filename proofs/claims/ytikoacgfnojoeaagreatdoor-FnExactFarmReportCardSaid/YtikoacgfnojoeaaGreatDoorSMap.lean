/-
  A map whose keys are texts, by what it holds: found and not found, one more put beside. No program here.
-/
import Derived.Test.YtikoacgfnojoeaaGreatDoorPlaceM
namespace Go.Proofs.YtikoacgfnojoeaaGreatDoor
open Go.RowKit

/-- what stands at a text -/
def lookD : List (ByteArray × Value) → ByteArray → Option Value
  | [], _ => none
  | p :: r, s => if p.1 = s then some p.2 else lookD r s
theorem lookD_app (D E : List (ByteArray × Value)) (s : ByteArray) : lookD (D ++ E) s = (lookD D s).or (lookD E s) := by
  induction D with
  | nil => rfl
  | cons p r ih =>
    show (if p.1 = s then some p.2 else lookD (r ++ E) s) = (if p.1 = s then some p.2 else lookD r s).or _
    split
    · rfl
    · exact ih
/-- the map in block M holds these, in the order in which they were put -/
def SMap (w : World) (M : Nat) (D : List (ByteArray × Value)) : Prop := ∃ es clock, w.heap[M]? = some (.map es clock) ∧ es.toList.map (fun x => (x.key, x.val)) = D.map fun p => (Value.string p.1, p.2)

theorem beq_textD (a b : ByteArray) : (a == b) = decide (a = b) := by
  by_cases h : a = b
  · subst h
    rw [beq_toListBytes, decide_eq_true rfl]
    exact beq_self_eq_true _
  · rw [beq_toListBytes, decide_eq_false h, beq_eq_false_iff_ne]
    intro e
    refine h ?_
    rw [ByteArray.toList_eq, ByteArray.toList_eq] at e
    obtain ⟨⟨x⟩⟩ := a
    obtain ⟨⟨y⟩⟩ := b
    exact congrArg _ (congrArg _ e)

theorem findNow_text (s : ByteArray) : ∀ (es : List MapEntry) (D : List (ByteArray × Value)) (i : Nat), es.map (fun x => (x.key, x.val)) = D.map (fun p => (Value.string p.1, p.2)) → ∃ r, Instr.findNow .string (.string s) es i = some r ∧ r.map (·.2) = lookD D s := by
  intro es
  induction es with
  | nil =>
    intro D i h
    cases D with
    | nil => exact ⟨none, rfl, rfl⟩
    | cons p q => simp at h
  | cons x r ih =>
    intro D i h
    cases D with
    | nil => simp at h
    | cons p q =>
      simp only [List.map_cons, List.cons.injEq, Prod.mk.injEq] at h
      obtain ⟨⟨hk, hv⟩, hr⟩ := h
      obtain ⟨u, hu1, hu2⟩ := ih q (i + 1) hr
      by_cases c : p.1 = s
      · refine ⟨some (i, x.val), ?_, ?_⟩
        · simp only [Instr.findNow, hk, Instr.sameNow, beq_textD, c, decide_true]
        · show some x.val = if p.1 = s then some p.2 else lookD q s
          rw [if_pos c, hv]
      · refine ⟨u, ?_, ?_⟩
        · have c' : ¬ s = p.1 := fun e => c e.symm
          simp only [Instr.findNow, hk, Instr.sameNow, beq_textD, c', decide_false]
          exact hu1
        · show u.map (·.2) = if p.1 = s then some p.2 else lookD q s
          rw [if_neg c]
          exact hu2

theorem run_checkKey_text (n : Nat) {P : Program} {w : World} {k : TypeId} {s : ByteArray} (hk : P.underlying k = some .string) (e : Bool) : (Instr.checkKey e (n + 1) k (.string s)).run P w = .ok () w := by
  simp [Instr.checkKey, run_underlying hk]

theorem run_lookup_text {P : Program} {w : World} {T k e : TypeId} {M : Nat} {D : List (ByteArray × Value)} {z : Value} (hT : P.underlying T = some (.map k e)) (hk : P.underlying k = some .string) (hz : (zeroValue e).run P w = .ok z w) (hM : SMap w M D) (s : ByteArray) (ck : Bool) :
    (Instr.lookup T (.map (some M)) (.string s) ck).run P w = .ok (match lookD D s with | some v => (if ck then .tuple #[v, .bool true] else v) | none => (if ck then .tuple #[z, .bool false] else z)) w := by
  obtain ⟨es, clock, hb, hes⟩ := hM
  obtain ⟨r, h1, h2⟩ := findNow_text s es.toList D 0 hes
  have hf : (Instr.findKey k (.string s) es.toList).run P w = .ok r w := by simp [Instr.findKey, run_underlying hk, h1]
  have hc : (Instr.checkKey es.isEmpty 10000 k (.string s)).run P w = .ok () w := run_checkKey_text 9999 hk _
  rw [← h2]
  cases r with
  | none => simp [Instr.lookup, run_underlying hT, MapKept.run_getObj_map hb, hc, hf, hz, Result.andThen]
  | some p => simp [Instr.lookup, run_underlying hT, MapKept.run_getObj_map hb, hc, hf, Result.andThen]

theorem run_update_text {P : Program} {w : World} {T k e : TypeId} {M : Nat} {D : List (ByteArray × Value)} (hT : P.underlying T = some (.map k e)) (hk : P.underlying k = some .string) (hM : SMap w M D) (s : ByteArray) (hs : lookD D s = none) (v : Value) :
    ∃ w', (Instr.mapUpdate T (.map (some M)) (.string s) v).run P w = .ok () w' ∧ SMap w' M (D ++ [(s, v)]) ∧ But M w w' := by
  obtain ⟨es, clock, hb, hes⟩ := hM
  obtain ⟨r, h1, h2⟩ := findNow_text s es.toList D 0 hes
  rw [hs] at h2
  obtain rfl : r = none := by cases r <;> simp_all
  have hf : (Instr.findKey k (.string s) es.toList).run P w = .ok none w := by simp [Instr.findKey, run_underlying hk, h1]
  have hc : ∀ b, (Instr.checkKey b 10000 k (.string s)).run P w = .ok () w := fun b => run_checkKey_text 9999 hk _
  have hr : (Instr.mapUpdate T (.map (some M)) (.string s) v).run P w = .ok () { w with heap := w.heap.setIfInBounds M (.map (es.push { key := .string s, val := v, born := clock }) (clock + 1)) } := by
    simp [Instr.mapUpdate, run_underlying hT, MapKept.run_getObj_map hb, hc, hf, MapKept.run_setObj_map _ hb, Result.andThen]
  obtain ⟨n1, n2⟩ := MapKept.heap_set (o' := .map (es.push { key := .string s, val := v, born := clock }) (clock + 1)) hb
  refine ⟨_, hr, ⟨_, _, n1, ?_⟩, ⟨rfl, rfl, rfl, by simp, fun b hb => n2 b hb⟩⟩
  rw [Array.toList_push, List.map_append, List.map_append, hes]
  rfl

theorem SMap.made {w : World} {M : Nat} (h : w.heap[M]? = some (.map #[] 0)) : SMap w M [] := ⟨#[], 0, h, rfl⟩
theorem SMap.same {w w' : World} {M : Nat} {D : List (ByteArray × Value)} (h : SMap w M D) (hM : w'.heap[M]? = w.heap[M]?) : SMap w' M D := by
  obtain ⟨es, clock, hb, hes⟩ := h
  exact ⟨es, clock, hM.trans hb, hes⟩
theorem SMap.lt {w : World} {M : Nat} {D : List (ByteArray × Value)} (h : SMap w M D) : M < w.heap.size := by
  obtain ⟨es, clock, hb, _⟩ := h
  exact (Array.getElem?_eq_some_iff.1 hb).1

end Go.Proofs.YtikoacgfnojoeaaGreatDoor
