/-
  A map whose keys are places (a pointer with a count), its values numbers: found and not found, put beside and put anew.
-/
import Derived.Test.YtpnalacdgnppmaaPlK
import Derived.Laws.StructEq
namespace Go.Proofs.Ytpnalacdgnppmaa
open Go.RowKit

/-- a key, plainly -/
structure KeyP where
  place : Option Addr
  count : Int
theorem KeyP.ext' {a b : KeyP} (h2 : a.place = b.place) (h3 : a.count = b.count) : a = b := by
  cases a; cases b; simp_all
def keyVP (k : KeyP) : Value := .agg #[.pointer k.place, .int .i64 k.count]

def KeyP.eqB (a b : KeyP) : Bool := decide (a.place = b.place ∧ a.count = b.count)
theorem KeyP.eqB_iff (a b : KeyP) : a.eqB b = true ↔ a = b := by
  unfold KeyP.eqB
  rw [decide_eq_true_iff]
  constructor
  · rintro ⟨h2, h3⟩
    exact KeyP.ext' h2 h3
  · rintro rfl
    exact ⟨rfl, rfl⟩
theorem KeyP.eqB_no {a b : KeyP} (h : ¬ a = b) : ¬ a.eqB b = true := fun e => h ((KeyP.eqB_iff a b).1 e)

/-- what stands at a key -/
def lookKP : List (KeyP × Int) → KeyP → Option Int
  | [], _ => none
  | p :: r, k => if p.1.eqB k then some p.2 else lookKP r k
/-- put in its place, or beside -/
def setKP : List (KeyP × Int) → KeyP → Int → List (KeyP × Int)
  | [], k, v => [(k, v)]
  | p :: r, k, v => if p.1.eqB k then (k, v) :: r else p :: setKP r k v
theorem lookK_yesP {p : KeyP × Int} {r : List (KeyP × Int)} {k : KeyP} (h : p.1 = k) : lookKP (p :: r) k = some p.2 := by rw [lookKP, if_pos ((KeyP.eqB_iff _ _).2 h)]
theorem lookK_noP {p : KeyP × Int} {r : List (KeyP × Int)} {k : KeyP} (h : ¬ p.1 = k) : lookKP (p :: r) k = lookKP r k := by rw [lookKP, if_neg (KeyP.eqB_no h)]
theorem setK_yesP {p : KeyP × Int} {r : List (KeyP × Int)} {k : KeyP} {v : Int} (h : p.1 = k) : setKP (p :: r) k v = (k, v) :: r := by rw [setKP, if_pos ((KeyP.eqB_iff _ _).2 h)]
theorem setK_noP {p : KeyP × Int} {r : List (KeyP × Int)} {k : KeyP} {v : Int} (h : ¬ p.1 = k) : setKP (p :: r) k v = p :: setKP r k v := by rw [setKP, if_neg (KeyP.eqB_no h)]
theorem look_set_sameP (D : List (KeyP × Int)) (k : KeyP) (v : Int) : lookKP (setKP D k v) k = some v := by
  induction D with
  | nil => exact lookK_yesP rfl
  | cons p r ih =>
    by_cases c : p.1 = k
    · rw [setK_yesP c]; exact lookK_yesP rfl
    · rw [setK_noP c, lookK_noP c]; exact ih
theorem look_set_otherP (D : List (KeyP × Int)) {k : KeyP} (v : Int) {k' : KeyP} (h : k ≠ k') : lookKP (setKP D k v) k' = lookKP D k' := by
  induction D with
  | nil => exact lookK_noP h
  | cons p r ih =>
    by_cases c : p.1 = k
    · rw [setK_yesP c, lookK_noP h, lookK_noP (fun e => h (c.symm.trans e))]
    · rw [setK_noP c]
      by_cases c2 : p.1 = k'
      · rw [lookK_yesP c2, lookK_yesP c2]
      · rw [lookK_noP c2, lookK_noP c2]; exact ih
theorem lookK_memP {D : List (KeyP × Int)} {k : KeyP} {v : Int} (h : lookKP D k = some v) : (k, v) ∈ D := by
  induction D with
  | nil => cases h
  | cons p r ih =>
    by_cases c : p.1 = k
    · rw [lookK_yesP c] at h
      cases h
      subst c
      simp
    · rw [lookK_noP c] at h
      exact List.mem_cons_of_mem _ (ih h)
theorem set_memP {D : List (KeyP × Int)} {k : KeyP} {v : Int} {p : KeyP × Int} (h : p ∈ setKP D k v) : p ∈ D ∨ p.1 = k := by
  induction D with
  | nil =>
    simp only [setKP, List.mem_singleton] at h
    exact .inr (by rw [h])
  | cons q r ih =>
    by_cases c : q.1 = k
    · rw [setK_yesP c] at h
      rcases List.mem_cons.1 h with h | h
      · exact .inr (by rw [h])
      · exact .inl (List.mem_cons_of_mem _ h)
    · rw [setK_noP c] at h
      rcases List.mem_cons.1 h with h | h
      · exact .inl (by rw [h]; simp)
      · rcases ih h with h | h
        · exact .inl (List.mem_cons_of_mem _ h)
        · exact .inr h

def flatKyP (D : List (KeyP × Int)) : List (Value × Value) := D.map fun p => (keyVP p.1, Value.int .i64 p.2)
/-- the map in block M holds these -/
def KMapP (w : World) (M : Nat) (D : List (KeyP × Int)) : Prop := ∃ es clock, w.heap[M]? = some (.map es clock) ∧ es.toList.map (fun x => (x.key, x.val)) = flatKyP D ∧ ∀ p ∈ D, RowsOf w p.1.place

theorem run_equal_keyP {w : World} {a b : KeyP} (ha : RowsOf w a.place) (hb : RowsOf w b.place) : ∃ r : Bool, (Op.equal 81 (keyVP a) (keyVP b)).run Try.prog w = .ok r w ∧ (r = true ↔ a = b) := by
  refine ⟨_, run_equal_ks 9998 ha hb, ?_⟩
  rw [decide_eq_true_iff]
  constructor
  · rintro ⟨h2, h3⟩
    exact KeyP.ext' h2 h3
  · rintro rfl
    exact ⟨rfl, rfl⟩

theorem findAsk_stopP {w : World} {k : KeyP} (hk : RowsOf w k.place) : ∀ (es : List MapEntry) (D : List (KeyP × Int)) (i : Nat), es.map (fun x => (x.key, x.val)) = flatKyP D → (∀ p ∈ D, RowsOf w p.1.place) →
    ((Instr.findAsking 81 (keyVP k) es i).run Try.prog w = .ok none w ∧ lookKP D k = none ∧ ∀ v, setKP D k v = D ++ [(k, v)]) ∨
    ∃ j v0, (Instr.findAsking 81 (keyVP k) es i).run Try.prog w = .ok (some (i + j, .int .i64 v0)) w ∧ lookKP D k = some v0 ∧ (∃ h : j < es.length, es[j].key = keyVP k) ∧ ∀ v, (es.modify j fun x => { x with key := keyVP k, val := .int .i64 v }).map (fun x => (x.key, x.val)) = flatKyP (setKP D k v) := by
  intro es
  induction es with
  | nil =>
    intro D i h _
    cases D with
    | nil => exact .inl ⟨rfl, rfl, fun v => rfl⟩
    | cons p r => simp [flatKyP] at h
  | cons x r ih =>
    intro D i h hD
    cases D with
    | nil => simp [flatKyP] at h
    | cons p q =>
      simp only [flatKyP, List.map_cons, List.cons.injEq, Prod.mk.injEq] at h
      obtain ⟨⟨hx, hv⟩, hr⟩ := h
      obtain ⟨b, hb1, hb2⟩ := run_equal_keyP (w := w) (a := k) (b := p.1) hk (hD p (by simp))
      by_cases c : k = p.1
      · have hbt : b = true := hb2.2 c
        subst hbt
        refine .inr ⟨0, p.2, ?_, ?_, ⟨by simp, ?_⟩, fun v => ?_⟩
        · simp only [Instr.findAsking, hx]
          simp [hb1, hv, Result.andThen]
        · exact lookK_yesP c.symm
        · simp only [List.getElem_cons_zero]; rw [hx, c]
        · rw [setK_yesP c.symm]
          simp only [List.modify_zero_cons, List.map_cons, flatKyP]
          rw [hr]
      · have hbf : b = false := by cases b; rfl; exact absurd (hb2.1 rfl) c
        subst hbf
        have c' : ¬ p.1 = k := fun e => c e.symm
        rcases ih q (i + 1) hr (fun y hy => hD y (List.mem_cons_of_mem _ hy)) with ⟨h1, h2, h3⟩ | ⟨j, v0, h1, h2, ⟨hj, h3⟩, h4⟩
        · refine .inl ⟨?_, ?_, fun v => ?_⟩
          · simp only [Instr.findAsking, hx]
            simp [hb1, h1, Result.andThen]
          · rw [lookK_noP c']; exact h2
          · rw [setK_noP c', h3]; rfl
        · refine .inr ⟨j + 1, v0, ?_, ?_, ⟨by simpa using hj, by simpa using h3⟩, fun v => ?_⟩
          · simp only [Instr.findAsking, hx]
            simp [hb1, h1, Result.andThen]
            omega
          · rw [lookK_noP c']; exact h2
          · rw [setK_noP c']
            simp only [List.modify_succ_cons, List.map_cons, flatKyP]
            rw [h4 v, hx, hv]
            rfl

theorem findKey_stopP {w : World} {k : KeyP} (es : List MapEntry) (D : List (KeyP × Int)) (h : es.map (fun x => (x.key, x.val)) = flatKyP D) : (Instr.findKey 81 (keyVP k) es).run Try.prog w = (Instr.findAsking 81 (keyVP k) es 0).run Try.prog w := by
  cases es with
  | nil => simp [Instr.findKey, run_underlying Try.underlying81, Instr.findNow, Instr.findAsking]
  | cons x r =>
    cases D with
    | nil => simp [flatKyP] at h
    | cons p q =>
      simp only [flatKyP, List.map_cons, List.cons.injEq, Prod.mk.injEq] at h
      simp [Instr.findKey, run_underlying Try.underlying81, Instr.findNow, h.1.1, keyVP, Instr.sameNow]

theorem run_checkKey_stP {w : World} {k : KeyP} (e : Bool) : (Instr.checkKey e 10000 81 (keyVP k)).run Try.prog w = .ok () w := run_checkKey_ks 9998 e

theorem run_lookup_stopP {w : World} {M : Nat} {D : List (KeyP × Int)} (hM : KMapP w M D) (k : KeyP) (hk : RowsOf w k.place) :
    (Instr.lookup 78 (.map (some M)) (keyVP k) false).run Try.prog w = .ok (.int .i64 ((lookKP D k).getD 0)) w := by
  obtain ⟨es, clock, hb, hes, hD⟩ := hM
  have hz : (zeroValue 3).run Try.prog w = .ok (.int .i64 0) w := by kernel_rfl
  have hf := findKey_stopP (w := w) (k := k) es.toList D hes
  rcases findAsk_stopP hk es.toList D 0 hes hD with ⟨h1, h2, _⟩ | ⟨j, v0, h1, h2, _⟩
  · rw [h1] at hf
    simp [Instr.lookup, run_underlying Try.underlying78, MapKept.run_getObj_map hb, run_checkKey_stP, hf, hz, h2, Result.andThen]
  · rw [h1] at hf
    simp [Instr.lookup, run_underlying Try.underlying78, MapKept.run_getObj_map hb, run_checkKey_stP, hf, h2, Result.andThen]

theorem sameBits_keyP (k : KeyP) : Instr.sameBits 10000 (keyVP k) (keyVP k) = true := by
  simp [keyVP, Instr.sameBits]
theorem run_keyStaysP {w : World} (k : KeyP) : (Instr.keyThatStays (keyVP k) (keyVP k)).run Try.prog w = .ok (keyVP k) w := by
  simp [Instr.keyThatStays, sameBits_keyP]

theorem run_update_stopP {w : World} {M : Nat} {D : List (KeyP × Int)} (hM : KMapP w M D) (k : KeyP) (hk : RowsOf w k.place) (v : Int) :
    ∃ w', (Instr.mapUpdate 78 (.map (some M)) (keyVP k) (.int .i64 v)).run Try.prog w = .ok () w' ∧ KMapP w' M (setKP D k v) ∧ But M w w' := by
  obtain ⟨es, clock, hb, hes, hD⟩ := hM
  have hf := findKey_stopP (w := w) (k := k) es.toList D hes
  have far : ∀ (o : Obj) (b : Nat) (c : Array Value) (e : TypeId), w.heap[b]? = some (Obj.cells c e (0, 0)) → (w.heap.setIfInBounds M o)[b]? = some (Obj.cells c e (0, 0)) := fun o b c e h => by
    rw [(MapKept.heap_set (o' := o) hb).2 b (fun e => by subst e; rw [hb] at h; simp at h)]
    exact h
  rcases findAsk_stopP hk es.toList D 0 hes hD with ⟨h1, h2, h3⟩ | ⟨j, v0, h1, h2, ⟨hj, h3⟩, h4⟩
  · rw [h1] at hf
    have hr : (Instr.mapUpdate 78 (.map (some M)) (keyVP k) (.int .i64 v)).run Try.prog w = .ok () { w with heap := w.heap.setIfInBounds M (.map (es.push { key := keyVP k, val := .int .i64 v, born := clock }) (clock + 1)) } := by
      simp [Instr.mapUpdate, run_underlying Try.underlying78, MapKept.run_getObj_map hb, run_checkKey_stP, hf, MapKept.run_setObj_map _ hb, Result.andThen]
    obtain ⟨n1, n2⟩ := MapKept.heap_set (o' := .map (es.push { key := keyVP k, val := .int .i64 v, born := clock }) (clock + 1)) hb
    refine ⟨_, hr, ⟨_, _, n1, ?_, fun p hp x hx => ?_⟩, ⟨rfl, rfl, rfl, by simp, fun b hb => n2 b hb⟩⟩
    · rw [Array.toList_push, List.map_append, hes, h3 v]
      simp [flatKyP]
    · rcases set_memP hp with h | h
      · obtain ⟨c, e, q⟩ := hD p h x hx
        exact ⟨c, e, far _ _ _ _ q⟩
      · rw [h] at hx
        obtain ⟨c, e, q⟩ := hk x hx
        exact ⟨c, e, far _ _ _ _ q⟩
  · rw [h1] at hf
    have hjs : j < es.size := by simpa using hj
    have hkey : ((es[j]?).map (·.key)).getD (keyVP k) = keyVP k := by
      rw [Array.getElem?_eq_getElem hjs]
      simpa using h3
    have hr : (Instr.mapUpdate 78 (.map (some M)) (keyVP k) (.int .i64 v)).run Try.prog w = .ok () { w with heap := w.heap.setIfInBounds M (.map (es.modify j fun x => { x with key := keyVP k, val := .int .i64 v }) clock) } := by
      simp only [Instr.mapUpdate, Sem.run_bind, run_underlying Try.underlying78, Result.andThen_ok, MapKept.run_getObj_map hb, run_checkKey_stP, hf, Nat.zero_add, hkey, run_keyStaysP, MapKept.run_setObj_map _ hb]
    obtain ⟨n1, n2⟩ := MapKept.heap_set (o' := .map (es.modify j fun x => { x with key := keyVP k, val := .int .i64 v }) clock) hb
    refine ⟨_, hr, ⟨_, _, n1, ?_, fun p hp x hx => ?_⟩, ⟨rfl, rfl, rfl, by simp, fun b hb => n2 b hb⟩⟩
    · rw [Array.toList_modify]
      exact h4 v
    · rcases set_memP hp with h | h
      · obtain ⟨c, e, q⟩ := hD p h x hx
        exact ⟨c, e, far _ _ _ _ q⟩
      · rw [h] at hx
        obtain ⟨c, e, q⟩ := hk x hx
        exact ⟨c, e, far _ _ _ _ q⟩

theorem KMapP.made {w : World} {M : Nat} (h : w.heap[M]? = some (.map #[] 0)) : KMapP w M [] := ⟨#[], 0, h, rfl, fun p hp => by simp at hp⟩
theorem KMapP.lt {w : World} {M : Nat} {D : List (KeyP × Int)} (h : KMapP w M D) : M < w.heap.size := by
  obtain ⟨es, clock, hb, _⟩ := h
  exact (Array.getElem?_eq_some_iff.1 hb).1
theorem KMapP.obj {w : World} {M : Nat} {D : List (KeyP × Int)} (h : KMapP w M D) : ∃ es clock, w.heap[M]? = some (.map es clock) := by
  obtain ⟨es, clock, hb, _⟩ := h
  exact ⟨es, clock, hb⟩
/-- as long as the map, and the rows of its places, are as they were -/
theorem KMapP.kept {w w' : World} {M B : Nat} {D : List (KeyP × Int)} (h : KMapP w M D) (hM : w'.heap[M]? = w.heap[M]?) (hS : ∀ p ∈ D, ∀ a, p.1.place = some a → a.block < B) (hb : ∀ b, b < B → w'.heap[b]? = w.heap[b]?) : KMapP w' M D := by
  obtain ⟨es, clock, h1, h2, h3⟩ := h
  refine ⟨es, clock, hM.trans h1, h2, fun p hp x hx => ?_⟩
  obtain ⟨c, e, q⟩ := h3 p hp x hx
  exact ⟨c, e, (hb _ (hS p hp x hx)).trans q⟩

end Go.Proofs.Ytpnalacdgnppmaa
