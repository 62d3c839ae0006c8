/-
  A map whose keys are stops (a name, and a place with a count): found and not found, put beside and put anew.
-/
import Derived.Test.YteocagdlbnhpgaaPlK
import Derived.Laws.StructEq
namespace Go.Proofs.Yteocagdlbnhpgaa
open Go.RowKit

/-- such a key -/
def stV (s : ByteArray) (a : Option Addr) (n : Int) : Value := .agg #[.string s, .pointer a, .int .i64 n]
theorem Try.fieldsSt : Try.prog.fieldsOf 87 = #[{ name := "name", type := 9, offset := 0, embedded := false, tag := "", pkgPath := "loop.example/g00276/impl", byteOffset := 0 }, { name := "kids", type := 85, offset := 1, embedded := false, tag := "", pkgPath := "loop.example/g00276/impl", byteOffset := 16 }] := by kernel_rfl
theorem Try.stoodSt : Try.prog.stoodInHeld 87 = false := by kernel_rfl
theorem Try.underSt : Try.prog.underlying 87 = some (.struct (Try.prog.fieldsOf 87)) := by kernel_rfl

theorem run_partS {w : World} {xs : Array Value} {v : Value} (h : xs[0]? = some v) : (part 9 xs 0).run Try.prog w = .ok v w := by
  have hi : (isAgg 9).run Try.prog w = .ok false w := by kernel_rfl
  simp [part, hi, h]
theorem run_partK {w : World} {a b c : Value} : (part 85 #[a, b, c] 1).run Try.prog w = .ok (.agg #[b, c]) w := by
  kernel_rfl

theorem run_eq_str (d : Nat) {w : World} {s t : ByteArray} : (Op.equalIn (d + 1) 9 (.string s) (.string t)).run Try.prog w = .ok (decide (s = t)) w := by
  have hb : (s == t) = decide (s = t) := by
    rw [beq_toListBytes]
    by_cases c : s = t
    · subst c; simp
    · rw [decide_eq_false c, beq_eq_false_iff_ne]
      intro e
      refine c ?_
      rw [ByteArray.toList_eq, ByteArray.toList_eq] at e
      obtain ⟨⟨x⟩⟩ := s
      obtain ⟨⟨y⟩⟩ := t
      exact congrArg _ (congrArg _ e)
  simp [Op.equalIn, run_underlying Try.underlying9, hb]

theorem run_equal_stop {w : World} {s t : ByteArray} {a b : Option Addr} {m k : Int} (ha : RowsOf w a) (hb : RowsOf w b) : (Op.equal 87 (stV s a m) (stV t b k)).run Try.prog w = .ok (decide (s = t ∧ a = b ∧ m = k)) w := by
  have h2 := run_equalIn_struct (P := Try.prog) w 9999 87 #[.string s, .pointer a, .int .i64 m] #[.string t, .pointer b, .int .i64 k] Try.underSt Try.stoodSt
  refine Eq.trans h2 ?_
  rw [Try.fieldsSt]
  have p1 := run_partS (w := w) (xs := #[.string s, .pointer a, .int .i64 m]) (v := .string s) rfl
  have p2 := run_partS (w := w) (xs := #[.string t, .pointer b, .int .i64 k]) (v := .string t) rfl
  have q1 := run_partK (w := w) (a := .string s) (b := .pointer a) (c := .int .i64 m)
  have q2 := run_partK (w := w) (a := .string t) (b := .pointer b) (c := .int .i64 k)
  have e1 : (Op.equalIn 9999 9 (.string s) (.string t)).run Try.prog w = .ok (decide (s = t)) w := run_eq_str 9998
  have e2 : (Op.equalIn 9999 85 (.agg #[.pointer a, .int .i64 m]) (.agg #[.pointer b, .int .i64 k])).run Try.prog w = .ok (decide (a = b ∧ m = k)) w := run_equal_ks 9997 ha hb
  by_cases c : s = t
  · rw [decide_eq_true c] at e1
    by_cases c2 : a = b ∧ m = k
    · rw [decide_eq_true c2] at e2
      rw [decide_eq_true ⟨c, c2⟩]
      simp [Op.eqFields, p1, p2, q1, q2, e1, e2]
    · rw [decide_eq_false c2] at e2
      rw [decide_eq_false (fun h => c2 h.2)]
      simp [Op.eqFields, p1, p2, q1, q2, e1, e2]
  · rw [decide_eq_false c] at e1
    rw [decide_eq_false (fun h => c h.1)]
    simp [Op.eqFields, p1, p2, e1]

/-- a key, plainly -/
structure Key where
  name : ByteArray
  place : Option Addr
  count : Int
theorem Key.ext' {a b : Key} (h1 : a.name = b.name) (h2 : a.place = b.place) (h3 : a.count = b.count) : a = b := by
  cases a; cases b; simp_all
def keyV (k : Key) : Value := stV k.name k.place k.count

def Key.eqB (a b : Key) : Bool := decide (a.name = b.name ∧ a.place = b.place ∧ a.count = b.count)
theorem Key.eqB_iff (a b : Key) : a.eqB b = true ↔ a = b := by
  unfold Key.eqB
  rw [decide_eq_true_iff]
  constructor
  · rintro ⟨h1, h2, h3⟩
    exact Key.ext' h1 h2 h3
  · rintro rfl
    exact ⟨rfl, rfl, rfl⟩
theorem Key.eqB_no {a b : Key} (h : ¬ a = b) : ¬ a.eqB b = true := fun e => h ((Key.eqB_iff a b).1 e)

/-- what stands at a key -/
def lookK : List (Key × Int) → Key → Option Int
  | [], _ => none
  | p :: r, k => if p.1.eqB k then some p.2 else lookK r k
/-- put in its place, or beside -/
def setK : List (Key × Int) → Key → Int → List (Key × Int)
  | [], k, v => [(k, v)]
  | p :: r, k, v => if p.1.eqB k then (k, v) :: r else p :: setK r k v
theorem lookK_yes {p : Key × Int} {r : List (Key × Int)} {k : Key} (h : p.1 = k) : lookK (p :: r) k = some p.2 := by rw [lookK, if_pos ((Key.eqB_iff _ _).2 h)]
theorem lookK_no {p : Key × Int} {r : List (Key × Int)} {k : Key} (h : ¬ p.1 = k) : lookK (p :: r) k = lookK r k := by rw [lookK, if_neg (Key.eqB_no h)]
theorem setK_yes {p : Key × Int} {r : List (Key × Int)} {k : Key} {v : Int} (h : p.1 = k) : setK (p :: r) k v = (k, v) :: r := by rw [setK, if_pos ((Key.eqB_iff _ _).2 h)]
theorem setK_no {p : Key × Int} {r : List (Key × Int)} {k : Key} {v : Int} (h : ¬ p.1 = k) : setK (p :: r) k v = p :: setK r k v := by rw [setK, if_neg (Key.eqB_no h)]
theorem look_set_same (D : List (Key × Int)) (k : Key) (v : Int) : lookK (setK D k v) k = some v := by
  induction D with
  | nil => exact lookK_yes rfl
  | cons p r ih =>
    by_cases c : p.1 = k
    · rw [setK_yes c]; exact lookK_yes rfl
    · rw [setK_no c, lookK_no c]; exact ih
theorem look_set_other (D : List (Key × Int)) {k : Key} (v : Int) {k' : Key} (h : k ≠ k') : lookK (setK D k v) k' = lookK D k' := by
  induction D with
  | nil => exact lookK_no h
  | cons p r ih =>
    by_cases c : p.1 = k
    · rw [setK_yes c, lookK_no h, lookK_no (fun e => h (c.symm.trans e))]
    · rw [setK_no c]
      by_cases c2 : p.1 = k'
      · rw [lookK_yes c2, lookK_yes c2]
      · rw [lookK_no c2, lookK_no c2]; exact ih
theorem lookK_mem {D : List (Key × Int)} {k : Key} {v : Int} (h : lookK D k = some v) : (k, v) ∈ D := by
  induction D with
  | nil => cases h
  | cons p r ih =>
    by_cases c : p.1 = k
    · rw [lookK_yes c] at h
      cases h
      subst c
      simp
    · rw [lookK_no c] at h
      exact List.mem_cons_of_mem _ (ih h)
theorem set_mem {D : List (Key × Int)} {k : Key} {v : Int} {p : Key × Int} (h : p ∈ setK D k v) : p ∈ D ∨ p.1 = k := by
  induction D with
  | nil =>
    simp only [setK, List.mem_singleton] at h
    exact .inr (by rw [h])
  | cons q r ih =>
    by_cases c : q.1 = k
    · rw [setK_yes c] at h
      rcases List.mem_cons.1 h with h | h
      · exact .inr (by rw [h])
      · exact .inl (List.mem_cons_of_mem _ h)
    · rw [setK_no c] at h
      rcases List.mem_cons.1 h with h | h
      · exact .inl (by rw [h]; simp)
      · rcases ih h with h | h
        · exact .inl (List.mem_cons_of_mem _ h)
        · exact .inr h

def flatKy (D : List (Key × Int)) : List (Value × Value) := D.map fun p => (keyV p.1, Value.int .i64 p.2)
/-- the map in block M holds these -/
def KMap (w : World) (M : Nat) (D : List (Key × Int)) : Prop := ∃ es clock, w.heap[M]? = some (.map es clock) ∧ es.toList.map (fun x => (x.key, x.val)) = flatKy D ∧ ∀ p ∈ D, RowsOf w p.1.place

theorem run_equal_key {w : World} {a b : Key} (ha : RowsOf w a.place) (hb : RowsOf w b.place) : ∃ r : Bool, (Op.equal 87 (keyV a) (keyV b)).run Try.prog w = .ok r w ∧ (r = true ↔ a = b) := by
  refine ⟨_, run_equal_stop ha hb, ?_⟩
  rw [decide_eq_true_iff]
  constructor
  · rintro ⟨h1, h2, h3⟩
    exact Key.ext' h1 h2 h3
  · rintro rfl
    exact ⟨rfl, rfl, rfl⟩

theorem findAsk_stop {w : World} {k : Key} (hk : RowsOf w k.place) : ∀ (es : List MapEntry) (D : List (Key × Int)) (i : Nat), es.map (fun x => (x.key, x.val)) = flatKy D → (∀ p ∈ D, RowsOf w p.1.place) →
    ((Instr.findAsking 87 (keyV k) es i).run Try.prog w = .ok none w ∧ lookK D k = none ∧ ∀ v, setK D k v = D ++ [(k, v)]) ∨
    ∃ j v0, (Instr.findAsking 87 (keyV k) es i).run Try.prog w = .ok (some (i + j, .int .i64 v0)) w ∧ lookK D k = some v0 ∧ (∃ h : j < es.length, es[j].key = keyV k) ∧ ∀ v, (es.modify j fun x => { x with key := keyV k, val := .int .i64 v }).map (fun x => (x.key, x.val)) = flatKy (setK D k v) := by
  intro es
  induction es with
  | nil =>
    intro D i h _
    cases D with
    | nil => exact .inl ⟨rfl, rfl, fun v => rfl⟩
    | cons p r => simp [flatKy] at h
  | cons x r ih =>
    intro D i h hD
    cases D with
    | nil => simp [flatKy] at h
    | cons p q =>
      simp only [flatKy, List.map_cons, List.cons.injEq, Prod.mk.injEq] at h
      obtain ⟨⟨hx, hv⟩, hr⟩ := h
      obtain ⟨b, hb1, hb2⟩ := run_equal_key (w := w) (a := k) (b := p.1) hk (hD p (by simp))
      by_cases c : k = p.1
      · have hbt : b = true := hb2.2 c
        subst hbt
        refine .inr ⟨0, p.2, ?_, ?_, ⟨by simp, ?_⟩, fun v => ?_⟩
        · simp only [Instr.findAsking, hx]
          simp [hb1, hv, Result.andThen]
        · exact lookK_yes c.symm
        · simp only [List.getElem_cons_zero]; rw [hx, c]
        · rw [setK_yes c.symm]
          simp only [List.modify_zero_cons, List.map_cons, flatKy]
          rw [hr]
      · have hbf : b = false := by cases b; rfl; exact absurd (hb2.1 rfl) c
        subst hbf
        have c' : ¬ p.1 = k := fun e => c e.symm
        rcases ih q (i + 1) hr (fun y hy => hD y (List.mem_cons_of_mem _ hy)) with ⟨h1, h2, h3⟩ | ⟨j, v0, h1, h2, ⟨hj, h3⟩, h4⟩
        · refine .inl ⟨?_, ?_, fun v => ?_⟩
          · simp only [Instr.findAsking, hx]
            simp [hb1, h1, Result.andThen]
          · rw [lookK_no c']; exact h2
          · rw [setK_no c', h3]; rfl
        · refine .inr ⟨j + 1, v0, ?_, ?_, ⟨by simpa using hj, by simpa using h3⟩, fun v => ?_⟩
          · simp only [Instr.findAsking, hx]
            simp [hb1, h1, Result.andThen]
            omega
          · rw [lookK_no c']; exact h2
          · rw [setK_no c']
            simp only [List.modify_succ_cons, List.map_cons, flatKy]
            rw [h4 v, hx, hv]
            rfl

theorem findKey_stop {w : World} {k : Key} (es : List MapEntry) (D : List (Key × Int)) (h : es.map (fun x => (x.key, x.val)) = flatKy D) : (Instr.findKey 87 (keyV k) es).run Try.prog w = (Instr.findAsking 87 (keyV k) es 0).run Try.prog w := by
  cases es with
  | nil => simp [Instr.findKey, run_underlying Try.underlying87, Instr.findNow, Instr.findAsking]
  | cons x r =>
    cases D with
    | nil => simp [flatKy] at h
    | cons p q =>
      simp only [flatKy, List.map_cons, List.cons.injEq, Prod.mk.injEq] at h
      simp [Instr.findKey, run_underlying Try.underlying87, Instr.findNow, h.1.1, keyV, stV, Instr.sameNow]

theorem run_checkKeyS (n : Nat) {w : World} {s : ByteArray} (e : Bool) : (Instr.checkKey e (n + 1) 9 (.string s)).run Try.prog w = .ok () w := by simp [Instr.checkKey, run_underlying Try.underlying9]
theorem run_checkKey_st {w : World} {k : Key} (e : Bool) : (Instr.checkKey e 10000 87 (keyV k)).run Try.prog w = .ok () w := by
  have p1 := run_partS (w := w) (xs := #[.string k.name, .pointer k.place, .int .i64 k.count]) (v := .string k.name) rfl
  have p2 := run_partK (w := w) (a := .string k.name) (b := .pointer k.place) (c := .int .i64 k.count)
  have h1 : (Instr.checkKey e 9999 9 (.string k.name)).run Try.prog w = .ok () w := run_checkKeyS 9998 e
  have h2 : (Instr.checkKey e 9999 85 (.agg #[.pointer k.place, .int .i64 k.count])).run Try.prog w = .ok () w := run_checkKey_ks 9997 e
  show (Instr.checkKey e (9999 + 1) 87 (stV k.name k.place k.count)).run Try.prog w = .ok () w
  rw [Instr.checkKey.eq_2]
  simp only [Sem.run_bind, run_underlying Try.underSt, Result.andThen_ok, stV]
  rw [Try.fieldsSt]
  simp [p1, p2, h1, h2, Result.andThen]

theorem run_lookup_stop {w : World} {M : Nat} {D : List (Key × Int)} (hM : KMap w M D) (k : Key) (hk : RowsOf w k.place) :
    (Instr.lookup 78 (.map (some M)) (keyV k) false).run Try.prog w = .ok (.int .i64 ((lookK D k).getD 0)) w := by
  obtain ⟨es, clock, hb, hes, hD⟩ := hM
  have hz : (zeroValue 3).run Try.prog w = .ok (.int .i64 0) w := by kernel_rfl
  have hf := findKey_stop (w := w) (k := k) es.toList D hes
  rcases findAsk_stop hk es.toList D 0 hes hD with ⟨h1, h2, _⟩ | ⟨j, v0, h1, h2, _⟩
  · rw [h1] at hf
    simp [Instr.lookup, run_underlying Try.underlying78, MapKept.run_getObj_map hb, run_checkKey_st, hf, hz, h2, Result.andThen]
  · rw [h1] at hf
    simp [Instr.lookup, run_underlying Try.underlying78, MapKept.run_getObj_map hb, run_checkKey_st, hf, h2, Result.andThen]

theorem sameBits_key (k : Key) : Instr.sameBits 10000 (keyV k) (keyV k) = true := by
  have hb : ∀ s : ByteArray, (s == s) = true := fun s => by rw [beq_toListBytes]; simp
  simp [keyV, stV, Instr.sameBits, hb]
theorem run_keyStays {w : World} (k : Key) : (Instr.keyThatStays (keyV k) (keyV k)).run Try.prog w = .ok (keyV k) w := by
  simp [Instr.keyThatStays, sameBits_key]

theorem run_update_stop {w : World} {M : Nat} {D : List (Key × Int)} (hM : KMap w M D) (k : Key) (hk : RowsOf w k.place) (v : Int) :
    ∃ w', (Instr.mapUpdate 78 (.map (some M)) (keyV k) (.int .i64 v)).run Try.prog w = .ok () w' ∧ KMap w' M (setK D k v) ∧ But M w w' := by
  obtain ⟨es, clock, hb, hes, hD⟩ := hM
  have hf := findKey_stop (w := w) (k := k) es.toList D hes
  have far : ∀ (o : Obj) (b : Nat) (c : Array Value) (e : TypeId), w.heap[b]? = some (Obj.cells c e (0, 0)) → (w.heap.setIfInBounds M o)[b]? = some (Obj.cells c e (0, 0)) := fun o b c e h => by
    rw [(MapKept.heap_set (o' := o) hb).2 b (fun e => by subst e; rw [hb] at h; simp at h)]
    exact h
  rcases findAsk_stop hk es.toList D 0 hes hD with ⟨h1, h2, h3⟩ | ⟨j, v0, h1, h2, ⟨hj, h3⟩, h4⟩
  · rw [h1] at hf
    have hr : (Instr.mapUpdate 78 (.map (some M)) (keyV k) (.int .i64 v)).run Try.prog w = .ok () { w with heap := w.heap.setIfInBounds M (.map (es.push { key := keyV k, val := .int .i64 v, born := clock }) (clock + 1)) } := by
      simp [Instr.mapUpdate, run_underlying Try.underlying78, MapKept.run_getObj_map hb, run_checkKey_st, hf, MapKept.run_setObj_map _ hb, Result.andThen]
    obtain ⟨n1, n2⟩ := MapKept.heap_set (o' := .map (es.push { key := keyV k, val := .int .i64 v, born := clock }) (clock + 1)) hb
    refine ⟨_, hr, ⟨_, _, n1, ?_, fun p hp x hx => ?_⟩, ⟨rfl, rfl, rfl, by simp, fun b hb => n2 b hb⟩⟩
    · rw [Array.toList_push, List.map_append, hes, h3 v]
      simp [flatKy]
    · rcases set_mem hp with h | h
      · obtain ⟨c, e, q⟩ := hD p h x hx
        exact ⟨c, e, far _ _ _ _ q⟩
      · rw [h] at hx
        obtain ⟨c, e, q⟩ := hk x hx
        exact ⟨c, e, far _ _ _ _ q⟩
  · rw [h1] at hf
    have hjs : j < es.size := by simpa using hj
    have hkey : ((es[j]?).map (·.key)).getD (keyV k) = keyV k := by
      rw [Array.getElem?_eq_getElem hjs]
      simpa using h3
    have hr : (Instr.mapUpdate 78 (.map (some M)) (keyV k) (.int .i64 v)).run Try.prog w = .ok () { w with heap := w.heap.setIfInBounds M (.map (es.modify j fun x => { x with key := keyV k, val := .int .i64 v }) clock) } := by
      simp only [Instr.mapUpdate, Sem.run_bind, run_underlying Try.underlying78, Result.andThen_ok, MapKept.run_getObj_map hb, run_checkKey_st, hf, Nat.zero_add, hkey, run_keyStays, MapKept.run_setObj_map _ hb]
    obtain ⟨n1, n2⟩ := MapKept.heap_set (o' := .map (es.modify j fun x => { x with key := keyV k, val := .int .i64 v }) clock) hb
    refine ⟨_, hr, ⟨_, _, n1, ?_, fun p hp x hx => ?_⟩, ⟨rfl, rfl, rfl, by simp, fun b hb => n2 b hb⟩⟩
    · rw [Array.toList_modify]
      exact h4 v
    · rcases set_mem hp with h | h
      · obtain ⟨c, e, q⟩ := hD p h x hx
        exact ⟨c, e, far _ _ _ _ q⟩
      · rw [h] at hx
        obtain ⟨c, e, q⟩ := hk x hx
        exact ⟨c, e, far _ _ _ _ q⟩

theorem KMap.made {w : World} {M : Nat} (h : w.heap[M]? = some (.map #[] 0)) : KMap w M [] := ⟨#[], 0, h, rfl, fun p hp => by simp at hp⟩
theorem KMap.lt {w : World} {M : Nat} {D : List (Key × Int)} (h : KMap w M D) : M < w.heap.size := by
  obtain ⟨es, clock, hb, _⟩ := h
  exact (Array.getElem?_eq_some_iff.1 hb).1
theorem KMap.obj {w : World} {M : Nat} {D : List (Key × Int)} (h : KMap w M D) : ∃ es clock, w.heap[M]? = some (.map es clock) := by
  obtain ⟨es, clock, hb, _⟩ := h
  exact ⟨es, clock, hb⟩
/-- as long as the map, and the rows of its places, are as they were -/
theorem KMap.kept {w w' : World} {M B : Nat} {D : List (Key × Int)} (h : KMap w M D) (hM : w'.heap[M]? = w.heap[M]?) (hS : ∀ p ∈ D, ∀ a, p.1.place = some a → a.block < B) (hb : ∀ b, b < B → w'.heap[b]? = w.heap[b]?) : KMap w' M D := by
  obtain ⟨es, clock, h1, h2, h3⟩ := h
  refine ⟨es, clock, hM.trans h1, h2, fun p hp x hx => ?_⟩
  obtain ⟨c, e, q⟩ := h3 p hp x hx
  exact ⟨c, e, (hb _ (hS p hp x hx)).trans q⟩

end Go.Proofs.Yteocagdlbnhpgaa
