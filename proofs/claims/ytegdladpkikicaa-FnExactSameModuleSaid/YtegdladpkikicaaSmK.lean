/-
  A map whose keys are pairs of places (each a pointer with a count), its values numbers: found and not found, put beside and put anew; at lists of types and of expressions.
-/
import Derived.Test.YtegdladpkikicaaXpT
import Derived.Laws.StructEq
import Derived.LaidEql
import Derived.MapKept
import Derived.Maps.OwnOps
namespace Go.Proofs.Ytegdladpkikicaa
open Go.RowKit

/-- a place, if there is one, is of a row -/
def RowsOf (w : World) (a : Option Addr) : Prop := ∀ x, a = some x → ∃ cur e, w.heap[x.block]? = some (.cells cur e (0, 0))
/-- only that block has turned -/
def But (M : Nat) (w w' : World) : Prop := w'.os = w.os ∧ w'.tape = w.tape ∧ w'.output = w.output ∧ w'.heap.size = w.heap.size ∧ ∀ b, b ≠ M → w'.heap[b]? = w.heap[b]?
/-- two places with counts, plainly -/
structure KeyP where
  pa : Option Addr
  na : Int
  pb : Option Addr
  nb : Int
theorem KeyP.ext' {a b : KeyP} (h1 : a.pa = b.pa) (h2 : a.na = b.na) (h3 : a.pb = b.pb) (h4 : a.nb = b.nb) : a = b := by
  cases a; cases b; simp_all
def keyVP (k : KeyP) : Value := .agg #[.pointer k.pa, .int .i64 k.na, .pointer k.pb, .int .i64 k.nb]
def KeyP.eqB (a b : KeyP) : Bool := decide ((a.pa = b.pa ∧ a.na = b.na) ∧ a.pb = b.pb ∧ a.nb = b.nb)
theorem KeyP.eqB_iff (a b : KeyP) : a.eqB b = true ↔ a = b := by
  unfold KeyP.eqB
  rw [decide_eq_true_iff]
  constructor
  · rintro ⟨⟨h1, h2⟩, h3, h4⟩
    exact KeyP.ext' h1 h2 h3 h4
  · rintro rfl
    exact ⟨⟨rfl, rfl⟩, rfl, rfl⟩
theorem KeyP.eqB_no {a b : KeyP} (h : ¬ a = b) : ¬ a.eqB b = true := fun e => h ((KeyP.eqB_iff a b).1 e)
def KeyP.rows (w : World) (k : KeyP) : Prop := RowsOf w k.pa ∧ RowsOf w k.pb
theorem run_checkKeyI (n : Nat) {w : World} {m : Int} (e : Bool) : (Instr.checkKey e (n + 1) 3 (.int .i64 m)).run Try.prog w = .ok () w := by simp [Instr.checkKey, run_underlying Try.underlying3]
theorem run_partI {w : World} {xs : Array Value} {v : Value} (h : xs[1]? = some v) : (part 3 xs 1).run Try.prog w = .ok v w := by
  have hi : (isAgg 3).run Try.prog w = .ok false w := by kernel_rfl
  simp [part, hi, h]
theorem run_eq_int (d : Nat) {w : World} {m k : Int} : (Op.equalIn (d + 1) 3 (.int .i64 m) (.int .i64 k)).run Try.prog w = .ok (decide (m = k)) w := by
  simp [Op.equalIn, run_underlying Try.underlying3]
  by_cases c : m = k <;> simp [c]
/-- what stands at a key -/
def lookKP : List (KeyP × Int) → KeyP → Option Int
  | [], _ => none
  | p :: r, k => if p.1.eqB k then some p.2 else lookKP r k
/-- put in its place, or beside -/
def setKP : List (KeyP × Int) → KeyP → Int → List (KeyP × Int)
  | [], k, v => [(k, v)]
  | p :: r, k, v => if p.1.eqB k then (k, v) :: r else p :: setKP r k v
theorem lookK_yesP {p : KeyP × Int} {r : List (KeyP × Int)} {k : KeyP} (h : p.1 = k) : lookKP (p :: r) k = some p.2 := by rw [lookKP, if_pos ((KeyP.eqB_iff _ _).2 h)]
theorem lookK_noP {p : KeyP × Int} {r : List (KeyP × Int)} {k : KeyP} (h : ¬ p.1 = k) : lookKP (p :: r) k = lookKP r k := by rw [lookKP, if_neg (KeyP.eqB_no h)]
theorem setK_yesP {p : KeyP × Int} {r : List (KeyP × Int)} {k : KeyP} {v : Int} (h : p.1 = k) : setKP (p :: r) k v = (k, v) :: r := by rw [setKP, if_pos ((KeyP.eqB_iff _ _).2 h)]
theorem setK_noP {p : KeyP × Int} {r : List (KeyP × Int)} {k : KeyP} {v : Int} (h : ¬ p.1 = k) : setKP (p :: r) k v = p :: setKP r k v := by rw [setKP, if_neg (KeyP.eqB_no h)]
theorem look_set_sameP (D : List (KeyP × Int)) (k : KeyP) (v : Int) : lookKP (setKP D k v) k = some v := by
  induction D with
  | nil => exact lookK_yesP rfl
  | cons p r ih =>
    by_cases c : p.1 = k
    · rw [setK_yesP c]; exact lookK_yesP rfl
    · rw [setK_noP c, lookK_noP c]; exact ih
theorem look_set_otherP (D : List (KeyP × Int)) {k : KeyP} (v : Int) {k' : KeyP} (h : k ≠ k') : lookKP (setKP D k v) k' = lookKP D k' := by
  induction D with
  | nil => exact lookK_noP h
  | cons p r ih =>
    by_cases c : p.1 = k
    · rw [setK_yesP c, lookK_noP h, lookK_noP (fun e => h (c.symm.trans e))]
    · rw [setK_noP c]
      by_cases c2 : p.1 = k'
      · rw [lookK_yesP c2, lookK_yesP c2]
      · rw [lookK_noP c2, lookK_noP c2]; exact ih
theorem lookK_memP {D : List (KeyP × Int)} {k : KeyP} {v : Int} (h : lookKP D k = some v) : (k, v) ∈ D := by
  induction D with
  | nil => cases h
  | cons p r ih =>
    by_cases c : p.1 = k
    · rw [lookK_yesP c] at h
      cases h
      subst c
      simp
    · rw [lookK_noP c] at h
      exact List.mem_cons_of_mem _ (ih h)
theorem set_memP {D : List (KeyP × Int)} {k : KeyP} {v : Int} {p : KeyP × Int} (h : p ∈ setKP D k v) : p ∈ D ∨ p.1 = k := by
  induction D with
  | nil =>
    simp only [setKP, List.mem_singleton] at h
    exact .inr (by rw [h])
  | cons q r ih =>
    by_cases c : q.1 = k
    · rw [setK_yesP c] at h
      rcases List.mem_cons.1 h with h | h
      · exact .inr (by rw [h])
      · exact .inl (List.mem_cons_of_mem _ h)
    · rw [setK_noP c] at h
      rcases List.mem_cons.1 h with h | h
      · exact .inl (by rw [h]; simp)
      · rcases ih h with h | h
        · exact .inl (List.mem_cons_of_mem _ h)
        · exact .inr h

def flatKyP (D : List (KeyP × Int)) : List (Value × Value) := D.map fun p => (keyVP p.1, Value.int .i64 p.2)
/-- the map in block M holds these -/
def KMapP (w : World) (M : Nat) (D : List (KeyP × Int)) : Prop := ∃ es clock, w.heap[M]? = some (.map es clock) ∧ es.toList.map (fun x => (x.key, x.val)) = flatKyP D ∧ ∀ p ∈ D, p.1.rows w
theorem sameBits_keyP (k : KeyP) : Instr.sameBits 10000 (keyVP k) (keyVP k) = true := by
  simp [keyVP, Instr.sameBits]
theorem run_keyStaysP {w : World} (k : KeyP) : (Instr.keyThatStays (keyVP k) (keyVP k)).run Try.prog w = .ok (keyVP k) w := by
  simp [Instr.keyThatStays, sameBits_keyP]
theorem KMapP.made {w : World} {M : Nat} (h : w.heap[M]? = some (.map #[] 0)) : KMapP w M [] := ⟨#[], 0, h, rfl, fun p hp => by simp at hp⟩
theorem KMapP.lt {w : World} {M : Nat} {D : List (KeyP × Int)} (h : KMapP w M D) : M < w.heap.size := by
  obtain ⟨es, clock, hb, _⟩ := h
  exact (Array.getElem?_eq_some_iff.1 hb).1
theorem KMapP.obj {w : World} {M : Nat} {D : List (KeyP × Int)} (h : KMapP w M D) : ∃ es clock, w.heap[M]? = some (.map es clock) := by
  obtain ⟨es, clock, hb, _⟩ := h
  exact ⟨es, clock, hb⟩
/-- a place of a row stays one -/
theorem RowsOf.kept {w w' : World} {a : Option Addr} (h : RowsOf w a) (hb : ∀ x, a = some x → w'.heap[x.block]? = w.heap[x.block]?) : RowsOf w' a := fun x hx => by
  obtain ⟨c, e, q⟩ := h x hx
  exact ⟨c, e, (hb x hx).trans q⟩
/-- as long as the map, and the rows of its places, are as they were -/
theorem KMapP.kept {w w' : World} {M : Nat} {D : List (KeyP × Int)} (h : KMapP w M D) (hM : w'.heap[M]? = w.heap[M]?) (hb : ∀ p ∈ D, (∀ x, p.1.pa = some x → w'.heap[x.block]? = w.heap[x.block]?) ∧ ∀ x, p.1.pb = some x → w'.heap[x.block]? = w.heap[x.block]?) : KMapP w' M D := by
  obtain ⟨es, clock, h1, h2, h3⟩ := h
  exact ⟨es, clock, hM.trans h1, h2, fun p hp => ⟨(h3 p hp).1.kept (hb p hp).1, (h3 p hp).2.kept (hb p hp).2⟩⟩

theorem Try.fieldsKsT : Try.prog.fieldsOf 80 = #[{ name := "first", type := 78, offset := 0, embedded := false, tag := "", pkgPath := "loop.example/g00276/impl", byteOffset := 0 }, { name := "count", type := 3, offset := 1, embedded := false, tag := "", pkgPath := "loop.example/g00276/impl", byteOffset := 8 }] := by kernel_rfl
theorem Try.stoodKsT : Try.prog.stoodInHeld 80 = false := by kernel_rfl
theorem Try.underKsT : Try.prog.underlying 80 = some (.struct (Try.prog.fieldsOf 80)) := by kernel_rfl
theorem Try.fieldsLpT : Try.prog.fieldsOf 83 = #[{ name := "a", type := 80, offset := 0, embedded := false, tag := "", pkgPath := "loop.example/g00276/impl", byteOffset := 0 }, { name := "b", type := 80, offset := 2, embedded := false, tag := "", pkgPath := "loop.example/g00276/impl", byteOffset := 16 }] := by kernel_rfl
theorem Try.stoodLpT : Try.prog.stoodInHeld 83 = false := by kernel_rfl
theorem Try.underLpT : Try.prog.underlying 83 = some (.struct (Try.prog.fieldsOf 83)) := by kernel_rfl
theorem run_partPT {w : World} {xs : Array Value} {v : Value} (h : xs[0]? = some v) : (part 78 xs 0).run Try.prog w = .ok v w := by
  have hi : (isAgg 78).run Try.prog w = .ok false w := by kernel_rfl
  simp [part, hi, h]
theorem run_partLT {w : World} {a b : Option Addr} {m k : Int} : (part 80 #[.pointer a, .int .i64 m, .pointer b, .int .i64 k] 0).run Try.prog w = .ok (.agg #[.pointer a, .int .i64 m]) w ∧ (part 80 #[.pointer a, .int .i64 m, .pointer b, .int .i64 k] 2).run Try.prog w = .ok (.agg #[.pointer b, .int .i64 k]) w := ⟨by kernel_rfl, by kernel_rfl⟩
theorem run_eq_ptrT (d : Nat) {w : World} {a b : Option Addr} (ha : RowsOf w a) (hb : RowsOf w b) : (Op.equalIn (d + 1) 78 (.pointer a) (.pointer b)).run Try.prog w = .ok (decide (a = b)) w := by
  obtain ⟨j, hj, _, hz1, _⟩ := info_parts Try.infoType
  have hp : Try.prog.underlying 78 = some (.pointer 38) := Try.underlying78
  cases a with
  | none => cases b <;> simp [Op.equalIn, run_underlying hp]
  | some x =>
    cases b with
    | none => simp [Op.equalIn, run_underlying hp]
    | some y =>
      by_cases c : x = y
      · subst c
        simp [Op.equalIn, run_underlying hp, typeInfo, sizeOf, hj, run_sameAddr_same]
      · obtain ⟨ca, ta, h1⟩ := ha x rfl
        obtain ⟨cb, tb, h2⟩ := hb y rfl
        have h3 := run_sameAddr_other (P := Try.prog) w c h1 h2
        simp [Op.equalIn, run_underlying hp, typeInfo, sizeOf, hj, hz1, h3, c]
theorem run_equal_ksT (d : Nat) {w : World} {a b : Option Addr} {m k : Int} (ha : RowsOf w a) (hb : RowsOf w b) : (Op.equalIn (d + 1 + 1) 80 (.agg #[.pointer a, .int .i64 m]) (.agg #[.pointer b, .int .i64 k])).run Try.prog w = .ok (decide (a = b ∧ m = k)) w := by
  rw [run_equalIn_struct (P := Try.prog) w (d + 1) 80 _ _ Try.underKsT Try.stoodKsT, Try.fieldsKsT]
  have p1 := run_partPT (w := w) (xs := #[.pointer a, .int .i64 m]) (v := .pointer a) rfl
  have p2 := run_partPT (w := w) (xs := #[.pointer b, .int .i64 k]) (v := .pointer b) rfl
  have q1 := run_partI (w := w) (xs := #[.pointer a, .int .i64 m]) (v := .int .i64 m) rfl
  have q2 := run_partI (w := w) (xs := #[.pointer b, .int .i64 k]) (v := .int .i64 k) rfl
  have e1 := run_eq_ptrT d (w := w) ha hb
  have e2 := run_eq_int d (w := w) (m := m) (k := k)
  by_cases c : a = b
  · rw [decide_eq_true c] at e1
    by_cases c2 : m = k
    · rw [decide_eq_true c2] at e2
      rw [decide_eq_true ⟨c, c2⟩]
      simp [Op.eqFields, p1, p2, q1, q2, e1, e2]
    · rw [decide_eq_false c2] at e2
      rw [decide_eq_false (fun h => c2 h.2)]
      simp [Op.eqFields, p1, p2, q1, q2, e1, e2]
  · rw [decide_eq_false c] at e1
    rw [decide_eq_false (fun h => c h.1)]
    simp [Op.eqFields, p1, p2, e1]
theorem run_checkKeyPT (n : Nat) {w : World} {a : Option Addr} (e : Bool) : (Instr.checkKey e (n + 1) 78 (.pointer a)).run Try.prog w = .ok () w := by simp [Instr.checkKey, run_underlying Try.underlying78]
theorem run_checkKey_ksT (n : Nat) {w : World} {a : Option Addr} {m : Int} (e : Bool) : (Instr.checkKey e (n + 1 + 1) 80 (.agg #[.pointer a, .int .i64 m])).run Try.prog w = .ok () w := by
  have p1 := run_partPT (w := w) (xs := #[.pointer a, .int .i64 m]) (v := .pointer a) rfl
  have p2 := run_partI (w := w) (xs := #[.pointer a, .int .i64 m]) (v := .int .i64 m) rfl
  rw [Instr.checkKey.eq_2]
  simp only [Sem.run_bind, run_underlying Try.underKsT, Result.andThen_ok]
  rw [Try.fieldsKsT]
  simp [p1, p2, run_checkKeyPT n, run_checkKeyI n, Result.andThen]
theorem run_checkKey_lpT (n : Nat) {w : World} {k : KeyP} (e : Bool) : (Instr.checkKey e (n + 1 + 1 + 1) 83 (keyVP k)).run Try.prog w = .ok () w := by
  obtain ⟨p1, p2⟩ := run_partLT (w := w) (a := k.pa) (m := k.na) (b := k.pb) (k := k.nb)
  unfold keyVP
  rw [Instr.checkKey.eq_2]
  simp only [Sem.run_bind, run_underlying Try.underLpT, Result.andThen_ok]
  rw [Try.fieldsLpT]
  simp [p1, p2, run_checkKey_ksT n, Result.andThen]
theorem run_equal_lpT (d : Nat) {w : World} {a b : KeyP} (ha : a.rows w) (hb : b.rows w) : (Op.equalIn (d + 1 + 1 + 1) 83 (keyVP a) (keyVP b)).run Try.prog w = .ok (decide ((a.pa = b.pa ∧ a.na = b.na) ∧ a.pb = b.pb ∧ a.nb = b.nb)) w := by
  obtain ⟨p1, p2⟩ := run_partLT (w := w) (a := a.pa) (m := a.na) (b := a.pb) (k := a.nb)
  obtain ⟨q1, q2⟩ := run_partLT (w := w) (a := b.pa) (m := b.na) (b := b.pb) (k := b.nb)
  have e1 := run_equal_ksT d (w := w) (m := a.na) (k := b.na) ha.1 hb.1
  have e2 := run_equal_ksT d (w := w) (m := a.nb) (k := b.nb) ha.2 hb.2
  unfold keyVP
  rw [run_equalIn_struct (P := Try.prog) w (d + 1 + 1) 83 _ _ Try.underLpT Try.stoodLpT, Try.fieldsLpT]
  by_cases c : a.pa = b.pa ∧ a.na = b.na
  · rw [decide_eq_true c] at e1
    by_cases c2 : a.pb = b.pb ∧ a.nb = b.nb
    · rw [decide_eq_true c2] at e2
      rw [decide_eq_true ⟨c, c2⟩]
      simp [Op.eqFields, p1, p2, q1, q2, e1, e2]
    · rw [decide_eq_false c2] at e2
      rw [decide_eq_false (fun h => c2 h.2)]
      simp [Op.eqFields, p1, p2, q1, q2, e1, e2]
  · rw [decide_eq_false c] at e1
    rw [decide_eq_false (fun h => c h.1)]
    simp [Op.eqFields, p1, q1, e1]
theorem run_equal_keyPT {w : World} {a b : KeyP} (ha : a.rows w) (hb : b.rows w) : ∃ r : Bool, (Op.equal 83 (keyVP a) (keyVP b)).run Try.prog w = .ok r w ∧ (r = true ↔ a = b) := by
  refine ⟨_, run_equal_lpT 9997 ha hb, ?_⟩
  exact KeyP.eqB_iff a b
theorem findAsk_stopPT {w : World} {k : KeyP} (hk : k.rows w) : ∀ (es : List MapEntry) (D : List (KeyP × Int)) (i : Nat), es.map (fun x => (x.key, x.val)) = flatKyP D → (∀ p ∈ D, p.1.rows w) →
    ((Instr.findAsking 83 (keyVP k) es i).run Try.prog w = .ok none w ∧ lookKP D k = none ∧ ∀ v, setKP D k v = D ++ [(k, v)]) ∨
    ∃ j v0, (Instr.findAsking 83 (keyVP k) es i).run Try.prog w = .ok (some (i + j, .int .i64 v0)) w ∧ lookKP D k = some v0 ∧ (∃ h : j < es.length, es[j].key = keyVP k) ∧ ∀ v, (es.modify j fun x => { x with key := keyVP k, val := .int .i64 v }).map (fun x => (x.key, x.val)) = flatKyP (setKP D k v) := by
  intro es
  induction es with
  | nil =>
    intro D i h _
    cases D with
    | nil => exact .inl ⟨rfl, rfl, fun v => rfl⟩
    | cons p r => simp [flatKyP] at h
  | cons x r ih =>
    intro D i h hD
    cases D with
    | nil => simp [flatKyP] at h
    | cons p q =>
      simp only [flatKyP, List.map_cons, List.cons.injEq, Prod.mk.injEq] at h
      obtain ⟨⟨hx, hv⟩, hr⟩ := h
      obtain ⟨b, hb1, hb2⟩ := run_equal_keyPT (w := w) (a := k) (b := p.1) hk (hD p (by simp))
      by_cases c : k = p.1
      · have hbt : b = true := hb2.2 c
        subst hbt
        refine .inr ⟨0, p.2, ?_, ?_, ⟨by simp, ?_⟩, fun v => ?_⟩
        · simp only [Instr.findAsking, hx]
          simp [hb1, hv, Result.andThen]
        · exact lookK_yesP c.symm
        · simp only [List.getElem_cons_zero]; rw [hx, c]
        · rw [setK_yesP c.symm]
          simp only [List.modify_zero_cons, List.map_cons, flatKyP]
          rw [hr]
      · have hbf : b = false := by cases b; rfl; exact absurd (hb2.1 rfl) c
        subst hbf
        have c' : ¬ p.1 = k := fun e => c e.symm
        rcases ih q (i + 1) hr (fun y hy => hD y (List.mem_cons_of_mem _ hy)) with ⟨h1, h2, h3⟩ | ⟨j, v0, h1, h2, ⟨hj, h3⟩, h4⟩
        · refine .inl ⟨?_, ?_, fun v => ?_⟩
          · simp only [Instr.findAsking, hx]
            simp [hb1, h1, Result.andThen]
          · rw [lookK_noP c']; exact h2
          · rw [setK_noP c', h3]; rfl
        · refine .inr ⟨j + 1, v0, ?_, ?_, ⟨by simpa using hj, by simpa using h3⟩, fun v => ?_⟩
          · simp only [Instr.findAsking, hx]
            simp [hb1, h1, Result.andThen]
            omega
          · rw [lookK_noP c']; exact h2
          · rw [setK_noP c']
            simp only [List.modify_succ_cons, List.map_cons, flatKyP]
            rw [h4 v, hx, hv]
            rfl

theorem findKey_stopPT {w : World} {k : KeyP} (es : List MapEntry) (D : List (KeyP × Int)) (h : es.map (fun x => (x.key, x.val)) = flatKyP D) : (Instr.findKey 83 (keyVP k) es).run Try.prog w = (Instr.findAsking 83 (keyVP k) es 0).run Try.prog w := by
  cases es with
  | nil => simp [Instr.findKey, run_underlying Try.underLpT, Instr.findNow, Instr.findAsking]
  | cons x r =>
    cases D with
    | nil => simp [flatKyP] at h
    | cons p q =>
      simp only [flatKyP, List.map_cons, List.cons.injEq, Prod.mk.injEq] at h
      simp [Instr.findKey, run_underlying Try.underLpT, Instr.findNow, h.1.1, keyVP, Instr.sameNow]

theorem run_checkKey_stPT {w : World} {k : KeyP} (e : Bool) : (Instr.checkKey e 10000 83 (keyVP k)).run Try.prog w = .ok () w := run_checkKey_lpT 9997 e

theorem run_lookup_stopPT {w : World} {M : Nat} {D : List (KeyP × Int)} (hM : KMapP w M D) (k : KeyP) (hk : k.rows w) :
    (Instr.lookup 77 (.map (some M)) (keyVP k) false).run Try.prog w = .ok (.int .i64 ((lookKP D k).getD 0)) w := by
  obtain ⟨es, clock, hb, hes, hD⟩ := hM
  have hz : (zeroValue 3).run Try.prog w = .ok (.int .i64 0) w := by kernel_rfl
  have hf := findKey_stopPT (w := w) (k := k) es.toList D hes
  rcases findAsk_stopPT hk es.toList D 0 hes hD with ⟨h1, h2, _⟩ | ⟨j, v0, h1, h2, _⟩
  · rw [h1] at hf
    simp [Instr.lookup, run_underlying Try.underlying77, MapKept.run_getObj_map hb, run_checkKey_stPT, hf, hz, h2, Result.andThen]
  · rw [h1] at hf
    simp [Instr.lookup, run_underlying Try.underlying77, MapKept.run_getObj_map hb, run_checkKey_stPT, hf, h2, Result.andThen]

theorem run_update_stopPT {w : World} {M : Nat} {D : List (KeyP × Int)} (hM : KMapP w M D) (k : KeyP) (hk : k.rows w) (v : Int) :
    ∃ w', (Instr.mapUpdate 77 (.map (some M)) (keyVP k) (.int .i64 v)).run Try.prog w = .ok () w' ∧ KMapP w' M (setKP D k v) ∧ But M w w' := by
  obtain ⟨es, clock, hb, hes, hD⟩ := hM
  have hf := findKey_stopPT (w := w) (k := k) es.toList D hes
  have far : ∀ (o : Obj) (b : Nat) (c : Array Value) (e : TypeId), w.heap[b]? = some (Obj.cells c e (0, 0)) → (w.heap.setIfInBounds M o)[b]? = some (Obj.cells c e (0, 0)) := fun o b c e h => by
    rw [(MapKept.heap_set (o' := o) hb).2 b (fun e => by subst e; rw [hb] at h; simp at h)]
    exact h
  rcases findAsk_stopPT hk es.toList D 0 hes hD with ⟨h1, h2, h3⟩ | ⟨j, v0, h1, h2, ⟨hj, h3⟩, h4⟩
  · rw [h1] at hf
    have hr : (Instr.mapUpdate 77 (.map (some M)) (keyVP k) (.int .i64 v)).run Try.prog w = .ok () { w with heap := w.heap.setIfInBounds M (.map (es.push { key := keyVP k, val := .int .i64 v, born := clock }) (clock + 1)) } := by
      simp [Instr.mapUpdate, run_underlying Try.underlying77, MapKept.run_getObj_map hb, run_checkKey_stPT, hf, MapKept.run_setObj_map _ hb, Result.andThen]
    obtain ⟨n1, n2⟩ := MapKept.heap_set (o' := .map (es.push { key := keyVP k, val := .int .i64 v, born := clock }) (clock + 1)) hb
    refine ⟨_, hr, ⟨_, _, n1, ?_, fun p hp => ?_⟩, ⟨rfl, rfl, rfl, by simp, fun b hb => n2 b hb⟩⟩
    · rw [Array.toList_push, List.map_append, hes, h3 v]
      simp [flatKyP]
    · have fr : ∀ a : Option Addr, RowsOf w a → ∀ o, RowsOf { w with heap := w.heap.setIfInBounds M o } a := fun a h o x hx => by
        obtain ⟨c, e, q⟩ := h x hx
        exact ⟨c, e, far _ _ _ _ q⟩
      rcases set_memP hp with h | h
      · exact ⟨fr _ (hD p h).1 _, fr _ (hD p h).2 _⟩
      · rw [h]
        exact ⟨fr _ hk.1 _, fr _ hk.2 _⟩
  · rw [h1] at hf
    have hjs : j < es.size := by simpa using hj
    have hkey : ((es[j]?).map (·.key)).getD (keyVP k) = keyVP k := by
      rw [Array.getElem?_eq_getElem hjs]
      simpa using h3
    have hr : (Instr.mapUpdate 77 (.map (some M)) (keyVP k) (.int .i64 v)).run Try.prog w = .ok () { w with heap := w.heap.setIfInBounds M (.map (es.modify j fun x => { x with key := keyVP k, val := .int .i64 v }) clock) } := by
      simp only [Instr.mapUpdate, Sem.run_bind, run_underlying Try.underlying77, Result.andThen_ok, MapKept.run_getObj_map hb, run_checkKey_stPT, hf, Nat.zero_add, hkey, run_keyStaysP, MapKept.run_setObj_map _ hb]
    obtain ⟨n1, n2⟩ := MapKept.heap_set (o' := .map (es.modify j fun x => { x with key := keyVP k, val := .int .i64 v }) clock) hb
    refine ⟨_, hr, ⟨_, _, n1, ?_, fun p hp => ?_⟩, ⟨rfl, rfl, rfl, by simp, fun b hb => n2 b hb⟩⟩
    · rw [Array.toList_modify]
      exact h4 v
    · have fr : ∀ a : Option Addr, RowsOf w a → ∀ o, RowsOf { w with heap := w.heap.setIfInBounds M o } a := fun a h o x hx => by
        obtain ⟨c, e, q⟩ := h x hx
        exact ⟨c, e, far _ _ _ _ q⟩
      rcases set_memP hp with h | h
      · exact ⟨fr _ (hD p h).1 _, fr _ (hD p h).2 _⟩
      · rw [h]
        exact ⟨fr _ hk.1 _, fr _ hk.2 _⟩


theorem Try.fieldsKsX : Try.prog.fieldsOf 89 = #[{ name := "first", type := 87, offset := 0, embedded := false, tag := "", pkgPath := "loop.example/g00276/impl", byteOffset := 0 }, { name := "count", type := 3, offset := 1, embedded := false, tag := "", pkgPath := "loop.example/g00276/impl", byteOffset := 8 }] := by kernel_rfl
theorem Try.stoodKsX : Try.prog.stoodInHeld 89 = false := by kernel_rfl
theorem Try.underKsX : Try.prog.underlying 89 = some (.struct (Try.prog.fieldsOf 89)) := by kernel_rfl
theorem Try.fieldsLpX : Try.prog.fieldsOf 92 = #[{ name := "a", type := 89, offset := 0, embedded := false, tag := "", pkgPath := "loop.example/g00276/impl", byteOffset := 0 }, { name := "b", type := 89, offset := 2, embedded := false, tag := "", pkgPath := "loop.example/g00276/impl", byteOffset := 16 }] := by kernel_rfl
theorem Try.stoodLpX : Try.prog.stoodInHeld 92 = false := by kernel_rfl
theorem Try.underLpX : Try.prog.underlying 92 = some (.struct (Try.prog.fieldsOf 92)) := by kernel_rfl
theorem run_partPX {w : World} {xs : Array Value} {v : Value} (h : xs[0]? = some v) : (part 87 xs 0).run Try.prog w = .ok v w := by
  have hi : (isAgg 87).run Try.prog w = .ok false w := by kernel_rfl
  simp [part, hi, h]
theorem run_partLX {w : World} {a b : Option Addr} {m k : Int} : (part 89 #[.pointer a, .int .i64 m, .pointer b, .int .i64 k] 0).run Try.prog w = .ok (.agg #[.pointer a, .int .i64 m]) w ∧ (part 89 #[.pointer a, .int .i64 m, .pointer b, .int .i64 k] 2).run Try.prog w = .ok (.agg #[.pointer b, .int .i64 k]) w := ⟨by kernel_rfl, by kernel_rfl⟩
theorem run_eq_ptrX (d : Nat) {w : World} {a b : Option Addr} (ha : RowsOf w a) (hb : RowsOf w b) : (Op.equalIn (d + 1) 87 (.pointer a) (.pointer b)).run Try.prog w = .ok (decide (a = b)) w := by
  obtain ⟨j, hj, _, hz1, _⟩ := info_parts Try.infoExp
  have hp : Try.prog.underlying 87 = some (.pointer 41) := Try.underlying87
  cases a with
  | none => cases b <;> simp [Op.equalIn, run_underlying hp]
  | some x =>
    cases b with
    | none => simp [Op.equalIn, run_underlying hp]
    | some y =>
      by_cases c : x = y
      · subst c
        simp [Op.equalIn, run_underlying hp, typeInfo, sizeOf, hj, run_sameAddr_same]
      · obtain ⟨ca, ta, h1⟩ := ha x rfl
        obtain ⟨cb, tb, h2⟩ := hb y rfl
        have h3 := run_sameAddr_other (P := Try.prog) w c h1 h2
        simp [Op.equalIn, run_underlying hp, typeInfo, sizeOf, hj, hz1, h3, c]
theorem run_equal_ksX (d : Nat) {w : World} {a b : Option Addr} {m k : Int} (ha : RowsOf w a) (hb : RowsOf w b) : (Op.equalIn (d + 1 + 1) 89 (.agg #[.pointer a, .int .i64 m]) (.agg #[.pointer b, .int .i64 k])).run Try.prog w = .ok (decide (a = b ∧ m = k)) w := by
  rw [run_equalIn_struct (P := Try.prog) w (d + 1) 89 _ _ Try.underKsX Try.stoodKsX, Try.fieldsKsX]
  have p1 := run_partPX (w := w) (xs := #[.pointer a, .int .i64 m]) (v := .pointer a) rfl
  have p2 := run_partPX (w := w) (xs := #[.pointer b, .int .i64 k]) (v := .pointer b) rfl
  have q1 := run_partI (w := w) (xs := #[.pointer a, .int .i64 m]) (v := .int .i64 m) rfl
  have q2 := run_partI (w := w) (xs := #[.pointer b, .int .i64 k]) (v := .int .i64 k) rfl
  have e1 := run_eq_ptrX d (w := w) ha hb
  have e2 := run_eq_int d (w := w) (m := m) (k := k)
  by_cases c : a = b
  · rw [decide_eq_true c] at e1
    by_cases c2 : m = k
    · rw [decide_eq_true c2] at e2
      rw [decide_eq_true ⟨c, c2⟩]
      simp [Op.eqFields, p1, p2, q1, q2, e1, e2]
    · rw [decide_eq_false c2] at e2
      rw [decide_eq_false (fun h => c2 h.2)]
      simp [Op.eqFields, p1, p2, q1, q2, e1, e2]
  · rw [decide_eq_false c] at e1
    rw [decide_eq_false (fun h => c h.1)]
    simp [Op.eqFields, p1, p2, e1]
theorem run_checkKeyPX (n : Nat) {w : World} {a : Option Addr} (e : Bool) : (Instr.checkKey e (n + 1) 87 (.pointer a)).run Try.prog w = .ok () w := by simp [Instr.checkKey, run_underlying Try.underlying87]
theorem run_checkKey_ksX (n : Nat) {w : World} {a : Option Addr} {m : Int} (e : Bool) : (Instr.checkKey e (n + 1 + 1) 89 (.agg #[.pointer a, .int .i64 m])).run Try.prog w = .ok () w := by
  have p1 := run_partPX (w := w) (xs := #[.pointer a, .int .i64 m]) (v := .pointer a) rfl
  have p2 := run_partI (w := w) (xs := #[.pointer a, .int .i64 m]) (v := .int .i64 m) rfl
  rw [Instr.checkKey.eq_2]
  simp only [Sem.run_bind, run_underlying Try.underKsX, Result.andThen_ok]
  rw [Try.fieldsKsX]
  simp [p1, p2, run_checkKeyPX n, run_checkKeyI n, Result.andThen]
theorem run_checkKey_lpX (n : Nat) {w : World} {k : KeyP} (e : Bool) : (Instr.checkKey e (n + 1 + 1 + 1) 92 (keyVP k)).run Try.prog w = .ok () w := by
  obtain ⟨p1, p2⟩ := run_partLX (w := w) (a := k.pa) (m := k.na) (b := k.pb) (k := k.nb)
  unfold keyVP
  rw [Instr.checkKey.eq_2]
  simp only [Sem.run_bind, run_underlying Try.underLpX, Result.andThen_ok]
  rw [Try.fieldsLpX]
  simp [p1, p2, run_checkKey_ksX n, Result.andThen]
theorem run_equal_lpX (d : Nat) {w : World} {a b : KeyP} (ha : a.rows w) (hb : b.rows w) : (Op.equalIn (d + 1 + 1 + 1) 92 (keyVP a) (keyVP b)).run Try.prog w = .ok (decide ((a.pa = b.pa ∧ a.na = b.na) ∧ a.pb = b.pb ∧ a.nb = b.nb)) w := by
  obtain ⟨p1, p2⟩ := run_partLX (w := w) (a := a.pa) (m := a.na) (b := a.pb) (k := a.nb)
  obtain ⟨q1, q2⟩ := run_partLX (w := w) (a := b.pa) (m := b.na) (b := b.pb) (k := b.nb)
  have e1 := run_equal_ksX d (w := w) (m := a.na) (k := b.na) ha.1 hb.1
  have e2 := run_equal_ksX d (w := w) (m := a.nb) (k := b.nb) ha.2 hb.2
  unfold keyVP
  rw [run_equalIn_struct (P := Try.prog) w (d + 1 + 1) 92 _ _ Try.underLpX Try.stoodLpX, Try.fieldsLpX]
  by_cases c : a.pa = b.pa ∧ a.na = b.na
  · rw [decide_eq_true c] at e1
    by_cases c2 : a.pb = b.pb ∧ a.nb = b.nb
    · rw [decide_eq_true c2] at e2
      rw [decide_eq_true ⟨c, c2⟩]
      simp [Op.eqFields, p1, p2, q1, q2, e1, e2]
    · rw [decide_eq_false c2] at e2
      rw [decide_eq_false (fun h => c2 h.2)]
      simp [Op.eqFields, p1, p2, q1, q2, e1, e2]
  · rw [decide_eq_false c] at e1
    rw [decide_eq_false (fun h => c h.1)]
    simp [Op.eqFields, p1, q1, e1]
theorem run_equal_keyPX {w : World} {a b : KeyP} (ha : a.rows w) (hb : b.rows w) : ∃ r : Bool, (Op.equal 92 (keyVP a) (keyVP b)).run Try.prog w = .ok r w ∧ (r = true ↔ a = b) := by
  refine ⟨_, run_equal_lpX 9997 ha hb, ?_⟩
  exact KeyP.eqB_iff a b
theorem findAsk_stopPX {w : World} {k : KeyP} (hk : k.rows w) : ∀ (es : List MapEntry) (D : List (KeyP × Int)) (i : Nat), es.map (fun x => (x.key, x.val)) = flatKyP D → (∀ p ∈ D, p.1.rows w) →
    ((Instr.findAsking 92 (keyVP k) es i).run Try.prog w = .ok none w ∧ lookKP D k = none ∧ ∀ v, setKP D k v = D ++ [(k, v)]) ∨
    ∃ j v0, (Instr.findAsking 92 (keyVP k) es i).run Try.prog w = .ok (some (i + j, .int .i64 v0)) w ∧ lookKP D k = some v0 ∧ (∃ h : j < es.length, es[j].key = keyVP k) ∧ ∀ v, (es.modify j fun x => { x with key := keyVP k, val := .int .i64 v }).map (fun x => (x.key, x.val)) = flatKyP (setKP D k v) := by
  intro es
  induction es with
  | nil =>
    intro D i h _
    cases D with
    | nil => exact .inl ⟨rfl, rfl, fun v => rfl⟩
    | cons p r => simp [flatKyP] at h
  | cons x r ih =>
    intro D i h hD
    cases D with
    | nil => simp [flatKyP] at h
    | cons p q =>
      simp only [flatKyP, List.map_cons, List.cons.injEq, Prod.mk.injEq] at h
      obtain ⟨⟨hx, hv⟩, hr⟩ := h
      obtain ⟨b, hb1, hb2⟩ := run_equal_keyPX (w := w) (a := k) (b := p.1) hk (hD p (by simp))
      by_cases c : k = p.1
      · have hbt : b = true := hb2.2 c
        subst hbt
        refine .inr ⟨0, p.2, ?_, ?_, ⟨by simp, ?_⟩, fun v => ?_⟩
        · simp only [Instr.findAsking, hx]
          simp [hb1, hv, Result.andThen]
        · exact lookK_yesP c.symm
        · simp only [List.getElem_cons_zero]; rw [hx, c]
        · rw [setK_yesP c.symm]
          simp only [List.modify_zero_cons, List.map_cons, flatKyP]
          rw [hr]
      · have hbf : b = false := by cases b; rfl; exact absurd (hb2.1 rfl) c
        subst hbf
        have c' : ¬ p.1 = k := fun e => c e.symm
        rcases ih q (i + 1) hr (fun y hy => hD y (List.mem_cons_of_mem _ hy)) with ⟨h1, h2, h3⟩ | ⟨j, v0, h1, h2, ⟨hj, h3⟩, h4⟩
        · refine .inl ⟨?_, ?_, fun v => ?_⟩
          · simp only [Instr.findAsking, hx]
            simp [hb1, h1, Result.andThen]
          · rw [lookK_noP c']; exact h2
          · rw [setK_noP c', h3]; rfl
        · refine .inr ⟨j + 1, v0, ?_, ?_, ⟨by simpa using hj, by simpa using h3⟩, fun v => ?_⟩
          · simp only [Instr.findAsking, hx]
            simp [hb1, h1, Result.andThen]
            omega
          · rw [lookK_noP c']; exact h2
          · rw [setK_noP c']
            simp only [List.modify_succ_cons, List.map_cons, flatKyP]
            rw [h4 v, hx, hv]
            rfl

theorem findKey_stopPX {w : World} {k : KeyP} (es : List MapEntry) (D : List (KeyP × Int)) (h : es.map (fun x => (x.key, x.val)) = flatKyP D) : (Instr.findKey 92 (keyVP k) es).run Try.prog w = (Instr.findAsking 92 (keyVP k) es 0).run Try.prog w := by
  cases es with
  | nil => simp [Instr.findKey, run_underlying Try.underLpX, Instr.findNow, Instr.findAsking]
  | cons x r =>
    cases D with
    | nil => simp [flatKyP] at h
    | cons p q =>
      simp only [flatKyP, List.map_cons, List.cons.injEq, Prod.mk.injEq] at h
      simp [Instr.findKey, run_underlying Try.underLpX, Instr.findNow, h.1.1, keyVP, Instr.sameNow]

theorem run_checkKey_stPX {w : World} {k : KeyP} (e : Bool) : (Instr.checkKey e 10000 92 (keyVP k)).run Try.prog w = .ok () w := run_checkKey_lpX 9997 e

theorem run_lookup_stopPX {w : World} {M : Nat} {D : List (KeyP × Int)} (hM : KMapP w M D) (k : KeyP) (hk : k.rows w) :
    (Instr.lookup 86 (.map (some M)) (keyVP k) false).run Try.prog w = .ok (.int .i64 ((lookKP D k).getD 0)) w := by
  obtain ⟨es, clock, hb, hes, hD⟩ := hM
  have hz : (zeroValue 3).run Try.prog w = .ok (.int .i64 0) w := by kernel_rfl
  have hf := findKey_stopPX (w := w) (k := k) es.toList D hes
  rcases findAsk_stopPX hk es.toList D 0 hes hD with ⟨h1, h2, _⟩ | ⟨j, v0, h1, h2, _⟩
  · rw [h1] at hf
    simp [Instr.lookup, run_underlying Try.underlying86, MapKept.run_getObj_map hb, run_checkKey_stPX, hf, hz, h2, Result.andThen]
  · rw [h1] at hf
    simp [Instr.lookup, run_underlying Try.underlying86, MapKept.run_getObj_map hb, run_checkKey_stPX, hf, h2, Result.andThen]

theorem run_update_stopPX {w : World} {M : Nat} {D : List (KeyP × Int)} (hM : KMapP w M D) (k : KeyP) (hk : k.rows w) (v : Int) :
    ∃ w', (Instr.mapUpdate 86 (.map (some M)) (keyVP k) (.int .i64 v)).run Try.prog w = .ok () w' ∧ KMapP w' M (setKP D k v) ∧ But M w w' := by
  obtain ⟨es, clock, hb, hes, hD⟩ := hM
  have hf := findKey_stopPX (w := w) (k := k) es.toList D hes
  have far : ∀ (o : Obj) (b : Nat) (c : Array Value) (e : TypeId), w.heap[b]? = some (Obj.cells c e (0, 0)) → (w.heap.setIfInBounds M o)[b]? = some (Obj.cells c e (0, 0)) := fun o b c e h => by
    rw [(MapKept.heap_set (o' := o) hb).2 b (fun e => by subst e; rw [hb] at h; simp at h)]
    exact h
  rcases findAsk_stopPX hk es.toList D 0 hes hD with ⟨h1, h2, h3⟩ | ⟨j, v0, h1, h2, ⟨hj, h3⟩, h4⟩
  · rw [h1] at hf
    have hr : (Instr.mapUpdate 86 (.map (some M)) (keyVP k) (.int .i64 v)).run Try.prog w = .ok () { w with heap := w.heap.setIfInBounds M (.map (es.push { key := keyVP k, val := .int .i64 v, born := clock }) (clock + 1)) } := by
      simp [Instr.mapUpdate, run_underlying Try.underlying86, MapKept.run_getObj_map hb, run_checkKey_stPX, hf, MapKept.run_setObj_map _ hb, Result.andThen]
    obtain ⟨n1, n2⟩ := MapKept.heap_set (o' := .map (es.push { key := keyVP k, val := .int .i64 v, born := clock }) (clock + 1)) hb
    refine ⟨_, hr, ⟨_, _, n1, ?_, fun p hp => ?_⟩, ⟨rfl, rfl, rfl, by simp, fun b hb => n2 b hb⟩⟩
    · rw [Array.toList_push, List.map_append, hes, h3 v]
      simp [flatKyP]
    · have fr : ∀ a : Option Addr, RowsOf w a → ∀ o, RowsOf { w with heap := w.heap.setIfInBounds M o } a := fun a h o x hx => by
        obtain ⟨c, e, q⟩ := h x hx
        exact ⟨c, e, far _ _ _ _ q⟩
      rcases set_memP hp with h | h
      · exact ⟨fr _ (hD p h).1 _, fr _ (hD p h).2 _⟩
      · rw [h]
        exact ⟨fr _ hk.1 _, fr _ hk.2 _⟩
  · rw [h1] at hf
    have hjs : j < es.size := by simpa using hj
    have hkey : ((es[j]?).map (·.key)).getD (keyVP k) = keyVP k := by
      rw [Array.getElem?_eq_getElem hjs]
      simpa using h3
    have hr : (Instr.mapUpdate 86 (.map (some M)) (keyVP k) (.int .i64 v)).run Try.prog w = .ok () { w with heap := w.heap.setIfInBounds M (.map (es.modify j fun x => { x with key := keyVP k, val := .int .i64 v }) clock) } := by
      simp only [Instr.mapUpdate, Sem.run_bind, run_underlying Try.underlying86, Result.andThen_ok, MapKept.run_getObj_map hb, run_checkKey_stPX, hf, Nat.zero_add, hkey, run_keyStaysP, MapKept.run_setObj_map _ hb]
    obtain ⟨n1, n2⟩ := MapKept.heap_set (o' := .map (es.modify j fun x => { x with key := keyVP k, val := .int .i64 v }) clock) hb
    refine ⟨_, hr, ⟨_, _, n1, ?_, fun p hp => ?_⟩, ⟨rfl, rfl, rfl, by simp, fun b hb => n2 b hb⟩⟩
    · rw [Array.toList_modify]
      exact h4 v
    · have fr : ∀ a : Option Addr, RowsOf w a → ∀ o, RowsOf { w with heap := w.heap.setIfInBounds M o } a := fun a h o x hx => by
        obtain ⟨c, e, q⟩ := h x hx
        exact ⟨c, e, far _ _ _ _ q⟩
      rcases set_memP hp with h | h
      · exact ⟨fr _ (hD p h).1 _, fr _ (hD p h).2 _⟩
      · rw [h]
        exact ⟨fr _ hk.1 _, fr _ hk.2 _⟩


end Go.Proofs.Ytegdladpkikicaa
