/-
  The map of the lists that a maker went through: found and not found, one more put beside.
-/
import Derived.Test.YtbojmbeopnlmiaaGreatDoorMkS
import Derived.Test.YtbojmbeopnlmiaaGreatDoorPlK
namespace Go.Proofs.YtbojmbeopnlmiaaGreatDoor
open Go.RowKit

/-- the first list that stands there and is so long -/
def lookL : List LRec → Addr → Nat → Option LRec
  | [], _, _ => none
  | r :: l, a, m => if r.pl = a ∧ r.ts.length = m then some r else lookL l a m
theorem lookL_some {L : List LRec} {a : Addr} {m : Nat} {r : LRec} (h : lookL L a m = some r) : r ∈ L ∧ r.pl = a ∧ r.ts.length = m := by
  induction L with
  | nil => simp [lookL] at h
  | cons x l ih =>
    unfold lookL at h
    split at h
    · rename_i c
      simp only [Option.some.injEq] at h
      subst h
      exact ⟨List.mem_cons_self .., c⟩
    · obtain ⟨h1, h2⟩ := ih h
      exact ⟨List.mem_cons_of_mem _ h1, h2⟩

theorem findAsk_pl {w : World} {a : Addr} {m : Nat} (ha : RowsOf w (some a)) : ∀ (es : List MapEntry) (L : List LRec) (i : Nat), (∀ r ∈ L, RowsOf w (some r.pl)) → es.map (fun x => (x.key, x.val)) = L.map (fun r => (plKey r.pl r.ts.length, r.v)) →
    ∃ q, (Instr.findAsking 105 (plKey a m) es i).run Tryz.prog w = .ok q w ∧ q.map (·.2) = (lookL L a m).map (·.v) := by
  intro es
  induction es with
  | nil =>
    intro L i _ h
    cases L with
    | nil => exact ⟨none, rfl, rfl⟩
    | cons p q => simp at h
  | cons x l ih =>
    intro L i hL h
    cases L with
    | nil => simp at h
    | cons r L =>
      simp only [List.map_cons, List.cons.injEq, Prod.mk.injEq] at h
      obtain ⟨⟨hk, hv⟩, hr⟩ := h
      obtain ⟨u, hu1, hu2⟩ := ih L (i + 1) (fun q hq => hL q (List.mem_cons_of_mem _ hq)) hr
      have h1 : (Op.equal 105 (plKey a m) (plKey r.pl r.ts.length)).run Tryz.prog w = .ok (decide (some a = some r.pl ∧ (m : Int) = (r.ts.length : Int))) w := run_equal_ks 9998 (w := w) (a := some a) (b := some r.pl) (m := m) (k := r.ts.length) ha (hL r (List.mem_cons_self ..))
      by_cases c : r.pl = a ∧ r.ts.length = m
      · have c2 : decide (some a = some r.pl ∧ (m : Int) = (r.ts.length : Int)) = true := decide_eq_true ⟨by rw [c.1], by rw [c.2]⟩
        rw [c2] at h1
        refine ⟨some (i, x.val), ?_, ?_⟩
        · simp only [Instr.findAsking, hk]
          simp [h1, Result.andThen]
        · unfold lookL
          rw [if_pos c, hv]
          rfl
      · have c2 : decide (some a = some r.pl ∧ (m : Int) = (r.ts.length : Int)) = false := decide_eq_false fun q => c ⟨(Option.some.inj q.1).symm, by have := q.2; omega⟩
        rw [c2] at h1
        refine ⟨u, ?_, ?_⟩
        · simp only [Instr.findAsking, hk]
          simp [h1, hu1, Result.andThen]
        · unfold lookL
          rw [if_neg c]
          exact hu2

theorem findKey_pl {w : World} {a : Addr} {m : Nat} (ha : RowsOf w (some a)) (es : List MapEntry) (L : List LRec) (hL : ∀ r ∈ L, RowsOf w (some r.pl)) (h : es.map (fun x => (x.key, x.val)) = L.map (fun r => (plKey r.pl r.ts.length, r.v))) :
    ∃ q, (Instr.findKey 105 (plKey a m) es).run Tryz.prog w = .ok q w ∧ q.map (·.2) = (lookL L a m).map (·.v) := by
  obtain ⟨q, h1, h2⟩ := findAsk_pl (m := m) ha es L 0 hL h
  refine ⟨q, ?_, h2⟩
  cases es with
  | nil =>
    cases L with
    | nil =>
      simp only [lookL, Option.map_none, Option.map_eq_none_iff] at h2
      subst h2
      simp [Instr.findKey, run_underlying Tryz.underKs, Instr.findNow]
    | cons r L => simp at h
  | cons x l =>
    cases L with
    | nil => simp at h
    | cons r L =>
      simp only [List.map_cons, List.cons.injEq, Prod.mk.injEq] at h
      simp [Instr.findKey, run_underlying Tryz.underKs, Instr.findNow, h.1.1, plKey, Instr.sameNow]
      exact h1

theorem run_lookup_pl {w : World} {lb : Nat} {L : List LRec} (hM : LMapAt w lb L) (hL : ∀ r ∈ L, RowsOf w (some r.pl)) {a : Addr} (ha : RowsOf w (some a)) (m : Nat) :
    (Instr.lookup 89 (.map (some lb)) (.agg #[.pointer (some a), .int .i64 m]) false).run Tryz.prog w = .ok (((lookL L a m).map (·.v)).getD (.slice none 0 0)) w := by
  obtain ⟨es, clock, hb, hes⟩ := hM
  obtain ⟨q, h1, h2⟩ := findKey_pl (m := m) ha es.toList L hL hes
  have hz : (zeroValue 131).run Tryz.prog w = .ok (.slice none 0 0) w := by kernel_rfl
  have hc : ∀ b, (Instr.checkKey b 10000 105 (plKey a m)).run Tryz.prog w = .ok () w := fun b => run_checkKey_ks 9998 b
  rw [← h2]
  change (Instr.lookup 89 (.map (some lb)) (plKey a m) false).run Tryz.prog w = _
  cases q with
  | none => simp [Instr.lookup, run_underlying Tryz.underlying89, MapKept.run_getObj_map hb, hc, h1, hz, Result.andThen]
  | some p => simp [Instr.lookup, run_underlying Tryz.underlying89, MapKept.run_getObj_map hb, hc, h1, Result.andThen]

theorem run_update_pl {w : World} {lb : Nat} {L : List LRec} (hM : LMapAt w lb L) (hL : ∀ r ∈ L, RowsOf w (some r.pl)) (r : LRec) (ha : RowsOf w (some r.pl)) (hno : lookL L r.pl r.ts.length = none) :
    ∃ w', (Instr.mapUpdate 89 (.map (some lb)) (.agg #[.pointer (some r.pl), .int .i64 r.ts.length]) r.v).run Tryz.prog w = .ok () w' ∧ LMapAt w' lb (L ++ [r]) ∧ But lb w w' := by
  obtain ⟨es, clock, hb, hes⟩ := hM
  obtain ⟨q, h1, h2⟩ := findKey_pl (m := r.ts.length) ha es.toList L hL hes
  rw [hno] at h2
  obtain rfl : q = none := by cases q <;> simp_all
  have hc : ∀ b, (Instr.checkKey b 10000 105 (plKey r.pl r.ts.length)).run Tryz.prog w = .ok () w := fun b => run_checkKey_ks 9998 b
  have hr : (Instr.mapUpdate 89 (.map (some lb)) (plKey r.pl r.ts.length) r.v).run Tryz.prog w = .ok () { w with heap := w.heap.setIfInBounds lb (.map (es.push { key := plKey r.pl r.ts.length, val := r.v, born := clock }) (clock + 1)) } := by
    simp [Instr.mapUpdate, run_underlying Tryz.underlying89, MapKept.run_getObj_map hb, hc, h1, MapKept.run_setObj_map _ hb, Result.andThen]
  obtain ⟨n1, n2⟩ := MapKept.heap_set (o' := .map (es.push { key := plKey r.pl r.ts.length, val := r.v, born := clock }) (clock + 1)) hb
  refine ⟨_, hr, ⟨_, _, n1, ?_⟩, ⟨rfl, rfl, rfl, by simp, fun b hb => n2 b hb⟩⟩
  rw [Array.toList_push, List.map_append, List.map_append, hes]
  rfl

/-- the places of the lists that it went through are of rows -/
theorem MkAt.rows {C : MkC} {w : World} {M : Mk} (h : MkAt C w M) : ∀ r ∈ M.L, RowsOf w (some r.pl) := by
  intro r hr x hx
  simp only [Option.some.injEq] at hx
  subst hx
  obtain ⟨cap, q⟩ := (h.ls r hr).types
  rcases q with ⟨e, _⟩ | ⟨b, off, cap', e, _, hb, _⟩
  · have := (h.ls r hr).pos
    rw [e] at this
    simp at this
  · simp only [Value.slice.injEq, Option.some.injEq] at e
    rw [e.1]
    exact hb

end Go.Proofs.YtbojmbeopnlmiaaGreatDoor
