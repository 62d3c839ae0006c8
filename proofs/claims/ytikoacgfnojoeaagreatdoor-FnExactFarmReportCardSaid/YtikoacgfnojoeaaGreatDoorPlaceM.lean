/-
  A map whose keys are places: a place that is none of them is not found, and is put beside them.
-/
import Derived.Test.YtikoacgfnojoeaaGreatDoorPartsP
import Derived.Maps.OwnOps
import Derived.MapKept
import Derived.LaidEql
namespace Go.Proofs.YtikoacgfnojoeaaGreatDoor
open Go.RowKit

/-- the map in block M has such places as its keys -/
def Places (w : World) (M : Nat) (S : Addr → Prop) : Prop := ∃ es clock, w.heap[M]? = some (.map es clock) ∧ ∀ x ∈ es.toList, ∃ a cur e, x.key = .pointer (some a) ∧ S a ∧ w.heap[a.block]? = some (.cells cur e (0, 0))

theorem run_equalIn_place (d : Nat) {P : Program} {w : World} {kt te : TypeId} {j : TypeInfo} {a b : Addr} {ca cb : Array Value} {ta tb : TypeId} (hp : P.underlying kt = some (.pointer te)) (hte : P.info? te = some j) (hsz : j.size ≠ 0) (hne : a ≠ b)
    (ha : w.heap[a.block]? = some (.cells ca ta (0, 0))) (hb : w.heap[b.block]? = some (.cells cb tb (0, 0))) : (Op.equalIn (d + 1) kt (.pointer (some a)) (.pointer (some b))).run P w = .ok false w := by
  simp [Op.equalIn, run_underlying hp, typeInfo, sizeOf, hte, hsz]
  exact run_sameAddr_other _ hne ha hb

theorem run_equal_place {P : Program} {w : World} {kt te : TypeId} {j : TypeInfo} {a b : Addr} {ca cb : Array Value} {ta tb : TypeId} (hp : P.underlying kt = some (.pointer te)) (hte : P.info? te = some j) (hsz : j.size ≠ 0) (hne : a ≠ b)
    (ha : w.heap[a.block]? = some (.cells ca ta (0, 0))) (hb : w.heap[b.block]? = some (.cells cb tb (0, 0))) : (Op.equal kt (.pointer (some a)) (.pointer (some b))).run P w = .ok false w :=
  run_equalIn_place 9999 hp hte hsz hne ha hb

theorem run_findAsking_place {P : Program} {w : World} {kt te : TypeId} {j : TypeInfo} {a : Addr} {ca : Array Value} {ta : TypeId} (hp : P.underlying kt = some (.pointer te)) (hte : P.info? te = some j) (hsz : j.size ≠ 0) (ha : w.heap[a.block]? = some (.cells ca ta (0, 0))) :
    ∀ (es : List MapEntry) (i : Nat), (∀ x ∈ es, ∃ b cur e, x.key = .pointer (some b) ∧ b ≠ a ∧ w.heap[b.block]? = some (.cells cur e (0, 0))) → (Instr.findAsking kt (.pointer (some a)) es i).run P w = .ok none w := by
  intro es
  induction es with
  | nil => intro i _; rfl
  | cons x r ih =>
    intro i h
    obtain ⟨b, cur, e, hk, hne, hb⟩ := h x (List.mem_cons_self ..)
    have h1 := run_equal_place (P := P) hp hte hsz (fun e => hne e.symm) ha hb
    have h2 := ih (i + 1) fun y hy => h y (List.mem_cons_of_mem _ hy)
    simp only [Instr.findAsking, hk]
    simp [h1, h2, Result.andThen]

theorem run_findKey_place {P : Program} {w : World} {kt te : TypeId} {j : TypeInfo} {a : Addr} {ca : Array Value} {ta : TypeId} (hp : P.underlying kt = some (.pointer te)) (hte : P.info? te = some j) (hsz : j.size ≠ 0) (ha : w.heap[a.block]? = some (.cells ca ta (0, 0)))
    (es : List MapEntry) (h : ∀ x ∈ es, ∃ b cur e, x.key = .pointer (some b) ∧ b ≠ a ∧ w.heap[b.block]? = some (.cells cur e (0, 0))) : (Instr.findKey kt (.pointer (some a)) es).run P w = .ok none w := by
  cases es with
  | nil => simp [Instr.findKey, run_underlying hp, Instr.findNow]
  | cons x r =>
    have h2 := run_findAsking_place (P := P) hp hte hsz ha (x :: r) 0 h
    obtain ⟨b, cur, e, hk, hne, hb⟩ := h x (List.mem_cons_self ..)
    simp [Instr.findKey, run_underlying hp, Instr.findNow, hk, Instr.sameNow, h2, Result.andThen]

theorem run_checkKeyN_place (n : Nat) {P : Program} {w : World} {kt te : TypeId} {a : Addr} (hp : P.underlying kt = some (.pointer te)) (e : Bool) : (Instr.checkKey e (n + 1) kt (.pointer (some a))).run P w = .ok () w := by
  simp [Instr.checkKey, run_underlying hp]
theorem run_checkKey_place {P : Program} {w : World} {kt te : TypeId} {a : Addr} (hp : P.underlying kt = some (.pointer te)) (e : Bool) : (Instr.checkKey e 10000 kt (.pointer (some a))).run P w = .ok () w := run_checkKeyN_place 9999 hp e

theorem wpList_lookup_place {P : Program} (w : World) {ops : Array Oper} {rest : List Oper} {o : Oper} {a : Act} {Q : Exit → Act → World → Prop}
    (hg : o.guard = none) (m x : Operand) (t : TypeId) (hop : o.op = Op.lookup t m x false)
    (k e te : TypeId) (ht : P.underlying t = some (.map k e)) (hp : P.underlying k = some (.pointer te)) (j : TypeInfo) (hte : P.info? te = some j) (hsz : j.size ≠ 0) (hz : (zeroValue e).run P w = .ok (.int .i64 0) w)
    (M : Nat) (S : Addr → Prop) (hS : Places w M S) (p : Addr) (hpS : ¬ S p) (hpc : ∃ cur e, w.heap[p.block]? = some (.cells cur e (0, 0))) (hm : a.eval m = .map (some M)) (hx : a.eval x = .pointer (some p))
    (hK : wpList P ops Q rest (a.put o.dst (.int .i64 0)) w) :
    wpList P ops Q (o :: rest) a w := by
  refine wpList_plain hg fun K' hK' => ?_
  obtain ⟨es, clock, hb, hes⟩ := hS
  obtain ⟨cur, et, hc⟩ := hpc
  have h1 := run_findKey_place (P := P) hp hte hsz hc es.toList fun y hy => by
    obtain ⟨b, c, e, q1, q2, q3⟩ := hes y hy
    exact ⟨b, c, e, q1, fun e => hpS (e ▸ q2), q3⟩
  have h2 : (Instr.lookup t (.map (some M)) (.pointer (some p)) false).run P w = .ok (.int .i64 0) w := by
    simp [Instr.lookup, run_underlying ht, MapKept.run_getObj_map hb, run_checkKey_place hp, h1, hz, Result.andThen]
  unfold Oper.wp
  simp [execOp, hop, hm, hx, h2, Result.andThen]
  exact hK' _ _ hK

/-- but for block M all is as it was -/
def But (M : Nat) (w w' : World) : Prop := w'.os = w.os ∧ w'.tape = w.tape ∧ w'.output = w.output ∧ w'.heap.size = w.heap.size ∧ ∀ b, b ≠ M → w'.heap[b]? = w.heap[b]?

theorem But.below {M B : Nat} {w w' : World} (h : But M w w') (hB : B ≤ M) : Below B w w' := ⟨h.1, h.2.1, h.2.2.1, by rw [h.2.2.2.1]; exact Nat.le_refl _, fun k hk => h.2.2.2.2 k (by omega)⟩
theorem But.owns {M B e z n : Nat} {w w' : World} {v : Value} {xs : List Value} (h : But M w w') {es : Array MapEntry} {clock : Nat} (hM : w.heap[M]? = some (.map es clock)) (ho : w.ownsRow B e z v n xs) : w'.ownsRow B e z v n xs := by
  refine ⟨ho.1, ?_⟩
  rcases ho.2 with g | ⟨g, cap, cur, hv, hg, hh, r⟩
  · exact .inl g
  · refine .inr ⟨g, cap, cur, hv, hg, ?_, r⟩
    rw [h.2.2.2.2 g (fun e => by subst e; rw [hM] at hh; simp at hh)]
    exact hh

theorem wpList_mapUpdate_place {P : Program} (w : World) {ops : Array Oper} {rest : List Oper} {o : Oper} {a : Act} {Q : Exit → Act → World → Prop}
    (hg : o.guard = none) (m x v : Operand) (t : TypeId) (hop : o.op = Op.mapUpdate t m x v)
    (k e te : TypeId) (ht : P.underlying t = some (.map k e)) (hp : P.underlying k = some (.pointer te)) (j : TypeInfo) (hte : P.info? te = some j) (hsz : j.size ≠ 0)
    (M : Nat) (S : Addr → Prop) (hS : Places w M S) (p : Addr) (hpS : ¬ S p) (hpc : ∃ cur e, w.heap[p.block]? = some (.cells cur e (0, 0))) (hm : a.eval m = .map (some M)) (hx : a.eval x = .pointer (some p))
    (hK : ∀ w', Places w' M (fun q => S q ∨ q = p) → But M w w' → wpList P ops Q rest (a.put o.dst undef) w') :
    wpList P ops Q (o :: rest) a w := by
  refine wpList_plain hg fun K' hK' => ?_
  obtain ⟨es, clock, hb, hes⟩ := hS
  obtain ⟨cur, et, hc⟩ := hpc
  have h1 := run_findKey_place (P := P) hp hte hsz hc es.toList fun y hy => by
    obtain ⟨b, c, e, q1, q2, q3⟩ := hes y hy
    exact ⟨b, c, e, q1, fun e => hpS (e ▸ q2), q3⟩
  have h2 : (Instr.mapUpdate t (.map (some M)) (.pointer (some p)) (a.eval v)).run P w = .ok () { w with heap := w.heap.setIfInBounds M (.map (es.push { key := .pointer (some p), val := a.eval v, born := clock }) (clock + 1)) } := by
    simp [Instr.mapUpdate, run_underlying ht, MapKept.run_getObj_map hb, run_checkKey_place hp, h1, MapKept.run_setObj_map _ hb, Result.andThen]
  obtain ⟨n1, n2⟩ := MapKept.heap_set (o' := .map (es.push { key := .pointer (some p), val := a.eval v, born := clock }) (clock + 1)) hb
  unfold Oper.wp
  simp [execOp, hop, hm, hx, h2, Result.andThen]
  refine hK' _ _ (hK _ ⟨_, _, n1, fun y hy => ?_⟩ ⟨rfl, rfl, rfl, by simp, fun b hb => n2 b hb⟩)
  have far : ∀ (b : Nat) (c : Array Value) (e : TypeId), w.heap[b]? = some (Obj.cells c e (0, 0)) → (w.heap.setIfInBounds M (.map (es.push { key := .pointer (some p), val := a.eval v, born := clock }) (clock + 1)))[b]? = some (Obj.cells c e (0, 0)) := fun b c e h => by
    rw [n2 b (fun e => by subst e; rw [hb] at h; simp at h)]
    exact h
  simp only [Array.toList_push, List.mem_append, List.mem_singleton] at hy
  rcases hy with hy | rfl
  · obtain ⟨b, c, e, q1, q2, q3⟩ := hes y hy
    exact ⟨b, c, e, q1, .inl q2, far _ _ _ q3⟩
  · exact ⟨p, cur, et, rfl, .inr rfl, far _ _ _ hc⟩

theorem Places.made {w : World} {M : Nat} (h : w.heap[M]? = some (.map #[] 0)) (S : Addr → Prop) : Places w M S := ⟨#[], 0, h, fun x hx => by simp at hx⟩
theorem Places.mono {w : World} {M : Nat} {S S' : Addr → Prop} (h : Places w M S) (hS : ∀ a, S a → S' a) : Places w M S' := by
  obtain ⟨es, clock, hb, hes⟩ := h
  exact ⟨es, clock, hb, fun x hx => by obtain ⟨a, c, e, q1, q2, q3⟩ := hes x hx; exact ⟨a, c, e, q1, hS a q2, q3⟩⟩
/-- as long as the map, and the rows of its places, are as they were -/
theorem Places.kept {w w' : World} {M B : Nat} {S : Addr → Prop} (h : Places w M S) (hM : w'.heap[M]? = w.heap[M]?) (hS : ∀ a, S a → a.block < B) (hb : ∀ b, b < B → w'.heap[b]? = w.heap[b]?) : Places w' M S := by
  obtain ⟨es, clock, h1, hes⟩ := h
  exact ⟨es, clock, hM.trans h1, fun x hx => by obtain ⟨a, c, e, q1, q2, q3⟩ := hes x hx; exact ⟨a, c, e, q1, q2, (hb _ (hS a q2)).trans q3⟩⟩
theorem Places.map {w : World} {M : Nat} {S : Addr → Prop} (h : Places w M S) : ∃ es clock, w.heap[M]? = some (.map es clock) := by
  obtain ⟨es, clock, h1, _⟩ := h
  exact ⟨es, clock, h1⟩

end Go.Proofs.YtikoacgfnojoeaaGreatDoor
