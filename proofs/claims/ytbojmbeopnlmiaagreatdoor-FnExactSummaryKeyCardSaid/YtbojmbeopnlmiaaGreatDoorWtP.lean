/-
 How many bytes a type and a list of types are, plainly; a list of types that is to be gone through.
-/
import Derived.Test.YtbojmbeopnlmiaaGreatDoorMkP
import Derived.Deep.LoopGhost
namespace Go.Proofs.YtbojmbeopnlmiaaGreatDoor
open Go.RowKit
def nsz (n : Nat) : Nat := if n < 128 then 1 else if n < 16384 then 2 else if n < 2097152 then 3 else if n < 268435456 then 4 else 5
theorem nsz_one {n : Nat} (h : n < 128) : nsz n = 1 := if_pos h
theorem nsz_more {n : Nat} (h : 128 ≤ n) (h5 : n < 34359738368) : nsz n = nsz (n / 128) + 1 := by
 unfold nsz
 rw [if_neg (by omega)]
 by_cases c1 : n < 16384
 ·rw [if_pos c1, if_pos (by omega)]
 ·rw [if_neg c1]
  by_cases c2 : n < 2097152
  ·rw [if_pos c2, if_neg (by omega), if_pos (by omega)]
  ·rw [if_neg c2]
   by_cases c3 : n < 268435456
   ·rw [if_pos c3, if_neg (by omega), if_neg (by omega), if_pos (by omega)]
   ·rw [if_neg c3, if_neg (by omega), if_neg (by omega), if_neg (by omega), if_pos (by omega)]
theorem nsz_le (n : Nat) : 1 ≤ nsz n ∧ nsz n ≤ 5 := by
 unfold nsz
 repeat' split
 all_goals omega
def tsz (s : ByteArray) : Nat := nsz s.size + s.size
def ownW (t : Ty) : Nat := if t.kind = 0 ∨ t.kind = 1 ∨ t.kind = 2 ∨ t.kind = 3 then 1 else if t.kind = 4 then 1 + tsz t.name else 1 + nsz t.kids.length + (t.names.map tsz).sum
theorem tszs_le (l : List ByteArray) : (l.map tsz).sum ≤ 5 * l.length + Ty.textsBulk l := by
 induction l with
 | nil => simp [Ty.textsBulk]
 | cons a r ih =>
  have := (nsz_le a.size).2
  simp only [List.map_cons, List.sum_cons, List.length_cons, Ty.textsBulk, tsz]
  omega
theorem ownW_le (t : Ty) : ownW t ≤ 72 + t.name.size + (16 * t.names.length + Ty.textsBulk t.names) := by
 have h1 := tszs_le t.names
 have h2 := (nsz_le t.kids.length).2
 have h3 := (nsz_le t.name.size).2
 unfold ownW
 split
 ·omega
 ·split
  ·unfold tsz; omega
  ·omega
theorem ownW_pos (t : Ty) : 1 ≤ ownW t := by
 unfold ownW
 split
 ·omega
 ·split <;> omega
def Ty.wt : Nat → Ty → Nat
 | 0, _ => 0
 | n + 1, t => ownW t + (t.kids.map (Ty.wt n)).sum
def rowWt (n : Nat) (ts : List Ty) : Nat := (ts.map (Ty.wt n)).sum
theorem rowWt_nil (n : Nat) : rowWt n [] = 0 := rfl
theorem rowWt_cons (n : Nat) (t : Ty) (ts : List Ty) : rowWt n (t :: ts) = Ty.wt n t + rowWt n ts := by simp [rowWt]
theorem wt_le (n : Nat) : ∀ t, Ty.wt n t ≤ 100 * Ty.bulk n t + 72 := by
 induction n with
 | zero => intro t; simp [Ty.wt]
 | succ n ih =>
  intro t
  rw [Ty.wt, Ty.bulk]
  have h : (t.kids.map (Ty.wt n)).sum ≤ 100 * (t.kids.map (Ty.bulk n)).sum + 72 * t.kids.length := by
   generalize t.kids = l
   induction l with
   | nil => simp
   | cons a r ihl =>
    have := ih a
    simp only [List.map_cons, List.sum_cons, List.length_cons]
    omega
  have hw := ownW_le t
  omega
theorem wt_any {n m : Nat} {t : Ty} (hn : Ty.ends n t) (hm : Ty.ends m t) : Ty.wt n t = Ty.wt m t := by
 induction n generalizing m t with
 | zero => exact hn.elim
 | succ n ih =>
  cases m with
  | zero => exact hm.elim
  | succ m =>
   rw [Ty.wt, Ty.wt]
   congr 2
   refine List.map_congr_left fun k hk => ih (hn k hk) (hm k hk)
theorem size_kids (t : Ty) : SizeOf.sizeOf t.kids < SizeOf.sizeOf t := by
 cases t
 simp
 omega
theorem size_mem {t : Ty} {ts : List Ty} (h : t ∈ ts) : SizeOf.sizeOf t < SizeOf.sizeOf ts := List.sizeOf_lt_of_mem h
structure LE where
 v : Value
 ts : List Ty
 n : Nat
def LE.fits (A : Nat → Prop) (w : World) (e : LE) : Prop := RowR A w (TyR A w e.n) e.v e.ts
def ndRow (n : Nat) (ts : List Ty) : Nat := (ts.map fun t => (Ty.nodes n t).length).sum
def LE.cost (e : LE) : Nat := 3 * (1 + ndRow e.n e.ts)
def LE.wt (e : LE) : Nat := rowWt e.n e.ts
def sumWt (E : List LE) : Nat := (E.map LE.wt).sum
def sumCost (E : List LE) : Nat := (E.map LE.cost).sum
theorem sumWt_app (E K : List LE) : sumWt (E ++ K) = sumWt E + sumWt K := by simp [sumWt]
theorem sumCost_app (E K : List LE) : sumCost (E ++ K) = sumCost E + sumCost K := by simp [sumCost]
theorem sumWt_one (e : LE) : sumWt [e] = e.wt := by simp [sumWt]
theorem sumCost_one (e : LE) : sumCost [e] = e.cost := by simp [sumCost]
theorem len_cost (E : List LE) : E.length ≤ sumCost E := by
 induction E with
 | nil => simp
 | cons e r ih =>
  simp only [sumCost, List.map_cons, List.sum_cons, List.length_cons, LE.cost] at ih ⊢
  omega
theorem LE.open {A : Nat → Prop} {w : World} {e : LE} (h : e.fits A w) : ∃ a cap, e.v = .slice a e.ts.length cap ∧ ∀ k (hk : k < e.ts.length), ∃ m b off vn vk, e.n = m + 1 ∧ a = some ⟨b, off, none⟩ ∧ A b ∧ (∃ cur T, w.heap[b]? = some (.cells cur T (0, 0))) ∧
  w.cell? ⟨b, off + k * 4, none⟩ = some (.int .i64 e.ts[k].kind) ∧ w.cell? ⟨b, off + k * 4 + 1, none⟩ = some (.string e.ts[k].name) ∧ w.cell? ⟨b, off + k * 4 + 2, none⟩ = some vn ∧ w.cell? ⟨b, off + k * 4 + 3, none⟩ = some vk ∧ e.ts[k].name.size ≤ maxLen ∧ TextsR A w vn e.ts[k].names ∧ LE.fits A w ⟨vk, e.ts[k].kids, m⟩ := by
 obtain ⟨v, ts, n⟩ := e
 rcases h with ⟨e, a, cap, e2⟩ | ⟨b, off, cap, e, ha, hh, hc⟩
 ·have e' : ts = [] := e
  subst e'
  exact ⟨a, cap, e2, fun k hk => absurd hk (by simp)⟩
 ·refine ⟨_, cap, e, fun k hk => ?_⟩
  obtain ⟨cs, h1, h2⟩ := hc k hk
  dsimp only at *
  cases n with
  | zero => exact h1.elim
  | succ n =>
   obtain ⟨vn, vk, rfl, _, q3, ⟨q4, _, _⟩, _, q8⟩ := h1
   exact ⟨n, b, off, vn, vk, rfl, rfl, ha, hh, h2 0 _ rfl, h2 1 _ rfl, h2 2 _ rfl, h2 3 _ rfl, q3, q4, q8⟩
theorem wt_step {ts : List Ty} {n m k : Nat} (hn : n = m + 1) (hk : k < ts.length) : rowWt n (ts.drop k) = ownW ts[k] + rowWt m ts[k].kids + rowWt n (ts.drop (k + 1)) := by
 rw [List.drop_eq_getElem_cons hk, rowWt_cons, hn, Ty.wt]
 rfl
theorem cost_step {ts : List Ty} {n m k : Nat} (hn : n = m + 1) (hk : k < ts.length) : ndRow n (ts.drop k) = 1 + ndRow m ts[k].kids + ndRow n (ts.drop (k + 1)) := by
 rw [List.drop_eq_getElem_cons hk]
 unfold ndRow
 rw [List.map_cons, List.sum_cons, hn, Ty.nodes, List.length_cons, List.length_flatMap]
 omega
structure KeyP where
 place : Option Addr
 count : Int
theorem KeyP.ext' {a b : KeyP} (h2 : a.place = b.place) (h3 : a.count = b.count) : a = b := by
 cases a; cases b; simp_all
def keyVP (k : KeyP) : Value := .agg #[.pointer k.place, .int .i64 k.count]
def KeyP.eqB (a b : KeyP) : Bool := decide (a.place = b.place ∧ a.count = b.count)
theorem KeyP.eqB_iff (a b : KeyP) : a.eqB b = true ↔ a = b := by
 unfold KeyP.eqB
 rw [decide_eq_true_iff]
 constructor
 ·rintro ⟨h2, h3⟩
  exact KeyP.ext' h2 h3
 ·rintro rfl
  exact ⟨rfl, rfl⟩
theorem KeyP.eqB_no {a b : KeyP} (h : ¬ a = b) : ¬ a.eqB b = true := fun e => h ((KeyP.eqB_iff a b).1 e)
def lookKP : List (KeyP × Int) → KeyP → Option Int
 | [], _ => none
 | p :: r, k => if p.1.eqB k then some p.2 else lookKP r k
def setKP : List (KeyP × Int) → KeyP → Int → List (KeyP × Int)
 | [], k, v => [(k, v)]
 | p :: r, k, v => if p.1.eqB k then (k, v) :: r else p :: setKP r k v
theorem lookK_yesP {p : KeyP × Int} {r : List (KeyP × Int)} {k : KeyP} (h : p.1 = k) : lookKP (p :: r) k = some p.2 := by rw [lookKP, if_pos ((KeyP.eqB_iff _ _).2 h)]
theorem lookK_noP {p : KeyP × Int} {r : List (KeyP × Int)} {k : KeyP} (h : ¬ p.1 = k) : lookKP (p :: r) k = lookKP r k := by rw [lookKP, if_neg (KeyP.eqB_no h)]
theorem setK_yesP {p : KeyP × Int} {r : List (KeyP × Int)} {k : KeyP} {v : Int} (h : p.1 = k) : setKP (p :: r) k v = (k, v) :: r := by rw [setKP, if_pos ((KeyP.eqB_iff _ _).2 h)]
theorem setK_noP {p : KeyP × Int} {r : List (KeyP × Int)} {k : KeyP} {v : Int} (h : ¬ p.1 = k) : setKP (p :: r) k v = p :: setKP r k v := by rw [setKP, if_neg (KeyP.eqB_no h)]
theorem look_set_sameP (D : List (KeyP × Int)) (k : KeyP) (v : Int) : lookKP (setKP D k v) k = some v := by
 induction D with
 | nil => exact lookK_yesP rfl
 | cons p r ih =>
  by_cases c : p.1 = k
  ·rw [setK_yesP c]; exact lookK_yesP rfl
  ·rw [setK_noP c, lookK_noP c]; exact ih
theorem look_set_otherP (D : List (KeyP × Int)) {k : KeyP} (v : Int) {k' : KeyP} (h : k ≠ k') : lookKP (setKP D k v) k' = lookKP D k' := by
 induction D with
 | nil => exact lookK_noP h
 | cons p r ih =>
  by_cases c : p.1 = k
  ·rw [setK_yesP c, lookK_noP h, lookK_noP (fun e => h (c.symm.trans e))]
  ·rw [setK_noP c]
   by_cases c2 : p.1 = k'
   ·rw [lookK_yesP c2, lookK_yesP c2]
   ·rw [lookK_noP c2, lookK_noP c2]; exact ih
theorem set_memP {D : List (KeyP × Int)} {k : KeyP} {v : Int} {p : KeyP × Int} (h : p ∈ setKP D k v) : p ∈ D ∨ p.1 = k := by
 induction D with
 | nil =>
  simp only [setKP, List.mem_singleton] at h
  exact .inr (by rw [h])
 | cons q r ih =>
  by_cases c : q.1 = k
  ·rw [setK_yesP c] at h
   rcases List.mem_cons.1 h with h | h
   ·exact .inr (by rw [h])
   ·exact .inl (List.mem_cons_of_mem _ h)
  ·rw [setK_noP c] at h
   rcases List.mem_cons.1 h with h | h
   ·exact .inl (by rw [h]; simp)
   ·rcases ih h with h | h
    ·exact .inl (List.mem_cons_of_mem _ h)
    ·exact .inr h
def flatKyP (D : List (KeyP × Int)) : List (Value × Value) := D.map fun p => (keyVP p.1, Value.int .i64 p.2)
def KMapP (w : World) (M : Nat) (D : List (KeyP × Int)) : Prop := ∃ es clock, w.heap[M]? = some (.map es clock) ∧ es.toList.map (fun x => (x.key, x.val)) = flatKyP D ∧ ∀ p ∈ D, RowsOf w p.1.place
theorem run_equal_keyP {w : World} {a b : KeyP} (ha : RowsOf w a.place) (hb : RowsOf w b.place) : ∃ r : Bool, (Op.equal 105 (keyVP a) (keyVP b)).run Tryz.prog w = .ok r w ∧ (r = true ↔ a = b) := by
 refine ⟨_, run_equal_ks 9998 ha hb, ?_⟩
 rw [decide_eq_true_iff]
 constructor
 ·rintro ⟨h2, h3⟩
  exact KeyP.ext' h2 h3
 ·rintro rfl
  exact ⟨rfl, rfl⟩
theorem findAsk_stopP {w : World} {k : KeyP} (hk : RowsOf w k.place) : ∀ (es : List MapEntry) (D : List (KeyP × Int)) (i : Nat), es.map (fun x => (x.key, x.val)) = flatKyP D → (∀ p ∈ D, RowsOf w p.1.place) →
  ((Instr.findAsking 105 (keyVP k) es i).run Tryz.prog w = .ok none w ∧ lookKP D k = none ∧ ∀ v, setKP D k v = D ++ [(k, v)]) ∨
  ∃ j v0, (Instr.findAsking 105 (keyVP k) es i).run Tryz.prog w = .ok (some (i + j, .int .i64 v0)) w ∧ lookKP D k = some v0 ∧ (∃ h : j < es.length, es[j].key = keyVP k) ∧ ∀ v, (es.modify j fun x => { x with key := keyVP k, val := .int .i64 v }).map (fun x => (x.key, x.val)) = flatKyP (setKP D k v) := by
 intro es
 induction es with
 | nil =>
  intro D i h _
  cases D with
  | nil => exact .inl ⟨rfl, rfl, fun v => rfl⟩
  | cons p r => simp [flatKyP] at h
 | cons x r ih =>
  intro D i h hD
  cases D with
  | nil => simp [flatKyP] at h
  | cons p q =>
   simp only [flatKyP, List.map_cons, List.cons.injEq, Prod.mk.injEq] at h
   obtain ⟨⟨hx, hv⟩, hr⟩ := h
   obtain ⟨b, hb1, hb2⟩ := run_equal_keyP (w := w) (a := k) (b := p.1) hk (hD p (by simp))
   by_cases c : k = p.1
   ·have hbt : b = true := hb2.2 c
    subst hbt
    refine .inr ⟨0, p.2, ?_, ?_, ⟨by simp, ?_⟩, fun v => ?_⟩
    ·simp only [Instr.findAsking, hx]
     simp [hb1, hv, Result.andThen]
    ·exact lookK_yesP c.symm
    ·simp only [List.getElem_cons_zero]; rw [hx, c]
    ·rw [setK_yesP c.symm]
     simp only [List.modify_zero_cons, List.map_cons, flatKyP]
     rw [hr]
   ·have hbf : b = false := by cases b; rfl; exact absurd (hb2.1 rfl) c
    subst hbf
    have c' : ¬ p.1 = k := fun e => c e.symm
    rcases ih q (i + 1) hr (fun y hy => hD y (List.mem_cons_of_mem _ hy)) with ⟨h1, h2, h3⟩ | ⟨j, v0, h1, h2, ⟨hj, h3⟩, h4⟩
    ·refine .inl ⟨?_, ?_, fun v => ?_⟩
     ·simp only [Instr.findAsking, hx]
      simp [hb1, h1, Result.andThen]
     ·rw [lookK_noP c']; exact h2
     ·rw [setK_noP c', h3]; rfl
    ·refine .inr ⟨j + 1, v0, ?_, ?_, ⟨by simpa using hj, by simpa using h3⟩, fun v => ?_⟩
     ·simp only [Instr.findAsking, hx]
      simp [hb1, h1, Result.andThen]
      omega
     ·rw [lookK_noP c']; exact h2
     ·rw [setK_noP c']
      simp only [List.modify_succ_cons, List.map_cons, flatKyP]
      rw [h4 v, hx, hv]
      rfl
theorem findKey_stopP {w : World} {k : KeyP} (es : List MapEntry) (D : List (KeyP × Int)) (h : es.map (fun x => (x.key, x.val)) = flatKyP D) : (Instr.findKey 105 (keyVP k) es).run Tryz.prog w = (Instr.findAsking 105 (keyVP k) es 0).run Tryz.prog w := by
 cases es with
 | nil => simp [Instr.findKey, run_underlying Tryz.underlying105, Instr.findNow, Instr.findAsking]
 | cons x r =>
  cases D with
  | nil => simp [flatKyP] at h
  | cons p q =>
   simp only [flatKyP, List.map_cons, List.cons.injEq, Prod.mk.injEq] at h
   simp [Instr.findKey, run_underlying Tryz.underlying105, Instr.findNow, h.1.1, keyVP, Instr.sameNow]
theorem run_checkKey_stP {w : World} {k : KeyP} (e : Bool) : (Instr.checkKey e 10000 105 (keyVP k)).run Tryz.prog w = .ok () w := run_checkKey_ks 9998 e
theorem run_lookup_stopP {w : World} {M : Nat} {D : List (KeyP × Int)} (hM : KMapP w M D) (k : KeyP) (hk : RowsOf w k.place) :
  (Instr.lookup 102 (.map (some M)) (keyVP k) false).run Tryz.prog w = .ok (.int .i64 ((lookKP D k).getD 0)) w := by
 obtain ⟨es, clock, hb, hes, hD⟩ := hM
 have hz : (zeroValue 3).run Tryz.prog w = .ok (.int .i64 0) w := by kernel_rfl
 have hf := findKey_stopP (w := w) (k := k) es.toList D hes
 rcases findAsk_stopP hk es.toList D 0 hes hD with ⟨h1, h2, _⟩ | ⟨j, v0, h1, h2, _⟩
 ·rw [h1] at hf
  simp [Instr.lookup, run_underlying Tryz.underlying102, MapKept.run_getObj_map hb, run_checkKey_stP, hf, hz, h2, Result.andThen]
 ·rw [h1] at hf
  simp [Instr.lookup, run_underlying Tryz.underlying102, MapKept.run_getObj_map hb, run_checkKey_stP, hf, h2, Result.andThen]
theorem sameBits_keyP (k : KeyP) : Instr.sameBits 10000 (keyVP k) (keyVP k) = true := by
 simp [keyVP, Instr.sameBits]
theorem run_keyStaysP {w : World} (k : KeyP) : (Instr.keyThatStays (keyVP k) (keyVP k)).run Tryz.prog w = .ok (keyVP k) w := by
 simp [Instr.keyThatStays, sameBits_keyP]
theorem run_update_stopP {w : World} {M : Nat} {D : List (KeyP × Int)} (hM : KMapP w M D) (k : KeyP) (hk : RowsOf w k.place) (v : Int) :
  ∃ w', (Instr.mapUpdate 102 (.map (some M)) (keyVP k) (.int .i64 v)).run Tryz.prog w = .ok () w' ∧ KMapP w' M (setKP D k v) ∧ But M w w' := by
 obtain ⟨es, clock, hb, hes, hD⟩ := hM
 have hf := findKey_stopP (w := w) (k := k) es.toList D hes
 have far : ∀ (o : Obj) (b : Nat) (c : Array Value) (e : TypeId), w.heap[b]? = some (Obj.cells c e (0, 0)) → (w.heap.setIfInBounds M o)[b]? = some (Obj.cells c e (0, 0)) := fun o b c e h => by
  rw [(MapKept.heap_set (o' := o) hb).2 b (fun e => by subst e; rw [hb] at h; simp at h)]
  exact h
 rcases findAsk_stopP hk es.toList D 0 hes hD with ⟨h1, h2, h3⟩ | ⟨j, v0, h1, h2, ⟨hj, h3⟩, h4⟩
 ·rw [h1] at hf
  have hr : (Instr.mapUpdate 102 (.map (some M)) (keyVP k) (.int .i64 v)).run Tryz.prog w = .ok () { w with heap := w.heap.setIfInBounds M (.map (es.push { key := keyVP k, val := .int .i64 v, born := clock }) (clock + 1)) } := by
   simp [Instr.mapUpdate, run_underlying Tryz.underlying102, MapKept.run_getObj_map hb, run_checkKey_stP, hf, MapKept.run_setObj_map _ hb, Result.andThen]
  obtain ⟨n1, n2⟩ := MapKept.heap_set (o' := .map (es.push { key := keyVP k, val := .int .i64 v, born := clock }) (clock + 1)) hb
  refine ⟨_, hr, ⟨_, _, n1, ?_, fun p hp x hx => ?_⟩, ⟨rfl, rfl, rfl, by simp, fun b hb => n2 b hb⟩⟩
  ·rw [Array.toList_push, List.map_append, hes, h3 v]
   simp [flatKyP]
  ·rcases set_memP hp with h | h
   ·obtain ⟨c, e, q⟩ := hD p h x hx
    exact ⟨c, e, far _ _ _ _ q⟩
   ·rw [h] at hx
    obtain ⟨c, e, q⟩ := hk x hx
    exact ⟨c, e, far _ _ _ _ q⟩
 ·rw [h1] at hf
  have hjs : j < es.size := by simpa using hj
  have hkey : ((es[j]?).map (·.key)).getD (keyVP k) = keyVP k := by
   rw [Array.getElem?_eq_getElem hjs]
   simpa using h3
  have hr : (Instr.mapUpdate 102 (.map (some M)) (keyVP k) (.int .i64 v)).run Tryz.prog w = .ok () { w with heap := w.heap.setIfInBounds M (.map (es.modify j fun x => { x with key := keyVP k, val := .int .i64 v }) clock) } := by
   simp only [Instr.mapUpdate, Sem.run_bind, run_underlying Tryz.underlying102, Result.andThen_ok, MapKept.run_getObj_map hb, run_checkKey_stP, hf, Nat.zero_add, hkey, run_keyStaysP, MapKept.run_setObj_map _ hb]
  obtain ⟨n1, n2⟩ := MapKept.heap_set (o' := .map (es.modify j fun x => { x with key := keyVP k, val := .int .i64 v }) clock) hb
  refine ⟨_, hr, ⟨_, _, n1, ?_, fun p hp x hx => ?_⟩, ⟨rfl, rfl, rfl, by simp, fun b hb => n2 b hb⟩⟩
  ·rw [Array.toList_modify]
   exact h4 v
  ·rcases set_memP hp with h | h
   ·obtain ⟨c, e, q⟩ := hD p h x hx
    exact ⟨c, e, far _ _ _ _ q⟩
   ·rw [h] at hx
    obtain ⟨c, e, q⟩ := hk x hx
    exact ⟨c, e, far _ _ _ _ q⟩
theorem KMapP.made {w : World} {M : Nat} (h : w.heap[M]? = some (.map #[] 0)) : KMapP w M [] := ⟨#[], 0, h, rfl, fun p hp => by simp at hp⟩
theorem KMapP.lt {w : World} {M : Nat} {D : List (KeyP × Int)} (h : KMapP w M D) : M < w.heap.size := by
 obtain ⟨es, clock, hb, _⟩ := h
 exact (Array.getElem?_eq_some_iff.1 hb).1
theorem KMapP.obj {w : World} {M : Nat} {D : List (KeyP × Int)} (h : KMapP w M D) : ∃ es clock, w.heap[M]? = some (.map es clock) := by
 obtain ⟨es, clock, hb, _⟩ := h
 exact ⟨es, clock, hb⟩
theorem KMapP.kept {w w' : World} {M B : Nat} {D : List (KeyP × Int)} (h : KMapP w M D) (hM : w'.heap[M]? = w.heap[M]?) (hS : ∀ p ∈ D, ∀ a, p.1.place = some a → a.block < B) (hb : ∀ b, b < B → w'.heap[b]? = w.heap[b]?) : KMapP w' M D := by
 obtain ⟨es, clock, h1, h2, h3⟩ := h
 refine ⟨es, clock, hM.trans h1, h2, fun p hp x hx => ?_⟩
 obtain ⟨c, e, q⟩ := h3 p hp x hx
 exact ⟨c, e, (hb _ (hS p hp x hx)).trans q⟩
def LE.key (e : LE) : KeyP := match e.v with
 | .slice a n _ => if n = 0 then ⟨none, 0⟩ else ⟨a, (n : Int)⟩
 | _ => ⟨none, 0⟩
theorem LE.key_of {e : LE} {a : Option Addr} {n c : Nat} (h : e.v = .slice a n c) (hn : 0 < n) : e.key = ⟨a, (n : Int)⟩ := by
 unfold LE.key
 rw [h]
 simp only
 rw [if_neg (by omega)]
theorem LE.key_nil {e : LE} {a : Option Addr} {c : Nat} (h : e.v = .slice a 0 c) : e.key = ⟨none, 0⟩ := by
 unfold LE.key
 rw [h]
 rfl
theorem row_cap {w : World} {R : List Value → Ty → Prop} {a : Option Addr} {n c c' : Nat} {ts : List Ty} (h : RowAt w R (.slice a n c) ts) : RowAt w R (.slice a n c') ts := by
 rcases h with ⟨e, a', cap, e2⟩ | ⟨b, off, cap, e2, hc⟩
 ·simp only [Value.slice.injEq] at e2
  exact .inl ⟨e, a, c', by rw [e2.2.1]⟩
 ·simp only [Value.slice.injEq] at e2
  exact .inr ⟨b, off, c', by rw [e2.1, e2.2.1], hc⟩
theorem key_one {A : Nat → Prop} {w : World} {e f : LE} (he : e.fits A w) (hf : f.fits A w) (hn : e.ts ≠ []) (h : e.key = f.key) : e.ts = f.ts := by
 obtain ⟨a, c, hv, _⟩ := LE.open he
 obtain ⟨a', c', hv', _⟩ := LE.open hf
 have hl : 0 < e.ts.length := List.length_pos_iff.2 hn
 rw [LE.key_of hv hl] at h
 have hl' : 0 < f.ts.length := by
  rcases Nat.eq_zero_or_pos f.ts.length with q | q
  ·rw [q] at hv'
   rw [LE.key_nil hv'] at h
   have : (e.ts.length : Int) = 0 := congrArg KeyP.count h
   omega
  ·exact q
 rw [LE.key_of hv' hl'] at h
 have h1 : a = a' := congrArg KeyP.place h
 have h2 : (e.ts.length : Int) = (f.ts.length : Int) := congrArg KeyP.count h
 have h3 : f.ts.length = e.ts.length := by omega
 have r1 : RowAt w (TyAt w e.n) e.v e.ts := RowR.at he fun cs t _ q => q.at
 have r2 : RowAt w (TyAt w f.n) f.v f.ts := RowR.at hf fun cs t _ q => q.at
 rw [hv] at r1
 rw [hv', ← h1, h3] at r2
 exact r1.det (row_cap r2) (fun cs t h => TyAt.len h) (fun cs t h => TyAt.len h) fun cs t u _ q1 q2 => TyAt.det q1 q2
def KidAt (w : World) (e : LE) (k : Nat) (f : LE) : Prop := ∃ (hk : k < e.ts.length) (b off cap : Nat), e.v = .slice (some ⟨b, off, none⟩) e.ts.length cap ∧ w.cell? ⟨b, off + k * 4 + 3, none⟩ = some f.v ∧ f.ts = e.ts[k].kids ∧ e.n = f.n + 1
theorem KidAt.less {w : World} {e f : LE} {k : Nat} (h : KidAt w e k f) : SizeOf.sizeOf f.ts < SizeOf.sizeOf e.ts := by
 obtain ⟨hk, _, _, _, _, _, h1, _⟩ := h
 rw [h1]
 have h2 := size_kids e.ts[k]
 have h3 := size_mem (List.getElem_mem hk)
 omega
theorem KidAt.wt_le {w : World} {e f : LE} {k : Nat} (h : KidAt w e k f) : f.wt ≤ e.wt := by
 obtain ⟨hk, _, _, _, _, _, h1, h2⟩ := h
 unfold LE.wt
 rw [h1]
 have h3 := wt_step (ts := e.ts) h2 hk
 have h4 : rowWt e.n (e.ts.drop k) ≤ rowWt e.n e.ts := by
  have : rowWt e.n e.ts = rowWt e.n (e.ts.take k) + rowWt e.n (e.ts.drop k) := by
   unfold rowWt
   rw [← List.sum_append, ← List.map_append, List.take_append_drop]
  omega
 omega
theorem KidAt.val {w : World} {e f g : LE} {k : Nat} (h : KidAt w e k f) (h' : KidAt w e k g) : f.v = g.v := by
 obtain ⟨_, b, off, cap, e1, c1, _, _⟩ := h
 obtain ⟨_, b', off', cap', e2, c2, _, _⟩ := h'
 rw [e1] at e2
 simp only [Value.slice.injEq, Option.some.injEq, Addr.mk.injEq, true_and] at e2
 obtain ⟨⟨rfl, rfl, _⟩, rfl⟩ := e2
 rw [c1] at c2
 exact Option.some.inj c2
theorem KidAt.key {w : World} {e f g : LE} {k : Nat} (h : KidAt w e k f) (h' : KidAt w e k g) : f.key = g.key := by
 unfold LE.key
 rw [h.val h']
structure Lw (A : Nat → Prop) (w : World) (root : LE) (D : List (KeyP × Int)) (S : List (LE × Nat)) (O : List LE) : Prop where
 fitS : ∀ x ∈ S, x.1.fits A w ∧ x.1.ts ≠ []
 fitO : ∀ e ∈ O, e.fits A w ∧ e.ts ≠ []
 zero : lookKP D ⟨none, 0⟩ = some 2
 vals : ∀ k v, lookKP D k = some v → v = 1 ∨ v = 2
 act : ∀ k, lookKP D k = some 1 ↔ ∃ x ∈ S, x.2 ≠ 0 ∧ x.1.key = k
 left : ∀ k, k ≠ ⟨none, 0⟩ → (lookKP D k = some 2 ↔ ∃ o ∈ O, o.key = k)
 rank : S.Pairwise fun x y => x.2 ≠ 0 → SizeOf.sizeOf y.1.ts < SizeOf.sizeOf x.1.ts
 kids : ∀ P x Q, S = P ++ x :: Q → x.2 = 1 → ∀ k f, f.fits A w → KidAt w x.1 k f → f.ts ≠ [] → lookKP D f.key = some 2 ∨ ∃ y ∈ Q, y.1.key = f.key
 post : ∀ P o Q, O = P ++ o :: Q → ∀ k f, f.fits A w → KidAt w o k f → f.ts ≠ [] → ∃ p ∈ P, p.key = f.key
 begun : ∀ x ∈ S, x.2 ≠ 0 → lookKP D x.1.key = some 1
 bottom : S ≠ [] → ∃ b Q, S = (root, b) :: Q ∧ (Q ≠ [] → b ≠ 0)
 last : (S = [] ∨ lookKP D root.key = some 2) → ∃ P, O = P ++ [root]
 alone : lookKP D root.key = some 2 → ∀ x ∈ S, x = (root, 0)
 flag : ∀ x ∈ S, x.2 ≤ 2
 small : (∀ x ∈ S, x.1.wt ≤ root.wt) ∧ ∀ o ∈ O, o.wt ≤ root.wt
theorem key_ne {A : Nat → Prop} {w : World} {e : LE} (h : e.fits A w) (hn : e.ts ≠ []) : e.key ≠ ⟨none, 0⟩ := by
 obtain ⟨a, c, hv, _⟩ := LE.open h
 have hl : 0 < e.ts.length := List.length_pos_iff.2 hn
 rw [LE.key_of hv hl]
 intro q
 have : (e.ts.length : Int) = 0 := congrArg KeyP.count q
 omega
theorem Lw.start {A : Nat → Prop} {w : World} {root : LE} (hf : root.fits A w) (hn : root.ts ≠ []) : Lw A w root [(⟨none, 0⟩, 2)] [(root, 0)] [] := by
 have hz : ∀ k v, lookKP [((⟨none, 0⟩ : KeyP), (2 : Int))] k = some v → k = ⟨none, 0⟩ ∧ v = 2 := fun k v h => by
  by_cases c : (⟨none, 0⟩ : KeyP) = k
  ·rw [lookK_yesP c] at h
   exact ⟨c.symm, (Option.some.inj h).symm⟩
  ·rw [lookK_noP c] at h
   cases h
 refine ⟨fun x hx => ?_, fun e he => by simp at he, lookK_yesP rfl, fun k v h => .inr (hz k v h).2, fun k => ⟨fun h => ?_, fun ⟨x, hx, h1, _⟩ => ?_⟩, fun k hk => ⟨fun h => absurd (hz k 2 h).1 hk, fun ⟨o, ho, _⟩ => by simp at ho⟩, by simp, fun P x Q h hx => ?_, fun P o Q h => by simp at h, fun x hx h => ?_, fun _ => ⟨0, [], rfl, fun q => absurd rfl q⟩, fun h => ?_, fun h => absurd (hz _ 2 h).1 (key_ne hf hn), fun x hx => by rw [List.mem_singleton] at hx; rw [hx]; exact Nat.zero_le _, fun x hx => by rw [List.mem_singleton] at hx; rw [hx]; exact Nat.le_refl _, fun o ho => by simp at ho⟩
 ·rw [List.mem_singleton] at hx
  rw [hx]
  exact ⟨hf, hn⟩
 ·have := (hz k 1 h).2
  omega
 ·rw [List.mem_singleton] at hx
  rw [hx] at h1
  exact absurd rfl h1
 ·have : x ∈ [(root, 0)] := by rw [h]; simp
  rw [List.mem_singleton] at this
  rw [this] at hx
  cases hx
 ·rw [List.mem_singleton] at hx
  rw [hx] at h
  exact absurd rfl h
 ·rcases h with h | h
  ·cases h
  ·exact absurd (hz _ 2 h).1 (key_ne hf hn)
theorem Lw.pop {A : Nat → Prop} {w : World} {root e : LE} {b : Nat} {D : List (KeyP × Int)} {S : List (LE × Nat)} {O : List LE} (h : Lw A w root D (S ++ [(e, b)]) O) (hl : lookKP D e.key = some 2) : Lw A w root D S O := by
 have hb : b = 0 := by
  by_cases c : b = 0
  ·exact c
  ·have := h.begun (e, b) (by simp) c
   rw [hl] at this
   cases this
 subst hb
 refine ⟨fun x hx => h.fitS x (List.mem_append_left _ hx), h.fitO, h.zero, h.vals, fun k => ⟨fun q => ?_, fun ⟨x, hx, q⟩ => (h.act k).2 ⟨x, List.mem_append_left _ hx, q⟩⟩, h.left, (List.pairwise_append.1 h.rank).1, fun P x Q hS hx k f hf hk hn => ?_, h.post, fun x hx => h.begun x (List.mem_append_left _ hx), fun hS => ?_, fun hS => ?_, fun hr x hx => h.alone hr x (List.mem_append_left _ hx), fun x hx => h.flag x (List.mem_append_left _ hx), fun x hx => h.small.1 x (List.mem_append_left _ hx), h.small.2⟩
 ·obtain ⟨x, hx, h1, h2⟩ := (h.act k).1 q
  rcases List.mem_append.1 hx with hx | hx
  ·exact ⟨x, hx, h1, h2⟩
  ·rw [List.mem_singleton] at hx
   rw [hx] at h1
   exact absurd rfl h1
 ·rcases h.kids P x (Q ++ [(e, 0)]) (by rw [hS]; simp) hx k f hf hk hn with q | ⟨y, hy, q⟩
  ·exact .inl q
  ·rcases List.mem_append.1 hy with hy | hy
   ·exact .inr ⟨y, hy, q⟩
   ·rw [List.mem_singleton] at hy
    rw [hy] at q
    exact .inl (by rw [← q]; exact hl)
 ·obtain ⟨b, Q, hQ, hQ2⟩ := h.bottom (by simp)
  cases S with
  | nil => exact absurd rfl hS
  | cons x S =>
   simp only [List.cons_append, List.cons.injEq] at hQ
   exact ⟨b, S, by rw [hQ.1], fun _ => hQ2 (by rw [← hQ.2]; simp)⟩
 ·rcases hS with hS | hS
  ·obtain ⟨b, Q, hQ, _⟩ := h.bottom (by simp)
   rw [hS] at hQ
   simp only [List.nil_append, List.cons.injEq, Prod.mk.injEq] at hQ
   exact h.last (.inr (by rw [← hQ.1.1]; exact hl))
  ·exact h.last (.inr hS)
theorem Lw.other {A : Nat → Prop} {w : World} {root e : LE} {b : Nat} {D : List (KeyP × Int)} {S : List (LE × Nat)} {O : List LE} (h : Lw A w root D (S ++ [(e, b)]) O) : ∀ x ∈ S, x.2 ≠ 0 → x.1.key ≠ e.key := fun x hx h0 q => by
 have h1 := (List.pairwise_append.1 h.rank).2.2 x hx (e, b) (by simp) h0
 have h2 := h.fitS x (List.mem_append_left _ hx)
 have h3 := h.fitS (e, b) (by simp)
 have := key_one h2.1 h3.1 h2.2 q
 rw [this] at h1
 exact absurd h1 (Nat.lt_irrefl _)
theorem Lw.finish {A : Nat → Prop} {w : World} {root e : LE} {b : Nat} {D : List (KeyP × Int)} {S : List (LE × Nat)} {O : List LE} (h : Lw A w root D (S ++ [(e, b)]) O) (hb : b ≠ 2) (hl : lookKP D e.key = some 1) : Lw A w root (setKP D e.key 2) (S ++ [(e, 0)]) (O ++ [e]) := by
 have hfe := h.fitS (e, b) (by simp)
 have hne := key_ne hfe.1 hfe.2
 have hb1 : b = 1 := by
  obtain ⟨x, hx, h1, h2⟩ := (h.act e.key).1 hl
  rcases List.mem_append.1 hx with hx | hx
  ·exact absurd h2 (h.other x hx h1)
  ·rw [List.mem_singleton] at hx
   rw [hx] at h1
   have := h.flag (e, b) (by simp)
   simp only at h1 this
   omega
 subst hb1
 have hsm : (∀ x ∈ S ++ [(e, 0)], x.1.wt ≤ root.wt) ∧ ∀ o ∈ O ++ [e], o.wt ≤ root.wt := ⟨fun x hx => by
  rcases List.mem_append.1 hx with hx | hx
  ·exact h.small.1 x (List.mem_append_left _ hx)
  ·rw [List.mem_singleton] at hx; rw [hx]; exact h.small.1 (e, 1) (by simp), fun o ho => by
  rcases List.mem_append.1 ho with ho | ho
  ·exact h.small.2 o ho
  ·rw [List.mem_singleton] at ho; rw [ho]; exact h.small.1 (e, 1) (by simp)⟩
 have hset : ∀ k, k ≠ e.key → lookKP (setKP D e.key 2) k = lookKP D k := fun k hk => look_set_otherP D 2 (Ne.symm hk)
 have hsame : lookKP (setKP D e.key 2) e.key = some 2 := look_set_sameP D e.key 2
 have two : ∀ k, lookKP D k = some 2 → lookKP (setKP D e.key 2) k = some 2 := fun k q => by
  by_cases c : k = e.key
  ·rw [c]; exact hsame
  ·rw [hset k c]; exact q
 have hroot : lookKP D root.key = some 2 → False := fun q => by
  have := h.alone q (e, 1) (by simp)
  simp at this
 have hfirst : root.key = e.key → S = [] ∧ root = e := fun c => by
  obtain ⟨b, Q, hQ, hQ2⟩ := h.bottom (by simp)
  cases S with
  | nil =>
   simp only [List.nil_append, List.cons.injEq, Prod.mk.injEq] at hQ
   exact ⟨rfl, hQ.1.1.symm⟩
  | cons x S' =>
   exfalso
   simp only [List.cons_append, List.cons.injEq] at hQ
   have hb0 : b ≠ 0 := hQ2 (by rw [← hQ.2]; simp)
   exact h.other x (by simp) (by rw [hQ.1]; exact hb0) (by rw [hQ.1]; exact c)
 refine ⟨fun x hx => ?_, fun x hx => ?_, two _ h.zero, fun k v q => ?_, fun k => ⟨fun q => ?_, fun ⟨x, hx, h1, h2⟩ => ?_⟩, fun k hk => ⟨fun q => ?_, fun ⟨o, ho, q⟩ => ?_⟩, ?_, fun P x Q hS hx k f hf hk hn => ?_, fun P o Q hO k f hf hk hn => ?_, fun x hx h0 => ?_, fun _ => ?_, fun q => ?_, fun q x hx => ?_, fun x hx => ?_, hsm⟩
 ·rcases List.mem_append.1 hx with hx | hx
  ·exact h.fitS x (List.mem_append_left _ hx)
  ·rw [List.mem_singleton] at hx; rw [hx]; exact hfe
 ·rcases List.mem_append.1 hx with hx | hx
  ·exact h.fitO x hx
  ·rw [List.mem_singleton] at hx; rw [hx]; exact hfe
 ·by_cases c : k = e.key
  ·rw [c, hsame] at q
   exact .inr (Option.some.inj q).symm
  ·rw [hset k c] at q
   exact h.vals k v q
 ·by_cases c : k = e.key
  ·rw [c, hsame] at q
   cases q
  ·rw [hset k c] at q
   obtain ⟨x, hx, h1, h2⟩ := (h.act k).1 q
   rcases List.mem_append.1 hx with hx | hx
   ·exact ⟨x, List.mem_append_left _ hx, h1, h2⟩
   ·rw [List.mem_singleton] at hx
    rw [hx] at h2
    exact absurd h2.symm c
 ·rcases List.mem_append.1 hx with hx | hx
  ·have c : k ≠ e.key := fun c => h.other x hx h1 (h2.trans c)
   rw [hset k c]
   exact (h.act k).2 ⟨x, List.mem_append_left _ hx, h1, h2⟩
  ·rw [List.mem_singleton] at hx
   rw [hx] at h1
   exact absurd rfl h1
 ·by_cases c : k = e.key
  ·exact ⟨e, by simp, c.symm⟩
  ·rw [hset k c] at q
   obtain ⟨o, ho, q2⟩ := (h.left k hk).1 q
   exact ⟨o, List.mem_append_left _ ho, q2⟩
 ·rcases List.mem_append.1 ho with ho | ho
  ·exact two k ((h.left k hk).2 ⟨o, ho, q⟩)
  ·rw [List.mem_singleton] at ho
   rw [← q, ho]
   exact hsame
 ·obtain ⟨r1, _, r3⟩ := List.pairwise_append.1 h.rank
  refine List.pairwise_append.2 ⟨r1, by simp, fun x hx y hy h0 => ?_⟩
  rw [List.mem_singleton] at hy
  rw [hy]
  exact r3 x hx (e, 1) (by simp) h0
 ·-- one that was begun below it
  have hS2 : S ++ [(e, 0)] = P ++ x :: Q := hS
  rcases List.eq_nil_or_concat Q with hQ | ⟨Q', y, hQ⟩
  ·rw [hQ] at hS2
   have := (List.append_inj' hS2 rfl).2
   simp only [List.cons.injEq, and_true] at this
   rw [← this] at hx
   cases hx
  ·rw [List.concat_eq_append] at hQ
   rw [hQ] at hS2
   have e2 : P ++ x :: (Q' ++ [y]) = (P ++ x :: Q') ++ [y] := by simp
   rw [e2] at hS2
   obtain ⟨q1, q2⟩ := List.append_inj' hS2 rfl
   simp only [List.cons.injEq, and_true] at q2
   rcases h.kids P x (Q' ++ [(e, 1)]) (by rw [q1]; simp) hx k f hf hk hn with q | ⟨z, hz, q⟩
   ·exact .inl (two _ q)
   ·rcases List.mem_append.1 hz with hz | hz
    ·exact .inr ⟨z, by rw [hQ]; exact List.mem_append_left _ hz, q⟩
    ·rw [List.mem_singleton] at hz
     rw [hz] at q
     exact .inl (by rw [← q]; exact hsame)
 ·-- those within it came ahead
  rcases List.eq_nil_or_concat Q with hQ | ⟨Q', y, hQ⟩
  ·rw [hQ] at hO
   obtain ⟨q1, q2⟩ := List.append_inj' hO rfl
   simp only [List.cons.injEq, and_true] at q2
   rw [← q2] at hk
   rcases h.kids S (e, 1) [] (by simp) rfl k f hf hk hn with q | ⟨z, hz, _⟩
   ·obtain ⟨o', ho', q'⟩ := (h.left _ (key_ne hf hn)).1 q
    exact ⟨o', by rw [← q1]; exact ho', q'⟩
   ·simp at hz
  ·rw [List.concat_eq_append] at hQ
   rw [hQ] at hO
   have e2 : P ++ o :: (Q' ++ [y]) = (P ++ o :: Q') ++ [y] := by simp
   rw [e2] at hO
   obtain ⟨q1, _⟩ := List.append_inj' hO rfl
   exact h.post P o Q' q1 k f hf hk hn
 ·rcases List.mem_append.1 hx with hx | hx
  ·rw [hset _ (h.other x hx h0)]
   exact h.begun x (List.mem_append_left _ hx) h0
  ·rw [List.mem_singleton] at hx
   rw [hx] at h0
   exact absurd rfl h0
 ·obtain ⟨b, Q, hQ, hQ2⟩ := h.bottom (by simp)
  cases S with
  | nil =>
   simp only [List.nil_append, List.cons.injEq, Prod.mk.injEq] at hQ
   exact ⟨0, [], by rw [hQ.1.1]; rfl, fun q => absurd rfl q⟩
  | cons x S =>
   simp only [List.cons_append, List.cons.injEq] at hQ
   exact ⟨b, S ++ [(e, 0)], by rw [hQ.1]; rfl, fun _ => hQ2 (by rw [← hQ.2]; simp)⟩
 ·rcases q with q | q
  ·simp at q
  ·by_cases c : root.key = e.key
   ·obtain ⟨hS0, hre⟩ := hfirst c
    exact ⟨O, by rw [hre]⟩
   ·rw [hset _ c] at q
    exact (hroot q).elim
 ·by_cases c : root.key = e.key
  ·obtain ⟨hS0, hre⟩ := hfirst c
   rw [hS0, List.nil_append, List.mem_singleton] at hx
   rw [hx, hre]
  ·rw [hset _ c] at q
   exact (hroot q).elim
 ·rcases List.mem_append.1 hx with hx | hx
  ·exact h.flag x (List.mem_append_left _ hx)
  ·rw [List.mem_singleton] at hx; rw [hx]; exact Nat.zero_le _
theorem Lw.enter {A : Nat → Prop} {w : World} {root e : LE} {b : Nat} {D : List (KeyP × Int)} {S : List (LE × Nat)} {O : List LE} (h : Lw A w root D (S ++ [(e, b)]) O) (hl : lookKP D e.key = none) : b = 0 ∧ Lw A w root (setKP D e.key 1) (S ++ (e, 2) :: []) O := by
 have hfe := h.fitS (e, b) (by simp)
 have hne := key_ne hfe.1 hfe.2
 have hb : b = 0 := by
  by_cases c : b = 0
  ·exact c
  ·have := h.begun (e, b) (by simp) c
   rw [hl] at this
   cases this
 subst hb
 have hsm : (∀ x ∈ S ++ (e, 2) :: [], x.1.wt ≤ root.wt) ∧ ∀ o ∈ O, o.wt ≤ root.wt := ⟨fun x hx => by
  rcases List.mem_append.1 hx with hx | hx
  ·exact h.small.1 x (List.mem_append_left _ hx)
  ·rw [List.mem_singleton] at hx; rw [hx]; exact h.small.1 (e, 0) (by simp), h.small.2⟩
 have hset : ∀ k, k ≠ e.key → lookKP (setKP D e.key 1) k = lookKP D k := fun k hk => look_set_otherP D 1 (Ne.symm hk)
 have hsame : lookKP (setKP D e.key 1) e.key = some 1 := look_set_sameP D e.key 1
 have two : ∀ k, lookKP (setKP D e.key 1) k = some 2 ↔ lookKP D k = some 2 := fun k => by
  by_cases c : k = e.key
  ·rw [c, hsame, hl]; simp
  ·rw [hset k c]
 have hroot : lookKP D root.key = some 2 → False := fun q => by
  have := h.alone q (e, 0) (by simp)
  simp only [Prod.mk.injEq, and_true] at this
  rw [← this, hl] at q
  cases q
 refine ⟨rfl, fun x hx => ?_, h.fitO, (two _).2 h.zero, fun k v q => ?_, fun k => ⟨fun q => ?_, fun ⟨x, hx, h1, h2⟩ => ?_⟩, fun k hk => (two k).trans (h.left k hk), ?_, fun P x Q hS hx k f hf hk hn => ?_, h.post, fun x hx h0 => ?_, fun _ => ?_, fun q => ?_, fun q => (hroot ((two _).1 q)).elim, fun x hx => ?_, hsm⟩
 ·rcases List.mem_append.1 hx with hx | hx
  ·exact h.fitS x (List.mem_append_left _ hx)
  ·rw [List.mem_singleton] at hx; rw [hx]; exact hfe
 ·by_cases c : k = e.key
  ·rw [c, hsame] at q
   exact .inl (Option.some.inj q).symm
  ·rw [hset k c] at q
   exact h.vals k v q
 ·by_cases c : k = e.key
  ·exact ⟨(e, 2), by simp, by simp, c.symm⟩
  ·rw [hset k c] at q
   obtain ⟨x, hx, h1, h2⟩ := (h.act k).1 q
   rcases List.mem_append.1 hx with hx | hx
   ·exact ⟨x, List.mem_append_left _ hx, h1, h2⟩
   ·rw [List.mem_singleton] at hx
    rw [hx] at h1
    exact absurd rfl h1
 ·rcases List.mem_append.1 hx with hx | hx
  ·have c : k ≠ e.key := fun c => h.other x hx h1 (h2.trans c)
   rw [hset k c]
   exact (h.act k).2 ⟨x, List.mem_append_left _ hx, h1, h2⟩
  ·rw [List.mem_singleton] at hx
   rw [hx] at h2
   rw [← h2]
   exact hsame
 ·obtain ⟨r1, _, r3⟩ := List.pairwise_append.1 h.rank
  refine List.pairwise_append.2 ⟨r1, by simp, fun x hx y hy h0 => ?_⟩
  rw [List.mem_singleton] at hy
  rw [hy]
  exact r3 x hx (e, 0) (by simp) h0
 ·have hS2 : S ++ [(e, 2)] = P ++ x :: Q := hS
  rcases List.eq_nil_or_concat Q with hQ | ⟨Q', y, hQ⟩
  ·rw [hQ] at hS2
   have := (List.append_inj' hS2 rfl).2
   simp only [List.cons.injEq, and_true] at this
   rw [← this] at hx
   cases hx
  ·rw [List.concat_eq_append] at hQ
   rw [hQ] at hS2
   have e2 : P ++ x :: (Q' ++ [y]) = (P ++ x :: Q') ++ [y] := by simp
   rw [e2] at hS2
   obtain ⟨q1, q2⟩ := List.append_inj' hS2 rfl
   simp only [List.cons.injEq, and_true] at q2
   rcases h.kids P x (Q' ++ [(e, 0)]) (by rw [q1]; simp) hx k f hf hk hn with q | ⟨z, hz, q⟩
   ·exact .inl ((two _).2 q)
   ·rcases List.mem_append.1 hz with hz | hz
    ·exact .inr ⟨z, by rw [hQ]; exact List.mem_append_left _ hz, q⟩
    ·rw [List.mem_singleton] at hz
     rw [hz] at q
     exact .inr ⟨y, by rw [hQ]; simp, by rw [← q2]; exact q⟩
 ·rcases List.mem_append.1 hx with hx | hx
  ·rw [hset _ (h.other x hx h0)]
   exact h.begun x (List.mem_append_left _ hx) h0
  ·rw [List.mem_singleton] at hx
   rw [hx]
   exact hsame
 ·obtain ⟨b, Q, hQ, hQ2⟩ := h.bottom (by simp)
  cases S with
  | nil =>
   simp only [List.nil_append, List.cons.injEq, Prod.mk.injEq] at hQ
   exact ⟨2, [], by rw [hQ.1.1]; rfl, fun q => absurd rfl q⟩
  | cons x S =>
   simp only [List.cons_append, List.cons.injEq] at hQ
   exact ⟨b, S ++ [(e, 2)], by rw [hQ.1]; rfl, fun _ => hQ2 (by rw [← hQ.2]; simp)⟩
 ·rcases q with q | q
  ·simp at q
  ·exact (hroot ((two _).1 q)).elim
 ·rcases List.mem_append.1 hx with hx | hx
  ·exact h.flag x (List.mem_append_left _ hx)
  ·rw [List.mem_singleton] at hx; rw [hx]; exact Nat.le_refl _
theorem Lw.notIn {A : Nat → Prop} {w : World} {root e f : LE} {k : Nat} {D : List (KeyP × Int)} {S K : List (LE × Nat)} {O : List LE} (h : Lw A w root D (S ++ (e, 2) :: K) O) (hK : ∀ y ∈ K, y.2 = 0) (hk : KidAt w e k f) (hf : f.fits A w) : lookKP D f.key ≠ some 1 := fun q => by
 obtain ⟨x, hx, h1, h2⟩ := (h.act f.key).1 q
 have hless := hk.less
 rcases List.mem_append.1 hx with hx | hx
 ·have h3 := (List.pairwise_append.1 h.rank).2.2 x hx (e, 2) (by simp) h1
  have h4 := h.fitS x (List.mem_append_left _ hx)
  have := key_one h4.1 hf h4.2 h2
  rw [this] at h3
  simp only at h3
  omega
 ·rcases List.mem_cons.1 hx with hx | hx
  ·have h4 := h.fitS (e, 2) (by simp)
   rw [hx] at h2
   have := key_one h4.1 hf h4.2 h2
   simp only at this
   rw [this] at hless
   omega
  ·exact h1 (hK x hx)
theorem Lw.push {A : Nat → Prop} {w : World} {root e f : LE} {k : Nat} {D : List (KeyP × Int)} {S K : List (LE × Nat)} {O : List LE} (h : Lw A w root D (S ++ (e, 2) :: K) O) (hK : ∀ y ∈ K, y.2 = 0) (hk : KidAt w e k f) (hf : f.fits A w) (hn : f.ts ≠ []) : Lw A w root D (S ++ (e, 2) :: (K ++ [(f, 0)])) O := by
 have eS : S ++ (e, 2) :: (K ++ [(f, 0)]) = (S ++ (e, 2) :: K) ++ [(f, 0)] := by simp
 have hless := hk.less
 have hsm : (∀ x ∈ S ++ (e, 2) :: K ++ [(f, 0)], x.1.wt ≤ root.wt) ∧ ∀ o ∈ O, o.wt ≤ root.wt := ⟨fun x hx => by
  rcases List.mem_append.1 hx with hx | hx
  ·exact h.small.1 x hx
  ·rw [List.mem_singleton] at hx; rw [hx]; exact Nat.le_trans hk.wt_le (h.small.1 (e, 2) (by simp)), h.small.2⟩
 rw [eS]
 refine ⟨fun x hx => ?_, h.fitO, h.zero, h.vals, fun k => ⟨fun q => ?_, fun ⟨x, hx, h1, h2⟩ => ?_⟩, h.left, ?_, fun P x Q hS hx k f' hf' hk' hn' => ?_, h.post, fun x hx h0 => ?_, fun _ => ?_, fun q => ?_, fun q x hx => ?_, fun x hx => ?_, hsm⟩
 ·rcases List.mem_append.1 hx with hx | hx
  ·exact h.fitS x hx
  ·rw [List.mem_singleton] at hx; rw [hx]; exact ⟨hf, hn⟩
 ·obtain ⟨x, hx, h1, h2⟩ := (h.act k).1 q
  exact ⟨x, List.mem_append_left _ hx, h1, h2⟩
 ·rcases List.mem_append.1 hx with hx | hx
  ·exact (h.act k).2 ⟨x, hx, h1, h2⟩
  ·rw [List.mem_singleton] at hx
   rw [hx] at h1
   exact absurd rfl h1
 ·refine List.pairwise_append.2 ⟨h.rank, by simp, fun x hx y hy h0 => ?_⟩
  rw [List.mem_singleton] at hy
  rw [hy]
  rcases List.mem_append.1 hx with hx | hx
  ·have h3 := (List.pairwise_append.1 h.rank).2.2 x hx (e, 2) (by simp) h0
   simp only at h3 ⊢
   omega
  ·rcases List.mem_cons.1 hx with hx | hx
   ·rw [hx]; exact hless
   ·exact absurd (hK x hx) h0
 ·rcases List.eq_nil_or_concat Q with hQ | ⟨Q', y, hQ⟩
  ·rw [hQ] at hS
   have := (List.append_inj' hS rfl).2
   simp only [List.cons.injEq, and_true] at this
   rw [← this] at hx
   cases hx
  ·rw [List.concat_eq_append] at hQ
   rw [hQ] at hS
   have e2 : P ++ x :: (Q' ++ [y]) = (P ++ x :: Q') ++ [y] := by simp
   rw [e2] at hS
   obtain ⟨q1, q2⟩ := List.append_inj' hS rfl
   rcases h.kids P x Q' q1 hx k f' hf' hk' hn' with q | ⟨z, hz, q⟩
   ·exact .inl q
   ·exact .inr ⟨z, by rw [hQ]; exact List.mem_append_left _ hz, q⟩
 ·rcases List.mem_append.1 hx with hx | hx
  ·exact h.begun x hx h0
  ·rw [List.mem_singleton] at hx
   rw [hx] at h0
   exact absurd rfl h0
 ·obtain ⟨b, Q, hQ, hQ2⟩ := h.bottom (by simp)
  refine ⟨b, Q ++ [(f, 0)], by rw [hQ]; rfl, fun _ => ?_⟩
  cases S with
  | nil =>
   simp only [List.nil_append, List.cons.injEq, Prod.mk.injEq] at hQ
   omega
  | cons x S =>
   simp only [List.cons_append, List.cons.injEq] at hQ
   exact hQ2 (by rw [← hQ.2]; simp)
 ·rcases q with q | q
  ·simp at q
  ·exact h.last (.inr q)
 ·have := h.alone q (e, 2) (by simp)
  simp at this
 ·rcases List.mem_append.1 hx with hx | hx
  ·exact h.flag x hx
  ·rw [List.mem_singleton] at hx; rw [hx]; exact Nat.zero_le _
theorem Lw.close {A : Nat → Prop} {w : World} {root e : LE} {D : List (KeyP × Int)} {S K : List (LE × Nat)} {O : List LE} (h : Lw A w root D (S ++ (e, 2) :: K) O) (hK : ∀ y ∈ K, y.2 = 0) (ha : ∀ k f, f.fits A w → KidAt w e k f → f.ts ≠ [] → lookKP D f.key = some 2 ∨ ∃ y ∈ K, y.1.key = f.key) : Lw A w root D (S ++ (e, 1) :: K) O := by
 have mem : ∀ x, x ∈ S ++ (e, 1) :: K → ∃ y ∈ S ++ (e, 2) :: K, y.1 = x.1 ∧ (y.2 ≠ 0 ↔ x.2 ≠ 0) ∧ (x.2 = 2 → False ∨ x = y) := fun x hx => by
  rcases List.mem_append.1 hx with hx | hx
  ·exact ⟨x, List.mem_append_left _ hx, rfl, Iff.rfl, fun _ => .inr rfl⟩
  ·rcases List.mem_cons.1 hx with hx | hx
   ·exact ⟨(e, 2), by simp, by rw [hx], by rw [hx]; simp, fun q => by rw [hx] at q; cases q⟩
   ·exact ⟨x, by simp [hx], rfl, Iff.rfl, fun _ => .inr rfl⟩
 refine ⟨fun x hx => ?_, h.fitO, h.zero, h.vals, fun k => ⟨fun q => ?_, fun ⟨x, hx, h1, h2⟩ => ?_⟩, h.left, ?_, fun P x Q hS hx k f hf hk hn => ?_, h.post, fun x hx h0 => ?_, fun _ => ?_, fun q => ?_, fun q x hx => ?_, fun x hx => ?_, fun x hx => ?_, h.small.2⟩
 ·obtain ⟨y, hy, e1, _⟩ := mem x hx
  rw [← e1]
  exact h.fitS y hy
 ·obtain ⟨x, hx, h1, h2⟩ := (h.act k).1 q
  rcases List.mem_append.1 hx with hx | hx
  ·exact ⟨x, List.mem_append_left _ hx, h1, h2⟩
  ·rcases List.mem_cons.1 hx with hx | hx
   ·exact ⟨(e, 1), by simp, by simp, by rw [hx] at h2; exact h2⟩
   ·exact ⟨x, by simp [hx], h1, h2⟩
 ·obtain ⟨y, hy, e1, e2, _⟩ := mem x hx
  exact (h.act k).2 ⟨y, hy, e2.2 h1, by rw [e1]; exact h2⟩
 ·obtain ⟨r1, r2, r3⟩ := List.pairwise_append.1 h.rank
  obtain ⟨r4, r5⟩ := List.pairwise_cons.1 r2
  refine List.pairwise_append.2 ⟨r1, List.pairwise_cons.2 ⟨fun y hy _ => r4 y hy (by simp), r5⟩, fun x hx y hy h0 => ?_⟩
  rcases List.mem_cons.1 hy with hy | hy
  ·rw [hy]; exact r3 x hx (e, 2) (by simp) h0
  ·exact r3 x hx y (List.mem_cons_of_mem _ hy) h0
 ·rcases List.append_eq_append_iff.1 hS with ⟨a', q1, q2⟩ | ⟨c', q1, q2⟩
  ·cases a' with
   | nil =>
    simp only [List.nil_append, List.cons.injEq] at q2
    obtain ⟨q3, q4⟩ := q2
    subst q3
    rw [← q4]
    exact ha k f hf hk hn
   | cons z a' =>
    simp only [List.cons_append, List.cons.injEq] at q2
    have hxK : x ∈ K := by rw [q2.2]; simp
    rw [hK x hxK] at hx
    cases hx
  ·cases c' with
   | nil =>
    simp only [List.nil_append, List.cons.injEq] at q2
    obtain ⟨q3, q4⟩ := q2
    subst q3
    rw [q4]
    exact ha k f hf hk hn
   | cons z c' =>
    simp only [List.cons_append, List.cons.injEq] at q2
    rcases h.kids P x (c' ++ (e, 2) :: K) (by rw [q1, q2.1]; simp) hx k f hf hk hn with q | ⟨y, hy, q⟩
    ·exact .inl q
    ·right
     rw [q2.2]
     rcases List.mem_append.1 hy with hy | hy
     ·exact ⟨y, List.mem_append_left _ hy, q⟩
     ·rcases List.mem_cons.1 hy with hy | hy
      ·exact ⟨(e, 1), by simp, by rw [hy] at q; exact q⟩
      ·exact ⟨y, by simp [hy], q⟩
 ·obtain ⟨y, hy, e1, e2, _⟩ := mem x hx
  rw [← e1]
  exact h.begun y hy (e2.2 h0)
 ·obtain ⟨b, Q, hQ, hQ2⟩ := h.bottom (by simp)
  cases S with
  | nil =>
   simp only [List.nil_append, List.cons.injEq, Prod.mk.injEq] at hQ
   exact ⟨1, K, by rw [hQ.1.1]; rfl, fun _ => by simp⟩
  | cons x S =>
   simp only [List.cons_append, List.cons.injEq] at hQ
   exact ⟨b, S ++ (e, 1) :: K, by rw [hQ.1]; rfl, fun _ => hQ2 (by rw [← hQ.2]; simp)⟩
 ·rcases q with q | q
  ·simp at q
  ·exact h.last (.inr q)
 ·have := h.alone q (e, 2) (by simp)
  simp at this
 ·rcases List.mem_append.1 hx with hx | hx
  ·exact h.flag x (List.mem_append_left _ hx)
  ·rcases List.mem_cons.1 hx with hx | hx
   ·rw [hx]; simp
   ·exact h.flag x (by simp [hx])
 ·obtain ⟨y, hy, e1, _⟩ := mem x hx
  rw [← e1]
  exact h.small.1 y hy
def mOf (D : List (KeyP × Int)) (x : LE × Nat) : Nat := if lookKP D x.1.key = some 2 then 1 else if x.2 ≠ 0 then 2 else x.1.cost
def mSum (D : List (KeyP × Int)) (S : List (LE × Nat)) : Nat := (S.map (mOf D)).sum
theorem mSum_app (D : List (KeyP × Int)) (S T : List (LE × Nat)) : mSum D (S ++ T) = mSum D S + mSum D T := by simp [mSum]
theorem mSum_one (D : List (KeyP × Int)) (x : LE × Nat) : mSum D [x] = mOf D x := by simp [mSum]
theorem cost_pos (e : LE) : 3 ≤ e.cost := by unfold LE.cost; omega
theorem mOf_pos (D : List (KeyP × Int)) (x : LE × Nat) : 1 ≤ mOf D x := by
 unfold mOf
 have := cost_pos x.1
 split
 ·omega
 split <;> omega
theorem mOf_le (D : List (KeyP × Int)) (x : LE × Nat) : mOf D x ≤ x.1.cost := by
 unfold mOf
 have := cost_pos x.1
 split
 ·omega
 split <;> omega
theorem mSum_len (D : List (KeyP × Int)) (S : List (LE × Nat)) : S.length ≤ mSum D S := by
 induction S with
 | nil => simp
 | cons x S ih =>
  have := mOf_pos D x
  simp only [mSum, List.map_cons, List.sum_cons, List.length_cons] at ih ⊢
  omega
theorem mSum_mono {D D' : List (KeyP × Int)} {S : List (LE × Nat)} (h : ∀ x ∈ S, mOf D' x ≤ mOf D x) : mSum D' S ≤ mSum D S := by
 induction S with
 | nil => simp [mSum]
 | cons x S ih =>
  have h1 := h x (by simp)
  have h2 := ih fun y hy => h y (List.mem_cons_of_mem _ hy)
  simp only [mSum, List.map_cons, List.sum_cons] at h2 ⊢
  omega
theorem m_pop (D : List (KeyP × Int)) (S : List (LE × Nat)) (x : LE × Nat) : mSum D S < mSum D (S ++ [x]) := by
 have := mOf_pos D x
 rw [mSum_app, mSum_one]
 omega
theorem m_finish {e : LE} {b : Nat} {D : List (KeyP × Int)} {S : List (LE × Nat)} (hl : lookKP D e.key = some 1) : mSum (setKP D e.key 2) (S ++ [(e, 0)]) < mSum D (S ++ [(e, b)]) := by
 rw [mSum_app, mSum_app, mSum_one, mSum_one]
 have h1 : mSum (setKP D e.key 2) S ≤ mSum D S := mSum_mono fun x _ => by
  by_cases c : x.1.key = e.key
  ·have : mOf (setKP D e.key 2) x = 1 := by
    unfold mOf
    rw [c, look_set_sameP, if_pos rfl]
   have := mOf_pos D x
   omega
  ·unfold mOf
   rw [look_set_otherP D 2 (Ne.symm c)]
   exact Nat.le_refl _
 have h2 : mOf (setKP D e.key 2) (e, 0) = 1 := by
  unfold mOf
  simp only
  rw [look_set_sameP, if_pos rfl]
 have h3 : 2 ≤ mOf D (e, b) := by
  unfold mOf
  simp only
  rw [hl, if_neg (by simp)]
  have := cost_pos e
  split <;> omega
 omega
theorem m_enter {e : LE} {D : List (KeyP × Int)} {S K : List (LE × Nat)} (hl : lookKP D e.key = none) (hK : (K.map fun y => y.1.cost).sum ≤ 3 * ndRow e.n e.ts) : mSum (setKP D e.key 1) (S ++ (e, 1) :: K) < mSum D (S ++ [(e, 0)]) := by
 have e1 : S ++ (e, 1) :: K = S ++ [(e, 1)] ++ K := by simp
 rw [e1, mSum_app, mSum_app, mSum_app, mSum_one, mSum_one]
 have h1 : mSum (setKP D e.key 1) S ≤ mSum D S := mSum_mono fun x _ => by
  by_cases c : x.1.key = e.key
  ·unfold mOf
   rw [c, look_set_sameP, hl, if_neg (show ¬ (some (1 : Int) = some 2) by simp), if_neg (show ¬ (none = some (2 : Int)) by simp)]
   exact Nat.le_refl _
  ·unfold mOf
   rw [look_set_otherP D 1 (Ne.symm c)]
   exact Nat.le_refl _
 have h2 : mOf (setKP D e.key 1) (e, 1) = 2 := by
  unfold mOf
  simp only
  rw [look_set_sameP, if_neg (by simp), if_pos (by simp)]
 have h3 : mOf D (e, 0) = e.cost := by
  unfold mOf
  simp only
  rw [hl, if_neg (by simp), if_neg (by simp)]
 have h4 : mSum (setKP D e.key 1) K ≤ (K.map fun y => y.1.cost).sum := by
  clear hK
  induction K with
  | nil => simp [mSum]
  | cons x K ih =>
   have := mOf_le (setKP D e.key 1) x
   have h5 := ih (by simp)
   simp only [mSum, List.map_cons, List.sum_cons] at h5 ⊢
   omega
 have h5 : e.cost = 3 * (1 + ndRow e.n e.ts) := rfl
 omega
end Go.Proofs.YtbojmbeopnlmiaaGreatDoor
namespace Go.Proofs.YtbojmbeopnlmiaaGreatDoor
open Go.RowKit Go.Sort
set_option maxHeartbeats 400000 in
theorem implTypeKids (b off : Nat) (vk : Value) (w : World) (h : w.cell? ⟨b, off + 3, none⟩ = some vk) :
  Calls Tryz.prog 44 #[.pointer (some ⟨b, off, none⟩)] w fun e w' => e = .returned vk ∧ Below w.heap.size w w' := by
 go_enter Tryz.func44, Tryz.ntmps44
 go_wp2_with fail
 go_ret
 exact ⟨rfl, Below.refl _ _⟩
set_option maxHeartbeats 800000 in
theorem implNumSize (n : Nat) (w : World) (h : n < 34359738368) :
  Calls Tryz.prog 71 #[.int .i64 (n : Int)] w fun e w' => e = .returned (.int .i64 ((nsz n : Nat) : Int)) ∧ w' = w := by
 have hle := nsz_le n
 go_enter Tryz.func71, Tryz.ntmps71
 go_wp2_with fail
 go_loop [0, 3] (fun a z => ∃ m s : Nat, a = .int .i64 (m : Int) ∧ z = .int .i64 (s : Int) ∧ s + nsz m = nsz n + 1 ∧ m < 34359738368) (fun a _ => (intOf a).toNat)
 case atStart => exact ⟨n, 1, rfl, rfl, by omega, h⟩
 case round =>
  obtain ⟨m, s, rfl, rfl, hs, hm⟩ := hrel
  have hml := nsz_le m
  by_cases c : 128 ≤ m
  ·have HM : Hid (nsz m = nsz (m / 128) + 1) := nsz_more c hm
   have hge : decide ((128 : Int) ≤ (m : Int)) = true := by simp; omega
   have hs9 : s ≤ 9 := by omega
   go_wp2_with fail
   go_round
   case rel => exact ⟨m / 128, s + 1, by go_num, by go_num, by have := HM.out; omega, by omega⟩
   case measure => simp [intOf]; omega
  ·have HM : Hid (nsz m = 1) := nsz_one (by omega)
   have HE : Hid (s = nsz n) := by
    have := HM.out
    show _ = _
    omega
   have hge : decide ((128 : Int) ≤ (m : Int)) = false := by simp; omega
   go_wp2_with fail
   go_ret
   exact ⟨by rw [HE.out]; rfl, rfl⟩
set_option maxHeartbeats 800000 in
theorem implTextSize (s : ByteArray) (w : World) (h : s.size < 34359738368) :
  Calls Tryz.prog 70 #[.string s] w fun e w' => e = .returned (.int .i64 ((tsz s : Nat) : Int)) ∧ w' = w := by
 have HN : Hid (∀ wx : World, Calls Tryz.prog 71 #[.int .i64 (s.size : Int)] wx fun e w' => e = .returned (.int .i64 ((nsz s.size : Nat) : Int)) ∧ w' = wx) := fun wx => implNumSize _ wx h
 have hle := nsz_le s.size
 have HT : Hid (tsz s = nsz s.size + s.size) := rfl
 generalize nsz s.size = q at *
 go_enter Tryz.func70, Tryz.ntmps70
 go_wp2_with (go_at_call 71; refine (HN.out _).mono ?_; rintro e w1 ⟨rfl, hw1⟩; rw [hw1])
 go_ret
 exact ⟨by rw [HT.out]; go_num, rfl⟩
theorem tszs_more (ts : List ByteArray) (k : Nat) (h : k < ts.length) : ((ts.take (k + 1)).map tsz).sum = ((ts.take k).map tsz).sum + tsz ts[k] := by
 rw [List.take_succ_eq_append_getElem h, List.map_append, List.sum_append]
 simp
theorem tszs_take (ts : List ByteArray) (k : Nat) : ((ts.take k).map tsz).sum ≤ (ts.map tsz).sum := by
 have : ts.map tsz = (ts.take k).map tsz ++ (ts.drop k).map tsz := by rw [← List.map_append, List.take_append_drop]
 rw [this, List.sum_append]
 omega
set_option maxHeartbeats 1600000 in
theorem implTypeW (b off : Nat) (t : Ty) (vn : Value) (ak : Option Addr) (ck : Nat) (w : World) (c0 : w.cell? ⟨b, off, none⟩ = some (.int .i64 t.kind)) (c1 : w.cell? ⟨b, off + 1, none⟩ = some (.string t.name)) (c2 : w.cell? ⟨b, off + 2, none⟩ = some vn) (c3 : w.cell? ⟨b, off + 3, none⟩ = some (.slice ak t.kids.length ck)) (hT : Texts w vn t.names) (hb : ownW t ≤ 1000000000) (hk : t.kids.length ≤ 4000000000) :
  Calls Tryz.prog 43 #[.pointer (some ⟨b, off, none⟩)] w fun e w' => e = .returned (.int .i64 ((ownW t : Nat) : Int)) ∧ Below w.heap.size w w' := by
 obtain ⟨a, cap, rfl, hc⟩ : ∃ a cap, vn = .slice a t.names.length cap ∧ ∀ j (h : j < t.names.length), ∃ b off, a = some ⟨b, off, none⟩ ∧ w.cell? ⟨b, off + j, none⟩ = some (.string t.names[j]) := by
  rcases hT with ⟨e, a, cap, e2⟩ | ⟨b, off, cap, e, hc⟩
  ·exact ⟨a, cap, by rw [e]; exact e2, fun j h => by rw [e] at h; exact absurd h (by simp)⟩
  ·exact ⟨_, cap, e, fun j h => ⟨b, off, rfl, hc j h⟩⟩
 by_cases h4 : t.kind = 0 ∨ t.kind = 1 ∨ t.kind = 2 ∨ t.kind = 3
 ·have HO : Hid (ownW t = 1) := if_pos h4
  clear hb hT hc
  rcases h4 with hk | hk | hk | hk
  all_goals
   rw [hk] at c0
   clear hk
   go_enter Tryz.func43, Tryz.ntmps43
   go_wp2_with fail
   go_ret
   exact ⟨by rw [HO.out]; rfl, Below.refl _ _⟩
 ·by_cases h5 : t.kind = 4
  ·have hO : ownW t = 1 + tsz t.name := by
    unfold ownW
    rw [if_neg h4, if_pos h5]
   have HO : Hid (type_of% hO) := hO
   have hts : tsz t.name = nsz t.name.size + t.name.size := rfl
   have HTS : Hid (∀ wx : World, Calls Tryz.prog 70 #[.string t.name] wx fun e w' => e = .returned (.int .i64 ((tsz t.name : Nat) : Int)) ∧ w' = wx) := fun wx => implTextSize _ wx (by omega)
   have hq : tsz t.name ≤ 1000000000 := by omega
   rw [h5] at c0
   clear hb hT hc hO h4 h5 hts
   generalize tsz t.name = q at *
   generalize t.name = s at *
   go_enter Tryz.func43, Tryz.ntmps43
   go_wp2_with (go_at_call 70; refine (HTS.out _).mono ?_; rintro e w1 ⟨rfl, hw1⟩; rw [hw1])
   go_ret
   exact ⟨by rw [HO.out]; go_num, Below.refl _ _⟩
  ·have hO : ownW t = 1 + nsz t.kids.length + (t.names.map tsz).sum := by
    unfold ownW
    rw [if_neg h4, if_neg h5]
   have g0 : (t.kind == (0 : Int)) = false := by rw [beq_eq_false_iff_ne]; omega
   have g1 : (t.kind == (1 : Int)) = false := by rw [beq_eq_false_iff_ne]; omega
   have g2 : (t.kind == (2 : Int)) = false := by rw [beq_eq_false_iff_ne]; omega
   have g3 : (t.kind == (3 : Int)) = false := by rw [beq_eq_false_iff_ne]; omega
   have g4 : (t.kind == (4 : Int)) = false := by rw [beq_eq_false_iff_ne]; omega
   have HKL : Hid (∀ wx : World, Calls Tryz.prog 71 #[.int .i64 (t.kids.length : Int)] wx fun e w' => e = .returned (.int .i64 ((nsz t.kids.length : Nat) : Int)) ∧ w' = wx) := fun wx => implNumSize _ wx (by omega)
   have hkz := nsz_le t.kids.length
   have HC : Hid (type_of% hc) := hc
   have HO : Hid (type_of% hO) := hO
   have HB : Hid ((t.names.map tsz).sum ≤ 1000000000) := by
    show _ ≤ _
    omega
   have hnl : t.names.length ≤ 1000000000 := by
    have : ∀ l : List ByteArray, l.length ≤ (l.map tsz).sum := fun l => by
     induction l with
     | nil => simp
     | cons a r ih =>
      have := (nsz_le a.size).1
      simp only [List.map_cons, List.sum_cons, List.length_cons, tsz]
      omega
    have h1 := this t.names
    have h2 := HB.out
    omega
   clear hb hT hc hO h4 h5
   generalize t.kind = kd at *
   generalize t.names = ns at *
   generalize ownW t = ow at *
   generalize t.kids.length = kl at *
   generalize nsz kl = kz at *
   generalize t.name = s at *
   go_enter Tryz.func43, Tryz.ntmps43
   go_wp2_with (go_at_call 71; refine (HKL.out _).mono ?_; rintro e w1 ⟨rfl, hw1⟩; rw [hw1])
   clear HKL
   go_loop [3, 35] (fun z i => ∃ k : Nat, k ≤ ns.length ∧ i = .int .i64 k ∧ z = .int .i64 ((1 + kz + ((ns.take k).map tsz).sum : Nat) : Int)) (fun _ i => ns.length - (intOf i).toNat)
   case atStart => exact ⟨0, Nat.zero_le _, rfl, by go_num⟩
   case round =>
    obtain ⟨k, hk2, rfl, rfl⟩ := hrel
    by_cases hlt : k < ns.length
    ·obtain ⟨b2, off2, rfl, q0⟩ := HC.out k hlt
     have HM : Hid (((ns.take (k + 1)).map tsz).sum = ((ns.take k).map tsz).sum + tsz ns[k]) := tszs_more ns k hlt
     have h1 := tszs_take ns (k + 1)
     rw [HM.out] at h1
     have h2 := HB.out
     have hp : ns[k].size ≤ 1000000000 := by
      have : tsz ns[k] = nsz ns[k].size + ns[k].size := rfl
      omega
     have HTS : Hid (∀ wx : World, Calls Tryz.prog 70 #[.string ns[k]] wx fun e w' => e = .returned (.int .i64 ((tsz ns[k] : Nat) : Int)) ∧ w' = wx) := fun wx => implTextSize _ wx (by omega)
     clear HC
     generalize tsz ns[k] = q at *
     generalize ns[k] = p at *
     generalize ((ns.take k).map tsz).sum = S at *
     go_wp2_with (go_at_call 70; refine (HTS.out _).mono ?_; rintro e w1 ⟨rfl, hw1⟩; rw [hw1])
     go_round
     case rel => exact ⟨k + 1, by omega, by go_num, by rw [HM.out]; go_num⟩
     case measure => simp [intOf]; omega
    ·have hke : ns.take k = ns := List.take_of_length_le (by omega)
     have HE : Hid (1 + kz + ((ns.take k).map tsz).sum = ow) := by
      show _ = _
      rw [hke]
      exact HO.out.symm
     have h2 := HB.out
     rw [hke] at HE ⊢
     clear hke HO HC HB
     generalize (ns.map tsz).sum = S at *
     go_wp2_with fail
     go_ret
     exact ⟨by rw [← HE.out]; go_num, Below.refl _ _⟩
end Go.Proofs.YtbojmbeopnlmiaaGreatDoor
