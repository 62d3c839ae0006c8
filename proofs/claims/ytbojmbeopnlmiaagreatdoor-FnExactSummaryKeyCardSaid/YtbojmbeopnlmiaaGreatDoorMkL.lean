/-
 The map of the lists that a maker went through: found and not found, one more put beside.
-/
import Derived.Test.YtbojmbeopnlmiaaGreatDoorMkP
namespace Go.Proofs.YtbojmbeopnlmiaaGreatDoor
open Go.RowKit
def lookL : List LRec → Addr → Nat → Option LRec
 | [], _, _ => none
 | r :: l, a, m => if r.pl = a ∧ r.ts.length = m then some r else lookL l a m
theorem lookL_some {L : List LRec} {a : Addr} {m : Nat} {r : LRec} (h : lookL L a m = some r) : r ∈ L ∧ r.pl = a ∧ r.ts.length = m := by
 induction L with
 | nil => simp [lookL] at h
 | cons x l ih =>
  unfold lookL at h
  split at h
  ·rename_i c
   simp only [Option.some.injEq] at h
   subst h
   exact ⟨List.mem_cons_self .., c⟩
  ·obtain ⟨h1, h2⟩ := ih h
   exact ⟨List.mem_cons_of_mem _ h1, h2⟩
theorem findAsk_pl {w : World} {a : Addr} {m : Nat} (ha : RowsOf w (some a)) : ∀ (es : List MapEntry) (L : List LRec) (i : Nat), (∀ r ∈ L, RowsOf w (some r.pl)) → es.map (fun x => (x.key, x.val)) = L.map (fun r => (plKey r.pl r.ts.length, r.v)) →
  ∃ q, (Instr.findAsking 105 (plKey a m) es i).run Tryz.prog w = .ok q w ∧ q.map (·.2) = (lookL L a m).map (·.v) := by
 intro es
 induction es with
 | nil =>
  intro L i _ h
  cases L with
  | nil => exact ⟨none, rfl, rfl⟩
  | cons p q => simp at h
 | cons x l ih =>
  intro L i hL h
  cases L with
  | nil => simp at h
  | cons r L =>
   simp only [List.map_cons, List.cons.injEq, Prod.mk.injEq] at h
   obtain ⟨⟨hk, hv⟩, hr⟩ := h
   obtain ⟨u, hu1, hu2⟩ := ih L (i + 1) (fun q hq => hL q (List.mem_cons_of_mem _ hq)) hr
   have h1 : (Op.equal 105 (plKey a m) (plKey r.pl r.ts.length)).run Tryz.prog w = .ok (decide (some a = some r.pl ∧ (m : Int) = (r.ts.length : Int))) w := run_equal_ks 9998 (w := w) (a := some a) (b := some r.pl) (m := m) (k := r.ts.length) ha (hL r (List.mem_cons_self ..))
   by_cases c : r.pl = a ∧ r.ts.length = m
   ·have c2 : decide (some a = some r.pl ∧ (m : Int) = (r.ts.length : Int)) = true := decide_eq_true ⟨by rw [c.1], by rw [c.2]⟩
    rw [c2] at h1
    refine ⟨some (i, x.val), ?_, ?_⟩
    ·simp only [Instr.findAsking, hk]
     simp [h1, Result.andThen]
    ·unfold lookL
     rw [if_pos c, hv]
     rfl
   ·have c2 : decide (some a = some r.pl ∧ (m : Int) = (r.ts.length : Int)) = false := decide_eq_false fun q => c ⟨(Option.some.inj q.1).symm, by have := q.2; omega⟩
    rw [c2] at h1
    refine ⟨u, ?_, ?_⟩
    ·simp only [Instr.findAsking, hk]
     simp [h1, hu1, Result.andThen]
    ·unfold lookL
     rw [if_neg c]
     exact hu2
theorem findKey_pl {w : World} {a : Addr} {m : Nat} (ha : RowsOf w (some a)) (es : List MapEntry) (L : List LRec) (hL : ∀ r ∈ L, RowsOf w (some r.pl)) (h : es.map (fun x => (x.key, x.val)) = L.map (fun r => (plKey r.pl r.ts.length, r.v))) :
  ∃ q, (Instr.findKey 105 (plKey a m) es).run Tryz.prog w = .ok q w ∧ q.map (·.2) = (lookL L a m).map (·.v) := by
 obtain ⟨q, h1, h2⟩ := findAsk_pl (m := m) ha es L 0 hL h
 refine ⟨q, ?_, h2⟩
 cases es with
 | nil =>
  cases L with
  | nil =>
   simp only [lookL, Option.map_none, Option.map_eq_none_iff] at h2
   subst h2
   simp [Instr.findKey, run_underlying Tryz.underKs, Instr.findNow]
  | cons r L => simp at h
 | cons x l =>
  cases L with
  | nil => simp at h
  | cons r L =>
   simp only [List.map_cons, List.cons.injEq, Prod.mk.injEq] at h
   simp [Instr.findKey, run_underlying Tryz.underKs, Instr.findNow, h.1.1, plKey, Instr.sameNow]
   exact h1
theorem run_lookup_pl {w : World} {lb : Nat} {L : List LRec} (hM : LMapAt w lb L) (hL : ∀ r ∈ L, RowsOf w (some r.pl)) {a : Addr} (ha : RowsOf w (some a)) (m : Nat) :
  (Instr.lookup 89 (.map (some lb)) (.agg #[.pointer (some a), .int .i64 m]) false).run Tryz.prog w = .ok (((lookL L a m).map (·.v)).getD (.slice none 0 0)) w := by
 obtain ⟨es, clock, hb, hes⟩ := hM
 obtain ⟨q, h1, h2⟩ := findKey_pl (m := m) ha es.toList L hL hes
 have hz : (zeroValue 131).run Tryz.prog w = .ok (.slice none 0 0) w := by kernel_rfl
 have hc : ∀ b, (Instr.checkKey b 10000 105 (plKey a m)).run Tryz.prog w = .ok () w := fun b => run_checkKey_ks 9998 b
 rw [← h2]
 change (Instr.lookup 89 (.map (some lb)) (plKey a m) false).run Tryz.prog w = _
 cases q with
 | none => simp [Instr.lookup, run_underlying Tryz.underlying89, MapKept.run_getObj_map hb, hc, h1, hz, Result.andThen]
 | some p => simp [Instr.lookup, run_underlying Tryz.underlying89, MapKept.run_getObj_map hb, hc, h1, Result.andThen]
theorem run_update_pl {w : World} {lb : Nat} {L : List LRec} (hM : LMapAt w lb L) (hL : ∀ r ∈ L, RowsOf w (some r.pl)) (r : LRec) (ha : RowsOf w (some r.pl)) (hno : lookL L r.pl r.ts.length = none) :
  ∃ w', (Instr.mapUpdate 89 (.map (some lb)) (.agg #[.pointer (some r.pl), .int .i64 r.ts.length]) r.v).run Tryz.prog w = .ok () w' ∧ LMapAt w' lb (L ++ [r]) ∧ But lb w w' := by
 obtain ⟨es, clock, hb, hes⟩ := hM
 obtain ⟨q, h1, h2⟩ := findKey_pl (m := r.ts.length) ha es.toList L hL hes
 rw [hno] at h2
 obtain rfl : q = none := by cases q <;> simp_all
 have hc : ∀ b, (Instr.checkKey b 10000 105 (plKey r.pl r.ts.length)).run Tryz.prog w = .ok () w := fun b => run_checkKey_ks 9998 b
 have hr : (Instr.mapUpdate 89 (.map (some lb)) (plKey r.pl r.ts.length) r.v).run Tryz.prog w = .ok () { w with heap := w.heap.setIfInBounds lb (.map (es.push { key := plKey r.pl r.ts.length, val := r.v, born := clock }) (clock + 1)) } := by
  simp [Instr.mapUpdate, run_underlying Tryz.underlying89, MapKept.run_getObj_map hb, hc, h1, MapKept.run_setObj_map _ hb, Result.andThen]
 obtain ⟨n1, n2⟩ := MapKept.heap_set (o' := .map (es.push { key := plKey r.pl r.ts.length, val := r.v, born := clock }) (clock + 1)) hb
 refine ⟨_, hr, ⟨_, _, n1, ?_⟩, ⟨rfl, rfl, rfl, by simp, fun b hb => n2 b hb⟩⟩
 rw [Array.toList_push, List.map_append, List.map_append, hes]
 rfl
theorem MkAt.rows {C : MkC} {w : World} {M : Mk} (h : MkAt C w M) : ∀ r ∈ M.L, RowsOf w (some r.pl) := by
 intro r hr x hx
 simp only [Option.some.injEq] at hx
 subst hx
 obtain ⟨cap, q⟩ := (h.ls r hr).types
 rcases q with ⟨e, _⟩ | ⟨b, off, cap', e, _, hb, _⟩
 ·have := (h.ls r hr).pos
  rw [e] at this
  simp at this
 ·simp only [Value.slice.injEq, Option.some.injEq] at e
  rw [e.1]
  exact hb
def newMk (w : World) : World := (((w.alloc (.map #[] 0)).alloc (.map #[] 0)).alloc (.map #[] 0)).alloc (.cells #[.slice none 0 0, .map (some w.heap.size), .map (some (w.heap.size + 1)), .map (some (w.heap.size + 2))] 92)
theorem newMk_below (w : World) : Below w.heap.size w (newMk w) := ((((Below.refl _ _).alloc (Nat.le_refl _) _).alloc (by simp) _).alloc (by simp; omega) _).alloc (by simp; omega) _
theorem newMk_size (w : World) : (newMk w).heap.size = w.heap.size + 4 := by simp [newMk]
set_option maxHeartbeats 800000 in
set_option maxRecDepth 100000 in
theorem implNewMaker (w : World) : Calls Tryz.prog 40 #[] w fun e w' => e = .returned (.pointer (some ⟨w.heap.size + 3, 0, none⟩)) ∧ w' = newMk w := by
 have hmm := @run_makeMap Tryz.prog
 go_enter Tryz.func40, Tryz.ntmps40
 go_wp2_with fail
 go_ret
 exact ⟨rfl, rfl⟩
theorem ret_place {R : Ending → World → Prop} {W : World} {tmps : Array Value} {b : Nat} {x0 x1 : Value} (hp : tmps[2]?.getD undef = .pointer (some ⟨b, 0, none⟩))
  (h : W.cell? ⟨b, 0, none⟩ = some x0 ∧ W.cell? ⟨b, 1, none⟩ = some x1) (hR : R (.returned (.agg #[x0, x1])) W) :
  bodyPost Tryz.prog Tryz.f69 R .ret { tmps := tmps, defers := [] } W := by
 obtain ⟨h0, h1⟩ := h
 refine bodyPost_ret (v := .agg #[x0, x1]) ?_ rfl hR
 simp [results, Tryz.results69, go_sem, hp, h0, h1]
set_option maxHeartbeats 800000 in
set_option maxRecDepth 100000 in
theorem implPlaceOf (b off l cap : Nat) (w : World) (hl : 0 < l) : Calls Tryz.prog 69 #[.slice (some ⟨b, off, none⟩) l cap] w fun e w' => e = .returned (.agg #[.pointer (some ⟨b, off, none⟩), .int .i64 l]) ∧ Below w.heap.size w w' := by
 have hz : ((l : Int) == 0) = false := by rw [beq_eq_false_iff_ne]; omega
 have hR1 : (w.alloc (.cells #[.pointer none, .int .i64 0] 105)).heap[w.heap.size]? = some (.cells #[.pointer none, .int .i64 0] 105 (0, 0)) := (MapKept.heap_alloc w _).1
 have hf : ∀ j, (w.alloc (.cells #[.pointer none, .int .i64 0] 105)).frozen? ⟨w.heap.size, j, none⟩ = false := fun j => frozen_of_row _ _ j _ _ hR1
 clear hR1
 go_enter Tryz.func69, Tryz.ntmps69
 go_wp2_with fail
 exact ret_place rfl ⟨by rw [cellNew _ rfl]; rfl, by rw [cellNew _ rfl]; rfl⟩ ⟨rfl, (Below.refl _ _).alloc (Nat.le_refl _) _⟩
theorem methBase (k : Int) (a : Addr) (w : World) (ha : a.off = 0) : Sem.run Tryz.prog (Go.method 361 (ptT k) (.pointer (some a)) "loop.example/g00276/impl.base") w = .ok (210, .pointer (some a)) w := by
 obtain ⟨b, off, p⟩ := a
 simp only at ha
 subst ha
 unfold ptT
 repeat' split
 all_goals kernel_rfl
set_option maxHeartbeats 800000 in
set_option maxRecDepth 100000 in
theorem implBase (a : Addr) (w : World) : Calls Tryz.prog 210 #[.pointer (some a)] w fun e w' => e = .returned (.pointer (some a)) ∧ w' = w := by
 go_enter Tryz.func210, Tryz.ntmps210
 go_wp2_with fail
 go_ret
 exact ⟨rfl, rfl⟩
theorem FormOk.cells {C : MkC} {w : World} {M : Mk} {k : Nat} {r : FRec} (h : FormOk C w M k r) : w.cell? ⟨r.blk, 0, none⟩ = some (.int .i64 k) ∧ w.cell? ⟨r.blk, 1, none⟩ = some r.vk ∧ w.cell? ⟨r.blk, 2, none⟩ = some (.int .i64 (Ty.hi r.ty)) := by
 obtain ⟨vp, sz, h1, _⟩ := h.obj
 refine ⟨?_, ?_, ?_⟩
 ·rw [cell_of_row w r.blk 0 _ _ (0, 0) h1]; simp [FRec.cells]
 ·rw [cell_of_row w r.blk 1 _ _ (0, 0) h1]; simp [FRec.cells]
 ·rw [cell_of_row w r.blk 2 _ _ (0, 0) h1]; simp [FRec.cells]
theorem VRow.open {A : Nat → Prop} {w : World} {v : Value} {l : List Value} (h : VRow A w v l) : ∃ a cap, v = .slice a l.length cap ∧ ∀ j (hj : j < l.length), ∃ b, a = some ⟨b, 0, none⟩ ∧ A b ∧ w.cell? ⟨b, j, none⟩ = some l[j] := by
 rcases h with ⟨e, a, cap, e2⟩ | ⟨b, cap, e, _, ha, hc⟩
 ·subst e
  exact ⟨a, cap, e2, fun j hj => absurd hj (by simp)⟩
 ·exact ⟨_, cap, e, fun j hj => ⟨b, rfl, ha, hc j hj⟩⟩
theorem VRow.cap {A : Nat → Prop} {w : World} {a : Option Addr} {n c : Nat} {l : List Value} (h : VRow A w (.slice a n c) l) (hl : 0 < l.length) : n ≤ c := by
 rcases h with ⟨e, _⟩ | ⟨b, cap, e, hle, _⟩
 ·rw [e] at hl; simp at hl
 ·simp only [Value.slice.injEq] at e
  omega
theorem take_more {ts : List Ty} {k : Nat} (h : k < ts.length) : hiMost (ts.take (k + 1)) = max (hiMost (ts.take k)) (Ty.hi ts[k]) := by
 unfold hiMost
 rw [List.take_succ_eq_append_getElem h, List.foldl_append]
 rfl
set_option maxHeartbeats 1600000 in
set_option maxRecDepth 100000 in
theorem implHeightOf (C : MkC) (M : Mk) (v : Value) (ks : List Nat) (ts : List Ty) (A : Nat → Prop) (w : World) (hM : MkAt C w M) (hv : VRow A w v (ks.map (valAt M.F))) (hk : KidsOf M.F ks ts) (hl : ks.length ≤ 281474976710656) :
  Calls Tryz.prog 118 #[v] w fun e w' => e = .returned (.int .i64 (hiMost ts)) ∧ w' = w := by
 obtain ⟨av, capv, rfl, hel⟩ := hv.open
 rw [List.length_map] at *
 have hle : ts.length = ks.length := hk.1.symm
 have HEL : Hid (∀ k, k < ts.length → ∃ b T bb, av = some ⟨b, 0, none⟩ ∧ w.cell? ⟨b, k, none⟩ = some (.iface T (.pointer (some ⟨bb, 0, none⟩))) ∧ (∀ wx : World, Sem.run Tryz.prog (Go.method 361 T (.pointer (some ⟨bb, 0, none⟩)) "loop.example/g00276/impl.base") wx = .ok (210, .pointer (some ⟨bb, 0, none⟩)) wx) ∧ ∃ t : Ty, ts[k]? = some t ∧ w.cell? ⟨bb, 2, none⟩ = some (.int .i64 (Ty.hi t)) ∧ Ty.hi t ≤ 12) := fun k hk' => by
  obtain ⟨b, e1, _, e2⟩ := hel k (by rw [List.length_map]; omega)
  obtain ⟨r, e3, e4⟩ := hk.2 k (by omega)
  have hF := hM.each _ r e3
  refine ⟨b, ptT r.ty.kind, r.blk, e1, ?_, fun wx => methBase _ _ _ rfl, r.ty, e4, hF.cells.2.2, hF.ok.hi_le⟩
  rw [e2, List.getElem_map, valAt_some e3]
  rfl
 have hcap : ks.length ≤ 281474976710656 := hl
 have HLE : Hid (ts.length = ks.length) := hle
 have hm0 : hiMost (ts.take 0) = 0 := rfl
 have HB : Hid (∀ (a : Addr) (wx : World), Calls Tryz.prog 210 #[.pointer (some a)] wx fun e w' => e = .returned (.pointer (some a)) ∧ w' = wx) := implBase
 clear hel hk hM hv hle
 generalize ks.length = nk at *
 go_enter Tryz.func118, Tryz.ntmps118
 go_wp2_with fail
 go_loopw [3, 8] (fun m i wr => ∃ k : Nat, k ≤ nk ∧ i = .int .i64 k ∧ m = .int .i64 (hiMost (ts.take k)) ∧ hiMost (ts.take k) ≤ 12 ∧ wr = w) (fun _ i _ => nk - (intOf i).toNat)
 case atStart => exact ⟨0, Nat.zero_le _, rfl, by rw [hm0]; rfl, by rw [hm0]; omega, rfl⟩
 case round =>
  obtain ⟨k, hkn, rfl, rfl, h12, rfl⟩ := hrel
  by_cases hlt : k < nk
  ·obtain ⟨b, T, bb, rfl, c0, hmeth, t, et, c2, ht12⟩ := HEL.out k (by rw [HLE.out]; exact hlt)
   have hmt := hmeth wr
   have HN0 : hiMost (ts.take (k + 1)) = max (hiMost (ts.take k)) (Ty.hi t) := by
    have hlt2 : k < ts.length := by rw [HLE.out]; exact hlt
    rw [List.getElem?_eq_getElem hlt2, Option.some.injEq] at et
    rw [take_more hlt2, et]
   have HN : Hid (type_of% HN0) := HN0
   clear et hmeth HEL HN0
   generalize hiMost (ts.take k) = m at *
   generalize Ty.hi t = ht at *
   go_wp2_with (go_at_call 210; refine (HB.out _ _).mono ?_; rintro e w2 ⟨rfl, rfl⟩)
   go_roundw
   case rel => exact ⟨k + 1, by omega, by go_num, by rw [HN.out]; congr 1; omega, by rw [HN.out]; omega, by simp⟩
   case measure => simp [intOf]; omega
  ·have e : ts.take k = ts := List.take_of_length_le (by rw [HLE.out]; omega)
   rw [e] at *
   clear HEL
   go_wp2_with fail
   go_ret
   exact ⟨rfl, rfl⟩
def rawCells (kd : Int) (nm : ByteArray) (vk vn : Value) : Array Value := ([.int .i64 0, vk, .int .i64 0, .slice none 0 0, .int .i64 0] ++ (if kd = 4 then [.string nm] else if kd = 5 then [vn] else [])).toArray
set_option maxHeartbeats 1600000 in
set_option maxRecDepth 100000 in
theorem implNewForm (kd : Int) (nm : ByteArray) (ak : Option Addr) (lk ck : Nat) (an : Option Addr) (ln cn : Nat) (w : World) (hk0 : 0 ≤ kd) (hk7 : kd ≤ 7) (h4 : kd = 4 → 0 < ln ∧ ∃ b off, an = some ⟨b, off, none⟩ ∧ w.cell? ⟨b, off, none⟩ = some (.string nm)) :
  Calls Tryz.prog 124 #[.int .i64 kd, .slice ak lk ck, .slice an ln cn] w fun e w' => ∃ b, e = .returned (.iface (ptT kd) (.pointer (some ⟨b, 0, none⟩))) ∧ w.heap.size ≤ b ∧ w'.heap[b]? = some (.cells (rawCells kd nm (.slice ak lk ck) (.slice an ln cn)) (stT kd) (0, 0)) ∧ Below w.heap.size w w' := by
 obtain ⟨W1, hW1⟩ : ∃ W1, W1 = w.alloc (.cells #[.int .i64 0, .slice ak lk ck, .int .i64 0, .slice none 0 0, .int .i64 0] 165) := ⟨_, rfl⟩
 have hb1 : Below w.heap.size w W1 := by rw [hW1]; exact (Below.refl _ _).alloc (Nat.le_refl _) _
 have hend : ∀ (arr : Array Value) (T : TypeId), (W1.alloc (.cells arr T)).heap[w.heap.size + 1]? = some (.cells arr T (0, 0)) := fun arr T => by
  have := (MapKept.heap_alloc W1 (.cells arr T)).1
  rw [hW1] at this ⊢
  simpa using this
 have HEND : Hid (type_of% hend) := hend
 have HB : Hid (∀ (arr : Array Value) (T : TypeId), Below w.heap.size w (W1.alloc (.cells arr T))) := fun arr T => hb1.alloc hb1.size _
 clear hend
 obtain rfl | rfl | rfl | rfl | rfl | rfl | rfl | rfl : kd = 0 ∨ kd = 1 ∨ kd = 2 ∨ kd = 3 ∨ kd = 4 ∨ kd = 5 ∨ kd = 6 ∨ kd = 7 := by omega
 ·clear hb1 h4
  subst hW1
  go_enter Tryz.func124, Tryz.ntmps124
  go_wp2_with fail
  go_ret
  exact ⟨w.heap.size + 1, rfl, by omega, HEND.out _ _, HB.out _ _⟩
 ·clear hb1 h4
  subst hW1
  go_enter Tryz.func124, Tryz.ntmps124
  go_wp2_with fail
  go_ret
  exact ⟨w.heap.size + 1, rfl, by omega, HEND.out _ _, HB.out _ _⟩
 ·clear hb1 h4
  subst hW1
  go_enter Tryz.func124, Tryz.ntmps124
  go_wp2_with fail
  go_ret
  exact ⟨w.heap.size + 1, rfl, by omega, HEND.out _ _, HB.out _ _⟩
 ·clear hb1 h4
  subst hW1
  go_enter Tryz.func124, Tryz.ntmps124
  go_wp2_with fail
  go_ret
  exact ⟨w.heap.size + 1, rfl, by omega, HEND.out _ _, HB.out _ _⟩
 ·obtain ⟨hl, b, off, rfl, hc⟩ := h4 rfl
  have hc1 := (hb1.cell (p := ⟨b, off, none⟩) (World.block_lt_of_cell? w ⟨b, off, none⟩ hc)).trans hc
  have hli : (0 : Int) < (ln : Int) := by omega
  clear hb1 hc
  subst hW1
  go_enter Tryz.func124, Tryz.ntmps124
  go_wp2_with fail
  go_region
  all_goals go_wp2_with fail
  all_goals go_ret
  all_goals exact ⟨w.heap.size + 1, rfl, by omega, HEND.out _ _, (HB.out _ _).drew⟩
 ·clear hb1 h4
  subst hW1
  go_enter Tryz.func124, Tryz.ntmps124
  go_wp2_with fail
  go_ret
  exact ⟨w.heap.size + 1, rfl, by omega, HEND.out _ _, HB.out _ _⟩
 ·clear hb1 h4
  subst hW1
  go_enter Tryz.func124, Tryz.ntmps124
  go_wp2_with fail
  go_ret
  exact ⟨w.heap.size + 1, rfl, by omega, HEND.out _ _, HB.out _ _⟩
 ·clear hb1 h4
  subst hW1
  go_enter Tryz.func124, Tryz.ntmps124
  go_wp2_with fail
  go_ret
  exact ⟨w.heap.size + 1, rfl, by omega, HEND.out _ _, HB.out _ _⟩
end Go.Proofs.YtbojmbeopnlmiaaGreatDoor
