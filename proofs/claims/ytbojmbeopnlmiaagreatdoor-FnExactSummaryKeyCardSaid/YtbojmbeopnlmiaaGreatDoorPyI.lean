/-
 The walk of impl.putType.
-/
import Derived.Test.YtbojmbeopnlmiaaGreatDoorPlain
import Derived.Lib.ConvBytes
import Derived.Test.YtbojmbeopnlmiaaGreatDoorEnvQ
namespace Go.Proofs.YtbojmbeopnlmiaaGreatDoor
open Go.RowKit Go.Shelf
def atB (B : Nat) : MkC := ⟨B, 0, 0, 0, 0⟩
theorem block4T {W : World} {b : Nat} {x0 x1 x2 x3 : Value} (h : W.heap[b]? = some (.cells #[x0, x1, x2, x3] 30 (0, 0))) : W.cell? ⟨b, 0, none⟩ = some x0 ∧ W.cell? ⟨b, 1, none⟩ = some x1 ∧ W.cell? ⟨b, 2, none⟩ = some x2 ∧ W.cell? ⟨b, 3, none⟩ = some x3 := by
 refine ⟨?_, ?_, ?_, ?_⟩
 ·rw [cell_of_row W b 0 _ _ (0, 0) h]; rfl
 ·rw [cell_of_row W b 1 _ _ (0, 0) h]; rfl
 ·rw [cell_of_row W b 2 _ _ (0, 0) h]; rfl
 ·rw [cell_of_row W b 3 _ _ (0, 0) h]; rfl
theorem byteF_of {B : Nat} {w w' : World} (h : Below w.heap.size w w') (hB : B ≤ w.heap.size) : ByteF (atB B) w w' := ⟨h.mono hB, fun b _ hb _ _ => (h.block b (Array.getElem?_eq_some_iff.1 hb).1).trans hb⟩
def OwnT (w : World) (base : Nat) (e : TypeId) (size : Nat) (v : Value) (n : Nat) (xs : List Value) : Prop :=
 xs.length = n * size ∧ ((v = .slice none 0 0 ∧ n = 0) ∨ ∃ g cap cur fz, v = .slice (some ⟨g, 0, none⟩) n cap ∧ base ≤ g ∧ w.heap[g]? = some (.cells cur e fz) ∧ (fz = (0, 0) ∨ cur.size ≤ fz.1) ∧ n ≤ cap ∧ cap ≤ maxLen ∧ cur.size = cap * size ∧ cur.toList.take (n * size) = xs)
section
variable {w : World} {base : Nat} {e : TypeId} {size : Nat} {v : Value} {n : Nat} {xs : List Value}
theorem OwnT.of (h : w.ownsRow base e size v n xs) : OwnT w base e size v n xs := by
 refine ⟨h.1, ?_⟩
 rcases h.2 with hn | ⟨g, cap, cur, hv, hb, hg, rest⟩
 ·exact .inl hn
 ·exact .inr ⟨g, cap, cur, (0, 0), hv, hb, hg, .inl rfl, rest⟩
theorem OwnT.lt (h : OwnT w base e size v n xs) : ∀ k, v.ownBlock = some k → base ≤ k ∧ k < w.heap.size := by
 intro k hk
 rcases h.2 with ⟨rfl, _⟩ | ⟨g, cap, cur, fz, rfl, hb, hg, _⟩
 ·simp [Value.ownBlock] at hk
 ·simp [Value.ownBlock] at hk
  subst hk
  exact ⟨hb, (Array.getElem?_eq_some_iff.1 hg).1⟩
theorem OwnT.kept {w' : World} {row : Option Nat} (h : OwnT w base e size v n xs) (hg : w.grownBy w' row) (hne : v.ownBlock = none ∨ v.ownBlock ≠ row) : OwnT w' base e size v n xs := by
 refine ⟨h.1, ?_⟩
 rcases h.2 with hn | ⟨g, cap, cur, fz, rfl, hb, hgg, rest⟩
 ·exact .inl hn
 ·refine .inr ⟨g, cap, cur, fz, rfl, hb, ?_, rest⟩
  rw [hg.block g (Array.getElem?_eq_some_iff.1 hgg).1 (by simpa [Value.ownBlock] using hne)]
  exact hgg
theorem OwnT.alloc (h : OwnT w base e size v n xs) (o : Obj) : OwnT (w.alloc o) base e size v n xs :=
 h.kept (World.grownBy_alloc w o none) (by cases hv : v.ownBlock <;> simp)
theorem OwnT.cells (h : OwnT w base e size v n xs) {g : Nat} (hg : v.ownBlock = some g) : ∀ j u, xs[j]? = some u → w.cell? ((⟨g, 0, none⟩ : Addr).add j) = some u := by
 intro j u hu
 rcases h.2 with ⟨rfl, _⟩ | ⟨g', cap, cur, fz, rfl, _, hgg, _, _, _, _, htake⟩
 ·simp [Value.ownBlock] at hg
 ·simp [Value.ownBlock] at hg
  subst hg
  have hadd : (⟨g', 0, none⟩ : Addr).add j = ⟨g', j, none⟩ := by unfold Addr.add; split <;> simp_all
  rw [hadd, cell_of_row w g' j cur e fz hgg]
  rw [← htake, List.getElem?_take] at hu
  split at hu
  ·simpa using hu
  ·cases hu
theorem OwnT.on {w' : World} (h : OwnT w base e size v n xs) (hb : Below w.heap.size w w') : OwnT w' base e size v n xs := by
 refine ⟨h.1, ?_⟩
 rcases h.2 with hn | ⟨g, cap, cur, fz, rfl, hB, hgg, rest⟩
 ·exact .inl hn
 ·refine .inr ⟨g, cap, cur, fz, rfl, hB, ?_, rest⟩
  rw [hb.block g (Array.getElem?_eq_some_iff.1 hgg).1]
  exact hgg
theorem OwnT.slice (h : OwnT w base e size v n xs) : ∃ a c, v = .slice a n c := by
 rcases h.2 with ⟨h, h0⟩ | ⟨g, cap, cur, fz, h, _⟩
 ·exact ⟨none, 0, by rw [h, h0]⟩
 ·exact ⟨_, cap, h⟩
theorem OwnT.pos (h : OwnT w base e size v n xs) (hn : 0 < n) : ∃ g cap, v = .slice (some ⟨g, 0, none⟩) n cap := by
 rcases h.2 with ⟨_, h0⟩ | ⟨g, cap, cur, fz, hv, _⟩
 ·omega
 ·exact ⟨g, cap, hv⟩
end
theorem ByteF.grownT {C : MkC} {a w w' : World} {v : Value} {n : Nat} {xs : List Value} (h : ByteF C a w) (hB : C.B ≤ w.heap.size) (ho : OwnT w C.B 5 1 v n xs) (hg : w.grownBy w' v.ownBlock) : ByteF C a w' := by
 refine ⟨h.below.grown hg hB fun k hk => (ho.lt k hk).1, h.others.grown hg fun g hg' => ?_⟩
 rcases ho.2 with ⟨rfl, _⟩ | ⟨g', cap, cur, fz, rfl, _, hh, _⟩
 ·simp [Value.ownBlock] at hg'
 ·simp only [Value.ownBlock, Option.some.injEq] at hg'
  subst hg'
  exact ⟨_, _, hh⟩
theorem run_storeCells_atT (P : Program) (g o : Nat) (t : TypeId) (fz : Nat × Nat) : ∀ (vs : List Value) (i : Nat) (cur : Array Value) (w : World), w.heap[g]? = some (.cells cur t fz) → (fz = (0, 0) ∨ cur.size ≤ fz.1) → o + i + vs.length ≤ cur.size → (∀ v ∈ vs, v.oneCell' = true) →
  (storeCells ⟨g, o, none⟩ vs i).run P w = .ok () (w.setRow g (cur.toList.take (o + i) ++ vs ++ cur.toList.drop (o + i + vs.length)).toArray)
 | [], i, cur, w, hg, _, _, _ => by
  simp only [storeCells, List.append_nil, List.length_nil, Nat.add_zero, List.take_append_drop, Array.toArray_toList]
  rw [setRow_self w g cur t fz hg]
  rfl
 | v :: rest, i, cur, w, hg, hfz, hl, h1 => by
  have hi : o + i < cur.size := by simp at hl; omega
  have hadd : (⟨g, o, none⟩ : Addr).add i = ⟨g, o + i, none⟩ := by unfold Addr.add; split <;> simp_all
  have hcell : w.cell? ⟨g, o + i, none⟩ = some cur[o + i] := by simp [World.cell?, hg, hi]
  have hfro : w.frozen? ⟨g, o + i, none⟩ = false := by
   obtain ⟨lo, hi'⟩ := fz
   simp only [World.frozen?, hg, Bool.and_eq_false_iff, decide_eq_false_iff_not]
   rcases hfz with h | h
   ·right
    simp only [Prod.mk.injEq] at h
    omega
   ·left
    simp only at h
    omega
  have hst : (store ((⟨g, o, none⟩ : Addr).add i) v).run P w = .ok () (w.setRow g (cur.setIfInBounds (o + i) v)) := by
   rw [hadd, run_store P w _ v _ (h1 v (by simp)), hcell]
   simp [hfro, setCell_eq_setRow w g (o + i) cur t fz v hg]
  have ih := run_storeCells_atT P g o t fz rest (i + 1) (cur.setIfInBounds (o + i) v) (w.setRow g (cur.setIfInBounds (o + i) v)) (setRow_heap w g cur _ t _ hg) (by simpa using hfz) (by simp at hl ⊢; omega) (fun x hx => h1 x (by simp [hx]))
  simp only [storeCells, Sem.run_bind, hst, Result.andThen_ok, ih, setRow_setRow]
  congr 3
  have e := list_seg_step cur.toList (o + i) v rest (by simp at hl ⊢; omega)
  simpa [Array.toList_setIfInBounds, Nat.add_assoc] using e
section
variable {P : Program} (w : World)
theorem run_append_room_stringT (t u ty e : TypeId) (i : TypeInfo) (ht : P.underlying t = some (.slice e)) (hu : P.underlying u = some .string) (hi : P.info? e = some i) (hs1 : i.size = 1)
  (g sLen sCap : Nat) (cur : Array Value) (fz : Nat × Nat) (hg : w.heap[g]? = some (.cells cur e fz)) (hfz : fz = (0, 0) ∨ cur.size ≤ fz.1) (s : ByteArray)
  (hroom : sLen + s.size ≤ sCap) (hfit : sLen + s.size ≤ cur.size) :
  (Builtin.append_ #[t, u] ty #[.slice (some ⟨g, 0, none⟩) sLen sCap, .string s]).run P w =
   .ok (.slice (some ⟨g, 0, none⟩) (sLen + s.size) sCap) (w.setRow g (cur.toList.take sLen ++ Lib.strCells s ++ cur.toList.drop (sLen + s.size)).toArray) := by
 have hf := Lib.run_firstCells_string (P := P) w 1 s
 have hst := run_storeCells_atT P g sLen e fz (Lib.strCells s) 0 cur w hg hfz (by simpa [Lib.strCells_length] using hfit) (Lib.strCells_oneCell s)
 simp only [Nat.add_zero, Lib.strCells_length] at hst
 simp [Builtin.append_, run_underlying ht, run_underlying hu, sizeOf, typeInfo, hi, hs1, Builtin.lenOf, hroom, hf, Addr.add_lit, hst]
theorem run_append_own_stringT (base : Nat) (t u ty e : TypeId) (i : TypeInfo) (ht : P.underlying t = some (.slice e)) (hu : P.underlying u = some .string) (hi : P.info? e = some i) (hz : i.zero = some (.int .u8 0))
  (hsize : i.size = 1) (hby : i.bytes = 1)
  (v : Value) (n : Nat) (xs : List Value) (hown : OwnT w base e 1 v n xs) (s : ByteArray)
  (h63 : n + s.size ≤ maxLen) (hbytes : n + s.size ≤ 140737488355328) (hbase : base ≤ w.heap.size) :
  ∃ v' w', (Builtin.append_ #[t, u] ty #[v, .string s]).run P w = .ok v' w' ∧ OwnT w' base e 1 v' (n + s.size) (xs ++ Lib.strCells s) ∧ w.grownBy w' v.ownBlock := by
 rcases hown.2 with ⟨rfl, rfl⟩ | ⟨g, cap, cur, fz, rfl, hbg, hg, hfz, hnc, hcm, hcs, htake⟩
 ·obtain ⟨v', w', h1, h2, h3, _⟩ := Lib.run_append_own_string (P := P) w base t u ty e i ht hu hi hz hsize hby (.slice none 0 0) 0 xs ⟨hown.1, .inl ⟨rfl, rfl⟩⟩ s h63 hbytes hbase
  exact ⟨v', w', h1, OwnT.of h2, h3⟩
 ·have hsmall : n + s.size ≤ 9223372036854775807 := by simp only [maxLen] at h63; omega
  have hxl : xs.length = n := by simpa using hown.1
  have hlen : (xs ++ Lib.strCells s).length = (n + s.size) * 1 := by rw [List.length_append, hxl, Lib.strCells_length, Nat.mul_one]
  by_cases hroom : n + s.size ≤ cap
  ·have hcs' : cur.size = cap := by simpa using hcs
   have hr := run_append_room_stringT (P := P) w t u ty e i ht hu hi hsize g n cap cur fz hg hfz s hroom (by omega)
   have hsz : (cur.toList.take n ++ Lib.strCells s ++ cur.toList.drop (n + s.size)).toArray.size = cur.size := by
    simp only [List.size_toArray, List.length_append, List.length_take, List.length_drop, Array.length_toList, Lib.strCells_length]
    omega
   refine ⟨_, _, hr, ⟨hlen, .inr ⟨g, cap, _, fz, rfl, hbg, setRow_heap w g cur _ e _ hg, by rw [hsz]; exact hfz, hroom, hcm, by rw [hsz]; exact hcs, ?_⟩⟩, ⟨rfl, rfl, rfl, by simp, fun k _ hk => setRow_other w g k _ (fun e => hk (by simp [Value.ownBlock, e]))⟩⟩
   have ht' : cur.toList.take n = xs := by simpa using htake
   rw [ht', ← hlen]
   exact List.take_left
  ·have holds : ∀ j u, xs[j]? = some u → w.cell? ((⟨g, 0, none⟩ : Addr).add j) = some u := hown.cells (g := g) rfl
   have hr := Lib.run_append_grow_string (P := P) w t u ty e i (.int .u8 0) ht hu hi hz ⟨g, 0, none⟩ n cap xs (by rw [hsize]; simpa using hxl) holds s (by omega) (by omega) (by rw [hby]; exact growslice_fits (by omega) (by omega))
   have hge := grownCap_ge w (n + s.size) cap e
   have hcm2 : grownCap w (n + s.size) cap e ≤ maxLen := grownCap_le_maxLen w (n + s.size) cap e h63
   refine ⟨_, _, hr, ⟨hlen, .inr ⟨w.heap.size, _, _, (0, 0), rfl, hbase, heap_alloc_new w.drew _, .inl rfl, hge, hcm2, ?_, ?_⟩⟩, ⟨rfl, rfl, rfl, by simp, fun k hk _ => heap_alloc_old w.drew _ hk⟩⟩
   ·have hz1 : (Value.int IntKind.u8 0).cells.size = 1 := rfl
    simp only [Array.size_append, List.size_toArray, size_zeroCells, hz1, hxl, Lib.strCells_length]
    omega
   ·simp only [Array.toList_append, List.append_assoc]
    rw [← List.append_assoc, ← hlen]
    exact List.take_left
theorem wpList_append_own_stringT {ops : Array Oper} {rest : List Oper} {o : Oper} {a : Act} {Q : Exit → Act → World → Prop} (hgd : o.guard = none) (sl x : Operand) (t u : TypeId)
  (ho : o.op = .call { callee := .builtin .append, args := #[sl, x], argTypes := #[t, u] })
  (base : Nat) (e : TypeId) (i : TypeInfo) (ht : P.underlying t = some (.slice e)) (hu : P.underlying u = some .string) (hi : P.info? e = some i) (hz : i.zero = some (.int .u8 0))
  (hsize : i.size = 1) (hby : i.bytes = 1)
  (v : Value) (n : Nat) (xs : List Value) (hs : a.eval sl = v) (hown : OwnT w base e 1 v n xs) (s : ByteArray) (hx : a.eval x = .string s)
  (h63 : n + s.size ≤ maxLen) (hbytes : n + s.size ≤ 140737488355328) (hbase : base ≤ w.heap.size)
  (h : ∀ v' w', OwnT w' base e 1 v' (n + s.size) (xs ++ Lib.strCells s) → w.grownBy w' v.ownBlock → wpList P ops Q rest (a.put o.dst v') w') : wpList P ops Q (o :: rest) a w := by
 refine wpList_plain hgd fun K hK => ?_
 obtain ⟨v', w', hr, h2, h3⟩ := run_append_own_stringT (P := P) w base t u o.type e i ht hu hi hz hsize hby v n xs hown s h63 hbytes hbase
 unfold Oper.wp execOp
 simp only [ho, resolve, invoke, builtin, Sem.run_bind, Sem.run_pure, Result.andThen_ok, List.map_toArray, List.map_cons, List.map_nil, hs, hx, hr]
 exact hK _ _ (h v' w' h2 h3)
theorem run_append_roomT (t ty e : TypeId) (i : TypeInfo) (ht : P.underlying t = some (.slice e)) (hi : P.info? e = some i)
  (g sLen sCap : Nat) (cur : Array Value) (fz : Nat × Nat) (hg : w.heap[g]? = some (.cells cur e fz)) (hfz : fz = (0, 0) ∨ cur.size ≤ fz.1)
  (a : Addr) (m c : Nat) (news : List Value) (hl : news.length = m * i.size) (hnews : ∀ j u, news[j]? = some u → w.cell? (a.add j) = some u) (h1 : ∀ u ∈ news, u.oneCell' = true)
  (hroom : sLen + m ≤ sCap) (hfit : sLen * i.size + news.length ≤ cur.size) :
  (Builtin.append_ #[t, t] ty #[.slice (some ⟨g, 0, none⟩) sLen sCap, .slice (some a) m c]).run P w =
   .ok (.slice (some ⟨g, 0, none⟩) (sLen + m) sCap) (w.setRow g (cur.toList.take (sLen * i.size) ++ news ++ cur.toList.drop (sLen * i.size + news.length)).toArray) := by
 have hf := run_firstCells_some (P := P) w i.size m a m c news hl hnews
 have hst := run_storeCells_atT P g (sLen * i.size) e fz news 0 cur w hg hfz (by simpa using hfit) h1
 simp only [Nat.add_zero] at hst
 simp [Builtin.append_, run_underlying ht, sizeOf, typeInfo, hi, Builtin.lenOf, hroom, hf, Addr.add_lit, hst]
theorem run_append_ownT (base : Nat) (t ty e : TypeId) (i : TypeInfo) (z : Value) (size bytes : Nat) (ht : P.underlying t = some (.slice e)) (hi : P.info? e = some i) (hz : i.zero = some z)
  (hsize : i.size = size) (hby : i.bytes = bytes) (hzs : z.cells.size = size) (hsz : 0 < size)
  (v : Value) (n : Nat) (xs : List Value) (hown : OwnT w base e size v n xs)
  (a : Addr) (m c : Nat) (news : List Value) (hl : news.length = m * size) (hnews : ∀ j u, news[j]? = some u → w.cell? (a.add j) = some u) (h1 : ∀ u ∈ news, u.oneCell' = true)
  (h63 : n + m ≤ maxLen) (hbytes : (n + m) * bytes ≤ 140737488355328) (hbase : base ≤ w.heap.size) :
  ∃ v' w', (Builtin.append_ #[t, t] ty #[v, .slice (some a) m c]).run P w = .ok v' w' ∧ OwnT w' base e size v' (n + m) (xs ++ news) ∧ w.grownBy w' v.ownBlock := by
 rcases hown.2 with ⟨rfl, rfl⟩ | ⟨g, cap, cur, fz, rfl, hbg, hg, hfz, hnc, hcm, hcs, htake⟩
 ·obtain ⟨v', w', r1, r2, r3, _⟩ := run_append_own (P := P) w base t ty e i z size bytes ht hi hz hsize hby hzs hsz (.slice none 0 0) 0 xs ⟨hown.1, .inl ⟨rfl, rfl⟩⟩ a m c news hl hnews h1 h63 hbytes hbase
  exact ⟨v', w', r1, OwnT.of r2, r3⟩
 ·subst hsize
  subst hby
  have hsmall : n + m ≤ 9223372036854775807 := by simp only [maxLen] at h63; omega
  have hlen : (xs ++ news).length = (n + m) * i.size := by rw [List.length_append, hown.1, hl, Nat.add_mul]
  by_cases hroom : n + m ≤ cap
  ·have hfit : n * i.size + news.length ≤ cur.size := by rw [hl, hcs, ← Nat.add_mul]; exact Nat.mul_le_mul_right _ hroom
   have hr := run_append_roomT (P := P) w t ty e i ht hi g n cap cur fz hg hfz a m c news hl hnews h1 hroom hfit
   have hs2 : (cur.toList.take (n * i.size) ++ news ++ cur.toList.drop (n * i.size + news.length)).toArray.size = cur.size := by
    simp only [List.size_toArray, List.length_append, List.length_take, List.length_drop, Array.length_toList]
    omega
   refine ⟨_, _, hr, ⟨hlen, .inr ⟨g, cap, _, fz, rfl, hbg, setRow_heap w g cur _ e _ hg, by rw [hs2]; exact hfz, hroom, hcm, by rw [hs2]; exact hcs, ?_⟩⟩, ⟨rfl, rfl, rfl, by simp, fun k _ hk => setRow_other w g k _ (fun e => hk (by simp [Value.ownBlock, e]))⟩⟩
   rw [htake, ← hlen]
   exact List.take_left
  ·have holds : ∀ j u, xs[j]? = some u → w.cell? ((⟨g, 0, none⟩ : Addr).add j) = some u := hown.cells (g := g) rfl
   have hr := run_append_grow (P := P) w t ty e i z ht hi hz ⟨g, 0, none⟩ n cap xs hown.1 holds a m c news hl hnews (by omega) (by omega) (growslice_fits (by omega) hbytes)
   have hge := grownCap_ge w (n + m) cap e
   have hcm2 : grownCap w (n + m) cap e ≤ maxLen := grownCap_le_maxLen w (n + m) cap e h63
   refine ⟨_, _, hr, ⟨hlen, .inr ⟨w.heap.size, _, _, (0, 0), rfl, hbase, heap_alloc_new w.drew _, .inl rfl, hge, hcm2, ?_, ?_⟩⟩, ⟨rfl, rfl, rfl, by simp, fun k hk _ => heap_alloc_old w.drew _ hk⟩⟩
   ·simp only [Array.size_append, List.size_toArray, size_zeroCells, hzs, hown.1, hl, ← Nat.add_mul]
    congr 1
    omega
   ·simp only [Array.toList_append, List.append_assoc]
    rw [← List.append_assoc, ← hlen]
    exact List.take_left
theorem wpList_append_ownT {ops : Array Oper} {rest : List Oper} {o : Oper} {a : Act} {Q : Exit → Act → World → Prop} (hgd : o.guard = none) (s x : Operand) (t : TypeId)
  (ho : o.op = .call { callee := .builtin .append, args := #[s, x], argTypes := #[t, t] })
  (base : Nat) (e : TypeId) (i : TypeInfo) (z : Value) (size bytes : Nat) (ht : P.underlying t = some (.slice e)) (hi : P.info? e = some i) (hz : i.zero = some z)
  (hsize : i.size = size) (hby : i.bytes = bytes) (hzs : z.cells.size = size) (hsz : 0 < size)
  (v : Value) (n : Nat) (xs : List Value) (hs : a.eval s = v) (hown : OwnT w base e size v n xs)
  (ad : Addr) (m c : Nat) (news : List Value) (hx : a.eval x = .slice (some ad) m c) (hl : news.length = m * size) (hnews : ∀ j u, news[j]? = some u → w.cell? (ad.add j) = some u) (h1 : ∀ u ∈ news, u.oneCell' = true)
  (h63 : n + m ≤ maxLen) (hbytes : (n + m) * bytes ≤ 140737488355328) (hbase : base ≤ w.heap.size)
  (h : ∀ v' w', OwnT w' base e size v' (n + m) (xs ++ news) → w.grownBy w' v.ownBlock → wpList P ops Q rest (a.put o.dst v') w') : wpList P ops Q (o :: rest) a w := by
 refine wpList_plain hgd fun K hK => ?_
 obtain ⟨v', w', hr, h2, h3⟩ := run_append_ownT (P := P) w base t o.type e i z size bytes ht hi hz hsize hby hzs hsz v n xs hown ad m c news hl hnews h1 h63 hbytes hbase
 unfold Oper.wp execOp
 simp only [ho, resolve, invoke, builtin, Sem.run_bind, Sem.run_pure, Result.andThen_ok, List.map_toArray, List.map_cons, List.map_nil, hs, hx, hr]
 exact hK _ _ (h v' w' h2 h3)
end
theorem step_append_strT {P : Program} {ops : Array Oper} {o : Oper} {a : Act} {w : World} {K : Act → World → Prop} {Q : Exit → Act → World → Prop} {E : Prop}
  (hg : o.guard = none) (s x : Operand) (t u : TypeId) (hop : o.op = Op.call { callee := Callee.builtin Builtin.append, args := #[s, x], argTypes := #[t, u] })
  (base : Nat) (e : TypeId) (i : TypeInfo) (h1 : P.underlying t = some (.slice e)) (hu : P.underlying u = some .string) (h2 : P.info? e = some i) (h3 : i.zero = some (.int .u8 0)) (h4 : i.size = 1) (h5 : i.bytes = 1)
  (v : Value) (n : Nat) (xs : List Value) (hs : a.eval s = v) (hown : OwnT w base e 1 v n xs) (str : ByteArray) (hx : a.eval x = .string str)
  (b1 : n + str.size ≤ maxLen) (b2 : n + str.size ≤ 140737488355328) (b3 : base ≤ w.heap.size)
  (hK : ∀ v' w', OwnT w' base e 1 v' (n + str.size) (xs ++ Lib.strCells str) → w.grownBy w' v.ownBlock → K (a.put o.dst v') w') :
  if Region.wanted o (yielded ops a.tmps) = true then Oper.wp P o a w K Q else E := by
 have hw : Region.wanted o (yielded ops a.tmps) = true := by simp [Region.wanted, hg]
 rw [if_pos hw]
 obtain ⟨v', w', hrun, r1, r2⟩ := run_append_own_stringT (P := P) w base t u o.type e i h1 hu h2 h3 h4 h5 v n xs hown str b1 b2 b3
 unfold Oper.wp
 simp [execOp, hop, resolve, invoke, builtin, hs, hx, hrun, Result.andThen]
 exact hK v' w' r1 r2
theorem row_strT {w : World} {B : Nat} {v : Value} {l : List UInt8} {n : Nat} {s : ByteArray} (h : OwnT w B 5 1 v (n + s.size) (Lib.byteCells l ++ Lib.strCells s)) (hn : l.length = n) : OwnT w B 5 1 v (l ++ bt s).length (Lib.byteCells (l ++ bt s)) := by
 have e1 : (l ++ bt s).length = n + s.size := by rw [List.length_append, hn]; rfl
 have e2 : Lib.byteCells (l ++ bt s) = Lib.byteCells l ++ Lib.strCells s := by rw [byteCells_app]; rfl
 rw [e1, e2]
 exact h
theorem row_oneT {w : World} {B : Nat} {v : Value} {l : List UInt8} {n : Nat} {k : Int} (h : OwnT w B 5 1 v (n + 1) (Lib.byteCells l ++ [.int .u8 k])) (hn : l.length = n) (h0 : 0 ≤ k) (h7 : k ≤ 7) : OwnT w B 5 1 v (l ++ [UInt8.ofNat k.toNat]).length (Lib.byteCells (l ++ [UInt8.ofNat k.toNat])) := by
 have e1 : (l ++ [UInt8.ofNat k.toNat]).length = n + 1 := by rw [List.length_append, hn]; rfl
 have e2 : Lib.byteCells (l ++ [UInt8.ofNat k.toNat]) = Lib.byteCells l ++ [.int .u8 k] := by
  rw [byteCells_app]
  obtain rfl | rfl | rfl | rfl | rfl | rfl | rfl | rfl : k = 0 ∨ k = 1 ∨ k = 2 ∨ k = 3 ∨ k = 4 ∨ k = 5 ∨ k = 6 ∨ k = 7 := by omega
  all_goals rfl
 rw [e1, e2]
 exact h
theorem conv_ownT (w : World) (s : ByteArray) (hs : s.size ≤ 1000000000) : OwnT (Lib.bytesWorld w 5 s) w.heap.size 5 1 (.slice (some ⟨w.heap.size, 0, none⟩) s.size (grownCap w s.size 0 5)) (bt s).length (Lib.byteCells (bt s)) := by
 have hm : s.size ≤ maxLen := by unfold maxLen; omega
 have hge := grownCap_ge w s.size 0 5
 have hl : (bt s).length = s.size := rfl
 have hz : (Lib.bytesCells w 5 s).size = grownCap w s.size 0 5 * 1 := by
  have h0 : s.data.size = s.size := rfl
  simp only [Lib.bytesCells, Array.size_append, Array.size_map, Array.size_replicate, h0]
  omega
 refine ⟨by simp [Lib.byteCells], .inr ⟨w.heap.size, _, _, _, by rw [hl], Nat.le_refl _, Lib.bytesWorld_at_new w _ s, .inr (Nat.le_refl _), hge, grownCap_le_maxLen w _ 0 _ hm, hz, ?_⟩⟩
 have hb : (s.data.map fun b => Value.int .u8 b.toNat).toList = Lib.byteCells (bt s) := by simp [Lib.byteCells, bt]
 simp only [Lib.bytesCells, Array.toList_append, hb]
 rw [List.take_left' (by simp [Lib.byteCells])]
theorem conv_below (w : World) (s : ByteArray) : Below w.heap.size w (Lib.bytesWorld w 5 s) := by
 refine ⟨rfl, rfl, rfl, ?_, fun b hb => Lib.bytesWorld_at_old w _ s b hb⟩
 rw [Lib.bytesWorld_size]
 omega
theorem back_T {w : World} {B g cap : Nat} {V : List UInt8} (h : OwnT w B 5 1 (.slice (some ⟨g, 0, none⟩) V.length cap) V.length (Lib.byteCells V)) : Sem.run Tryz.prog (convert 51 9 (.slice (some ⟨g, 0, none⟩) V.length cap)) w = .ok (.string ⟨V.toArray⟩) w :=
 run_convert_bytes_back (P := Tryz.prog) w _ _ _ ⟨g, 0, none⟩ cap V Tryz.underlying51 Tryz.underlying5 Tryz.underlying9 (fun j hj => h.cells (g := g) rfl j _ (by simp [Lib.byteCells, hj]))
def PutPostT (B : Nat) (w : World) (L : List UInt8) (e : Ending) (w' : World) : Prop := ∃ v', e = .returned v' ∧ OwnT w' B 5 1 v' L.length (Lib.byteCells L) ∧ ByteF (atB B) w w'
def ImplPutAtT (n : Nat) : Prop := ∀ (A : Nat → Prop) (B : Nat) (v : Value) (l : List UInt8) (cs : List Value) (t : Ty) (d : Int) (w : World), TyR A w n cs t → (∀ b, A b → b < B) → Right n t d → d ≤ 12 → Ty.bulk n t ≤ 1048576 → B ≤ w.heap.size → OwnT w B 5 1 v l.length (Lib.byteCells l) → (l.length : Int) ≤ (20 - d) * 20000000 →
 Calls Tryz.prog 26 #[v, .agg cs.toArray] w (PutPostT B w (l ++ putTy n t))
set_option maxHeartbeats 3200000 in
set_option maxRecDepth 100000 in
theorem implPutStepT (n : Nat) (ih : ImplPutAtT n) (A : Nat → Prop) (B : Nat) (v : Value) (l : List UInt8) (kd : Int) (nm : ByteArray) (nms : List ByteArray) (ks : List Ty) (an ak : Option Addr) (cn ck : Nat) (d : Int) (w : World) (hTx : TextsR A w (.slice an nms.length cn) nms) (hrow : RowR A w (TyR A w n) (.slice ak ks.length ck) ks) (hA : ∀ b, A b → b < B) (hR : Right (n + 1) (.mk kd nm nms ks) d) (hd : d ≤ 12) (hb : Ty.bulk (n + 1) (.mk kd nm nms ks) ≤ 1048576) (hB : B ≤ w.heap.size) (hor : OwnT w B 5 1 v l.length (Lib.byteCells l)) (hl : (l.length : Int) ≤ (20 - d) * 20000000) :
  Calls Tryz.prog 26 #[v, .agg #[.int .i64 kd, .string nm, .slice an nms.length cn, .slice ak ks.length ck]] w (PutPostT B w (l ++ putTy (n + 1) (.mk kd nm nms ks))) := by
 obtain ⟨i0, hi0, hz0, hz1, hz2'⟩ := info_parts Tryz.infoByte
 have hd0 : 0 ≤ d := hR.1
 have hkd : (0 ≤ kd ∧ kd ≤ 4) ∨ kd = 5 ∨ kd = 6 ∨ kd = 7 := right_kinds hR
 have hbe : Ty.bulk (n + 1) (.mk kd nm nms ks) = nm.size + (nms.length + Ty.textsBulk nms) + rowBulk n ks := rfl
 have hrb : ks.length + (ks.map (Ty.bulk n)).sum ≤ 1048576 := by unfold rowBulk at hbe; omega
 have hkl : ks.length ≤ 1048576 := by omega
 have hll : l.length ≤ 400000000 := by omega
 obtain ⟨N, hN⟩ : ∃ N, N = l.length := ⟨_, rfl⟩
 have HN : Hid (l.length = N) := hN.symm
 rw [← hN] at hor hll
 obtain ⟨av, cv, rfl⟩ : ∃ a c, v = .slice a N c := by
  exact hor.slice
 obtain ⟨W, hW⟩ : ∃ W, W = w.alloc (.cells #[.int .i64 kd, .string nm, .slice an nms.length cn, .slice ak ks.length ck] 30) := ⟨_, rfl⟩
 have hbx : W.heap[w.heap.size]? = some (.cells #[.int .i64 kd, .string nm, .slice an nms.length cn, .slice ak ks.length ck] 30 (0, 0)) := by rw [hW]; exact (MapKept.heap_alloc w _).1
 have hF0 : ByteF (atB B) w W := by rw [hW]; exact (ByteF.refl _ _).alloc hB _
 have hoW : OwnT W B 5 1 (.slice av N cv) N (Lib.byteCells l) := by rw [hW]; exact hor.alloc _
 have hBW : B ≤ W.heap.size := Nat.le_trans hB hF0.below.size
 have HBX : Hid (∀ wx : World, ByteF (atB B) W wx → (wx.cell? ⟨w.heap.size, 0, none⟩ = some (.int .i64 kd) ∧ wx.cell? ⟨w.heap.size, 1, none⟩ = some (.string nm) ∧ wx.cell? ⟨w.heap.size, 2, none⟩ = some (.slice an nms.length cn) ∧ wx.cell? ⟨w.heap.size, 3, none⟩ = some (.slice ak ks.length ck)) ∧ ByteF (atB B) w wx ∧ B ≤ wx.heap.size ∧ w.heap.size + 1 ≤ wx.heap.size) := fun wx hx => ⟨block4T (hx.cells hbx (by decide)), hF0.trans hx, Nat.le_trans hBW hx.below.size, Nat.le_trans (by rw [hW]; simp) hx.below.size⟩
 have hb0 : W.heap.size = w.heap.size + 1 := by rw [hW]; simp
 have hwr : IntKind.u8.wrap kd = kd := by
  obtain h | h | h | h | h | h | h | h : kd = 0 ∨ kd = 1 ∨ kd = 2 ∨ kd = 3 ∨ kd = 4 ∨ kd = 5 ∨ kd = 6 ∨ kd = 7 := by omega
  all_goals subst h; rfl
 have HPT : Hid (∀ (s : ByteArray) (wx : World), s.size ≤ 1048576 → Calls Tryz.prog 45 #[.string s] wx fun e w' => e = .returned (.string (putT s)) ∧ Below wx.heap.size wx w') := fun s wx hs => implPutText s wx (by omega)
 have HPN : Hid (∀ wx : World, Calls Tryz.prog 46 #[.int .i64 (ks.length : Int)] wx fun e w' => e = .returned (.string (numB ks.length)) ∧ Below wx.heap.size wx w') := fun wx => implPutNum_yes ks.length wx (by omega)
 have hnm : nm.size ≤ 1048576 := by omega
 have HNS : Hid (∀ j (h : j < nms.length), nms[j].size ≤ 1048576) := fun j h => by
  have := textsBulk_mem nms nms[j] (List.getElem_mem h)
  omega
 have HT5 : Hid (kd = 5 → ∀ j (h : j < ks.length), ∃ (h2 : j < nms.length) (b off : Nat), an = some ⟨b, off, none⟩ ∧ b < B ∧ w.cell? ⟨b, off + j, none⟩ = some (.string nms[j])) := fun e j h => by
  have hf := hR.fine.1
  have hl : nms.length = ks.length := hf (by show kd = 5; exact e)
  rcases hTx with ⟨q, _⟩ | ⟨b, off, cap, q, hAb, hc⟩
  ·rw [q] at hl
   simp at hl
   omega
  ·simp only [Value.slice.injEq] at q
   exact ⟨by omega, b, off, q.1, hA b hAb, hc j (by omega)⟩
 have HEL : Hid (∀ k (hk : k < ks.length), ∃ bk ok an2 ln2 cn2 ak2 lk2 ck2, ak = some ⟨bk, ok, none⟩ ∧ bk < B ∧ TyR A w n [.int .i64 ks[k].kind, .string ks[k].name, .slice an2 ln2 cn2, .slice ak2 lk2 ck2] ks[k] ∧ w.cell? ⟨bk, ok + k * 4, none⟩ = some (.int .i64 ks[k].kind) ∧ w.cell? ⟨bk, ok + k * 4 + 1, none⟩ = some (.string ks[k].name) ∧ w.cell? ⟨bk, ok + k * 4 + 2, none⟩ = some (.slice an2 ln2 cn2) ∧ w.cell? ⟨bk, ok + k * 4 + 3, none⟩ = some (.slice ak2 lk2 ck2)) := fun k hk => by
  obtain ⟨a9, c9, e9, hel⟩ := rowROpen hrow
  simp only [Value.slice.injEq, true_and] at e9
  obtain ⟨rfl, rfl⟩ := e9
  obtain ⟨b, off, x0, x1, x2, x3, e, hAb, hty, c0, c1, c2, c3⟩ := hel k hk
  obtain ⟨an2, ln2, cn2, ak2, lk2, ck2, ee⟩ := hty.at.shape
  simp only [List.cons.injEq, and_true] at ee
  obtain ⟨rfl, rfl, rfl, rfl⟩ := ee
  exact ⟨b, off, an2, ln2, cn2, ak2, lk2, ck2, e, hA b hAb, hty, c0, c1, c2, c3⟩
 have HIH : Hid (∀ k (hk : k < ks.length) (v : Value) (L : List UInt8) (cs : List Value) (wx : World), TyR A w n cs ks[k] → ByteF (atB B) w wx → OwnT wx B 5 1 v L.length (Lib.byteCells L) → L.length ≤ N + 14000000 → Calls Tryz.prog 26 #[v, .agg cs.toArray] wx (PutPostT B wx (L ++ putTy n ks[k]))) := fun k hk v L cs wx h hx ho hL =>
  ih A B v L cs ks[k] (d - 1) wx (h.same fun b hb' => hx.below.block b (hA b hb')) hA (hR.2.1 _ (List.getElem_mem hk)) (by omega) (by have := kid_bulk n ks k hk; omega) (Nat.le_trans hB hx.below.size) ho (by rw [hN] at hL; omega)
 have HMO : Hid (∀ k (h : k < ks.length), putTo n (.mk kd nm nms ks) (k + 1) = putTo n (.mk kd nm nms ks) k ++ ((if decide (kd = 5) = true then bt (putT (nms.getD k ⟨#[]⟩)) else []) ++ putTy n ks[k])) := fun k h => putTo_more n (.mk kd nm nms ks) k h
 have HZ : Hid (putTo n (.mk kd nm nms ks) 0 = [UInt8.ofNat kd.toNat] ++ bt (numB ks.length)) := by
  show _ = _
  have := putTo_zero n (.mk kd nm nms ks)
  simpa using this
 have HSZ : Hid (∀ k, (putTo n (.mk kd nm nms ks) k).length ≤ 12582918) := fun k => by
  have := putTo_size n (.mk kd nm nms ks) k
  omega
 have HALL : Hid (4 < kd → putTo n (.mk kd nm nms ks) ks.length = putTy (n + 1) (.mk kd nm nms ks)) := fun h4 => putTo_all n _ (by show (4 : Int) < kd; exact h4)
 have HFEW : Hid (kd ≤ 3 → putTy (n + 1) (.mk kd nm nms ks) = [UInt8.ofNat kd.toNat]) := fun h3 => by
  show _ = _
  rw [putTy, if_pos (show (Ty.mk kd nm nms ks).kind ≤ 3 from h3)]
 have HNAM : Hid (kd = 4 → putTy (n + 1) (.mk kd nm nms ks) = [UInt8.ofNat kd.toNat] ++ bt (putT nm)) := fun h4 => by
  show _ = _
  rw [putTy, if_neg (show ¬ (Ty.mk kd nm nms ks).kind ≤ 3 from fun q => by have : kd ≤ 3 := q; omega), if_pos (show (Ty.mk kd nm nms ks).kind = 4 from h4)]
  rfl
 have HF0 : Hid (type_of% hF0) := hF0
 have HW : Hid (type_of% hW) := hW
 have HA0 : Hid (type_of% hoW) := hoW
 clear hTx hrow hA hR hbe hb hd hl ih hrb hF0 hd0 hW hN hbx hb0 hoW
 generalize putTy (n + 1) (.mk kd nm nms ks) = PT1 at *
 generalize hP : putTo n (.mk kd nm nms ks) = P at *
 clear hP
 go_enter Tryz.func26, Tryz.ntmps26
 go_wp2_with (at_builtin; refine wpList_append_ownT _ rfl _ _ 51 rfl B 5 i0 (.int .u8 0) 1 1 Tryz.underlying51 hi0 hz0 hz1 hz2' rfl (by decide) _ _ _ rfl ((hor.alloc _).alloc _) ⟨w.heap.size + 1, 0, none⟩ 1 1 [.int .u8 kd] rfl rfl ?c1 ?c2 ?c3 ?c4 ?c5 ?_)
 case c1 => exact one_cellK (cellNew 0 (by simp))
 case c2 => intro u hu; simp at hu; subst hu; rfl
 case c3 => unfold maxLen; omega
 case c4 => omega
 case c5 => simp; omega
 intro v1 w1 hown1 hgrow1
 have hW := HW.out
 rw [← hW] at hgrow1
 clear hW HW
 have hF1 : ByteF (atB B) W w1 := ((ByteF.refl (atB B) W).alloc hBW _).grownT (by show B ≤ _; simp; omega) (HA0.out.alloc _) hgrow1
 have hR1 := row_oneT hown1 HN.out (by omega) (by omega)
 obtain ⟨L1, hL1⟩ : ∃ L1, L1 = l ++ [UInt8.ofNat kd.toNat] := ⟨_, rfl⟩
 have HL1 : Hid (type_of% hL1) := hL1
 rw [← hL1] at hR1
 have hN1 : L1.length = N + 1 := by rw [hL1, List.length_append, HN.out]; rfl
 rw [hN1] at hR1
 have HN1 : Hid (type_of% hN1) := hN1
 clear hgrow1 hown1 hL1 hN1 HA0 hor
 obtain ⟨⟨a0, a1, a2, a3⟩, hFw1, hBw1, hzw1⟩ := HBX.out w1 hF1
 by_cases c3 : kd ≤ 3
 ·have HFIN : Hid (PutPostT B w (l ++ PT1) (.returned v1) w1) := ⟨v1, rfl, by rw [HFEW.out c3, ← HL1.out, HN1.out]; exact hR1, hFw1⟩
  obtain ⟨av1, cv1, rfl⟩ : ∃ a c, v1 = .slice a (N + 1) c := by
   obtain ⟨g, c, e⟩ := OwnT.pos hR1 (by omega)
   exact ⟨_, c, e⟩
  clear HPT HPN HNS HT5 HEL HIH HMO HZ HSZ HALL HFEW HNAM HF0 hR1 HBX
  obtain rfl | rfl | rfl | rfl : kd = 0 ∨ kd = 1 ∨ kd = 2 ∨ kd = 3 := by omega
  all_goals
   go_wp2_with fail
   go_ret
   exact HFIN.out
 by_cases c4 : kd = 4
 ·have HQ : Hid (PT1 = [UInt8.ofNat kd.toNat] ++ bt (putT nm)) := HNAM.out c4
  have HP1 : Hid (type_of% (HPT.out nm w1 hnm)) := HPT.out nm w1 hnm
  have hps : (putT nm).size ≤ 5 + nm.size := putT_size nm
  have k0 : (kd == 0) = false := by rw [beq_eq_false_iff_ne]; omega
  have k1 : (kd == 1) = false := by rw [beq_eq_false_iff_ne]; omega
  have k2 : (kd == 2) = false := by rw [beq_eq_false_iff_ne]; omega
  have k3 : (kd == 3) = false := by rw [beq_eq_false_iff_ne]; omega
  have k4 : (kd == 4) = true := by rw [beq_iff_eq]; omega
  clear HPT HPN HNS HT5 HEL HIH HMO HZ HSZ HALL HFEW HNAM HF0
  generalize putT nm = X at *
  go_wp2_with fail
  refine HP1.out.mono ?_
  rintro e w2 ⟨rfl, hb2⟩
  have hF2 : ByteF (atB B) W w2 := hF1.trans (byteF_of hb2 hBw1)
  have hR2 := OwnT.on hR1 hb2
  obtain ⟨_, hFw2, hBw2, hzw2⟩ := HBX.out w2 hF2
  clear HP1 hb2 hR1 a0 a1 a2 a3
  go_wp2_with (at_builtin; refine wpList_append_own_stringT _ rfl _ _ 51 9 rfl B 5 i0 Tryz.underlying51 Tryz.underlying9 hi0 hz0 hz1 hz2' _ _ _ rfl hR2 _ rfl ?c1 ?c2 ?c3 ?_)
  case c1 => unfold maxLen; omega
  case c2 => omega
  case c3 => exact hBw2
  intro v3 w3 hown3 hgrow3
  have hF3 : ByteF (atB B) w w3 := hFw2.grownT hBw2 hR2 hgrow3
  have HFIN : Hid (PutPostT B w (l ++ PT1) (.returned v3) w3) := by
   refine ⟨v3, rfl, ?_, hF3⟩
   rw [HQ.out, ← List.append_assoc, ← HL1.out]
   exact row_strT hown3 HN1.out
  obtain ⟨g3, c3', rfl⟩ := OwnT.pos hown3 (by omega)
  clear hown3 hgrow3 hF3 hR2 HBX
  go_wp2_with fail
  go_ret
  exact HFIN.out
 ·have h4 : 4 < kd := by omega
  have HAL : Hid (P ks.length = PT1) := HALL.out h4
  have HP1 : Hid (type_of% (HPN.out w1)) := HPN.out w1
  have hps : (numB ks.length).size ≤ 5 := numB_size _
  have k0 : (kd == 0) = false := by rw [beq_eq_false_iff_ne]; omega
  have k1 : (kd == 1) = false := by rw [beq_eq_false_iff_ne]; omega
  have k2 : (kd == 2) = false := by rw [beq_eq_false_iff_ne]; omega
  have k3 : (kd == 3) = false := by rw [beq_eq_false_iff_ne]; omega
  have k4 : (kd == 4) = false := by rw [beq_eq_false_iff_ne]; omega
  clear HPN HALL HFEW HNAM HF0
  generalize numB ks.length = X at *
  go_wp2_with fail
  refine HP1.out.mono ?_
  rintro e w2 ⟨rfl, hb2⟩
  have hF2 : ByteF (atB B) W w2 := hF1.trans (byteF_of hb2 hBw1)
  have hR2 := OwnT.on hR1 hb2
  clear a0 a1 a2 a3
  obtain ⟨⟨a0, a1, a2, a3⟩, hFw2, hBw2, hzw2⟩ := HBX.out w2 hF2
  clear HP1 hb2 hR1
  go_wp2_with (at_builtin; refine wpList_append_own_stringT _ rfl _ _ 51 9 rfl B 5 i0 Tryz.underlying51 Tryz.underlying9 hi0 hz0 hz1 hz2' _ _ _ rfl hR2 _ rfl ?c1 ?c2 ?c3 ?_)
  case c1 => unfold maxLen; omega
  case c2 => omega
  case c3 => exact hBw2
  intro v3 w3 hown3 hgrow3
  have hF3 : ByteF (atB B) W w3 := hF2.grownT hBw2 hR2 hgrow3
  have HR3 : Hid (OwnT w3 B 5 1 v3 (l ++ P 0).length (Lib.byteCells (l ++ P 0))) := by
   show OwnT _ _ _ _ _ _ _
   rw [HZ.out, ← List.append_assoc, ← HL1.out]
   exact row_strT hown3 HN1.out
  clear a0 a1 a2 a3
  obtain ⟨⟨a0, a1, a2, a3⟩, hFw3, hBw3, hzw3⟩ := HBX.out w3 hF3
  obtain ⟨g3, c3', rfl⟩ := OwnT.pos hown3 (by omega)
  clear hown3 hgrow3 hR2 hF2 hFw2 hBw2 hFw1 hF1 hBw1 HZ
  go_wp2_with fail
  go_loopw [0, 37] (fun v i wr => ∃ k : Nat, k ≤ ks.length ∧ i = .int .i64 k ∧ OwnT wr B 5 1 v (l ++ P k).length (Lib.byteCells (l ++ P k)) ∧ ByteF (atB B) W wr) (fun _ i _ => ks.length - (intOf i).toNat)
  case atStart => exact ⟨0, Nat.zero_le _, rfl, HR3.out, hF3⟩
  case round =>
   obtain ⟨k, hk, rfl, hor, hFr⟩ := hrel
   obtain ⟨wo, rfl⟩ : ∃ wo, wo = wr := ⟨_, rfl⟩
   clear a0 a1 a2 a3
   obtain ⟨⟨a0, a1, a2, a3⟩, hFwo, hBwo, hzwo⟩ := HBX.out wo hFr
   obtain ⟨LK, hLK⟩ : ∃ LK, LK = l ++ P k := ⟨_, rfl⟩
   rw [← hLK] at hor
   obtain ⟨NK, hNK⟩ : ∃ NK, NK = LK.length := ⟨_, rfl⟩
   rw [← hNK] at hor
   have hNb : NK ≤ N + 12582918 := by
    rw [hNK, hLK, List.length_append, HN.out]
    have := HSZ.out k
    omega
   have HLK : Hid (type_of% hLK) := hLK
   have HNK : Hid (LK.length = NK) := hNK.symm
   clear hLK hNK
   obtain ⟨av, cv, hv⟩ := OwnT.slice hor
   subst hv
   by_cases hlt : k < ks.length
   ·obtain ⟨bk, ok, an2, ln2, cn2, ak2, lk2, ck2, rfl, hbk, hty, q0, q1, q2, q3⟩ := HEL.out k hlt
    have hk0i : (0 : Int) ≤ (k : Int) := by omega
    have hk1i : (k : Int) < (ks.length : Int) := by omega
    have r0 := (hFwo.below.cell (p := ⟨bk, ok + k * 4, none⟩) hbk).trans q0
    have r1 := (hFwo.below.cell (p := ⟨bk, ok + k * 4 + 1, none⟩) hbk).trans q1
    have r2 := (hFwo.below.cell (p := ⟨bk, ok + k * 4 + 2, none⟩) hbk).trans q2
    have r3 := (hFwo.below.cell (p := ⟨bk, ok + k * 4 + 3, none⟩) hbk).trans q3
    have hbN : (wo.alloc (.cells #[.int .i64 ks[k].kind, .string ks[k].name, .slice an2 ln2 cn2, .slice ak2 lk2 ck2] 30)).heap[wo.heap.size]? = some (.cells #[.int .i64 ks[k].kind, .string ks[k].name, .slice an2 ln2 cn2, .slice ak2 lk2 ck2] 30 (0, 0)) := (MapKept.heap_alloc wo _).1
    have hFN : ByteF (atB B) W (wo.alloc (.cells #[.int .i64 ks[k].kind, .string ks[k].name, .slice an2 ln2 cn2, .slice ak2 lk2 ck2] 30)) := hFr.alloc hBwo _
    have hoN := hor.alloc (.cells #[.int .i64 ks[k].kind, .string ks[k].name, .slice an2 ln2 cn2, .slice ak2 lk2 ck2] 30)
    have HC : Hid (∀ (v : Value) (L : List UInt8) (wx : World), ByteF (atB B) w wx → OwnT wx B 5 1 v L.length (Lib.byteCells L) → L.length ≤ N + 14000000 → Calls Tryz.prog 26 #[v, .agg #[.int .i64 ks[k].kind, .string ks[k].name, .slice an2 ln2 cn2, .slice ak2 lk2 ck2]] wx (PutPostT B wx (L ++ putTy n ks[k]))) := fun v L wx hx ho hL => HIH.out k hlt v L _ wx hty hx ho hL
    have HMK := HMO.out k hlt
    obtain ⟨⟨e0, e1, e2, e3⟩, _⟩ := HBX.out _ hFN
    clear HIH HEL hty q0 q1 q2 q3
    generalize hKK : ks[k].kind = KK at *
    generalize hKN : ks[k].name = KN at *
    generalize putTy n ks[k] = PK at *
    clear hKK hKN
    by_cases h5 : kd = 5
    ·obtain ⟨hj2, b, off, rfl, hbl, hcn⟩ := HT5.out h5 k hlt
     have k5 : (kd == 5) = true := by rw [beq_iff_eq]; omega
     have hk2i : (k : Int) < (nms.length : Int) := by omega
     have hns := HNS.out k hj2
     have hpx : (putT nms[k]).size ≤ 5 + nms[k].size := putT_size _
     have HE1 : Hid (l ++ P (k + 1) = LK ++ bt (putT nms[k]) ++ PK) := by
      show _ = _
      rw [HMK, if_pos (decide_eq_true h5), HLK.out]
      have : nms.getD k ⟨#[]⟩ = nms[k] := by simp [List.getD, hj2]
      rw [this]
      simp [List.append_assoc]
     have hcn0 := (hFwo.below.cell (p := ⟨b, off + k, none⟩) hbl).trans hcn
     have HPT2 : Hid (∀ wx : World, Calls Tryz.prog 45 #[.string nms[k]] wx fun e w' => e = .returned (.string (putT nms[k])) ∧ Below wx.heap.size wx w') := fun wx => HPT.out nms[k] wx hns
     have HCN : Hid (∀ wx : World, ByteF (atB B) w wx → wx.cell? ⟨b, off + k, none⟩ = some (.string nms[k])) := fun wx hx => (hx.below.cell (p := ⟨b, off + k, none⟩) hbl).trans hcn
     have hcnN := HCN.out _ (HBX.out _ hFN).2.1
     clear HMK HT5 HPT HMO HSZ HNS hcn h5
     generalize putT nms[k] = X2 at *
     generalize nms[k] = nmk at *
     go_wp2_with fail
     generalize wo.alloc (.cells #[.int .i64 KK, .string KN, .slice an2 ln2 cn2, .slice ak2 lk2 ck2] 30) = WN at *
     refine (HPT2.out WN).mono ?_
     rintro e w5 ⟨rfl, hb5⟩
     have hBN : B ≤ WN.heap.size := Nat.le_trans hBW hFN.below.size
     have hF5 : ByteF (atB B) WN w5 := byteF_of hb5 hBN
     have hR5 := OwnT.on hoN hb5
     have hB5 : B ≤ w5.heap.size := Nat.le_trans hBN hb5.size
     clear HPT2 hb5 hoN a0 a1 a2 a3 r0 r1 r2 r3 e0 e1 e2 e3 hcn0 hcnN HCN
     go_wp2_with (at_builtin; refine wpList_append_own_stringT _ rfl _ _ 51 9 rfl B 5 i0 Tryz.underlying51 Tryz.underlying9 hi0 hz0 hz1 hz2' _ _ _ rfl hR5 _ rfl ?c1 ?c2 ?c3 ?_)
     case c1 => unfold maxLen; omega
     case c2 => omega
     case c3 => exact hB5
     intro v6 w6 hown6 hgrow6
     have hF6 : ByteF (atB B) WN w6 := hF5.grownT hB5 hR5 hgrow6
     have hR6 := row_strT hown6 HNK.out
     have hL6 : (LK ++ bt X2).length ≤ N + 14000000 := by
      rw [List.length_append, HNK.out]
      have : (bt X2).length = X2.size := rfl
      omega
     obtain ⟨av6, cv6, hv6⟩ := OwnT.slice hown6
     subst hv6
     obtain ⟨d0, d1, d2, d3⟩ := block4T (hF6.cells hbN (by decide))
     have HC6 : Hid (type_of% (HC.out _ _ w6 ((HBX.out _ hFN).2.1.trans hF6) hR6 hL6)) := HC.out _ _ w6 ((HBX.out _ hFN).2.1.trans hF6) hR6 hL6
     have HF6 : Hid (ByteF (atB B) W w6) := hFN.trans hF6
     clear HC hown6 hgrow6 hR6 hL6 hF6 hF5 hR5 hFN hbN
     generalize LK ++ bt X2 = LX at *
     go_wp2_with fail
     refine HC6.out.mono ?_
     rintro e w7 ⟨v7, rfl, hR7, hF7⟩
     have HFN7 : Hid (ByteF (atB B) W w7) := HF6.out.trans hF7
     have HR7 : Hid (OwnT w7 B 5 1 v7 (l ++ P (k + 1)).length (Lib.byteCells (l ++ P (k + 1)))) := by rw [HE1.out]; exact hR7
     clear HC6 hR7 hF7 HE1 d0 d1 d2 d3
     go_wp2_with fail
     go_roundw
     case rel => exact ⟨k + 1, by omega, by go_num, HR7.out, HFN7.out⟩
     case measure => simp [intOf]; omega
    ·have k5 : (kd == 5) = false := by rw [beq_eq_false_iff_ne]; omega
     have HE1 : Hid (l ++ P (k + 1) = LK ++ PK) := by
      show _ = _
      rw [HMK, if_neg (by simp; omega), HLK.out]
      simp [List.append_assoc]
     clear HMK HT5 HPT HMO HSZ HNS
     go_wp2_with fail
     generalize wo.alloc (.cells #[.int .i64 KK, .string KN, .slice an2 ln2 cn2, .slice ak2 lk2 ck2] 30) = WN at *
     have hR6 : OwnT WN B 5 1 (.slice av NK cv) LK.length (Lib.byteCells LK) := by rw [HNK.out]; exact hoN
     refine (HC.out _ LK WN (HBX.out _ hFN).2.1 hR6 (by rw [HNK.out]; omega)).mono ?_
     rintro e w7 ⟨v7, rfl, hR7, hF7⟩
     have HFN7 : Hid (ByteF (atB B) W w7) := hFN.trans hF7
     have HR7 : Hid (OwnT w7 B 5 1 v7 (l ++ P (k + 1)).length (Lib.byteCells (l ++ P (k + 1)))) := by rw [HE1.out]; exact hR7
     clear HC hR7 hF7 HE1 a0 a1 a2 a3 r0 r1 r2 r3 e0 e1 e2 e3 hR6 hFN hbN hoN hor
     go_wp2_with fail
     go_roundw
     case rel => exact ⟨k + 1, by omega, by go_num, HR7.out, HFN7.out⟩
     case measure => simp [intOf]; omega
   ·obtain rfl : k = ks.length := by omega
    have HFIN : Hid (PutPostT B w (l ++ PT1) (.returned (.slice av NK cv)) wo) := ⟨_, rfl, by rw [← HAL.out, ← HLK.out, HNK.out]; exact hor, hFwo⟩
    clear HIH HT5 HEL HPT HMO HSZ HNS hor
    go_wp2_with fail
    go_ret
    exact HFIN.out
theorem implPutT (n : Nat) : ImplPutAtT n := by
 induction n with
 | zero => intro A B v l cs t d w h; exact h.elim
 | succ n ih =>
  intro A B v l cs t d w h hA hR hd hb hB hor hl
  obtain ⟨vn, vk, rfl, _, _, ⟨hT, _, _⟩, _, hrow⟩ := h
  cases t with
  | mk kd nm nms ks =>
   obtain ⟨an, cn, rfl⟩ : ∃ a cap, vn = .slice a nms.length cap := by
    rcases hT with ⟨h, a, cap, e⟩ | ⟨b, off, cap, e, hc⟩
    ·have h' : nms = [] := h
     subst h'; exact ⟨a, cap, e⟩
    ·exact ⟨_, cap, e⟩
   obtain ⟨ak, ck, rfl, _⟩ := rowROpen hrow
   exact implPutStepT n ih A B v l kd nm nms ks an ak cn ck d w hT hrow hA hR hd hb hB hor hl
set_option maxHeartbeats 3200000 in
set_option maxRecDepth 100000 in
theorem implPutNamedT (n : Nat) (A : Nat → Prop) (B : Nat) (v : Value) (l : List UInt8) (av : Option Addr) (cap : Nat) (es : List (ByteArray × Ty)) (w : World) (hE : EnvR A w n av es) (hA : ∀ b, A b → b < B) (hR : ∀ k (h : k < es.length), Right n es[k].2 12) (hb : envBulk n es ≤ 1048576) (hB : B ≤ w.heap.size) (hor : OwnT w B 5 1 v l.length (Lib.byteCells l)) (hl : l.length ≤ 40000000) :
  Calls Tryz.prog 55 #[v, .slice av es.length cap] w (PutPostT B w (l ++ envPut n es)) := by
 obtain ⟨i0, hi0, hz0, hz1, hz2⟩ := info_parts Tryz.infoByte
 obtain ⟨N, hN⟩ : ∃ N, N = l.length := ⟨_, rfl⟩
 have HN : Hid (l.length = N) := hN.symm
 rw [← hN] at hor hl
 clear hN
 obtain ⟨vv, cv, rfl⟩ := OwnT.slice hor
 have hlen : es.length ≤ 1048576 := by unfold envBulk at hb; omega
 have HEL : Hid (type_of% hE) := hE
 have HA : Hid (type_of% hA) := hA
 have HB : Hid (type_of% hb) := hb
 have HPN : Hid (∀ wx : World, Calls Tryz.prog 46 #[.int .i64 (es.length : Int)] wx fun e w' => e = .returned (.string (numB es.length)) ∧ Below wx.heap.size wx w') := fun wx => implPutNum_yes es.length wx (by omega)
 have HIH : Hid (∀ k (hk : k < es.length) (v : Value) (L : List UInt8) (x0 x1 x2 x3 : Value) (wx : World), TyR A w n [x0, x1, x2, x3] es[k].2 → ByteF (atB B) w wx → OwnT wx B 5 1 v L.length (Lib.byteCells L) → L.length ≤ 140000000 → Calls Tryz.prog 26 #[v, .agg #[x0, x1, x2, x3]] wx (PutPostT B wx (L ++ putTy n es[k].2))) := fun k hk v L x0 x1 x2 x3 wx h hx ho hL =>
  implPutT n A B v L [x0, x1, x2, x3] es[k].2 12 wx (h.same fun b hb' => hx.below.block b (hA b hb')) hA (hR k hk) (by omega) (by have := env_bulk n es k hk; omega) (Nat.le_trans hB hx.below.size) ho (by omega)
 have hnb : (numB es.length).size ≤ 5 := numB_size _
 have HPL : Hid (l ++ envPut n es = l ++ bt (numB es.length) ++ envTo n es) := by
  show _ = _
  simp [envPut, List.append_assoc]
 obtain ⟨PL, hPL⟩ : ∃ PL, PL = l ++ envPut n es := ⟨_, rfl⟩
 rw [← hPL] at HPL ⊢
 clear hE hA hR hb hPL
 go_enter Tryz.func55, Tryz.ntmps55
 go_wp2_with fail
 refine (HPN.out w).mono ?_
 rintro e w2 ⟨rfl, hb2⟩
 have hF2 : ByteF (atB B) w w2 := byteF_of hb2 hB
 have hR2 := OwnT.on hor hb2
 have hB2 : B ≤ w2.heap.size := Nat.le_trans hB hb2.size
 have HX : Hid (type_of% hnb) := hnb
 clear hb2 hor HPN
 obtain ⟨X, hX⟩ : ∃ X, X = numB es.length := ⟨_, rfl⟩
 rw [← hX] at hnb HPL ⊢
 clear HX hX
 go_wp2_with (at_builtin; refine wpList_append_own_stringT _ rfl _ _ 51 9 rfl B 5 i0 Tryz.underlying51 Tryz.underlying9 hi0 hz0 hz1 hz2 _ _ _ rfl hR2 _ rfl ?c1 ?c2 ?c3 ?_)
 case c1 => unfold maxLen; omega
 case c2 => omega
 case c3 => exact hB2
 intro v3 w3 hown3 hgrow3
 have hF3 : ByteF (atB B) w w3 := hF2.grownT hB2 hR2 hgrow3
 have hR3 := row_strT hown3 HN.out
 have HL3 : Hid ((l ++ bt X).length ≤ 40000005) := by
  show _ ≤ _
  rw [List.length_append, HN.out]
  have : (bt X).length = X.size := rfl
  omega
 obtain ⟨L0, hL0⟩ : ∃ L0, L0 = l ++ bt X := ⟨_, rfl⟩
 rw [← hL0] at hR3 HL3 HPL
 have h0 : L0 ++ envTo n (es.take 0) = L0 := by simp [envTo]
 have HR3 : Hid (OwnT w3 B 5 1 v3 (L0 ++ envTo n (es.take 0)).length (Lib.byteCells (L0 ++ envTo n (es.take 0)))) := by rw [h0]; exact hR3
 clear hgrow3 hown3 hR2 hF2 hB2 hL0 HN h0 hR3 hnb
 go_wp2_with fail
 go_loopw [0, 14] (fun o i wr => ∃ k : Nat, k ≤ es.length ∧ i = .int .i64 k ∧ OwnT wr B 5 1 o (L0 ++ envTo n (es.take k)).length (Lib.byteCells (L0 ++ envTo n (es.take k))) ∧ ByteF (atB B) w wr) (fun _ i _ => es.length - (intOf i).toNat)
 case atStart => exact ⟨0, Nat.zero_le _, rfl, HR3.out, hF3⟩
 case round =>
  obtain ⟨k, hk, rfl, hok, hFr⟩ := hrel
  obtain ⟨wo, rfl⟩ : ∃ wo, wo = wr := ⟨_, rfl⟩
  clear HR3 hF3
  have hBo : B ≤ wo.heap.size := Nat.le_trans hB hFr.below.size
  by_cases hlt : k < es.length
  ·obtain ⟨b, off, x0, x1, x2, x3, rfl, hab, hns, hty, q0, q1, q2, q3, q4⟩ := HEL.out k hlt
   have hbB := HA.out b hab
   have c0 := (hFr.below.cell (p := ⟨b, off + k * 5, none⟩) hbB).trans q0
   have c1 := (hFr.below.cell (p := ⟨b, off + k * 5 + 1, none⟩) hbB).trans q1
   have c2 := (hFr.below.cell (p := ⟨b, off + k * 5 + 2, none⟩) hbB).trans q2
   have c3 := (hFr.below.cell (p := ⟨b, off + k * 5 + 3, none⟩) hbB).trans q3
   have c4 := (hFr.below.cell (p := ⟨b, off + k * 5 + 4, none⟩) hbB).trans q4
   obtain ⟨LK, hLK⟩ : ∃ LK, LK = L0 ++ envTo n (es.take k) := ⟨_, rfl⟩
   rw [← hLK] at hok
   have hlk : LK.length ≤ 60000000 := by
    have h1 := envTo_take n es k
    have h2 := HB.out
    have h3 := HL3.out
    rw [hLK, List.length_append]
    omega
   have HE1 : Hid (L0 ++ envTo n (es.take (k + 1)) = LK ++ bt (putT es[k].1) ++ putTy n es[k].2) := by
    show _ = _
    rw [envTo_more n es k hlt, hLK]
    simp [List.append_assoc]
   have hbk := env_bulk n es k hlt
   have hB1 := HB.out
   have hpx : (putT es[k].1).size ≤ 2000000 := by
    have : (putT es[k].1).size ≤ 5 + es[k].1.size := putT_size _
    omega
   have hTT : Hid (TyR A w n [x0, x1, x2, x3] es[k].2) := hty
   have HC : Hid (∀ (v : Value) (L : List UInt8) (wx : World), ByteF (atB B) w wx → OwnT wx B 5 1 v L.length (Lib.byteCells L) → L.length ≤ 140000000 → Calls Tryz.prog 26 #[v, .agg #[x0, x1, x2, x3]] wx (PutPostT B wx (L ++ putTy n es[k].2))) := fun v L wx hx ho hL => HIH.out k hlt v L x0 x1 x2 x3 wx hTT.out hx ho hL
   have HPT : Hid (∀ wx : World, Calls Tryz.prog 45 #[.string es[k].1] wx fun e w' => e = .returned (.string (putT es[k].1)) ∧ Below wx.heap.size wx w') := fun wx => implPutText _ wx (by omega)
   obtain ⟨an, ln, cn, ak, lk, ck, ee⟩ := hty.at.shape
   simp only [List.cons.injEq, and_true] at ee
   obtain ⟨rfl, rfl, rfl, rfl⟩ := ee
   clear q0 q1 q2 q3 q4 hty hTT HIH HEL HA HB HL3 hLK hns hB1 HPL
   have hbx : ∀ y, (wo.alloc (.cells #[.string y, .int .i64 es[k].2.kind, .string es[k].2.name, .slice an ln cn, .slice ak lk ck] 75)).heap[wo.heap.size]? = some (.cells #[.string y, .int .i64 es[k].2.kind, .string es[k].2.name, .slice an ln cn, .slice ak lk ck] 75 (0, 0)) := fun y => (MapKept.heap_alloc wo _).1
   have hbx := hbx es[k].1
   have hFN : ByteF (atB B) w (wo.alloc (.cells #[.string es[k].1, .int .i64 es[k].2.kind, .string es[k].2.name, .slice an ln cn, .slice ak lk ck] 75)) := hFr.alloc hBo _
   have hoN := hok.alloc (.cells #[.string es[k].1, .int .i64 es[k].2.kind, .string es[k].2.name, .slice an ln cn, .slice ak lk ck] 75)
   have hBN : B ≤ (wo.alloc (.cells #[.string es[k].1, .int .i64 es[k].2.kind, .string es[k].2.name, .slice an ln cn, .slice ak lk ck] 75)).heap.size := Nat.le_trans hB hFN.below.size
   generalize putTy n es[k].2 = PK at *
   generalize putT es[k].1 = X2 at *
   generalize es[k].2.kind = kd at *
   generalize es[k].2.name = nm at *
   generalize es[k].1 = x at *
   have hk0 : (0 : Int) ≤ k := by omega
   have hk1 : (k : Int) < es.length := by omega
   obtain ⟨NK, hNK⟩ : ∃ NK, NK = LK.length := ⟨_, rfl⟩
   have HNK : Hid (LK.length = NK) := hNK.symm
   rw [← hNK] at hok hoN hlk
   obtain ⟨uu, cu, hou⟩ := OwnT.slice hok
   subst hou
   clear hNK
   go_wp2_with fail
   generalize wo.alloc (.cells #[.string x, .int .i64 kd, .string nm, .slice an ln cn, .slice ak lk ck] 75) = WN at *
   have HBX : Hid (∀ wx : World, ByteF (atB B) WN wx → wx.cell? ⟨wo.heap.size, 0, none⟩ = some (.string x) ∧ wx.cell? ⟨wo.heap.size, 1, none⟩ = some (.int .i64 kd) ∧ wx.cell? ⟨wo.heap.size, 2, none⟩ = some (.string nm) ∧ wx.cell? ⟨wo.heap.size, 3, none⟩ = some (.slice an ln cn) ∧ wx.cell? ⟨wo.heap.size, 4, none⟩ = some (.slice ak lk ck)) := fun wx hx => (block5N (hx.cells hbx (by decide))).1
   have HFN : Hid (ByteF (atB B) w WN) := hFN
   have HRN : Hid (type_of% hoN) := hoN
   clear hbx hFN hoN hok hFr c0 c1 c2 c3 c4
   go_region_held3 (fun wx => wx.cell? ⟨wo.heap.size, 0, none⟩ = some (.string x) ∧ wx.cell? ⟨wo.heap.size, 1, none⟩ = some (.int .i64 kd) ∧ wx.cell? ⟨wo.heap.size, 2, none⟩ = some (.string nm) ∧ wx.cell? ⟨wo.heap.size, 3, none⟩ = some (.slice an ln cn) ∧ wx.cell? ⟨wo.heap.size, 4, none⟩ = some (.slice ak lk ck))
    (first
     | exact HBX.out _ (by assumption)
     | exact HBX.out _ (ByteF.refl _ _)
     | exact HBX.out _ (ByteF.refl _ _).drew)
    (first
     | (go_at_call 45; refine (HPT.out _).mono ?_; rintro e w5 ⟨rfl, hb5⟩; have hF5 : ByteF (atB B) WN w5 := (by first | exact byteF_of hb5 hBN | exact (ByteF.refl (atB B) WN).drew.trans (byteF_of hb5 hBN)); have hR5 := OwnT.on (by first | exact HRN.out | exact OwnT.on HRN.out (Below.refl _ _).drew) hb5; have hB5 : B ≤ w5.heap.size := Nat.le_trans hBN hF5.below.size)
     | (revert hB5; intro hB5; refine step_append_strT rfl (.tmp 18) (.tmp 21) 51 9 rfl B 5 i0 Tryz.underlying51 Tryz.underlying9 hi0 hz0 hz1 hz2 _ _ _ rfl hR5 _ rfl (by unfold maxLen; omega) (by omega) hB5 ?_; intro v6 w6 hown6 hgrow6; have hF6 : ByteF (atB B) WN w6 := hF5.grownT hB5 hR5 hgrow6; have hR6 := row_strT hown6 HNK.out; have hL6 : (LK ++ bt X2).length ≤ 140000000 := (by rw [List.length_append, HNK.out]; have : (bt X2).length = X2.size := rfl; omega))
     | (revert hL6; intro hL6; go_at_call 26; refine (HC.out _ _ _ (HFN.out.trans hF6) hR6 hL6).mono ?_; rintro e w7 ⟨v7, rfl, hR7, hF7⟩; have hF7' : ByteF (atB B) WN w7 := hF6.trans hF7))
   all_goals
    have HR7 : Hid (OwnT w7 B 5 1 v7 (L0 ++ envTo n (es.take (k + 1))).length (Lib.byteCells (L0 ++ envTo n (es.take (k + 1))))) := by rw [HE1.out]; exact hR7
    have HF7 : Hid (ByteF (atB B) w w7) := HFN.out.trans hF7'
    clear hR7 hF7 hF7' hL6 hR6 hF6 hgrow6 hown6 hB5 hR5 hF5 hb5 HE1 HC HPT HBX HFN HRN
    go_wp2_with fail
    go_roundw
    case rel => exact ⟨k + 1, by omega, by go_num, HR7.out, HF7.out⟩
    case measure => simp [intOf]; omega
  ·have hke : es.take k = es := List.take_of_length_le (by omega)
   have HFIN : Hid (PutPostT B w PL (.returned u0) wo) := ⟨_, rfl, by rw [HPL.out]; rw [hke] at hok; exact hok, hFr⟩
   clear hok HIH HEL HA HB HL3 HPL hke
   go_wp2_with fail
   go_ret
   exact HFIN.out
end Go.Proofs.YtbojmbeopnlmiaaGreatDoor
