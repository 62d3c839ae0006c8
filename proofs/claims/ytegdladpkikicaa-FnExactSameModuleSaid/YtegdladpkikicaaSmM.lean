/-
  What impl.sameTrees holds in memory between two steps, and that each step keeps it; impl.placeOf at lists that hold something.
-/
import Derived.Test.YtegdladpkikicaaSmQ
import Derived.Test.YtegdladpkikicaaSmC
import Derived.Sort.Row
import Derived.Deep.RegionLaw
import Derived.Sort.Walk0
namespace Go.Proofs.Ytegdladpkikicaa
open Go.RowKit Go.Sort

/-- an append onto a row of the call's own, as one step of a region that draws -/
theorem step_append_ownS {P : Program} {ops : Array Oper} {o : Oper} {a : Act} {w : World} {K : Act → World → Prop} {Q : Exit → Act → World → Prop} {E : Prop}
    (hg : o.guard = none) (s x : Operand) (t : TypeId) (hop : o.op = Op.call { callee := Callee.builtin Builtin.append, args := #[s, x], argTypes := #[t, t] })
    (base : Nat) (e : TypeId) (i : TypeInfo) (z : Value) (size bytes : Nat) (h1 : P.underlying t = some (.slice e)) (h2 : P.info? e = some i) (h3 : i.zero = some z) (h4 : i.size = size) (h5 : i.bytes = bytes) (h6 : z.cells.size = size) (h7 : 0 < size)
    (v : Value) (n : Nat) (xs : List Value) (hs : a.eval s = v) (hown : w.ownsRow base e size v n xs)
    (ad : Addr) (m c : Nat) (news : List Value) (hx : a.eval x = .slice (some ad) m c) (hn : news.length = m * size) (hc : ∀ j u, news[j]? = some u → w.cell? (ad.add j) = some u) (h1c : ∀ u ∈ news, u.oneCell' = true)
    (b1 : n + m ≤ maxLen) (b2 : (n + m) * bytes ≤ 140737488355328) (b3 : base ≤ w.heap.size)
    (hK : ∀ v' w', w'.ownsRow base e size v' (n + m) (xs ++ news) → w.grownBy w' v.ownBlock → (v' = .slice none 0 0 ↔ v = .slice none 0 0 ∧ m = 0) → K (a.put o.dst v') w') :
    if Region.wanted o (yielded ops a.tmps) = true then Oper.wp P o a w K Q else E := by
  have hw : Region.wanted o (yielded ops a.tmps) = true := by simp [Region.wanted, hg]
  rw [if_pos hw]
  obtain ⟨v', w', hrun, r1, r2, r3⟩ := run_append_own (P := P) w base t o.type e i z size bytes h1 h2 h3 h4 h5 h6 h7 v n xs hown ad m c news hn hc h1c b1 b2 b3
  unfold Oper.wp
  simp [execOp, hop, resolve, invoke, builtin, hs, hx, hrun, Result.andThen]
  exact hK v' w' r1 r2 r3

theorem own_atS {X Y : World} {B e z : Nat} {v : Value} {n : Nat} {xs : List Value} (h : X.ownsRow B e z v n xs) (hs : ∀ g, v.ownBlock = some g → Y.heap[g]? = X.heap[g]?) : Y.ownsRow B e z v n xs := by
  refine ⟨h.1, ?_⟩
  rcases h.2 with q | ⟨g, cap, cur, hv, hg, hh, q⟩
  · exact .inl q
  · exact .inr ⟨g, cap, cur, hv, hg, (hs g (by rw [hv]; rfl)).trans hh, q⟩
theorem own_rowS {X : World} {B e z : Nat} {v : Value} {n : Nat} {xs : List Value} (h : X.ownsRow B e z v n xs) {g : Nat} (hg : v.ownBlock = some g) : B ≤ g ∧ ∃ c, X.heap[g]? = some (.cells c e (0, 0)) := by
  rcases h.2 with ⟨q, _⟩ | ⟨g', cap, cur, hv, hB, hh, _⟩
  · rw [q] at hg; simp [Value.ownBlock] at hg
  · rw [hv] at hg
    simp only [Value.ownBlock, Option.some.injEq] at hg
    subst hg
    exact ⟨hB, _, hh⟩

theorem RowZ.open {α : Type} {z : Nat} {w : World} {R : List Value → α → Prop} {v : Value} {ks : List α} (hz : ∀ cs t, R cs t → 0 < cs.length) (h : RowZ z w R v ks) : ∃ av capv, v = .slice av ks.length capv ∧ ∀ j (h : j < ks.length), ∃ b off cs, av = some ⟨b, off, none⟩ ∧ b < w.heap.size ∧ (∃ cur e, w.heap[b]? = some (.cells cur e (0, 0))) ∧ R cs ks[j] ∧ ∀ c u, cs[c]? = some u → w.cell? ⟨b, off + j * z + c, none⟩ = some u := by
  rcases h with ⟨h, a, cap, e⟩ | ⟨b, off, cap, e, hr, hc⟩
  · exact ⟨a, cap, by rw [h]; exact e, fun j hj => by rw [h] at hj; simp at hj⟩
  · refine ⟨_, cap, e, fun j hj => ?_⟩
    obtain ⟨cs', h1, h2⟩ := hc j hj
    have hl := hz _ _ h1
    exact ⟨b, off, cs', rfl, World.block_lt_of_cell? w ⟨b, off + j * z + 0, none⟩ (h2 0 cs'[0] (List.getElem?_eq_getElem hl)), hr, h1, h2⟩
/-- the memory between two steps: F tells a pair's slices in the memory at the beginning -/
structure StM {α : Type} (F : PE α → Prop) (T2 : TypeId) (w wr : World) (M : Nat) (D : List (KeyP × Int)) (Dp : List (PairL α)) (vS : Value) (S : List (PE α)) : Prop where
  map : KMapP wr M D
  low : w.heap.size ≤ M
  lowD : ∀ p ∈ D, (∀ x, p.1.pa = some x → x.block < w.heap.size) ∧ ∀ x, p.1.pb = some x → x.block < w.heap.size
  seen : ∀ k v, lookKP D k = some v → v = 1 ∧ ∃ e : PE α, F e ∧ e.key = k ∧ e.p ∈ Dp
  stk : wr.ownsRow w.heap.size T2 2 vS S.length (flatPE S)
  fit : ∀ e ∈ S, F e
  bel : Below w.heap.size w wr
theorem StM.below {α : Type} {F : PE α → Prop} {T2 : TypeId} {w wr w2 : World} {M : Nat} {D : List (KeyP × Int)} {Dp : List (PairL α)} {vS : Value} {S : List (PE α)} (h : StM F T2 w wr M D Dp vS S) (hb : Below wr.heap.size wr w2) : StM F T2 w w2 M D Dp vS S :=
  ⟨h.map.kept (hb.block M h.map.lt) fun p hp => ⟨fun x hx => hb.block _ (Nat.lt_of_lt_of_le ((h.lowD p hp).1 x hx) h.bel.size), fun x hx => hb.block _ (Nat.lt_of_lt_of_le ((h.lowD p hp).2 x hx) h.bel.size)⟩, h.low, h.lowD, h.seen, own_atS h.stk fun g hg => hb.block g (h.stk.lt g hg).2, h.fit, h.bel.trans (hb.mono h.bel.size)⟩
theorem StM.pop {α : Type} {F : PE α → Prop} {T2 : TypeId} {w wr : World} {M g cap : Nat} {D : List (KeyP × Int)} {Dp : List (PairL α)} {S : List (PE α)} {e : PE α} (h : StM F T2 w wr M D Dp (.slice (some ⟨g, 0, none⟩) (S.length + 1) cap) (S ++ [e])) : StM F T2 w wr M D Dp (.slice (some ⟨g, 0, none⟩) S.length cap) S := by
  have hr := h.stk
  rw [List.length_append, List.length_singleton, flatPE_app] at hr
  exact ⟨h.map, h.low, h.lowD, h.seen, ownCutZ hr (flatPE_length S), fun e he => h.fit e (List.mem_append_left _ he), h.bel⟩
/-- a key is put -/
theorem StM.put {α : Type} {F : PE α → Prop} {T2 : TypeId} {w wr w2 : World} {M : Nat} {D : List (KeyP × Int)} {Dp : List (PairL α)} {vS : Value} {S : List (PE α)} (h : StM F T2 w wr M D Dp vS S) {e : PE α} (he : F e) (hk : (∀ x, e.aa = some x → x.block < w.heap.size) ∧ ∀ x, e.ba = some x → x.block < w.heap.size) (hm : KMapP w2 M (setKP D e.key 1)) (hb : But M wr w2) : StM F T2 w w2 M (setKP D e.key 1) (e.p :: Dp) vS S := by
  obtain ⟨es, ck, hM⟩ := h.map.obj
  have ne : ∀ g, vS.ownBlock = some g → g ≠ M := fun g hg e => by
    obtain ⟨_, c, q⟩ := own_rowS h.stk hg
    subst e
    rw [hM] at q
    simp at q
  refine ⟨hm, h.low, fun p hp => ?_, fun k v hk' => ?_, own_atS h.stk fun g hg => hb.2.2.2.2 g (ne g hg), h.fit, h.bel.trans ⟨hb.1, hb.2.1, hb.2.2.1, Nat.le_of_eq hb.2.2.2.1.symm, fun b hb' => hb.2.2.2.2 b (by have := h.low; omega)⟩⟩
  · rcases set_memP hp with q | q
    · exact h.lowD p q
    · rw [q]
      exact hk
  · by_cases c : e.key = k
    · subst c
      rw [look_set_sameP] at hk'
      exact ⟨(Option.some.inj hk').symm, e, he, rfl, List.mem_cons_self ..⟩
    · rw [look_set_otherP D 1 c] at hk'
      obtain ⟨h1, e', h2, h3, h4⟩ := h.seen k v hk'
      exact ⟨h1, e', h2, h3, List.mem_cons_of_mem _ h4⟩
/-- the stack grows -/
theorem StM.push {α : Type} {F : PE α → Prop} {T2 : TypeId} {w wr w2 : World} {M : Nat} {D : List (KeyP × Int)} {Dp : List (PairL α)} {vS v' : Value} {S : List (PE α)} {e : PE α} (h : StM F T2 w wr M D Dp vS S) (he : F e) (hown : w2.ownsRow w.heap.size T2 2 v' (S.length + 1) (flatPE S ++ [e.va, e.vb])) (hg : wr.grownBy w2 vS.ownBlock) : StM F T2 w w2 M D Dp v' (S ++ [e]) := by
  obtain ⟨es, ck, hM⟩ := h.map.obj
  have hMs : some M ≠ vS.ownBlock := fun e => by
    obtain ⟨_, c, q⟩ := own_rowS h.stk e.symm
    rw [hM] at q
    simp at q
  have lo : ∀ b, b < w.heap.size → w2.heap[b]? = wr.heap[b]? := fun b hb => hg.block b (Nat.lt_of_lt_of_le hb h.bel.size) fun e => by
    have := (h.stk.lt b e.symm).1
    omega
  refine ⟨h.map.kept (hg.block M h.map.lt hMs) fun p hp => ⟨fun x hx => lo _ ((h.lowD p hp).1 x hx), fun x hx => lo _ ((h.lowD p hp).2 x hx)⟩, h.low, h.lowD, h.seen, ?_, fun f hf => ?_, h.bel.grown hg h.bel.size fun g hg' => (h.stk.lt g hg').1⟩
  · rw [List.length_append, List.length_singleton, flatPE_app]
    exact hown
  · rcases List.mem_append.1 hf with hf | hf
    · exact h.fit f hf
    · rw [List.mem_singleton.1 hf]
      exact he

theorem ret_placeT {R : Ending → World → Prop} {W : World} {tmps : Array Value} {b : Nat} {x0 x1 : Value} (hp : tmps[2]?.getD undef = .pointer (some ⟨b, 0, none⟩))
    (h : W.cell? ⟨b, 0, none⟩ = some x0 ∧ W.cell? ⟨b, 1, none⟩ = some x1) (hR : R (.returned (.agg #[x0, x1])) W) :
    bodyPost Try.prog Try.f43 R .ret { tmps := tmps, defers := [] } W := by
  obtain ⟨h0, h1⟩ := h
  refine bodyPost_ret (v := .agg #[x0, x1]) ?_ rfl hR
  simp [results, Try.results43, go_sem, hp, h0, h1]
set_option maxHeartbeats 800000 in
set_option maxRecDepth 100000 in
theorem implPlaceT (a : Option Addr) (b off l cap : Nat) (w : World) (ha : a = some ⟨b, off, none⟩) (hl : 0 < l) : Calls Try.prog 43 #[.slice a l cap] w fun e w' => e = .returned (.agg #[.pointer a, .int .i64 l]) ∧ Below w.heap.size w w' := by
  subst ha
  have hz : ((l : Int) == 0) = false := by rw [beq_eq_false_iff_ne]; omega
  have hR1 : (w.alloc (.cells #[.pointer none, .int .i64 0] 80)).heap[w.heap.size]? = some (.cells #[.pointer none, .int .i64 0] 80 (0, 0)) := (MapKept.heap_alloc w _).1
  have hf : ∀ j, (w.alloc (.cells #[.pointer none, .int .i64 0] 80)).frozen? ⟨w.heap.size, j, none⟩ = false := fun j => frozen_of_row _ _ j _ _ hR1
  clear hR1
  go_enter Try.func43, Try.ntmps43
  go_wp2_with fail
  exact ret_placeT rfl ⟨by rw [cellNew _ rfl]; rfl, by rw [cellNew _ rfl]; rfl⟩ ⟨rfl, (Below.refl _ _).alloc (Nat.le_refl _) _⟩
theorem Try.infoPairT : (Try.prog.info? 75).map (fun i => (i.zero, i.size, i.bytes)) = some (some (.agg #[.slice none 0 0, .slice none 0 0]), 2, 48) := by kernel_rfl

theorem ret_placeX {R : Ending → World → Prop} {W : World} {tmps : Array Value} {b : Nat} {x0 x1 : Value} (hp : tmps[2]?.getD undef = .pointer (some ⟨b, 0, none⟩))
    (h : W.cell? ⟨b, 0, none⟩ = some x0 ∧ W.cell? ⟨b, 1, none⟩ = some x1) (hR : R (.returned (.agg #[x0, x1])) W) :
    bodyPost Try.prog Try.f44 R .ret { tmps := tmps, defers := [] } W := by
  obtain ⟨h0, h1⟩ := h
  refine bodyPost_ret (v := .agg #[x0, x1]) ?_ rfl hR
  simp [results, Try.results44, go_sem, hp, h0, h1]
set_option maxHeartbeats 800000 in
set_option maxRecDepth 100000 in
theorem implPlaceX (a : Option Addr) (b off l cap : Nat) (w : World) (ha : a = some ⟨b, off, none⟩) (hl : 0 < l) : Calls Try.prog 44 #[.slice a l cap] w fun e w' => e = .returned (.agg #[.pointer a, .int .i64 l]) ∧ Below w.heap.size w w' := by
  subst ha
  have hz : ((l : Int) == 0) = false := by rw [beq_eq_false_iff_ne]; omega
  have hR1 : (w.alloc (.cells #[.pointer none, .int .i64 0] 89)).heap[w.heap.size]? = some (.cells #[.pointer none, .int .i64 0] 89 (0, 0)) := (MapKept.heap_alloc w _).1
  have hf : ∀ j, (w.alloc (.cells #[.pointer none, .int .i64 0] 89)).frozen? ⟨w.heap.size, j, none⟩ = false := fun j => frozen_of_row _ _ j _ _ hR1
  clear hR1
  go_enter Try.func44, Try.ntmps44
  go_wp2_with fail
  exact ret_placeX rfl ⟨by rw [cellNew _ rfl]; rfl, by rw [cellNew _ rfl]; rfl⟩ ⟨rfl, (Below.refl _ _).alloc (Nat.le_refl _) _⟩
theorem Try.infoPairX : (Try.prog.info? 84).map (fun i => (i.zero, i.size, i.bytes)) = some (some (.agg #[.slice none 0 0, .slice none 0 0]), 2, 48) := by kernel_rfl

end Go.Proofs.Ytegdladpkikicaa
