/-
  The walk of spec.l11Copy.
-/
import Derived.Test.YtoebfpdalkpkdaaDoorItM
import Derived.Deep.RegionLaw
import Derived.Deep.RegionHeld3
import Derived.Sort.Walk0
import Derived.Laws.OwnMore
namespace Go.Proofs.YtoebfpdalkpkdaaDoor
open Go.RowKit

/-- an append onto a row of the call's own, as one step of a region that draws -/
theorem step_append_ownI {P : Program} {ops : Array Oper} {o : Oper} {a : Act} {w : World} {K : Act → World → Prop} {Q : Exit → Act → World → Prop} {E : Prop}
    (hg : o.guard = none) (s x : Operand) (t : TypeId) (hop : o.op = Op.call { callee := Callee.builtin Builtin.append, args := #[s, x], argTypes := #[t, t] })
    (base : Nat) (e : TypeId) (i : TypeInfo) (z : Value) (size bytes : Nat) (h1 : P.underlying t = some (.slice e)) (h2 : P.info? e = some i) (h3 : i.zero = some z) (h4 : i.size = size) (h5 : i.bytes = bytes) (h6 : z.cells.size = size) (h7 : 0 < size)
    (v : Value) (n : Nat) (xs : List Value) (hs : a.eval s = v) (hown : w.ownsRow base e size v n xs)
    (ad : Addr) (m c : Nat) (news : List Value) (hx : a.eval x = .slice (some ad) m c) (hn : news.length = m * size) (hc : ∀ j u, news[j]? = some u → w.cell? (ad.add j) = some u) (h1c : ∀ u ∈ news, u.oneCell' = true)
    (b1 : n + m ≤ maxLen) (b2 : (n + m) * bytes ≤ 140737488355328) (b3 : base ≤ w.heap.size)
    (hK : ∀ v' w', w'.ownsRow base e size v' (n + m) (xs ++ news) → w.grownBy w' v.ownBlock → (v' = .slice none 0 0 ↔ v = .slice none 0 0 ∧ m = 0) → K (a.put o.dst v') w') :
    if Region.wanted o (yielded ops a.tmps) = true then Oper.wp P o a w K Q else E := by
  have hw : Region.wanted o (yielded ops a.tmps) = true := by simp [Region.wanted, hg]
  rw [if_pos hw]
  obtain ⟨v', w', hrun, r1, r2, r3⟩ := run_append_own (P := P) w base t o.type e i z size bytes h1 h2 h3 h4 h5 h6 h7 v n xs hown ad m c news hn hc h1c b1 b2 b3
  unfold Oper.wp
  simp [execOp, hop, resolve, invoke, builtin, hs, hx, hrun, Result.andThen]
  exact hK v' w' r1 r2 r3

/-- an append of nothing (nil) onto a row of the call's own, as one step of a region that draws -/
theorem step_append_noneI {P : Program} {ops : Array Oper} {o : Oper} {a : Act} {w : World} {K : Act → World → Prop} {Q : Exit → Act → World → Prop} {E : Prop}
    (hg : o.guard = none) (s x : Operand) (t : TypeId) (hop : o.op = Op.call { callee := Callee.builtin Builtin.append, args := #[s, x], argTypes := #[t, t] })
    (base : Nat) (e : TypeId) (i : TypeInfo) (size : Nat) (h1 : P.underlying t = some (.slice e)) (h2 : P.info? e = some i)
    (v : Value) (n : Nat) (xs : List Value) (hs : a.eval s = v) (hown : w.ownsRow base e size v n xs) (hx : a.eval x = .slice none 0 0) (hK : K (a.put o.dst v) w) :
    if Region.wanted o (yielded ops a.tmps) = true then Oper.wp P o a w K Q else E := by
  have hw : Region.wanted o (yielded ops a.tmps) = true := by simp [Region.wanted, hg]
  rw [if_pos hw]
  have hrun := run_append_owned_none (P := P) (w := w) base t o.type e i size h1 h2 v n xs hown
  unfold Oper.wp
  simp [execOp, hop, resolve, invoke, builtin, hs, hx, hrun, Result.andThen]
  exact hK

/-- an append onto a row of the call's own, nil or not -/
theorem step_append_anyI {P : Program} {ops : Array Oper} {o : Oper} {a : Act} {w : World} {K : Act → World → Prop} {Q : Exit → Act → World → Prop} {E : Prop}
    (hg : o.guard = none) (s x : Operand) (t : TypeId) (hop : o.op = Op.call { callee := Callee.builtin Builtin.append, args := #[s, x], argTypes := #[t, t] })
    (base : Nat) (e : TypeId) (i : TypeInfo) (z : Value) (size bytes : Nat) (h1 : P.underlying t = some (.slice e)) (h2 : P.info? e = some i) (h3 : i.zero = some z) (h4 : i.size = size) (h5 : i.bytes = bytes) (h6 : z.cells.size = size) (h7 : 0 < size)
    (v : Value) (n : Nat) (xs : List Value) (hs : a.eval s = v) (hown : w.ownsRow base e size v n xs)
    (av : Option Addr) (m c : Nat) (news : List Value) (hx : a.eval x = .slice av m c) (hn : news.length = m * size) (hc : (av = none ∧ m = 0 ∧ c = 0) ∨ ∃ ad, av = some ad ∧ ∀ j u, news[j]? = some u → w.cell? (ad.add j) = some u) (h1c : ∀ u ∈ news, u.oneCell' = true)
    (b1 : n + m ≤ maxLen) (b2 : (n + m) * bytes ≤ 140737488355328) (b3 : base ≤ w.heap.size)
    (hK : ∀ v' w', w'.ownsRow base e size v' (n + m) (xs ++ news) → w.grownBy w' v.ownBlock → (v' = .slice none 0 0 ↔ v = .slice none 0 0 ∧ m = 0) → K (a.put o.dst v') w') :
    if Region.wanted o (yielded ops a.tmps) = true then Oper.wp P o a w K Q else E := by
  rcases hc with ⟨rfl, rfl, rfl⟩ | ⟨ad, rfl, hc⟩
  · have hn0 : news = [] := List.length_eq_zero_iff.1 (by simpa using hn)
    subst hn0
    refine step_append_noneI hg s x t hop base e i size h1 h2 v n xs hs hown hx (hK v w (by simpa using hown) (World.grownBy.refl _ _) (by simp))
  · exact step_append_ownI hg s x t hop base e i z size bytes h1 h2 h3 h4 h5 h6 h7 v n xs hs hown ad m c news hx hn hc h1c b1 b2 b3 hK

theorem own_someI {w : World} {B n : Nat} {v : Value} {xs : List Value} (h : w.ownsRow B 50 3 v n xs) (hne : v ≠ .slice none 0 0) : ∃ g c, v = .slice (some ⟨g, 0, none⟩) n c := by
  rcases h.2 with ⟨e, _⟩ | ⟨g, c, cur, e, _⟩
  · exact absurd e hne
  · exact ⟨g, c, e⟩
/-- the cells of a slice of items that lie somewhere -/
theorem itCellsAd {w : World} {ad : Addr} {cap : Nat} {es : List Itm} (h : ItAt w (.slice (some ad) es.length cap) es) : ∀ X : World, Below w.heap.size w X → ∀ j u, (itV es)[j]? = some u → X.cell? (ad.add j) = some u := fun X hX j u hu => by
  obtain ⟨av, cv, e, hc⟩ := itCells h
  have hj := (List.getElem?_eq_some_iff.1 hu).1
  rw [itV_length] at hj
  obtain ⟨b, off, e2, hbl, hcc⟩ := hc (by omega)
  simp only [Value.slice.injEq] at e
  obtain rfl : ad = ⟨b, off, none⟩ := by
    have := e.1.trans e2
    exact Option.some.inj this
  rw [Addr.add_lit]
  exact (hX.cell (p := ⟨b, off + j, none⟩) hbl).trans (hcc j u hu)

/-- the cells of a slice of items that lie anywhere or nowhere -/
theorem itCellsAny {w : World} {av : Option Addr} {cap : Nat} {es : List Itm} (h : ItAt w (.slice av es.length cap) es) (hav : av = none → cap = 0) : ∀ X : World, Below w.heap.size w X → (av = none ∧ es.length = 0 ∧ cap = 0) ∨ ∃ ad, av = some ad ∧ ∀ j u, (itV es)[j]? = some u → X.cell? (ad.add j) = some u := fun X hX => by
  cases av with
  | none =>
    refine .inl ⟨rfl, ?_, hav rfl⟩
    rcases h with ⟨h, _⟩ | ⟨b, off, c, e, _⟩
    · rw [h]; rfl
    · simp at e
  | some ad => exact .inr ⟨ad, rfl, itCellsAd h X hX⟩

theorem ret_l11Copy {R : Ending → World → Prop} {W : World} {tmps : Array Value} {b : Nat} {x0 x1 : Value} (hp : tmps[2]?.getD undef = .pointer (some ⟨b, 0, none⟩))
    (h : W.cell? ⟨b, 0, none⟩ = some x0 ∧ W.cell? ⟨b, 1, none⟩ = some x1) (hR : R (.returned (.agg #[x0, x1])) W) :
    bodyPost Tryd.prog Tryd.f32 R .ret { tmps := tmps, defers := [] } W := by
  obtain ⟨h0, h1⟩ := h
  refine bodyPost_ret (v := .agg #[x0, x1]) ?_ rfl hR
  simp [results, Tryd.results32, go_sem, hp, h0, h1]

set_option maxHeartbeats 1600000 in
set_option maxRecDepth 100000 in
theorem specCopyStore (room : Int) (av : Option Addr) (cap : Nat) (es : List Itm) (w : World) (hav : av = none → cap = 0) (hrow : ItAt w (.slice av es.length cap) es) (hlen : es.length ≤ 4194304) :
    Calls Tryd.prog 32 #[.agg #[.int .i64 room, .slice av es.length cap]] w fun e w' => ∃ g c, e = .returned (.agg #[.int .i64 room, .slice (some ⟨g, 0, none⟩) es.length c]) ∧ w'.ownsRow w.heap.size 50 3 (.slice (some ⟨g, 0, none⟩) es.length c) es.length (itV es) ∧ Below w.heap.size w w' := by
  obtain ⟨i0, hi0, hz0, hz1, hz2⟩ := info_parts Tryd.infoItem
  have hB2 : Below w.heap.size w ((w.alloc (.cells #[.int .i64 room, .slice av es.length cap] 29)).alloc (.cells #[.int .i64 0, .slice none 0 0] 29)) := ((Below.refl _ _).alloc (Nat.le_refl _) _).alloc (by simp) _
  have hzW : ((w.alloc (.cells #[.int .i64 room, .slice av es.length cap] 29)).alloc (.cells #[.int .i64 0, .slice none 0 0] 29)).heap.size = w.heap.size + 1 + 1 := by simp
  have a0 : ((w.alloc (.cells #[.int .i64 room, .slice av es.length cap] 29)).alloc (.cells #[.int .i64 0, .slice none 0 0] 29)).cell? ⟨w.heap.size, 0, none⟩ = some (.int .i64 room) := by rw [itOld _ (by simp), itNew _ rfl]; rfl
  have a1 : ((w.alloc (.cells #[.int .i64 room, .slice av es.length cap] 29)).alloc (.cells #[.int .i64 0, .slice none 0 0] 29)).cell? ⟨w.heap.size, 1, none⟩ = some (.slice av es.length cap) := by rw [itOld _ (by simp), itNew _ rfl]; rfl
  have r0 : ((w.alloc (.cells #[.int .i64 room, .slice av es.length cap] 29)).alloc (.cells #[.int .i64 0, .slice none 0 0] 29)).heap[w.heap.size + 1]? = some (.cells #[.int .i64 0, .slice none 0 0] 29 (0, 0)) := by
    have := (MapKept.heap_alloc (w.alloc (.cells #[.int .i64 room, .slice av es.length cap] 29)) (.cells #[.int .i64 0, .slice none 0 0] 29)).1
    rwa [show (w.alloc (.cells #[.int .i64 room, .slice av es.length cap] 29)).heap.size = w.heap.size + 1 from by simp] at this
  have HCE : Hid (type_of% (itCellsAny hrow hav)) := itCellsAny hrow hav
  clear hrow hav
  go_enter Tryd.func32, Tryd.ntmps32
  go_wp2_with fail
  generalize ((w.alloc (.cells #[.int .i64 room, .slice av es.length cap] 29)).alloc (.cells #[.int .i64 0, .slice none 0 0] 29)) = W2 at *
  have hs0 : w.heap.size < W2.heap.size := by omega
  have hs1 : w.heap.size + 1 < W2.heap.size := by omega
  clear hzW
  have HA : Hid (∀ X : World, Below W2.heap.size W2 X → X.cell? ⟨w.heap.size, 0, none⟩ = some (.int .i64 room) ∧ X.cell? ⟨w.heap.size, 1, none⟩ = some (.slice av es.length cap)) := fun X hX => ⟨(hX.cell (p := ⟨w.heap.size, 0, none⟩) hs0).trans a0, (hX.cell (p := ⟨w.heap.size, 1, none⟩) hs0).trans a1⟩
  have bE : Below W2.heap.size W2 (W2.alloc (.cells #[] 50)).drew := ((Below.refl _ _).alloc (Nat.le_refl _) _).drew
  have hE : (W2.alloc (.cells #[] 50)).drew.ownsRow W2.heap.size 50 3 (.slice (some ⟨W2.heap.size, 0, none⟩) 0 0) 0 [] := own_emptyI (MapKept.heap_alloc W2 _).1 (Nat.le_refl _)
  have HST : Hid (∀ (w5 : World) (v5 : Value), w5.ownsRow W2.heap.size 50 3 v5 (0 + es.length) ([] ++ itV es) → (W2.alloc (.cells #[] 50)).drew.grownBy w5 (some W2.heap.size) → (v5 = .slice none 0 0 ↔ (Value.slice (some ⟨W2.heap.size, 0, none⟩) 0 0 = .slice none 0 0 ∧ es.length = 0)) → Below W2.heap.size W2 w5 ∧ w5.cell? ⟨w.heap.size + 1, 0, none⟩ = some (.int .i64 0) ∧ w5.cell? ⟨w.heap.size + 1, 1, none⟩ = some (.slice none 0 0) ∧ w5.frozen? ⟨w.heap.size + 1, 0, none⟩ = false ∧ w5.frozen? ⟨w.heap.size + 1, 1, none⟩ = false ∧ (((w5.setCell ⟨w.heap.size + 1, 0, none⟩ (.int .i64 room)).setCell ⟨w.heap.size + 1, 1, none⟩ v5).cell? ⟨w.heap.size, 0, none⟩ = some (.int .i64 room) ∧ ((w5.setCell ⟨w.heap.size + 1, 0, none⟩ (.int .i64 room)).setCell ⟨w.heap.size + 1, 1, none⟩ v5).cell? ⟨w.heap.size, 1, none⟩ = some (.slice av es.length cap)) ∧ ∃ g c, v5 = .slice (some ⟨g, 0, none⟩) es.length c ∧ Hid (((w5.setCell ⟨w.heap.size + 1, 0, none⟩ (.int .i64 room)).setCell ⟨w.heap.size + 1, 1, none⟩ v5).cell? ⟨w.heap.size + 1, 0, none⟩ = some (.int .i64 room) ∧ ((w5.setCell ⟨w.heap.size + 1, 0, none⟩ (.int .i64 room)).setCell ⟨w.heap.size + 1, 1, none⟩ v5).cell? ⟨w.heap.size + 1, 1, none⟩ = some v5 ∧ ((w5.setCell ⟨w.heap.size + 1, 0, none⟩ (.int .i64 room)).setCell ⟨w.heap.size + 1, 1, none⟩ v5).ownsRow w.heap.size 50 3 v5 es.length (itV es) ∧ Below w.heap.size w ((w5.setCell ⟨w.heap.size + 1, 0, none⟩ (.int .i64 room)).setCell ⟨w.heap.size + 1, 1, none⟩ v5))) := fun w5 v5 ho hg hiff => by
    have ho' : w5.ownsRow W2.heap.size 50 3 v5 es.length (itV es) := by simpa using ho
    have b5 : Below W2.heap.size W2 w5 := bE.grown hg (by simp) (fun k hk => by simp only [Option.some.injEq] at hk; omega)
    obtain ⟨g, c, hv⟩ := own_someI ho' (fun e => by
      have := (hiff.1 e).1
      cases this)
    have hr5 : w5.heap[w.heap.size + 1]? = some (.cells #[.int .i64 0, .slice none 0 0] 29 (0, 0)) := (b5.block _ hs1).trans r0
    have d0 : w5.cell? ⟨w.heap.size + 1, 0, none⟩ = some (.int .i64 0) := by rw [cell_of_row _ _ 0 _ _ (0, 0) hr5]; rfl
    have d1 : w5.cell? ⟨w.heap.size + 1, 1, none⟩ = some (.slice none 0 0) := by rw [cell_of_row _ _ 1 _ _ (0, 0) hr5]; rfl
    have hoth : ∀ j u, w5.cell? ⟨w.heap.size, j, none⟩ = some u → ((w5.setCell ⟨w.heap.size + 1, 0, none⟩ (.int .i64 room)).setCell ⟨w.heap.size + 1, 1, none⟩ v5).cell? ⟨w.heap.size, j, none⟩ = some u := fun j u h => by
      rw [World.cell?_setCell_other _ _ _ _ (by simp), World.cell?_setCell_other _ _ _ _ (by simp)]
      exact h
    obtain ⟨q0, q1⟩ := HA.out w5 b5
    refine ⟨b5, d0, d1, frozen_of_row w5 _ 0 _ _ hr5, frozen_of_row w5 _ 1 _ _ hr5, ⟨hoth _ _ q0, hoth _ _ q1⟩, g, c, hv, ?_, ?_, ?_, ?_⟩
    · rw [World.cell?_setCell_other _ _ _ _ (by simp), World.cell?_setCell_same _ _ _ d0]
    · rw [World.cell?_setCell_same _ _ _ (by rw [World.cell?_setCell_other _ _ _ _ (by simp)]; exact d1)]
    · refine itLow ho' (by omega) fun g hg => ?_
      have hgl := (ho'.lt g hg).1
      rw [Below.heap_setCell _ _ _ _ (by simp; omega), Below.heap_setCell _ _ _ _ (by simp; omega)]
    · exact ((hB2.trans (b5.mono (by omega))).setCell (by simp) _).setCell (by simp) _
  have HCE2 : Hid ((av = none ∧ es.length = 0 ∧ cap = 0) ∨ ∃ ad, av = some ad ∧ ∀ j u, (itV es)[j]? = some u → (W2.alloc (.cells #[] 50)).drew.cell? (ad.add j) = some u) := HCE.out _ (hB2.trans (bE.mono (by omega)))
  have hQ0 := HA.out W2 (Below.refl _ _)
  have hQ1 := HA.out _ bE
  clear r0 hB2 a0 a1 HCE
  go_region_held3 (fun w' => w'.cell? ⟨w.heap.size, 0, none⟩ = some (.int .i64 room) ∧ w'.cell? ⟨w.heap.size, 1, none⟩ = some (.slice av es.length cap))
    (first
      | exact hQ0
      | exact hQ1
      | exact HA.out _ (by assumption)
      | (revert hQ5; intro hQ5; exact hQ5))
    (first
      | (refine step_append_anyI rfl (.tmp 5) (.tmp 7) 27 rfl W2.heap.size 50 i0 (.agg #[.string ⟨#[]⟩, .string ⟨#[]⟩, .string ⟨#[]⟩]) 3 48 Tryd.underlying27 hi0 hz0 hz1 hz2 rfl (by decide) (.slice (some ⟨W2.heap.size, 0, none⟩) 0 0) 0 [] rfl hE av es.length cap (itV es) rfl (itV_length es) HCE2.out (itV_one es) (by unfold maxLen; omega) (by omega) (by simp) ?_; intro v5 w5 o5 g5 n5; obtain ⟨b5, d0, d1, f0, f1, hQ5, g, c, rfl, HF⟩ := HST.out w5 v5 o5 g5 n5))
  clear d0 d1 f0 f1 hQ0 hQ1 hQ5 HA HST HCE2 hE bE b5 o5 g5 n5
  go_wp2_with fail
  obtain ⟨q0, q1, q2, q3⟩ := HF.out
  exact ret_l11Copy (b := w.heap.size + 1) rfl ⟨q0, q1⟩ ⟨g, c, rfl, q2, q3⟩

end Go.Proofs.YtoebfpdalkpkdaaDoor
