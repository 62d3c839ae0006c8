/-
  The walk of spec.l11Copy.
  The walk of spec.FarmStart.
-/
import Derived.Test.YtllbfbllkefjeaaGreatDoorMapT
import Derived.Deep.RegionLaw
import Derived.Deep.RegionHeld3
import Derived.Sort.Walk0
import Derived.Laws.OwnMore
import Derived.Test.YtllbfbllkefjeaaGreatDoorFsK
import Derived.Test.YtllbfbllkefjeaaGreatDoorSrS
import Derived.Deep.CutRange
namespace Go.Proofs.YtllbfbllkefjeaaGreatDoor
open Go.RowKit

/-- an append onto a row of the call's own, as one step of a region that draws -/
theorem step_append_ownI {P : Program} {ops : Array Oper} {o : Oper} {a : Act} {w : World} {K : Act → World → Prop} {Q : Exit → Act → World → Prop} {E : Prop}
    (hg : o.guard = none) (s x : Operand) (t : TypeId) (hop : o.op = Op.call { callee := Callee.builtin Builtin.append, args := #[s, x], argTypes := #[t, t] })
    (base : Nat) (e : TypeId) (i : TypeInfo) (z : Value) (size bytes : Nat) (h1 : P.underlying t = some (.slice e)) (h2 : P.info? e = some i) (h3 : i.zero = some z) (h4 : i.size = size) (h5 : i.bytes = bytes) (h6 : z.cells.size = size) (h7 : 0 < size)
    (v : Value) (n : Nat) (xs : List Value) (hs : a.eval s = v) (hown : w.ownsRow base e size v n xs)
    (ad : Addr) (m c : Nat) (news : List Value) (hx : a.eval x = .slice (some ad) m c) (hn : news.length = m * size) (hc : ∀ j u, news[j]? = some u → w.cell? (ad.add j) = some u) (h1c : ∀ u ∈ news, u.oneCell' = true)
    (b1 : n + m ≤ maxLen) (b2 : (n + m) * bytes ≤ 140737488355328) (b3 : base ≤ w.heap.size)
    (hK : ∀ v' w', w'.ownsRow base e size v' (n + m) (xs ++ news) → w.grownBy w' v.ownBlock → (v' = .slice none 0 0 ↔ v = .slice none 0 0 ∧ m = 0) → K (a.put o.dst v') w') :
    if Region.wanted o (yielded ops a.tmps) = true then Oper.wp P o a w K Q else E := by
  have hw : Region.wanted o (yielded ops a.tmps) = true := by simp [Region.wanted, hg]
  rw [if_pos hw]
  obtain ⟨v', w', hrun, r1, r2, r3⟩ := run_append_own (P := P) w base t o.type e i z size bytes h1 h2 h3 h4 h5 h6 h7 v n xs hown ad m c news hn hc h1c b1 b2 b3
  unfold Oper.wp
  simp [execOp, hop, resolve, invoke, builtin, hs, hx, hrun, Result.andThen]
  exact hK v' w' r1 r2 r3

/-- an append of nothing (nil) onto a row of the call's own, as one step of a region that draws -/
theorem step_append_noneI {P : Program} {ops : Array Oper} {o : Oper} {a : Act} {w : World} {K : Act → World → Prop} {Q : Exit → Act → World → Prop} {E : Prop}
    (hg : o.guard = none) (s x : Operand) (t : TypeId) (hop : o.op = Op.call { callee := Callee.builtin Builtin.append, args := #[s, x], argTypes := #[t, t] })
    (base : Nat) (e : TypeId) (i : TypeInfo) (size : Nat) (h1 : P.underlying t = some (.slice e)) (h2 : P.info? e = some i)
    (v : Value) (n : Nat) (xs : List Value) (hs : a.eval s = v) (hown : w.ownsRow base e size v n xs) (hx : a.eval x = .slice none 0 0) (hK : K (a.put o.dst v) w) :
    if Region.wanted o (yielded ops a.tmps) = true then Oper.wp P o a w K Q else E := by
  have hw : Region.wanted o (yielded ops a.tmps) = true := by simp [Region.wanted, hg]
  rw [if_pos hw]
  have hrun := run_append_owned_none (P := P) (w := w) base t o.type e i size h1 h2 v n xs hown
  unfold Oper.wp
  simp [execOp, hop, resolve, invoke, builtin, hs, hx, hrun, Result.andThen]
  exact hK

/-- an append onto a row of the call's own, nil or not -/
theorem step_append_anyI {P : Program} {ops : Array Oper} {o : Oper} {a : Act} {w : World} {K : Act → World → Prop} {Q : Exit → Act → World → Prop} {E : Prop}
    (hg : o.guard = none) (s x : Operand) (t : TypeId) (hop : o.op = Op.call { callee := Callee.builtin Builtin.append, args := #[s, x], argTypes := #[t, t] })
    (base : Nat) (e : TypeId) (i : TypeInfo) (z : Value) (size bytes : Nat) (h1 : P.underlying t = some (.slice e)) (h2 : P.info? e = some i) (h3 : i.zero = some z) (h4 : i.size = size) (h5 : i.bytes = bytes) (h6 : z.cells.size = size) (h7 : 0 < size)
    (v : Value) (n : Nat) (xs : List Value) (hs : a.eval s = v) (hown : w.ownsRow base e size v n xs)
    (av : Option Addr) (m c : Nat) (news : List Value) (hx : a.eval x = .slice av m c) (hn : news.length = m * size) (hc : (av = none ∧ m = 0 ∧ c = 0) ∨ ∃ ad, av = some ad ∧ ∀ j u, news[j]? = some u → w.cell? (ad.add j) = some u) (h1c : ∀ u ∈ news, u.oneCell' = true)
    (b1 : n + m ≤ maxLen) (b2 : (n + m) * bytes ≤ 140737488355328) (b3 : base ≤ w.heap.size)
    (hK : ∀ v' w', w'.ownsRow base e size v' (n + m) (xs ++ news) → w.grownBy w' v.ownBlock → (v' = .slice none 0 0 ↔ v = .slice none 0 0 ∧ m = 0) → K (a.put o.dst v') w') :
    if Region.wanted o (yielded ops a.tmps) = true then Oper.wp P o a w K Q else E := by
  rcases hc with ⟨rfl, rfl, rfl⟩ | ⟨ad, rfl, hc⟩
  · have hn0 : news = [] := List.length_eq_zero_iff.1 (by simpa using hn)
    subst hn0
    refine step_append_noneI hg s x t hop base e i size h1 h2 v n xs hs hown hx (hK v w (by simpa using hown) (World.grownBy.refl _ _) (by simp))
  · exact step_append_ownI hg s x t hop base e i z size bytes h1 h2 h3 h4 h5 h6 h7 v n xs hs hown ad m c news hx hn hc h1c b1 b2 b3 hK

theorem own_someI {w : World} {B n : Nat} {v : Value} {xs : List Value} (h : w.ownsRow B 83 3 v n xs) (hne : v ≠ .slice none 0 0) : ∃ g c, v = .slice (some ⟨g, 0, none⟩) n c := by
  rcases h.2 with ⟨e, _⟩ | ⟨g, c, cur, e, _⟩
  · exact absurd e hne
  · exact ⟨g, c, e⟩
/-- the cells of a slice of items that lie somewhere -/
theorem itCellsAd {w : World} {ad : Addr} {cap : Nat} {es : List Itm} (h : ItAt w (.slice (some ad) es.length cap) es) : ∀ X : World, Below w.heap.size w X → ∀ j u, (itV es)[j]? = some u → X.cell? (ad.add j) = some u := fun X hX j u hu => by
  obtain ⟨av, cv, e, hc⟩ := itCells h
  have hj := (List.getElem?_eq_some_iff.1 hu).1
  rw [itV_length] at hj
  obtain ⟨b, off, e2, hbl, hcc⟩ := hc (by omega)
  simp only [Value.slice.injEq] at e
  obtain rfl : ad = ⟨b, off, none⟩ := by
    have := e.1.trans e2
    exact Option.some.inj this
  rw [Addr.add_lit]
  exact (hX.cell (p := ⟨b, off + j, none⟩) hbl).trans (hcc j u hu)

/-- the cells of a slice of items that lie anywhere or nowhere -/
theorem itCellsAny {w : World} {av : Option Addr} {cap : Nat} {es : List Itm} (h : ItAt w (.slice av es.length cap) es) (hav : av = none → cap = 0) : ∀ X : World, Below w.heap.size w X → (av = none ∧ es.length = 0 ∧ cap = 0) ∨ ∃ ad, av = some ad ∧ ∀ j u, (itV es)[j]? = some u → X.cell? (ad.add j) = some u := fun X hX => by
  cases av with
  | none =>
    refine .inl ⟨rfl, ?_, hav rfl⟩
    rcases h with ⟨h, _⟩ | ⟨b, off, c, e, _⟩
    · rw [h]; rfl
    · simp at e
  | some ad => exact .inr ⟨ad, rfl, itCellsAd h X hX⟩

theorem ret_l11Copy {R : Ending → World → Prop} {W : World} {tmps : Array Value} {b : Nat} {x0 x1 : Value} (hp : tmps[2]?.getD undef = .pointer (some ⟨b, 0, none⟩))
    (h : W.cell? ⟨b, 0, none⟩ = some x0 ∧ W.cell? ⟨b, 1, none⟩ = some x1) (hR : R (.returned (.agg #[x0, x1])) W) :
    bodyPost Tryz.prog Tryz.f22 R .ret { tmps := tmps, defers := [] } W := by
  obtain ⟨h0, h1⟩ := h
  refine bodyPost_ret (v := .agg #[x0, x1]) ?_ rfl hR
  simp [results, Tryz.results22, go_sem, hp, h0, h1]

set_option maxHeartbeats 1600000 in
set_option maxRecDepth 100000 in
theorem specCopyStore (room : Int) (av : Option Addr) (cap : Nat) (es : List Itm) (w : World) (hav : av = none → cap = 0) (hrow : ItAt w (.slice av es.length cap) es) (hlen : es.length ≤ 4194304) :
    Calls Tryz.prog 22 #[.agg #[.int .i64 room, .slice av es.length cap]] w fun e w' => ∃ g c, e = .returned (.agg #[.int .i64 room, .slice (some ⟨g, 0, none⟩) es.length c]) ∧ w'.ownsRow w.heap.size 83 3 (.slice (some ⟨g, 0, none⟩) es.length c) es.length (itV es) ∧ Below w.heap.size w w' := by
  obtain ⟨i0, hi0, hz0, hz1, hz2⟩ := info_parts Tryz.infoItem
  have hB2 : Below w.heap.size w ((w.alloc (.cells #[.int .i64 room, .slice av es.length cap] 35)).alloc (.cells #[.int .i64 0, .slice none 0 0] 35)) := ((Below.refl _ _).alloc (Nat.le_refl _) _).alloc (by simp) _
  have hzW : ((w.alloc (.cells #[.int .i64 room, .slice av es.length cap] 35)).alloc (.cells #[.int .i64 0, .slice none 0 0] 35)).heap.size = w.heap.size + 1 + 1 := by simp
  have a0 : ((w.alloc (.cells #[.int .i64 room, .slice av es.length cap] 35)).alloc (.cells #[.int .i64 0, .slice none 0 0] 35)).cell? ⟨w.heap.size, 0, none⟩ = some (.int .i64 room) := by rw [itOld _ (by simp), itNew _ rfl]; rfl
  have a1 : ((w.alloc (.cells #[.int .i64 room, .slice av es.length cap] 35)).alloc (.cells #[.int .i64 0, .slice none 0 0] 35)).cell? ⟨w.heap.size, 1, none⟩ = some (.slice av es.length cap) := by rw [itOld _ (by simp), itNew _ rfl]; rfl
  have r0 : ((w.alloc (.cells #[.int .i64 room, .slice av es.length cap] 35)).alloc (.cells #[.int .i64 0, .slice none 0 0] 35)).heap[w.heap.size + 1]? = some (.cells #[.int .i64 0, .slice none 0 0] 35 (0, 0)) := by
    have := (MapKept.heap_alloc (w.alloc (.cells #[.int .i64 room, .slice av es.length cap] 35)) (.cells #[.int .i64 0, .slice none 0 0] 35)).1
    rwa [show (w.alloc (.cells #[.int .i64 room, .slice av es.length cap] 35)).heap.size = w.heap.size + 1 from by simp] at this
  have HCE : Hid (type_of% (itCellsAny hrow hav)) := itCellsAny hrow hav
  clear hrow hav
  go_enter Tryz.func22, Tryz.ntmps22
  go_wp2_with fail
  generalize ((w.alloc (.cells #[.int .i64 room, .slice av es.length cap] 35)).alloc (.cells #[.int .i64 0, .slice none 0 0] 35)) = W2 at *
  have hs0 : w.heap.size < W2.heap.size := by omega
  have hs1 : w.heap.size + 1 < W2.heap.size := by omega
  clear hzW
  have HA : Hid (∀ X : World, Below W2.heap.size W2 X → X.cell? ⟨w.heap.size, 0, none⟩ = some (.int .i64 room) ∧ X.cell? ⟨w.heap.size, 1, none⟩ = some (.slice av es.length cap)) := fun X hX => ⟨(hX.cell (p := ⟨w.heap.size, 0, none⟩) hs0).trans a0, (hX.cell (p := ⟨w.heap.size, 1, none⟩) hs0).trans a1⟩
  have bE : Below W2.heap.size W2 (W2.alloc (.cells #[] 83)).drew := ((Below.refl _ _).alloc (Nat.le_refl _) _).drew
  have hE : (W2.alloc (.cells #[] 83)).drew.ownsRow W2.heap.size 83 3 (.slice (some ⟨W2.heap.size, 0, none⟩) 0 0) 0 [] := own_emptyI (MapKept.heap_alloc W2 _).1 (Nat.le_refl _)
  have HST : Hid (∀ (w5 : World) (v5 : Value), w5.ownsRow W2.heap.size 83 3 v5 (0 + es.length) ([] ++ itV es) → (W2.alloc (.cells #[] 83)).drew.grownBy w5 (some W2.heap.size) → (v5 = .slice none 0 0 ↔ (Value.slice (some ⟨W2.heap.size, 0, none⟩) 0 0 = .slice none 0 0 ∧ es.length = 0)) → Below W2.heap.size W2 w5 ∧ w5.cell? ⟨w.heap.size + 1, 0, none⟩ = some (.int .i64 0) ∧ w5.cell? ⟨w.heap.size + 1, 1, none⟩ = some (.slice none 0 0) ∧ w5.frozen? ⟨w.heap.size + 1, 0, none⟩ = false ∧ w5.frozen? ⟨w.heap.size + 1, 1, none⟩ = false ∧ (((w5.setCell ⟨w.heap.size + 1, 0, none⟩ (.int .i64 room)).setCell ⟨w.heap.size + 1, 1, none⟩ v5).cell? ⟨w.heap.size, 0, none⟩ = some (.int .i64 room) ∧ ((w5.setCell ⟨w.heap.size + 1, 0, none⟩ (.int .i64 room)).setCell ⟨w.heap.size + 1, 1, none⟩ v5).cell? ⟨w.heap.size, 1, none⟩ = some (.slice av es.length cap)) ∧ ∃ g c, v5 = .slice (some ⟨g, 0, none⟩) es.length c ∧ Hid (((w5.setCell ⟨w.heap.size + 1, 0, none⟩ (.int .i64 room)).setCell ⟨w.heap.size + 1, 1, none⟩ v5).cell? ⟨w.heap.size + 1, 0, none⟩ = some (.int .i64 room) ∧ ((w5.setCell ⟨w.heap.size + 1, 0, none⟩ (.int .i64 room)).setCell ⟨w.heap.size + 1, 1, none⟩ v5).cell? ⟨w.heap.size + 1, 1, none⟩ = some v5 ∧ ((w5.setCell ⟨w.heap.size + 1, 0, none⟩ (.int .i64 room)).setCell ⟨w.heap.size + 1, 1, none⟩ v5).ownsRow w.heap.size 83 3 v5 es.length (itV es) ∧ Below w.heap.size w ((w5.setCell ⟨w.heap.size + 1, 0, none⟩ (.int .i64 room)).setCell ⟨w.heap.size + 1, 1, none⟩ v5))) := fun w5 v5 ho hg hiff => by
    have ho' : w5.ownsRow W2.heap.size 83 3 v5 es.length (itV es) := by simpa using ho
    have b5 : Below W2.heap.size W2 w5 := bE.grown hg (by simp) (fun k hk => by simp only [Option.some.injEq] at hk; omega)
    obtain ⟨g, c, hv⟩ := own_someI ho' (fun e => by
      have := (hiff.1 e).1
      cases this)
    have hr5 : w5.heap[w.heap.size + 1]? = some (.cells #[.int .i64 0, .slice none 0 0] 35 (0, 0)) := (b5.block _ hs1).trans r0
    have d0 : w5.cell? ⟨w.heap.size + 1, 0, none⟩ = some (.int .i64 0) := by rw [cell_of_row _ _ 0 _ _ (0, 0) hr5]; rfl
    have d1 : w5.cell? ⟨w.heap.size + 1, 1, none⟩ = some (.slice none 0 0) := by rw [cell_of_row _ _ 1 _ _ (0, 0) hr5]; rfl
    have hoth : ∀ j u, w5.cell? ⟨w.heap.size, j, none⟩ = some u → ((w5.setCell ⟨w.heap.size + 1, 0, none⟩ (.int .i64 room)).setCell ⟨w.heap.size + 1, 1, none⟩ v5).cell? ⟨w.heap.size, j, none⟩ = some u := fun j u h => by
      rw [World.cell?_setCell_other _ _ _ _ (by simp), World.cell?_setCell_other _ _ _ _ (by simp)]
      exact h
    obtain ⟨q0, q1⟩ := HA.out w5 b5
    refine ⟨b5, d0, d1, frozen_of_row w5 _ 0 _ _ hr5, frozen_of_row w5 _ 1 _ _ hr5, ⟨hoth _ _ q0, hoth _ _ q1⟩, g, c, hv, ?_, ?_, ?_, ?_⟩
    · rw [World.cell?_setCell_other _ _ _ _ (by simp), World.cell?_setCell_same _ _ _ d0]
    · rw [World.cell?_setCell_same _ _ _ (by rw [World.cell?_setCell_other _ _ _ _ (by simp)]; exact d1)]
    · refine itLow ho' (by omega) fun g hg => ?_
      have hgl := (ho'.lt g hg).1
      rw [Below.heap_setCell _ _ _ _ (by simp; omega), Below.heap_setCell _ _ _ _ (by simp; omega)]
    · exact ((hB2.trans (b5.mono (by omega))).setCell (by simp) _).setCell (by simp) _
  have HCE2 : Hid ((av = none ∧ es.length = 0 ∧ cap = 0) ∨ ∃ ad, av = some ad ∧ ∀ j u, (itV es)[j]? = some u → (W2.alloc (.cells #[] 83)).drew.cell? (ad.add j) = some u) := HCE.out _ (hB2.trans (bE.mono (by omega)))
  have hQ0 := HA.out W2 (Below.refl _ _)
  have hQ1 := HA.out _ bE
  clear r0 hB2 a0 a1 HCE
  go_region_held3 (fun w' => w'.cell? ⟨w.heap.size, 0, none⟩ = some (.int .i64 room) ∧ w'.cell? ⟨w.heap.size, 1, none⟩ = some (.slice av es.length cap))
    (first
      | exact hQ0
      | exact hQ1
      | exact HA.out _ (by assumption)
      | (revert hQ5; intro hQ5; exact hQ5))
    (first
      | (refine step_append_anyI rfl (.tmp 5) (.tmp 7) 33 rfl W2.heap.size 83 i0 (.agg #[.string ⟨#[]⟩, .string ⟨#[]⟩, .string ⟨#[]⟩]) 3 48 Tryz.underlying33 hi0 hz0 hz1 hz2 rfl (by decide) (.slice (some ⟨W2.heap.size, 0, none⟩) 0 0) 0 [] rfl hE av es.length cap (itV es) rfl (itV_length es) HCE2.out (itV_one es) (by unfold maxLen; omega) (by omega) (by simp) ?_; intro v5 w5 o5 g5 n5; obtain ⟨b5, d0, d1, f0, f1, hQ5, g, c, rfl, HF⟩ := HST.out w5 v5 o5 g5 n5))
  clear d0 d1 f0 f1 hQ0 hQ1 hQ5 HA HST HCE2 hE bE b5 o5 g5 n5
  go_wp2_with fail
  obtain ⟨q0, q1, q2, q3⟩ := HF.out
  exact ret_l11Copy (b := w.heap.size + 1) rfl ⟨q0, q1⟩ ⟨g, c, rfl, q2, q3⟩

end Go.Proofs.YtllbfbllkefjeaaGreatDoor

namespace Go.Proofs.YtllbfbllkefjeaaGreatDoor
open Go.RowKit

theorem ret_sStart {R : Ending → World → Prop} {W : World} {tmps : Array Value} {b : Nat} {t : TypeId} {ok : Bool} {x0 x1 x2 x3 x4 x5 x6 x7 x8 x9 : Value} (hp : tmps[8]?.getD undef = .pointer (some ⟨b, 0, none⟩)) (hq : tmps[9]?.getD undef = .bool ok)
    (h : W.heap[b]? = some (.cells #[x0, x1, x2, x3, x4, x5, x6, x7, x8, x9] t (0, 0))) (hR : R (.returned (.tuple #[.agg #[x0, x1, x2, x3, x4, x5, x6, x7, x8, x9], .bool ok])) W) :
    bodyPost Tryz.prog Tryz.f6 R .ret { tmps := tmps, defers := [] } W := by
  obtain ⟨h0, h1, h2, h3, h4, h5, h6, h7, h8, h9⟩ := tenR_of h
  refine bodyPost_ret (v := .tuple #[.agg #[x0, x1, x2, x3, x4, x5, x6, x7, x8, x9], .bool ok]) ?_ rfl hR
  simp [results, Tryz.results6, go_sem, hp, hq, h0, h1, h2, h3, h4, h5, h6, h7, h8, h9]

set_option maxHeartbeats 12800000 in
set_option maxRecDepth 100000 in
open Classical in
theorem specFarmStart (a1 : Addr) (c1 : Nat) (S : List Src) (wk wt rm : Int) (a3 : Addr) (c3 : Nat) (I : List Itm) (w : World) (hS : SrcAt w (.slice (some a1) S.length c1) S) (hSb : srsBulk S ≤ 1048576) (hI : ItAt w (.slice (some a3) I.length c3) I) (hIb : itsBulk I ≤ 4194304) :
    Calls Tryz.prog 6 #[.slice (some a1) S.length c1, .int .i64 wk, .int .i64 wt, .agg #[.int .i64 rm, .slice (some a3) I.length c3]] w fun e w' => ∃ (b1 b2 b3 : Option Addr) (d1 d2 d3 : Nat) (S' : List Src) (U' : List Bool) (I' : List Itm) (wt' rm' : Int) (ok : Bool), e = .returned (.tuple #[.agg #[.slice b1 S'.length d1, .int .i64 wt', .slice b2 U'.length d2, .int .i64 0, .int .i64 0, .slice none 0 0, .slice none 0 0, .slice none 0 0, .int .i64 rm', .slice b3 I'.length d3], .bool ok]) ∧ FsOut S wk wt rm I S' U' I' wt' rm' ok ∧ w'.ownsRow w.heap.size 57 2 (.slice b1 S'.length d1) S'.length (flatA SrF S') ∧ w'.ownsRow w.heap.size 4 1 (.slice b2 U'.length d2) U'.length (flatA BoF U') ∧ w'.ownsRow w.heap.size 83 3 (.slice b3 I'.length d3) I'.length (itV I') ∧ ((∀ g, (Value.slice b1 S'.length d1).ownBlock = some g → (Value.slice b2 U'.length d2).ownBlock ≠ some g ∧ (Value.slice b3 I'.length d3).ownBlock ≠ some g) ∧ (∀ g, (Value.slice b2 U'.length d2).ownBlock = some g → (Value.slice b3 I'.length d3).ownBlock ≠ some g)) ∧ Below w.heap.size w w' := by
  obtain ⟨i0, hi0, hz0, hz1', hz2'⟩ := info_parts Tryz.infoSr
  obtain ⟨j0, hj0, hjz0, hjz1, hjz2⟩ := info_parts Tryz.infoBo
  obtain ⟨W1, hW1⟩ : ∃ W1, W1 = (w.alloc (.cells #[.int .i64 rm, .slice (some a3) I.length c3] 35)).alloc (.cells #[.slice none 0 0, .int .i64 0, .slice none 0 0, .int .i64 0, .int .i64 0, .slice none 0 0, .slice none 0 0, .slice none 0 0, .int .i64 0, .slice none 0 0] 37) := ⟨_, rfl⟩
  have hb1 : Below w.heap.size w W1 := by rw [hW1]; exact ((Below.refl _ _).alloc (Nat.le_refl _) _).alloc (by simp) _
  have hz1 : W1.heap.size = w.heap.size + 1 + 1 := by rw [hW1]; simp
  have rr : W1.heap[w.heap.size + 1]? = some (.cells #[.slice none 0 0, .int .i64 0, .slice none 0 0, .int .i64 0, .int .i64 0, .slice none 0 0, .slice none 0 0, .slice none 0 0, .int .i64 0, .slice none 0 0] 37 (0, 0)) := by
    have := (MapKept.heap_alloc (w.alloc (.cells #[.int .i64 rm, .slice (some a3) I.length c3] 35)) (.cells #[.slice none 0 0, .int .i64 0, .slice none 0 0, .int .i64 0, .int .i64 0, .slice none 0 0, .slice none 0 0, .slice none 0 0, .int .i64 0, .slice none 0 0] 37)).1
    rw [hW1]
    rwa [show (w.alloc (.cells #[.int .i64 rm, .slice (some a3) I.length c3] 35)).heap.size = w.heap.size + 1 from by simp] at this
  have rs : W1.heap[w.heap.size]? = some (.cells #[.int .i64 rm, .slice (some a3) I.length c3] 35 (0, 0)) := by
    rw [hW1, (MapKept.heap_alloc (w.alloc (.cells #[.int .i64 rm, .slice (some a3) I.length c3] 35)) _).2 w.heap.size (by simp)]
    exact (MapKept.heap_alloc w _).1
  have hx : ∀ X, Below W1.heap.size W1 X → Below w.heap.size w X := fun X hX => hb1.trans (hX.mono (by omega))
  obtain ⟨bS, hbS⟩ : ∃ b : Bool, b = decide (SrcRight S) := ⟨_, rfl⟩
  obtain ⟨bI, hbI⟩ : ∃ b : Bool, b = decide (StoreRight rm I) := ⟨_, rfl⟩
  have HSO : Hid (∀ X, Below W1.heap.size W1 X → Calls Tryz.prog 19 #[.slice (some a1) S.length c1] X fun e w' => e = .returned (.bool bS) ∧ Below X.heap.size X w') := fun X hX => by
    rw [hbS]
    exact (specSetOk _ S X (hS.below (hx X hX)) hSb).mono fun e w' h => ⟨h.1.trans (by congr), h.2⟩
  have HIO : Hid (∀ X, Below W1.heap.size W1 X → Calls Tryz.prog 21 #[.agg #[.int .i64 rm, .slice (some a3) I.length c3]] X fun e w' => e = .returned (.bool bI) ∧ Below X.heap.size X w') := fun X hX => by
    rw [hbI]
    exact (specStoreOk rm _ I X (hI.below (hx X hX)) hIb).mono fun e w' h => ⟨h.1.trans (by congr), h.2⟩
  have hil : I.length ≤ 4194304 := by unfold itsBulk at hIb; omega
  have hsl : S.length ≤ 1048576 := by unfold srsBulk at hSb; omega
  have HCP : Hid (∀ X, Below W1.heap.size W1 X → Calls Tryz.prog 22 #[.agg #[.int .i64 rm, .slice (some a3) I.length c3]] X fun e w' => ∃ (b3 : Option Addr) (d3 : Nat), e = .returned (.agg #[.int .i64 rm, .slice b3 I.length d3]) ∧ w'.ownsRow X.heap.size 83 3 (.slice b3 I.length d3) I.length (itV I) ∧ Below X.heap.size X w') := fun X hX => by
    refine (specCopyStore rm (some a3) c3 I X (fun h => by cases h) (hI.below (hx X hX)) hil).mono ?_
    rintro e w' ⟨g, c, h1, h2, h3⟩
    exact ⟨some ⟨g, 0, none⟩, c, h1, h2, h3⟩
  have HSE : Hid (∀ X, Below W1.heap.size W1 X → ∀ j u, (flatA SrF S)[j]? = some u → X.cell? (a1.add j) = some u) := fun X hX j u hu => by
    have hj := (List.getElem?_eq_some_iff.1 hu).1
    rw [flatA_length (f := SrF) (z := 2) (fun _ => rfl)] at hj
    obtain ⟨av, capv, hv, hc⟩ := rowA_cells (f := SrF) (z := 2) (fun _ => rfl) (srcA (hS.below (hx X hX)))
    simp only [Value.slice.injEq, true_and] at hv
    obtain ⟨hv1, _⟩ := hv
    obtain ⟨b, off, e, hbl, h⟩ := hc (by omega)
    rw [e, Option.some.injEq] at hv1
    subst hv1
    rw [Addr.add_lit]
    exact h j u hu
  have HX : Hid (∀ X, Below W1.heap.size W1 X → Below w.heap.size w X ∧ X.heap[w.heap.size + 1]? = some (.cells #[.slice none 0 0, .int .i64 0, .slice none 0 0, .int .i64 0, .int .i64 0, .slice none 0 0, .slice none 0 0, .slice none 0 0, .int .i64 0, .slice none 0 0] 37 (0, 0)) ∧ (X.cell? ⟨w.heap.size, 0, none⟩ = some (.int .i64 rm) ∧ X.cell? ⟨w.heap.size, 1, none⟩ = some (.slice (some a3) I.length c3))) := fun X hX => by
    have hr := (hX.block w.heap.size (by omega)).trans rs
    exact ⟨hx X hX, (hX.block _ (by omega)).trans rr, by rw [cell_of_row X _ 0 _ _ (0, 0) hr]; rfl, by rw [cell_of_row X _ 1 _ _ (0, 0) hr]; rfl⟩
  have HBS : Hid (bS = true ↔ SrcRight S) := by rw [hbS]; exact decide_eq_true_iff
  have HBI : Hid (bI = true ↔ StoreRight rm I) := by rw [hbI]; exact decide_eq_true_iff
  obtain ⟨bk, hbk⟩ : ∃ b : Bool, b = (decide (1 ≤ wk) && decide (wk ≤ 30)) := ⟨_, rfl⟩
  obtain ⟨bt, hbt⟩ : ∃ b : Bool, b = (decide (1 ≤ wt) && decide (wt ≤ 50)) := ⟨_, rfl⟩
  have hq1 : bk = true ↔ 1 ≤ wk ∧ wk ≤ 30 := by rw [hbk]; simp
  have HBK : Hid (type_of% hq1) := hq1
  have hq2 : bt = true ↔ 1 ≤ wt ∧ wt ≤ 50 := by rw [hbt]; simp
  have HBT : Hid (type_of% hq2) := hq2
  have HIK : Hid (∀ X, Calls Tryz.prog 20 #[.int .i64 wk, .int .i64 1, .int .i64 30] X fun e w' => e = .returned (.bool bk) ∧ w' = X) := fun X => by rw [hbk]; exact specIn wk 1 30 X
  have HIT : Hid (∀ X, Calls Tryz.prog 20 #[.int .i64 wt, .int .i64 1, .int .i64 50] X fun e w' => e = .returned (.bool bt) ∧ w' = X) := fun X => by rw [hbt]; exact specIn wt 1 50 X
  have hX1 : Below W1.heap.size W1 W1 := Below.refl _ _
  have HZ1 : Hid (type_of% hz1) := hz1
  have HW1 : Hid (type_of% hW1) := hW1
  have HFA : Hid (¬ FarmRight S wk wt rm I → ∀ X, Below W1.heap.size W1 X → ((((((((((X.setCell ⟨w.heap.size + 1, 0, none⟩ (.slice none 0 0)).setCell ⟨w.heap.size + 1, 1, none⟩ (.int .i64 0)).setCell ⟨w.heap.size + 1, 2, none⟩ (.slice none 0 0)).setCell ⟨w.heap.size + 1, 3, none⟩ (.int .i64 0)).setCell ⟨w.heap.size + 1, 4, none⟩ (.int .i64 0)).setCell ⟨w.heap.size + 1, 5, none⟩ (.slice none 0 0)).setCell ⟨w.heap.size + 1, 6, none⟩ (.slice none 0 0)).setCell ⟨w.heap.size + 1, 7, none⟩ (.slice none 0 0)).setCell ⟨w.heap.size + 1, 8, none⟩ (.int .i64 0)).setCell ⟨w.heap.size + 1, 9, none⟩ (.slice none 0 0)).heap[w.heap.size + 1]? = some (.cells #[.slice none 0 0, .int .i64 0, .slice none 0 0, .int .i64 0, .int .i64 0, .slice none 0 0, .slice none 0 0, .slice none 0 0, .int .i64 0, .slice none 0 0] 37 (0, 0)) ∧ Below w.heap.size w ((((((((((X.setCell ⟨w.heap.size + 1, 0, none⟩ (.slice none 0 0)).setCell ⟨w.heap.size + 1, 1, none⟩ (.int .i64 0)).setCell ⟨w.heap.size + 1, 2, none⟩ (.slice none 0 0)).setCell ⟨w.heap.size + 1, 3, none⟩ (.int .i64 0)).setCell ⟨w.heap.size + 1, 4, none⟩ (.int .i64 0)).setCell ⟨w.heap.size + 1, 5, none⟩ (.slice none 0 0)).setCell ⟨w.heap.size + 1, 6, none⟩ (.slice none 0 0)).setCell ⟨w.heap.size + 1, 7, none⟩ (.slice none 0 0)).setCell ⟨w.heap.size + 1, 8, none⟩ (.int .i64 0)).setCell ⟨w.heap.size + 1, 9, none⟩ (.slice none 0 0))) := fun _ X hX => by
    have hle : w.heap.size ≤ w.heap.size + 1 := by omega
    obtain ⟨h1, h2, _⟩ := HX.out X hX
    have h3 := put10R (x0 := (.slice none 0 0)) (x1 := (.int .i64 0)) (x2 := (.slice none 0 0)) (x3 := (.int .i64 0)) (x4 := (.int .i64 0)) (x5 := (.slice none 0 0)) (x6 := (.slice none 0 0)) (x7 := (.slice none 0 0)) (x8 := (.int .i64 0)) (x9 := (.slice none 0 0)) h2
    unfold put10 at h3
    exact ⟨h3, ((((((((((h1.setCell hle _).setCell hle _).setCell hle _).setCell hle _).setCell hle _).setCell hle _).setCell hle _).setCell hle _).setCell hle _).setCell hle _)⟩
  clear hS hSb hI hIb hb1 hz1 rr rs hx hbS hbI hbk hbt hW1 hq1 hq2
  cases bS
  · have HNR : Hid (¬ FarmRight S wk wt rm I) := fun h => by have := HBS.out.2 h.1; simp at this
    go_enter Tryz.func6, Tryz.ntmps6
    go_wp2_with fail
    rw [← HW1.out]
    clear HW1
    refine (HSO.out _ hX1).mono ?_
    rintro e w2 ⟨rfl, hb2⟩
    obtain ⟨_, rr2, e0, e1⟩ := HX.out w2 hb2
    obtain ⟨t0, t1, t2, t3, t4, t5, t6, t7, t8, t9⟩ := tenR_of rr2
    have g0 := frozen_of_row _ _ 0 _ _ rr2
    have g1 := frozen_of_row _ _ 1 _ _ rr2
    have g2 := frozen_of_row _ _ 2 _ _ rr2
    have g3 := frozen_of_row _ _ 3 _ _ rr2
    have g4 := frozen_of_row _ _ 4 _ _ rr2
    have g5 := frozen_of_row _ _ 5 _ _ rr2
    have g6 := frozen_of_row _ _ 6 _ _ rr2
    have g7 := frozen_of_row _ _ 7 _ _ rr2
    have g8 := frozen_of_row _ _ 8 _ _ rr2
    have g9 := frozen_of_row _ _ 9 _ _ rr2
    have hF := HFA.out HNR.out _ hb2
    have HF : Hid (type_of% hF) := hF
    clear hF HFA HX HSE HCP HIO HSO
    go_wp2_with fail
    refine ret_sStart (b := w.heap.size + 1) rfl rfl HF.out.1 ⟨none, none, none, 0, 0, 0, [], [], [], 0, 0, false, rfl, .inr ⟨HNR.out, rfl, rfl, rfl, rfl, rfl, rfl⟩, ?_, ?_, ?_, ?_, HF.out.2⟩
    · exact World.ownsRow_nil _ _ _ _
    · exact World.ownsRow_nil _ _ _ _
    · exact World.ownsRow_nil _ _ _ _
    · exact ⟨fun g hg => by simp [Value.ownBlock] at hg, fun g hg => by simp [Value.ownBlock] at hg⟩
  · cases bk
    · have HNR : Hid (¬ FarmRight S wk wt rm I) := fun h => by have := HBK.out.2 h.2.1; simp at this
      go_enter Tryz.func6, Tryz.ntmps6
      go_wp2_with fail
      rw [← HW1.out]
      clear HW1
      refine (HSO.out _ hX1).mono ?_
      rintro e w2 ⟨rfl, hb2⟩
      obtain ⟨_, rr2, e0, e1⟩ := HX.out w2 hb2
      obtain ⟨t0, t1, t2, t3, t4, t5, t6, t7, t8, t9⟩ := tenR_of rr2
      have g0 := frozen_of_row _ _ 0 _ _ rr2
      have g1 := frozen_of_row _ _ 1 _ _ rr2
      have g2 := frozen_of_row _ _ 2 _ _ rr2
      have g3 := frozen_of_row _ _ 3 _ _ rr2
      have g4 := frozen_of_row _ _ 4 _ _ rr2
      have g5 := frozen_of_row _ _ 5 _ _ rr2
      have g6 := frozen_of_row _ _ 6 _ _ rr2
      have g7 := frozen_of_row _ _ 7 _ _ rr2
      have g8 := frozen_of_row _ _ 8 _ _ rr2
      have g9 := frozen_of_row _ _ 9 _ _ rr2
      have hF := HFA.out HNR.out _ hb2
      have HF : Hid (type_of% hF) := hF
      clear hF HFA HX HSE HCP HIO HSO
      go_wp2_with (go_at_call 20; (first | (with_reducible refine (HIK.out _).mono ?_) | (with_reducible refine (HIT.out _).mono ?_)); rintro e w3 ⟨rfl, hw3⟩; rw [hw3]; clear hw3)
      refine ret_sStart (b := w.heap.size + 1) rfl rfl HF.out.1 ⟨none, none, none, 0, 0, 0, [], [], [], 0, 0, false, rfl, .inr ⟨HNR.out, rfl, rfl, rfl, rfl, rfl, rfl⟩, ?_, ?_, ?_, ?_, HF.out.2⟩
      · exact World.ownsRow_nil _ _ _ _
      · exact World.ownsRow_nil _ _ _ _
      · exact World.ownsRow_nil _ _ _ _
      · exact ⟨fun g hg => by simp [Value.ownBlock] at hg, fun g hg => by simp [Value.ownBlock] at hg⟩
    · cases bt
      · have HNR : Hid (¬ FarmRight S wk wt rm I) := fun h => by have := HBT.out.2 h.2.2.1; simp at this
        go_enter Tryz.func6, Tryz.ntmps6
        go_wp2_with fail
        rw [← HW1.out]
        clear HW1
        refine (HSO.out _ hX1).mono ?_
        rintro e w2 ⟨rfl, hb2⟩
        obtain ⟨_, rr2, e0, e1⟩ := HX.out w2 hb2
        obtain ⟨t0, t1, t2, t3, t4, t5, t6, t7, t8, t9⟩ := tenR_of rr2
        have g0 := frozen_of_row _ _ 0 _ _ rr2
        have g1 := frozen_of_row _ _ 1 _ _ rr2
        have g2 := frozen_of_row _ _ 2 _ _ rr2
        have g3 := frozen_of_row _ _ 3 _ _ rr2
        have g4 := frozen_of_row _ _ 4 _ _ rr2
        have g5 := frozen_of_row _ _ 5 _ _ rr2
        have g6 := frozen_of_row _ _ 6 _ _ rr2
        have g7 := frozen_of_row _ _ 7 _ _ rr2
        have g8 := frozen_of_row _ _ 8 _ _ rr2
        have g9 := frozen_of_row _ _ 9 _ _ rr2
        have hF := HFA.out HNR.out _ hb2
        have HF : Hid (type_of% hF) := hF
        clear hF HFA HX HSE HCP HIO HSO
        go_wp2_with (go_at_call 20; (first | (with_reducible refine (HIK.out _).mono ?_) | (with_reducible refine (HIT.out _).mono ?_)); rintro e w3 ⟨rfl, hw3⟩; rw [hw3]; clear hw3)
        refine ret_sStart (b := w.heap.size + 1) rfl rfl HF.out.1 ⟨none, none, none, 0, 0, 0, [], [], [], 0, 0, false, rfl, .inr ⟨HNR.out, rfl, rfl, rfl, rfl, rfl, rfl⟩, ?_, ?_, ?_, ?_, HF.out.2⟩
        · exact World.ownsRow_nil _ _ _ _
        · exact World.ownsRow_nil _ _ _ _
        · exact World.ownsRow_nil _ _ _ _
        · exact ⟨fun g hg => by simp [Value.ownBlock] at hg, fun g hg => by simp [Value.ownBlock] at hg⟩
      · cases bI
        · have HNR : Hid (¬ FarmRight S wk wt rm I) := fun h => by have := HBI.out.2 h.2.2.2; simp at this
          go_enter Tryz.func6, Tryz.ntmps6
          go_wp2_with fail
          rw [← HW1.out]
          clear HW1
          refine (HSO.out _ hX1).mono ?_
          rintro e w2 ⟨rfl, hb2⟩
          obtain ⟨_, rr2, e0, e1⟩ := HX.out w2 hb2
          obtain ⟨t0, t1, t2, t3, t4, t5, t6, t7, t8, t9⟩ := tenR_of rr2
          have g0 := frozen_of_row _ _ 0 _ _ rr2
          have g1 := frozen_of_row _ _ 1 _ _ rr2
          have g2 := frozen_of_row _ _ 2 _ _ rr2
          have g3 := frozen_of_row _ _ 3 _ _ rr2
          have g4 := frozen_of_row _ _ 4 _ _ rr2
          have g5 := frozen_of_row _ _ 5 _ _ rr2
          have g6 := frozen_of_row _ _ 6 _ _ rr2
          have g7 := frozen_of_row _ _ 7 _ _ rr2
          have g8 := frozen_of_row _ _ 8 _ _ rr2
          have g9 := frozen_of_row _ _ 9 _ _ rr2
          go_wp2_with (first
            | (go_at_call 20; (first | (with_reducible refine (HIK.out _).mono ?_) | (with_reducible refine (HIT.out _).mono ?_)); rintro e w3 ⟨rfl, hw3⟩; rw [hw3]; clear hw3)
            | (go_at_call 21; refine (HIO.out _ hb2).mono ?_; rintro e w4 ⟨rfl, hb4⟩; have hX4 : Below W1.heap.size W1 w4 := hb2.trans (hb4.mono hb2.size); obtain ⟨_, rr4, e0, e1⟩ := HX.out w4 hX4; obtain ⟨t0, t1, t2, t3, t4, t5, t6, t7, t8, t9⟩ := tenR_of rr4; have g0 := frozen_of_row _ _ 0 _ _ rr4; have g1 := frozen_of_row _ _ 1 _ _ rr4; have g2 := frozen_of_row _ _ 2 _ _ rr4; have g3 := frozen_of_row _ _ 3 _ _ rr4; have g4 := frozen_of_row _ _ 4 _ _ rr4; have g5 := frozen_of_row _ _ 5 _ _ rr4; have g6 := frozen_of_row _ _ 6 _ _ rr4; have g7 := frozen_of_row _ _ 7 _ _ rr4; have g8 := frozen_of_row _ _ 8 _ _ rr4; have g9 := frozen_of_row _ _ 9 _ _ rr4))
          have hF := HFA.out HNR.out _ hX4
          have HF : Hid (type_of% hF) := hF
          clear hF HFA HX HSE HCP HIO HSO
          refine ret_sStart (b := w.heap.size + 1) rfl rfl HF.out.1 ⟨none, none, none, 0, 0, 0, [], [], [], 0, 0, false, rfl, .inr ⟨HNR.out, rfl, rfl, rfl, rfl, rfl, rfl⟩, ?_, ?_, ?_, ?_, HF.out.2⟩
          · exact World.ownsRow_nil _ _ _ _
          · exact World.ownsRow_nil _ _ _ _
          · exact World.ownsRow_nil _ _ _ _
          · exact ⟨fun g hg => by simp [Value.ownBlock] at hg, fun g hg => by simp [Value.ownBlock] at hg⟩
        · have HYES : Hid (FarmRight S wk wt rm I) := ⟨HBS.out.1 rfl, HBK.out.1 rfl, HBT.out.1 rfl, HBI.out.1 rfl⟩
          go_enter Tryz.func6, Tryz.ntmps6
          go_wp2_with fail
          rw [← HW1.out]
          clear HW1
          refine (HSO.out _ hX1).mono ?_
          rintro e w2 ⟨rfl, hb2⟩
          obtain ⟨_, rr2, e0, e1⟩ := HX.out w2 hb2
          obtain ⟨t0, t1, t2, t3, t4, t5, t6, t7, t8, t9⟩ := tenR_of rr2
          have g0 := frozen_of_row _ _ 0 _ _ rr2
          have g1 := frozen_of_row _ _ 1 _ _ rr2
          have g2 := frozen_of_row _ _ 2 _ _ rr2
          have g3 := frozen_of_row _ _ 3 _ _ rr2
          have g4 := frozen_of_row _ _ 4 _ _ rr2
          have g5 := frozen_of_row _ _ 5 _ _ rr2
          have g6 := frozen_of_row _ _ 6 _ _ rr2
          have g7 := frozen_of_row _ _ 7 _ _ rr2
          have g8 := frozen_of_row _ _ 8 _ _ rr2
          have g9 := frozen_of_row _ _ 9 _ _ rr2
          go_wp2_with (first
            | (go_at_call 20; (first | (with_reducible refine (HIK.out _).mono ?_) | (with_reducible refine (HIT.out _).mono ?_)); rintro e w3 ⟨rfl, hw3⟩; rw [hw3]; clear hw3)
            | (go_at_call 21; refine (HIO.out _ hb2).mono ?_; rintro e w4 ⟨rfl, hb4⟩; have hX4 : Below W1.heap.size W1 w4 := hb2.trans (hb4.mono hb2.size); obtain ⟨_, rr4, e0, e1⟩ := HX.out w4 hX4; obtain ⟨t0, t1, t2, t3, t4, t5, t6, t7, t8, t9⟩ := tenR_of rr4; have g0 := frozen_of_row _ _ 0 _ _ rr4; have g1 := frozen_of_row _ _ 1 _ _ rr4; have g2 := frozen_of_row _ _ 2 _ _ rr4; have g3 := frozen_of_row _ _ 3 _ _ rr4; have g4 := frozen_of_row _ _ 4 _ _ rr4; have g5 := frozen_of_row _ _ 5 _ _ rr4; have g6 := frozen_of_row _ _ 6 _ _ rr4; have g7 := frozen_of_row _ _ 7 _ _ rr4; have g8 := frozen_of_row _ _ 8 _ _ rr4; have g9 := frozen_of_row _ _ 9 _ _ rr4))
          have hS4 : w4.cell? ⟨w.heap.size, 0, none⟩ = some (.int .i64 rm) ∧ w4.cell? ⟨w.heap.size, 1, none⟩ = some (.slice (some a3) I.length c3) := (HX.out _ hX4).2.2
          have hS4d : w4.drew.cell? ⟨w.heap.size, 0, none⟩ = some (.int .i64 rm) ∧ w4.drew.cell? ⟨w.heap.size, 1, none⟩ = some (.slice (some a3) I.length c3) := (HX.out _ hX4.drew).2.2
          have hSA : (w4.alloc (.cells #[] 57)).cell? ⟨w.heap.size, 0, none⟩ = some (.int .i64 rm) ∧ (w4.alloc (.cells #[] 57)).cell? ⟨w.heap.size, 1, none⟩ = some (.slice (some a3) I.length c3) := (HX.out _ (hX4.alloc hX4.size _)).2.2
          have hSAd : (w4.alloc (.cells #[] 57)).drew.cell? ⟨w.heap.size, 0, none⟩ = some (.int .i64 rm) ∧ (w4.alloc (.cells #[] 57)).drew.cell? ⟨w.heap.size, 1, none⟩ = some (.slice (some a3) I.length c3) := (HX.out _ (hX4.alloc hX4.size _).drew).2.2
          have hSD : (w4.alloc (.cells #[.slice none 0 0, .int .i64 0, .slice none 0 0, .int .i64 0, .int .i64 0, .slice none 0 0, .slice none 0 0, .slice none 0 0, .int .i64 0, .slice none 0 0] 37)).cell? ⟨w.heap.size, 0, none⟩ = some (.int .i64 rm) ∧ (w4.alloc (.cells #[.slice none 0 0, .int .i64 0, .slice none 0 0, .int .i64 0, .int .i64 0, .slice none 0 0, .slice none 0 0, .slice none 0 0, .int .i64 0, .slice none 0 0] 37)).cell? ⟨w.heap.size, 1, none⟩ = some (.slice (some a3) I.length c3) := (HX.out _ (hX4.alloc hX4.size _)).2.2
          have hSDd : (w4.alloc (.cells #[.slice none 0 0, .int .i64 0, .slice none 0 0, .int .i64 0, .int .i64 0, .slice none 0 0, .slice none 0 0, .slice none 0 0, .int .i64 0, .slice none 0 0] 37)).drew.cell? ⟨w.heap.size, 0, none⟩ = some (.int .i64 rm) ∧ (w4.alloc (.cells #[.slice none 0 0, .int .i64 0, .slice none 0 0, .int .i64 0, .int .i64 0, .slice none 0 0, .slice none 0 0, .slice none 0 0, .int .i64 0, .slice none 0 0] 37)).drew.cell? ⟨w.heap.size, 1, none⟩ = some (.slice (some a3) I.length c3) := (HX.out _ (hX4.alloc hX4.size _).drew).2.2
          have hSB : ((w4.alloc (.cells #[] 57)).alloc (.cells #[.slice none 0 0, .int .i64 0, .slice none 0 0, .int .i64 0, .int .i64 0, .slice none 0 0, .slice none 0 0, .slice none 0 0, .int .i64 0, .slice none 0 0] 37)).cell? ⟨w.heap.size, 0, none⟩ = some (.int .i64 rm) ∧ ((w4.alloc (.cells #[] 57)).alloc (.cells #[.slice none 0 0, .int .i64 0, .slice none 0 0, .int .i64 0, .int .i64 0, .slice none 0 0, .slice none 0 0, .slice none 0 0, .int .i64 0, .slice none 0 0] 37)).cell? ⟨w.heap.size, 1, none⟩ = some (.slice (some a3) I.length c3) := (HX.out _ ((hX4.alloc hX4.size _).alloc (by simp; exact Nat.le_trans hX4.size (by omega)) _)).2.2
          have hSBd : ((w4.alloc (.cells #[] 57)).alloc (.cells #[.slice none 0 0, .int .i64 0, .slice none 0 0, .int .i64 0, .int .i64 0, .slice none 0 0, .slice none 0 0, .slice none 0 0, .int .i64 0, .slice none 0 0] 37)).drew.cell? ⟨w.heap.size, 0, none⟩ = some (.int .i64 rm) ∧ ((w4.alloc (.cells #[] 57)).alloc (.cells #[.slice none 0 0, .int .i64 0, .slice none 0 0, .int .i64 0, .int .i64 0, .slice none 0 0, .slice none 0 0, .slice none 0 0, .int .i64 0, .slice none 0 0] 37)).drew.cell? ⟨w.heap.size, 1, none⟩ = some (.slice (some a3) I.length c3) := (HX.out _ ((hX4.alloc hX4.size _).alloc (by simp; exact Nat.le_trans hX4.size (by omega)) _).drew).2.2
          have hSC : ((w4.alloc (.cells #[.slice none 0 0, .int .i64 0, .slice none 0 0, .int .i64 0, .int .i64 0, .slice none 0 0, .slice none 0 0, .slice none 0 0, .int .i64 0, .slice none 0 0] 37)).alloc (.cells #[] 57)).cell? ⟨w.heap.size, 0, none⟩ = some (.int .i64 rm) ∧ ((w4.alloc (.cells #[.slice none 0 0, .int .i64 0, .slice none 0 0, .int .i64 0, .int .i64 0, .slice none 0 0, .slice none 0 0, .slice none 0 0, .int .i64 0, .slice none 0 0] 37)).alloc (.cells #[] 57)).cell? ⟨w.heap.size, 1, none⟩ = some (.slice (some a3) I.length c3) := (HX.out _ ((hX4.alloc hX4.size _).alloc (by simp; exact Nat.le_trans hX4.size (by omega)) _)).2.2
          have hSCd : ((w4.alloc (.cells #[.slice none 0 0, .int .i64 0, .slice none 0 0, .int .i64 0, .int .i64 0, .slice none 0 0, .slice none 0 0, .slice none 0 0, .int .i64 0, .slice none 0 0] 37)).alloc (.cells #[] 57)).drew.cell? ⟨w.heap.size, 0, none⟩ = some (.int .i64 rm) ∧ ((w4.alloc (.cells #[.slice none 0 0, .int .i64 0, .slice none 0 0, .int .i64 0, .int .i64 0, .slice none 0 0, .slice none 0 0, .slice none 0 0, .int .i64 0, .slice none 0 0] 37)).alloc (.cells #[] 57)).drew.cell? ⟨w.heap.size, 1, none⟩ = some (.slice (some a3) I.length c3) := (HX.out _ ((hX4.alloc hX4.size _).alloc (by simp; exact Nat.le_trans hX4.size (by omega)) _).drew).2.2
          have hoA : (w4.alloc (.cells #[] 57)).ownsRow w4.heap.size 57 2 (.slice (some ⟨w4.heap.size, 0, none⟩) 0 0) 0 [] := own_emptyA (MapKept.heap_alloc w4 _).1 (Nat.le_refl _)
          have hoB : ((w4.alloc (.cells #[] 57)).alloc (.cells #[.slice none 0 0, .int .i64 0, .slice none 0 0, .int .i64 0, .int .i64 0, .slice none 0 0, .slice none 0 0, .slice none 0 0, .int .i64 0, .slice none 0 0] 37)).ownsRow w4.heap.size 57 2 (.slice (some ⟨w4.heap.size, 0, none⟩) 0 0) 0 [] := hoA.alloc _
          have hoC : ((w4.alloc (.cells #[.slice none 0 0, .int .i64 0, .slice none 0 0, .int .i64 0, .int .i64 0, .slice none 0 0, .slice none 0 0, .slice none 0 0, .int .i64 0, .slice none 0 0] 37)).alloc (.cells #[] 57)).ownsRow w4.heap.size 57 2 (.slice (some ⟨w4.heap.size + 1, 0, none⟩) 0 0) 0 [] := own_emptyA (by have := (MapKept.heap_alloc (w4.alloc (.cells #[.slice none 0 0, .int .i64 0, .slice none 0 0, .int .i64 0, .int .i64 0, .slice none 0 0, .slice none 0 0, .slice none 0 0, .int .i64 0, .slice none 0 0] 37)) (.cells #[] 57)).1; rwa [show (w4.alloc (.cells #[.slice none 0 0, .int .i64 0, .slice none 0 0, .int .i64 0, .int .i64 0, .slice none 0 0, .slice none 0 0, .slice none 0 0, .int .i64 0, .slice none 0 0] 37)).heap.size = w4.heap.size + 1 from by simp] at this) (by omega)
          have rbB : ((w4.alloc (.cells #[] 57)).alloc (.cells #[.slice none 0 0, .int .i64 0, .slice none 0 0, .int .i64 0, .int .i64 0, .slice none 0 0, .slice none 0 0, .slice none 0 0, .int .i64 0, .slice none 0 0] 37)).heap[w4.heap.size + 1]? = some (.cells #[.slice none 0 0, .int .i64 0, .slice none 0 0, .int .i64 0, .int .i64 0, .slice none 0 0, .slice none 0 0, .slice none 0 0, .int .i64 0, .slice none 0 0] 37 (0, 0)) := by have := (MapKept.heap_alloc (w4.alloc (.cells #[] 57)) (.cells #[.slice none 0 0, .int .i64 0, .slice none 0 0, .int .i64 0, .int .i64 0, .slice none 0 0, .slice none 0 0, .slice none 0 0, .int .i64 0, .slice none 0 0] 37)).1; rwa [show (w4.alloc (.cells #[] 57)).heap.size = w4.heap.size + 1 from by simp] at this
          have rbC : ((w4.alloc (.cells #[.slice none 0 0, .int .i64 0, .slice none 0 0, .int .i64 0, .int .i64 0, .slice none 0 0, .slice none 0 0, .slice none 0 0, .int .i64 0, .slice none 0 0] 37)).alloc (.cells #[] 57)).heap[w4.heap.size]? = some (.cells #[.slice none 0 0, .int .i64 0, .slice none 0 0, .int .i64 0, .int .i64 0, .slice none 0 0, .slice none 0 0, .slice none 0 0, .int .i64 0, .slice none 0 0] 37 (0, 0)) := ((MapKept.heap_alloc (w4.alloc (.cells #[.slice none 0 0, .int .i64 0, .slice none 0 0, .int .i64 0, .int .i64 0, .slice none 0 0, .slice none 0 0, .slice none 0 0, .int .i64 0, .slice none 0 0] 37)) (.cells #[] 57)).2 w4.heap.size (by simp)).trans (MapKept.heap_alloc w4 _).1
          have bA : Below w4.heap.size w4 (w4.alloc (.cells #[] 57)) := (Below.refl _ _).alloc (Nat.le_refl _) _
          have bB : Below w4.heap.size w4 ((w4.alloc (.cells #[] 57)).alloc (.cells #[.slice none 0 0, .int .i64 0, .slice none 0 0, .int .i64 0, .int .i64 0, .slice none 0 0, .slice none 0 0, .slice none 0 0, .int .i64 0, .slice none 0 0] 37)) := bA.alloc (by simp) _
          have bC : Below w4.heap.size w4 ((w4.alloc (.cells #[.slice none 0 0, .int .i64 0, .slice none 0 0, .int .i64 0, .int .i64 0, .slice none 0 0, .slice none 0 0, .slice none 0 0, .int .i64 0, .slice none 0 0] 37)).alloc (.cells #[] 57)) := ((Below.refl _ _).alloc (Nat.le_refl _) _).alloc (by simp) _
          have hfl : (flatA SrF S).length = S.length * 2 := flatA_length (f := SrF) (z := 2) (fun _ => rfl) S
          have hon : ∀ u ∈ flatA SrF S, u.oneCell' = true := flatA_one SrF_one S
          have hceA := HSE.out _ (hX4.trans (bA.mono hX4.size))
          have hceB := HSE.out _ (hX4.trans (bB.mono hX4.size))
          have hceC := HSE.out _ (hX4.trans (bC.mono hX4.size))
          have hs4 := hX4.size
          go_cut [10] from 31 to 37 (fun p wx => ∃ (tb : Nat) (b1 : Option Addr) (d1 : Nat) (b3 : Option Addr) (d3 : Nat), p = .pointer (some ⟨tb, 0, none⟩) ∧ StF W1 S I wt rm tb b1 d1 b3 d3 wx)
          case first =>
            go_region_held3 (fun w' => w'.cell? ⟨w.heap.size, 0, none⟩ = some (.int .i64 rm) ∧ w'.cell? ⟨w.heap.size, 1, none⟩ = some (.slice (some a3) I.length c3))
              (first
                | with_reducible exact hS4
                | with_reducible exact hS4d
                | with_reducible exact hSA
                | with_reducible exact hSAd
                | with_reducible exact hSB
                | with_reducible exact hSBd
                | with_reducible exact hSC
                | with_reducible exact hSCd
                | with_reducible exact hSD
                | with_reducible exact hSDd
                | (revert hS5; intro hS5; with_reducible exact hS5)
                | (revert hS5a; intro hS5a; with_reducible exact hS5a)
                | (revert hS6; intro hS6; with_reducible exact hS6)
                | (revert hS6a; intro hS6a; with_reducible exact hS6a)
                | (revert hS6n; intro hS6n; with_reducible exact hS6n)
                | (revert hSf; intro hSf; with_reducible exact hSf))
              (first
                | (refine step_append_ownO rfl (.tmp 31) (.tmp 32) 28 rfl w4.heap.size 57 i0 (.agg #[.string ⟨#[]⟩, .string ⟨#[]⟩]) 2 32 Tryz.underlying28 hi0 hz0 hz1' hz2' rfl (by decide) _ _ _ rfl (by first | exact hoA | exact hoA.drew) a1 S.length c1 (flatA SrF S) rfl hfl (by first | exact hceA) hon (by unfold maxLen; omega) (by omega) bA.size ?_; intro v5 w5 o5' g5 n5; have hb5 : Below w4.heap.size w4 w5 := (by first | exact bA.drew.grown g5 bA.size (fun j hj => by have := (hoA.lt j hj).1; omega) | exact bA.grown g5 bA.size (fun j hj => by have := (hoA.lt j hj).1; omega)); have hX5 : Below W1.heap.size W1 w5 := hX4.trans (hb5.mono hs4); obtain ⟨b1, d1, rfl⟩ := slice_ownS o5'; have o5 : w5.ownsRow w4.heap.size 57 2 (.slice b1 S.length d1) S.length (flatA SrF S) := (by simpa using o5'); have hS5 : w5.cell? ⟨w.heap.size, 0, none⟩ = some (.int .i64 rm) ∧ w5.cell? ⟨w.heap.size, 1, none⟩ = some (.slice (some a3) I.length c3) := (HX.out w5 hX5).2.2; have hS5a : (w5.alloc (.cells #[.slice none 0 0, .int .i64 0, .slice none 0 0, .int .i64 0, .int .i64 0, .slice none 0 0, .slice none 0 0, .slice none 0 0, .int .i64 0, .slice none 0 0] 37)).cell? ⟨w.heap.size, 0, none⟩ = some (.int .i64 rm) ∧ (w5.alloc (.cells #[.slice none 0 0, .int .i64 0, .slice none 0 0, .int .i64 0, .int .i64 0, .slice none 0 0, .slice none 0 0, .slice none 0 0, .int .i64 0, .slice none 0 0] 37)).cell? ⟨w.heap.size, 1, none⟩ = some (.slice (some a3) I.length c3) := (HX.out _ (hX5.alloc hX5.size _)).2.2; skip)
                | (refine step_append_ownO rfl (.tmp 31) (.tmp 32) 28 rfl w4.heap.size 57 i0 (.agg #[.string ⟨#[]⟩, .string ⟨#[]⟩]) 2 32 Tryz.underlying28 hi0 hz0 hz1' hz2' rfl (by decide) _ _ _ rfl (by first | exact hoB | exact hoB.drew) a1 S.length c1 (flatA SrF S) rfl hfl (by first | exact hceB) hon (by unfold maxLen; omega) (by omega) bB.size ?_; intro v5 w5 o5' g5 n5; have hb5 : Below w4.heap.size w4 w5 := (by first | exact bB.drew.grown g5 bB.size (fun j hj => by have := (hoB.lt j hj).1; omega) | exact bB.grown g5 bB.size (fun j hj => by have := (hoB.lt j hj).1; omega)); have hX5 : Below W1.heap.size W1 w5 := hX4.trans (hb5.mono hs4); obtain ⟨b1, d1, rfl⟩ := slice_ownS o5'; have o5 : w5.ownsRow w4.heap.size 57 2 (.slice b1 S.length d1) S.length (flatA SrF S) := (by simpa using o5'); have hS5 : w5.cell? ⟨w.heap.size, 0, none⟩ = some (.int .i64 rm) ∧ w5.cell? ⟨w.heap.size, 1, none⟩ = some (.slice (some a3) I.length c3) := (HX.out w5 hX5).2.2; have hS5a : (w5.alloc (.cells #[.slice none 0 0, .int .i64 0, .slice none 0 0, .int .i64 0, .int .i64 0, .slice none 0 0, .slice none 0 0, .slice none 0 0, .int .i64 0, .slice none 0 0] 37)).cell? ⟨w.heap.size, 0, none⟩ = some (.int .i64 rm) ∧ (w5.alloc (.cells #[.slice none 0 0, .int .i64 0, .slice none 0 0, .int .i64 0, .int .i64 0, .slice none 0 0, .slice none 0 0, .slice none 0 0, .int .i64 0, .slice none 0 0] 37)).cell? ⟨w.heap.size, 1, none⟩ = some (.slice (some a3) I.length c3) := (HX.out _ (hX5.alloc hX5.size _)).2.2; have rb5B : w5.heap[w4.heap.size + 1]? = some (.cells #[.slice none 0 0, .int .i64 0, .slice none 0 0, .int .i64 0, .int .i64 0, .slice none 0 0, .slice none 0 0, .slice none 0 0, .int .i64 0, .slice none 0 0] 37 (0, 0)) := (by first | exact ((show ((w4.alloc (.cells #[] 57)).alloc (.cells #[.slice none 0 0, .int .i64 0, .slice none 0 0, .int .i64 0, .int .i64 0, .slice none 0 0, .slice none 0 0, .slice none 0 0, .int .i64 0, .slice none 0 0] 37)).drew.grownBy w5 (some w4.heap.size) from g5).block _ (Array.getElem?_eq_some_iff.1 rbB).1 (by simp)).trans rbB | exact ((show ((w4.alloc (.cells #[] 57)).alloc (.cells #[.slice none 0 0, .int .i64 0, .slice none 0 0, .int .i64 0, .int .i64 0, .slice none 0 0, .slice none 0 0, .slice none 0 0, .int .i64 0, .slice none 0 0] 37)).grownBy w5 (some w4.heap.size) from g5).block _ (Array.getElem?_eq_some_iff.1 rbB).1 (by simp)).trans rbB))
                | (refine step_append_ownO rfl (.tmp 31) (.tmp 32) 28 rfl w4.heap.size 57 i0 (.agg #[.string ⟨#[]⟩, .string ⟨#[]⟩]) 2 32 Tryz.underlying28 hi0 hz0 hz1' hz2' rfl (by decide) _ _ _ rfl (by first | exact hoC | exact hoC.drew) a1 S.length c1 (flatA SrF S) rfl hfl (by first | exact hceC) hon (by unfold maxLen; omega) (by omega) bC.size ?_; intro v5 w5 o5' g5 n5; have hb5 : Below w4.heap.size w4 w5 := (by first | exact bC.drew.grown g5 bC.size (fun j hj => by have := (hoC.lt j hj).1; omega) | exact bC.grown g5 bC.size (fun j hj => by have := (hoC.lt j hj).1; omega)); have hX5 : Below W1.heap.size W1 w5 := hX4.trans (hb5.mono hs4); obtain ⟨b1, d1, rfl⟩ := slice_ownS o5'; have o5 : w5.ownsRow w4.heap.size 57 2 (.slice b1 S.length d1) S.length (flatA SrF S) := (by simpa using o5'); have hS5 : w5.cell? ⟨w.heap.size, 0, none⟩ = some (.int .i64 rm) ∧ w5.cell? ⟨w.heap.size, 1, none⟩ = some (.slice (some a3) I.length c3) := (HX.out w5 hX5).2.2; have hS5a : (w5.alloc (.cells #[.slice none 0 0, .int .i64 0, .slice none 0 0, .int .i64 0, .int .i64 0, .slice none 0 0, .slice none 0 0, .slice none 0 0, .int .i64 0, .slice none 0 0] 37)).cell? ⟨w.heap.size, 0, none⟩ = some (.int .i64 rm) ∧ (w5.alloc (.cells #[.slice none 0 0, .int .i64 0, .slice none 0 0, .int .i64 0, .int .i64 0, .slice none 0 0, .slice none 0 0, .slice none 0 0, .int .i64 0, .slice none 0 0] 37)).cell? ⟨w.heap.size, 1, none⟩ = some (.slice (some a3) I.length c3) := (HX.out _ (hX5.alloc hX5.size _)).2.2; have rb5C : w5.heap[w4.heap.size]? = some (.cells #[.slice none 0 0, .int .i64 0, .slice none 0 0, .int .i64 0, .int .i64 0, .slice none 0 0, .slice none 0 0, .slice none 0 0, .int .i64 0, .slice none 0 0] 37 (0, 0)) := (by first | exact ((show ((w4.alloc (.cells #[.slice none 0 0, .int .i64 0, .slice none 0 0, .int .i64 0, .int .i64 0, .slice none 0 0, .slice none 0 0, .slice none 0 0, .int .i64 0, .slice none 0 0] 37)).alloc (.cells #[] 57)).drew.grownBy w5 (some (w4.heap.size + 1)) from g5).block _ (Array.getElem?_eq_some_iff.1 rbC).1 (by simp)).trans rbC | exact ((show ((w4.alloc (.cells #[.slice none 0 0, .int .i64 0, .slice none 0 0, .int .i64 0, .int .i64 0, .slice none 0 0, .slice none 0 0, .slice none 0 0, .int .i64 0, .slice none 0 0] 37)).alloc (.cells #[] 57)).grownBy w5 (some (w4.heap.size + 1)) from g5).block _ (Array.getElem?_eq_some_iff.1 rbC).1 (by simp)).trans rbC))
                | (revert hX5; intro hX5; revert rb5B; intro rb5B; have rb5 := rb5B; go_at_call 22; refine (HCP.out w5 hX5).mono ?_; rintro e w6 ⟨b3, d3, rfl, o6, hb6⟩; have hX6 : Below W1.heap.size W1 w6 := Below.trans hX5 (hb6.mono (Below.size hX5)); have hS6 : w6.cell? ⟨w.heap.size, 0, none⟩ = some (.int .i64 rm) ∧ w6.cell? ⟨w.heap.size, 1, none⟩ = some (.slice (some a3) I.length c3) := (HX.out w6 hX6).2.2; have hS6a : (w6.alloc (.cells #[.slice none 0 0, .int .i64 0, .slice none 0 0, .int .i64 0, .int .i64 0, .slice none 0 0, .slice none 0 0, .slice none 0 0, .int .i64 0, .slice none 0 0] 37)).cell? ⟨w.heap.size, 0, none⟩ = some (.int .i64 rm) ∧ (w6.alloc (.cells #[.slice none 0 0, .int .i64 0, .slice none 0 0, .int .i64 0, .int .i64 0, .slice none 0 0, .slice none 0 0, .slice none 0 0, .int .i64 0, .slice none 0 0] 37)).cell? ⟨w.heap.size, 1, none⟩ = some (.slice (some a3) I.length c3) := (HX.out _ (hX6.alloc hX6.size _)).2.2; have hS6n : (w6.alloc (.cells #[.slice b1 S.length d1, .int .i64 wt, .slice none 0 0, .int .i64 0, .int .i64 0, .slice none 0 0, .slice none 0 0, .slice none 0 0, .int .i64 rm, .slice b3 I.length d3] 37)).cell? ⟨w.heap.size, 0, none⟩ = some (.int .i64 rm) ∧ (w6.alloc (.cells #[.slice b1 S.length d1, .int .i64 wt, .slice none 0 0, .int .i64 0, .int .i64 0, .slice none 0 0, .slice none 0 0, .slice none 0 0, .int .i64 rm, .slice b3 I.length d3] 37)).cell? ⟨w.heap.size, 1, none⟩ = some (.slice (some a3) I.length c3) := (HX.out _ (hX6.alloc hX6.size _)).2.2; have rb6 : w6.heap[w4.heap.size + 1]? = some (.cells #[.slice none 0 0, .int .i64 0, .slice none 0 0, .int .i64 0, .int .i64 0, .slice none 0 0, .slice none 0 0, .slice none 0 0, .int .i64 0, .slice none 0 0] 37 (0, 0)) := (hb6.block _ (Array.getElem?_eq_some_iff.1 rb5).1).trans rb5; obtain ⟨t0, t1, t2, t3, t4, t5, t6, t7, t8, t9⟩ := tenR_of rb6; have g0 := frozen_of_row _ _ 0 _ _ rb6; have g1 := frozen_of_row _ _ 1 _ _ rb6; have g2 := frozen_of_row _ _ 2 _ _ rb6; have g3 := frozen_of_row _ _ 3 _ _ rb6; have g4 := frozen_of_row _ _ 4 _ _ rb6; have g5 := frozen_of_row _ _ 5 _ _ rb6; have g6 := frozen_of_row _ _ 6 _ _ rb6; have g7 := frozen_of_row _ _ 7 _ _ rb6; have g8 := frozen_of_row _ _ 8 _ _ rb6; have g9 := frozen_of_row _ _ 9 _ _ rb6; have hle6 : W1.heap.size ≤ w4.heap.size + 1 := (by first | omega | (have := hX5.size; omega)); have hSf : ((((((((((w6.setCell ⟨w4.heap.size + 1, 0, none⟩ (.slice b1 S.length d1)).setCell ⟨w4.heap.size + 1, 1, none⟩ (.int .i64 wt)).setCell ⟨w4.heap.size + 1, 2, none⟩ (.slice none 0 0)).setCell ⟨w4.heap.size + 1, 3, none⟩ (.int .i64 0)).setCell ⟨w4.heap.size + 1, 4, none⟩ (.int .i64 0)).setCell ⟨w4.heap.size + 1, 5, none⟩ (.slice none 0 0)).setCell ⟨w4.heap.size + 1, 6, none⟩ (.slice none 0 0)).setCell ⟨w4.heap.size + 1, 7, none⟩ (.slice none 0 0)).setCell ⟨w4.heap.size + 1, 8, none⟩ (.int .i64 rm)).setCell ⟨w4.heap.size + 1, 9, none⟩ (.slice b3 I.length d3)).cell? ⟨w.heap.size, 0, none⟩ = some (.int .i64 rm) ∧ ((((((((((w6.setCell ⟨w4.heap.size + 1, 0, none⟩ (.slice b1 S.length d1)).setCell ⟨w4.heap.size + 1, 1, none⟩ (.int .i64 wt)).setCell ⟨w4.heap.size + 1, 2, none⟩ (.slice none 0 0)).setCell ⟨w4.heap.size + 1, 3, none⟩ (.int .i64 0)).setCell ⟨w4.heap.size + 1, 4, none⟩ (.int .i64 0)).setCell ⟨w4.heap.size + 1, 5, none⟩ (.slice none 0 0)).setCell ⟨w4.heap.size + 1, 6, none⟩ (.slice none 0 0)).setCell ⟨w4.heap.size + 1, 7, none⟩ (.slice none 0 0)).setCell ⟨w4.heap.size + 1, 8, none⟩ (.int .i64 rm)).setCell ⟨w4.heap.size + 1, 9, none⟩ (.slice b3 I.length d3)).cell? ⟨w.heap.size, 1, none⟩ = some (.slice (some a3) I.length c3) := (HX.out _ ((((((((((hX6.setCell hle6 _).setCell hle6 _).setCell hle6 _).setCell hle6 _).setCell hle6 _).setCell hle6 _).setCell hle6 _).setCell hle6 _).setCell hle6 _).setCell hle6 _)).2.2; have hbf : Below W1.heap.size W1 ((((((((((w6.setCell ⟨w4.heap.size + 1, 0, none⟩ (.slice b1 S.length d1)).setCell ⟨w4.heap.size + 1, 1, none⟩ (.int .i64 wt)).setCell ⟨w4.heap.size + 1, 2, none⟩ (.slice none 0 0)).setCell ⟨w4.heap.size + 1, 3, none⟩ (.int .i64 0)).setCell ⟨w4.heap.size + 1, 4, none⟩ (.int .i64 0)).setCell ⟨w4.heap.size + 1, 5, none⟩ (.slice none 0 0)).setCell ⟨w4.heap.size + 1, 6, none⟩ (.slice none 0 0)).setCell ⟨w4.heap.size + 1, 7, none⟩ (.slice none 0 0)).setCell ⟨w4.heap.size + 1, 8, none⟩ (.int .i64 rm)).setCell ⟨w4.heap.size + 1, 9, none⟩ (.slice b3 I.length d3)) := ((((((((((hX6.setCell hle6 _).setCell hle6 _).setCell hle6 _).setCell hle6 _).setCell hle6 _).setCell hle6 _).setCell hle6 _).setCell hle6 _).setCell hle6 _).setCell hle6 _))
                | (revert hX5; intro hX5; revert rb5C; intro rb5C; have rb5 := rb5C; go_at_call 22; refine (HCP.out w5 hX5).mono ?_; rintro e w6 ⟨b3, d3, rfl, o6, hb6⟩; have hX6 : Below W1.heap.size W1 w6 := Below.trans hX5 (hb6.mono (Below.size hX5)); have hS6 : w6.cell? ⟨w.heap.size, 0, none⟩ = some (.int .i64 rm) ∧ w6.cell? ⟨w.heap.size, 1, none⟩ = some (.slice (some a3) I.length c3) := (HX.out w6 hX6).2.2; have hS6a : (w6.alloc (.cells #[.slice none 0 0, .int .i64 0, .slice none 0 0, .int .i64 0, .int .i64 0, .slice none 0 0, .slice none 0 0, .slice none 0 0, .int .i64 0, .slice none 0 0] 37)).cell? ⟨w.heap.size, 0, none⟩ = some (.int .i64 rm) ∧ (w6.alloc (.cells #[.slice none 0 0, .int .i64 0, .slice none 0 0, .int .i64 0, .int .i64 0, .slice none 0 0, .slice none 0 0, .slice none 0 0, .int .i64 0, .slice none 0 0] 37)).cell? ⟨w.heap.size, 1, none⟩ = some (.slice (some a3) I.length c3) := (HX.out _ (hX6.alloc hX6.size _)).2.2; have hS6n : (w6.alloc (.cells #[.slice b1 S.length d1, .int .i64 wt, .slice none 0 0, .int .i64 0, .int .i64 0, .slice none 0 0, .slice none 0 0, .slice none 0 0, .int .i64 rm, .slice b3 I.length d3] 37)).cell? ⟨w.heap.size, 0, none⟩ = some (.int .i64 rm) ∧ (w6.alloc (.cells #[.slice b1 S.length d1, .int .i64 wt, .slice none 0 0, .int .i64 0, .int .i64 0, .slice none 0 0, .slice none 0 0, .slice none 0 0, .int .i64 rm, .slice b3 I.length d3] 37)).cell? ⟨w.heap.size, 1, none⟩ = some (.slice (some a3) I.length c3) := (HX.out _ (hX6.alloc hX6.size _)).2.2; have rb6 : w6.heap[w4.heap.size]? = some (.cells #[.slice none 0 0, .int .i64 0, .slice none 0 0, .int .i64 0, .int .i64 0, .slice none 0 0, .slice none 0 0, .slice none 0 0, .int .i64 0, .slice none 0 0] 37 (0, 0)) := (hb6.block _ (Array.getElem?_eq_some_iff.1 rb5).1).trans rb5; obtain ⟨t0, t1, t2, t3, t4, t5, t6, t7, t8, t9⟩ := tenR_of rb6; have g0 := frozen_of_row _ _ 0 _ _ rb6; have g1 := frozen_of_row _ _ 1 _ _ rb6; have g2 := frozen_of_row _ _ 2 _ _ rb6; have g3 := frozen_of_row _ _ 3 _ _ rb6; have g4 := frozen_of_row _ _ 4 _ _ rb6; have g5 := frozen_of_row _ _ 5 _ _ rb6; have g6 := frozen_of_row _ _ 6 _ _ rb6; have g7 := frozen_of_row _ _ 7 _ _ rb6; have g8 := frozen_of_row _ _ 8 _ _ rb6; have g9 := frozen_of_row _ _ 9 _ _ rb6; have hle6 : W1.heap.size ≤ w4.heap.size := (by first | omega | (have := hX5.size; omega)); have hSf : ((((((((((w6.setCell ⟨w4.heap.size, 0, none⟩ (.slice b1 S.length d1)).setCell ⟨w4.heap.size, 1, none⟩ (.int .i64 wt)).setCell ⟨w4.heap.size, 2, none⟩ (.slice none 0 0)).setCell ⟨w4.heap.size, 3, none⟩ (.int .i64 0)).setCell ⟨w4.heap.size, 4, none⟩ (.int .i64 0)).setCell ⟨w4.heap.size, 5, none⟩ (.slice none 0 0)).setCell ⟨w4.heap.size, 6, none⟩ (.slice none 0 0)).setCell ⟨w4.heap.size, 7, none⟩ (.slice none 0 0)).setCell ⟨w4.heap.size, 8, none⟩ (.int .i64 rm)).setCell ⟨w4.heap.size, 9, none⟩ (.slice b3 I.length d3)).cell? ⟨w.heap.size, 0, none⟩ = some (.int .i64 rm) ∧ ((((((((((w6.setCell ⟨w4.heap.size, 0, none⟩ (.slice b1 S.length d1)).setCell ⟨w4.heap.size, 1, none⟩ (.int .i64 wt)).setCell ⟨w4.heap.size, 2, none⟩ (.slice none 0 0)).setCell ⟨w4.heap.size, 3, none⟩ (.int .i64 0)).setCell ⟨w4.heap.size, 4, none⟩ (.int .i64 0)).setCell ⟨w4.heap.size, 5, none⟩ (.slice none 0 0)).setCell ⟨w4.heap.size, 6, none⟩ (.slice none 0 0)).setCell ⟨w4.heap.size, 7, none⟩ (.slice none 0 0)).setCell ⟨w4.heap.size, 8, none⟩ (.int .i64 rm)).setCell ⟨w4.heap.size, 9, none⟩ (.slice b3 I.length d3)).cell? ⟨w.heap.size, 1, none⟩ = some (.slice (some a3) I.length c3) := (HX.out _ ((((((((((hX6.setCell hle6 _).setCell hle6 _).setCell hle6 _).setCell hle6 _).setCell hle6 _).setCell hle6 _).setCell hle6 _).setCell hle6 _).setCell hle6 _).setCell hle6 _)).2.2; have hbf : Below W1.heap.size W1 ((((((((((w6.setCell ⟨w4.heap.size, 0, none⟩ (.slice b1 S.length d1)).setCell ⟨w4.heap.size, 1, none⟩ (.int .i64 wt)).setCell ⟨w4.heap.size, 2, none⟩ (.slice none 0 0)).setCell ⟨w4.heap.size, 3, none⟩ (.int .i64 0)).setCell ⟨w4.heap.size, 4, none⟩ (.int .i64 0)).setCell ⟨w4.heap.size, 5, none⟩ (.slice none 0 0)).setCell ⟨w4.heap.size, 6, none⟩ (.slice none 0 0)).setCell ⟨w4.heap.size, 7, none⟩ (.slice none 0 0)).setCell ⟨w4.heap.size, 8, none⟩ (.int .i64 rm)).setCell ⟨w4.heap.size, 9, none⟩ (.slice b3 I.length d3)) := ((((((((((hX6.setCell hle6 _).setCell hle6 _).setCell hle6 _).setCell hle6 _).setCell hle6 _).setCell hle6 _).setCell hle6 _).setCell hle6 _).setCell hle6 _).setCell hle6 _))
                | (revert hX5; intro hX5; go_at_call 22; refine (HCP.out w5 hX5).mono ?_; rintro e w6 ⟨b3, d3, rfl, o6, hb6⟩; have hX6 : Below W1.heap.size W1 w6 := Below.trans hX5 (hb6.mono (Below.size hX5)); have hS6 : w6.cell? ⟨w.heap.size, 0, none⟩ = some (.int .i64 rm) ∧ w6.cell? ⟨w.heap.size, 1, none⟩ = some (.slice (some a3) I.length c3) := (HX.out w6 hX6).2.2; have hS6a : (w6.alloc (.cells #[.slice none 0 0, .int .i64 0, .slice none 0 0, .int .i64 0, .int .i64 0, .slice none 0 0, .slice none 0 0, .slice none 0 0, .int .i64 0, .slice none 0 0] 37)).cell? ⟨w.heap.size, 0, none⟩ = some (.int .i64 rm) ∧ (w6.alloc (.cells #[.slice none 0 0, .int .i64 0, .slice none 0 0, .int .i64 0, .int .i64 0, .slice none 0 0, .slice none 0 0, .slice none 0 0, .int .i64 0, .slice none 0 0] 37)).cell? ⟨w.heap.size, 1, none⟩ = some (.slice (some a3) I.length c3) := (HX.out _ (hX6.alloc hX6.size _)).2.2; have hS6n : (w6.alloc (.cells #[.slice b1 S.length d1, .int .i64 wt, .slice none 0 0, .int .i64 0, .int .i64 0, .slice none 0 0, .slice none 0 0, .slice none 0 0, .int .i64 rm, .slice b3 I.length d3] 37)).cell? ⟨w.heap.size, 0, none⟩ = some (.int .i64 rm) ∧ (w6.alloc (.cells #[.slice b1 S.length d1, .int .i64 wt, .slice none 0 0, .int .i64 0, .int .i64 0, .slice none 0 0, .slice none 0 0, .slice none 0 0, .int .i64 rm, .slice b3 I.length d3] 37)).cell? ⟨w.heap.size, 1, none⟩ = some (.slice (some a3) I.length c3) := (HX.out _ (hX6.alloc hX6.size _)).2.2; skip)
                | (revert hX5; intro hX5; go_at_call 22; refine (HCP.out (w5.alloc (.cells #[.slice none 0 0, .int .i64 0, .slice none 0 0, .int .i64 0, .int .i64 0, .slice none 0 0, .slice none 0 0, .slice none 0 0, .int .i64 0, .slice none 0 0] 37)) (hX5.alloc hX5.size _)).mono ?_; rintro e w6 ⟨b3, d3, rfl, o6, hb6⟩; have hX6 : Below W1.heap.size W1 w6 := Below.trans (hX5.alloc hX5.size _) (hb6.mono (Below.size (hX5.alloc hX5.size _))); have hS6 : w6.cell? ⟨w.heap.size, 0, none⟩ = some (.int .i64 rm) ∧ w6.cell? ⟨w.heap.size, 1, none⟩ = some (.slice (some a3) I.length c3) := (HX.out w6 hX6).2.2; have hS6a : (w6.alloc (.cells #[.slice none 0 0, .int .i64 0, .slice none 0 0, .int .i64 0, .int .i64 0, .slice none 0 0, .slice none 0 0, .slice none 0 0, .int .i64 0, .slice none 0 0] 37)).cell? ⟨w.heap.size, 0, none⟩ = some (.int .i64 rm) ∧ (w6.alloc (.cells #[.slice none 0 0, .int .i64 0, .slice none 0 0, .int .i64 0, .int .i64 0, .slice none 0 0, .slice none 0 0, .slice none 0 0, .int .i64 0, .slice none 0 0] 37)).cell? ⟨w.heap.size, 1, none⟩ = some (.slice (some a3) I.length c3) := (HX.out _ (hX6.alloc hX6.size _)).2.2; have hS6n : (w6.alloc (.cells #[.slice b1 S.length d1, .int .i64 wt, .slice none 0 0, .int .i64 0, .int .i64 0, .slice none 0 0, .slice none 0 0, .slice none 0 0, .int .i64 rm, .slice b3 I.length d3] 37)).cell? ⟨w.heap.size, 0, none⟩ = some (.int .i64 rm) ∧ (w6.alloc (.cells #[.slice b1 S.length d1, .int .i64 wt, .slice none 0 0, .int .i64 0, .int .i64 0, .slice none 0 0, .slice none 0 0, .slice none 0 0, .int .i64 rm, .slice b3 I.length d3] 37)).cell? ⟨w.heap.size, 1, none⟩ = some (.slice (some a3) I.length c3) := (HX.out _ (hX6.alloc hX6.size _)).2.2; have rb6 : w6.heap[w5.heap.size]? = some (.cells #[.slice none 0 0, .int .i64 0, .slice none 0 0, .int .i64 0, .int .i64 0, .slice none 0 0, .slice none 0 0, .slice none 0 0, .int .i64 0, .slice none 0 0] 37 (0, 0)) := (hb6.block _ (by simp)).trans (MapKept.heap_alloc w5 _).1; obtain ⟨t0, t1, t2, t3, t4, t5, t6, t7, t8, t9⟩ := tenR_of rb6; have g0 := frozen_of_row _ _ 0 _ _ rb6; have g1 := frozen_of_row _ _ 1 _ _ rb6; have g2 := frozen_of_row _ _ 2 _ _ rb6; have g3 := frozen_of_row _ _ 3 _ _ rb6; have g4 := frozen_of_row _ _ 4 _ _ rb6; have g5 := frozen_of_row _ _ 5 _ _ rb6; have g6 := frozen_of_row _ _ 6 _ _ rb6; have g7 := frozen_of_row _ _ 7 _ _ rb6; have g8 := frozen_of_row _ _ 8 _ _ rb6; have g9 := frozen_of_row _ _ 9 _ _ rb6; have hle6 : W1.heap.size ≤ w5.heap.size := (by first | omega | (have := hX5.size; omega)); have hSf : ((((((((((w6.setCell ⟨w5.heap.size, 0, none⟩ (.slice b1 S.length d1)).setCell ⟨w5.heap.size, 1, none⟩ (.int .i64 wt)).setCell ⟨w5.heap.size, 2, none⟩ (.slice none 0 0)).setCell ⟨w5.heap.size, 3, none⟩ (.int .i64 0)).setCell ⟨w5.heap.size, 4, none⟩ (.int .i64 0)).setCell ⟨w5.heap.size, 5, none⟩ (.slice none 0 0)).setCell ⟨w5.heap.size, 6, none⟩ (.slice none 0 0)).setCell ⟨w5.heap.size, 7, none⟩ (.slice none 0 0)).setCell ⟨w5.heap.size, 8, none⟩ (.int .i64 rm)).setCell ⟨w5.heap.size, 9, none⟩ (.slice b3 I.length d3)).cell? ⟨w.heap.size, 0, none⟩ = some (.int .i64 rm) ∧ ((((((((((w6.setCell ⟨w5.heap.size, 0, none⟩ (.slice b1 S.length d1)).setCell ⟨w5.heap.size, 1, none⟩ (.int .i64 wt)).setCell ⟨w5.heap.size, 2, none⟩ (.slice none 0 0)).setCell ⟨w5.heap.size, 3, none⟩ (.int .i64 0)).setCell ⟨w5.heap.size, 4, none⟩ (.int .i64 0)).setCell ⟨w5.heap.size, 5, none⟩ (.slice none 0 0)).setCell ⟨w5.heap.size, 6, none⟩ (.slice none 0 0)).setCell ⟨w5.heap.size, 7, none⟩ (.slice none 0 0)).setCell ⟨w5.heap.size, 8, none⟩ (.int .i64 rm)).setCell ⟨w5.heap.size, 9, none⟩ (.slice b3 I.length d3)).cell? ⟨w.heap.size, 1, none⟩ = some (.slice (some a3) I.length c3) := (HX.out _ ((((((((((hX6.setCell hle6 _).setCell hle6 _).setCell hle6 _).setCell hle6 _).setCell hle6 _).setCell hle6 _).setCell hle6 _).setCell hle6 _).setCell hle6 _).setCell hle6 _)).2.2; have hbf : Below W1.heap.size W1 ((((((((((w6.setCell ⟨w5.heap.size, 0, none⟩ (.slice b1 S.length d1)).setCell ⟨w5.heap.size, 1, none⟩ (.int .i64 wt)).setCell ⟨w5.heap.size, 2, none⟩ (.slice none 0 0)).setCell ⟨w5.heap.size, 3, none⟩ (.int .i64 0)).setCell ⟨w5.heap.size, 4, none⟩ (.int .i64 0)).setCell ⟨w5.heap.size, 5, none⟩ (.slice none 0 0)).setCell ⟨w5.heap.size, 6, none⟩ (.slice none 0 0)).setCell ⟨w5.heap.size, 7, none⟩ (.slice none 0 0)).setCell ⟨w5.heap.size, 8, none⟩ (.int .i64 rm)).setCell ⟨w5.heap.size, 9, none⟩ (.slice b3 I.length d3)) := ((((((((((hX6.setCell hle6 _).setCell hle6 _).setCell hle6 _).setCell hle6 _).setCell hle6 _).setCell hle6 _).setCell hle6 _).setCell hle6 _).setCell hle6 _).setCell hle6 _)))
            all_goals
              go_wp2_with fail
              go_meet
              first
                | (have hE := stF_early (B1 := w4.heap.size) (wt := wt) (rm := rm) rb6 (itKept o5 (by first | exact hb6 | exact Below.trans ((Below.refl _ _).alloc (Nat.le_refl _) _) (hb6.mono (by simp)))) o6 hs4 (by first | exact hX5.size | exact (hX5.alloc hX5.size _).size) hle6 hX6; unfold put10 at hE; exact ⟨_, b1, d1, b3, d3, rfl, hE⟩)
                | (have hE := stF_late (B1 := w4.heap.size) (wt := wt) (rm := rm) (itKept o5 hb6) o6 hs4 hX5.size hX6; exact ⟨_, b1, d1, b3, d3, rfl, hE⟩)
          case rest =>
            obtain ⟨tb, b1, d1, b3, d3, rfl, htb, rb, o1, o3, hX⟩ := hcut
            obtain ⟨X2, rfl⟩ : ∃ X2, X2 = wc := ⟨_, rfl⟩
            have hwk := HYES.out.2.1
            obtain ⟨n, hn⟩ : ∃ n : Nat, wk = n := ⟨wk.toNat, by omega⟩
            subst hn
            have hn30 : n ≤ 30 := by omega
            have HL0 : Hid (StL W1 X2 S I wt rm tb b1 d1 b3 d3 none 0 0 X2) := ⟨rb, o1, o3, hX, World.ownsRow_nil _ _ _ _, Nat.le_refl _⟩
            have hzX := hX.size
            clear rb o1 o3 hX hwk t0 t1 t2 t3 t4 t5 t6 t7 t8 t9 g0 g1 g2 g3 g4 g5 g6 g7 g8 g9 e0 e1 rr2 hb2 HSO HIO HCP HSE HBS HBI HBK HBT HIK HIT hX1 hX4 hS4 hS4d hSA hSAd hSD hSDd hSB hSBd hSC hSCd hoA hoB hoC rbB rbC bA bB bC hfl hon hceA hceB hceC hs4
            go_wp2_with fail
            go_loopw [11] (fun i wr => ∃ (j : Nat) (a2 : Option Addr) (c2 : Nat), j ≤ n ∧ i = .int .i64 j ∧ StL W1 X2 S I wt rm tb b1 d1 b3 d3 a2 c2 j wr) (fun i _ => n - (intOf i).toNat)
            case atStart => exact ⟨0, none, 0, Nat.zero_le _, rfl, HL0.out⟩
            case round =>
              obtain ⟨j, a2, c2, hj, rfl, hL⟩ := hrel
              clear HL0
              by_cases hlt : j < n
              · have u2 : wr.cell? ⟨tb, 2, none⟩ = some (.slice a2 j c2) := by rw [cell_of_row _ _ 2 _ _ (0, 0) hL.1]; rfl
                have hrow := hL.2.2.2.2.1
                have hzr := hL.2.2.2.2.2
                have HL : Hid (type_of% hL) := hL
                have hj1 : (j : Int) < n := by omega
                clear hL
                go_wp2_with (at_builtin; refine wpList_append_own _ rfl _ _ 29 rfl X2.heap.size 4 j0 (.bool false) 1 1 Tryz.underlying29 hj0 hjz0 hjz1 hjz2 rfl (by decide) _ _ _ rfl (hrow.alloc _) ⟨wr.heap.size, 0, none⟩ 1 1 [.bool true] rfl rfl cellOneA ?c2 ?c3 ?c4 ?c5 ?_)
                case c2 => intro u hu; simp at hu; subst hu; rfl
                case c3 => unfold maxLen; omega
                case c4 => omega
                case c5 => simp; omega
                intro v' w3 hown' hgrow _
                obtain ⟨y2, f2, a', c', rfl, hL'⟩ := stL_step HL.out hzX hgrow v' hown' htb
                have HL2 : Hid (type_of% hL') := hL'
                clear hown' hgrow hrow HL hL'
                go_wp2_with fail
                go_roundw
                case rel => exact ⟨j + 1, a', c', by omega, by go_num, HL2.out⟩
                case measure => simp [intOf]; omega
              · obtain rfl : j = n := by omega
                obtain ⟨l1, l2, l3, l4, l5, l6⟩ := hL
                obtain ⟨hbw, rr, _, _⟩ := HX.out wr l4
                obtain ⟨x0, x1, x2, x3, x4, x5, x6, x7, x8, x9⟩ := tenR_of l1
                obtain ⟨t0, t1, t2, t3, t4, t5, t6, t7, t8, t9⟩ := tenR_of rr
                have g0 := frozen_of_row _ _ 0 _ _ rr
                have g1 := frozen_of_row _ _ 1 _ _ rr
                have g2 := frozen_of_row _ _ 2 _ _ rr
                have g3 := frozen_of_row _ _ 3 _ _ rr
                have g4 := frozen_of_row _ _ 4 _ _ rr
                have g5 := frozen_of_row _ _ 5 _ _ rr
                have g6 := frozen_of_row _ _ 6 _ _ rr
                have g7 := frozen_of_row _ _ 7 _ _ rr
                have g8 := frozen_of_row _ _ 8 _ _ rr
                have g9 := frozen_of_row _ _ 9 _ _ rr
                have hz1 := HZ1.out
                have htl : (trues j).length = j := by simp [trues]
                have HEND : Hid ((put10 wr (w.heap.size + 1) (.slice b1 S.length d1) (.int .i64 wt) (.slice a2 j c2) (.int .i64 0) (.int .i64 0) (.slice none 0 0) (.slice none 0 0) (.slice none 0 0) (.int .i64 rm) (.slice b3 I.length d3)).heap[w.heap.size + 1]? = some (.cells #[.slice b1 S.length d1, .int .i64 wt, .slice a2 j c2, .int .i64 0, .int .i64 0, .slice none 0 0, .slice none 0 0, .slice none 0 0, .int .i64 rm, .slice b3 I.length d3] 37 (0, 0)) ∧ ((put10 wr (w.heap.size + 1) (.slice b1 S.length d1) (.int .i64 wt) (.slice a2 j c2) (.int .i64 0) (.int .i64 0) (.slice none 0 0) (.slice none 0 0) (.slice none 0 0) (.int .i64 rm) (.slice b3 I.length d3)).ownsRow w.heap.size 57 2 (.slice b1 S.length d1) S.length (flatA SrF S) ∧ (put10 wr (w.heap.size + 1) (.slice b1 S.length d1) (.int .i64 wt) (.slice a2 j c2) (.int .i64 0) (.int .i64 0) (.slice none 0 0) (.slice none 0 0) (.slice none 0 0) (.int .i64 rm) (.slice b3 I.length d3)).ownsRow w.heap.size 4 1 (.slice a2 (trues j).length c2) (trues j).length (flatA BoF (trues j)) ∧ (put10 wr (w.heap.size + 1) (.slice b1 S.length d1) (.int .i64 wt) (.slice a2 j c2) (.int .i64 0) (.int .i64 0) (.slice none 0 0) (.slice none 0 0) (.slice none 0 0) (.int .i64 rm) (.slice b3 I.length d3)).ownsRow w.heap.size 83 3 (.slice b3 I.length d3) I.length (itV I)) ∧ ((∀ g, (Value.slice b1 S.length d1).ownBlock = some g → (Value.slice a2 (trues j).length c2).ownBlock ≠ some g ∧ (Value.slice b3 I.length d3).ownBlock ≠ some g) ∧ (∀ g, (Value.slice a2 (trues j).length c2).ownBlock = some g → (Value.slice b3 I.length d3).ownBlock ≠ some g)) ∧ Below w.heap.size w (put10 wr (w.heap.size + 1) (.slice b1 S.length d1) (.int .i64 wt) (.slice a2 j c2) (.int .i64 0) (.int .i64 0) (.slice none 0 0) (.slice none 0 0) (.slice none 0 0) (.int .i64 rm) (.slice b3 I.length d3))) := by
                  rw [htl]
                  exact ⟨put10R rr, ⟨itLow l2 (by omega) fun g hg => put10_heap _ _ _ _ _ _ _ _ _ _ _ _ g (ownNe l2 rr (by decide) g hg), itLow l5 (by omega) fun g hg => put10_heap _ _ _ _ _ _ _ _ _ _ _ _ g (ownNe l5 rr (by decide) g hg), itLow l3 (by omega) fun g hg => put10_heap _ _ _ _ _ _ _ _ _ _ _ _ g (ownNe l3 rr (by decide) g hg)⟩, ⟨fun g hg => ⟨ownNe2 l2 l5 (by decide) g hg, ownNe2 l2 l3 (by decide) g hg⟩, fun g hg => ownNe2 l5 l3 (by decide) g hg⟩, put10_below _ _ _ _ _ _ _ _ _ _ _ _ _ hbw (by omega)⟩
                have HTL : Hid (type_of% htl) := htl
                clear l1 l2 l3 l4 l5 l6 hbw rr hz1 HX htl
                go_wp2_with fail
                unfold put10 at HEND
                refine ret_sStart (b := w.heap.size + 1) rfl rfl HEND.out.1 ⟨b1, a2, b3, d1, c2, d3, S, trues j, I, wt, rm, true, by rw [HTL.out], .inl ⟨HYES.out, rfl, by simp, rfl, rfl, rfl, rfl⟩, HEND.out.2.1.1, HEND.out.2.1.2.1, HEND.out.2.1.2.2, HEND.out.2.2.1, HEND.out.2.2.2⟩

end Go.Proofs.YtllbfbllkefjeaaGreatDoor
