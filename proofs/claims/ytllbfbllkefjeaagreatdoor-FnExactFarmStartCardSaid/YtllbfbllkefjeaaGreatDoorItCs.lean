/-
  The walk of impl.copyStore.
  The numbers under which this program holds the library's sync.Mutex, and that it holds it.
  A stock in memory; the walks of its methods keep and store.
-/
import Derived.Test.YtllbfbllkefjeaaGreatDoorItC
import Derived.Test.YtllbfbllkefjeaaGreatDoorProg
import Derived.Conc.RwLib
import Derived.Conc.MuData
import Derived.KernelRfl
import Derived.Test.YtllbfbllkefjeaaGreatDoorItN
import Derived.Conc.MuLone
import Derived.Deep.RegionHeld3
namespace Go.Proofs.YtllbfbllkefjeaaGreatDoor
open Go.RowKit

end Go.Proofs.YtllbfbllkefjeaaGreatDoor

namespace Go.Proofs
abbrev Tryz.muLink : Go.Conc.Locks.MuLink := { lock := 82, unlock := 83, ilock := 101, iunlock := 102, lockSlow := 117, unlockSlow := 120, disable := 113, enable := 115, acquire := 116, relMerge := 118, cas32 := 114, add32 := 119, tMutex := 150, tIMutex := 148, tPMutex := 176, tPIMutex := 186, tPI32 := 188, tUP := 190, tNoCopy := 145, tU32 := 146 }
set_option maxRecDepth 100000 in
theorem Tryz.muLib : Go.Conc.Locks.MuLib Tryz.prog Tryz.muLink :=
  ⟨Tryz.func82, Tryz.func83, Tryz.func101, Tryz.func102, Tryz.func113, Tryz.func115, Tryz.func116, Tryz.func118, Tryz.func114, Tryz.func119, Tryz.underlying148, Tryz.runUnderlying148, Tryz.sizeOf148, Tryz.isAgg148, Tryz.zeroValue148, Tryz.underlying150, Tryz.runUnderlying150, Tryz.sizeOf150, Tryz.isAgg150, Tryz.zeroValue150, Tryz.underlying176, Tryz.runUnderlying176, Tryz.sizeOf176, Tryz.isAgg176, Tryz.zeroValue176, Tryz.underlying186, Tryz.runUnderlying186, Tryz.sizeOf186, Tryz.isAgg186, Tryz.zeroValue186, Tryz.underlying188, Tryz.runUnderlying188, Tryz.sizeOf188, Tryz.isAgg188, Tryz.zeroValue188, Tryz.underlying190, Tryz.runUnderlying190, Tryz.sizeOf190, Tryz.isAgg190, Tryz.zeroValue190, Tryz.underlying145, Tryz.runUnderlying145, Tryz.sizeOf145, Tryz.isAgg145, Tryz.zeroValue145, Tryz.underlying21, Tryz.runUnderlying21, Tryz.sizeOf21, Tryz.isAgg21, Tryz.zeroValue21, (by kernel_rfl)⟩
end Go.Proofs

namespace Go.Proofs.YtllbfbllkefjeaaGreatDoor
open Go.RowKit
open Go.MuLone

/-- a stock at block sb, its map at M: the lock's state, its room, its items -/
structure Stk (B : Nat) (w : World) (sb M : Nat) (lk room : Int) (v : Value) (es : List Itm) : Prop where
  box : w.heap[sb]? = some (.cells #[.int .i32 lk, .int .u32 0, .int .i64 room, v, .map (some M)] 152 (0, 0))
  row : w.ownsRow B 83 3 v es.length (itV es)
  map : AMap w M
  bs : B ≤ sb
  bm : B ≤ M
theorem NewStock.stk {B : Nat} {w : World} {room : Int} {es : List Itm} {k sb M : Nat} {a : Option Addr} {c : Nat} (h : NewStock B w room es k sb M a c) : Stk B w sb M 0 room (.slice a es.length c) es := ⟨h.box, h.row, h.map.any, h.bs, h.bm⟩

theorem heap_set5 {w : World} {b : Nat} {x0 x1 x2 x3 x4 : Value} {t : TypeId} (h : w.heap[b]? = some (.cells #[x0, x1, x2, x3, x4] t (0, 0))) (u : Value) : (w.setCell ⟨b, 0, none⟩ u).heap[b]? = some (.cells #[u, x1, x2, x3, x4] t (0, 0)) ∧ (w.setCell ⟨b, 3, none⟩ u).heap[b]? = some (.cells #[x0, x1, x2, u, x4] t (0, 0)) :=
  ⟨heap_setCell_same w b 0 _ _ u h, heap_setCell_same w b 3 _ _ u h⟩

theorem Stk.neM {B : Nat} {w : World} {sb M : Nat} {lk room : Int} {v : Value} {es : List Itm} (h : Stk B w sb M lk room v es) : sb ≠ M := fun e => by
  obtain ⟨e0, ck, hm, _⟩ := h.map
  have := h.box
  rw [e, hm] at this
  cases this
/-- the items' row lies neither in the stock's block nor in the map's -/
theorem Stk.neRow {B : Nat} {w : World} {sb M : Nat} {lk room : Int} {v : Value} {es : List Itm} (h : Stk B w sb M lk room v es) {g : Nat} (hg : v.ownBlock = some g) : g ≠ sb ∧ g ≠ M := by
  rcases h.row.2 with ⟨e, _⟩ | ⟨g', cap, cur, hv, _, hh, _⟩
  · rw [e] at hg; cases hg
  · rw [hv] at hg
    simp only [Value.ownBlock, Option.some.injEq] at hg
    subst hg
    refine ⟨fun e => ?_, fun e => ?_⟩
    · have := h.box
      rw [← e, hh] at this
      simp only [Option.some.injEq, Obj.cells.injEq] at this
      exact absurd this.2.1 (by decide)
    · obtain ⟨e0, ck, hm, _⟩ := h.map
      rw [← e, hh] at hm
      cases hm
theorem Stk.lock {B : Nat} {w : World} {sb M : Nat} {lk room : Int} {v : Value} {es : List Itm} (h : Stk B w sb M lk room v es) (x : Int) : Stk B (w.setCell ⟨sb, 0, none⟩ (.int .i32 x)) sb M x room v es :=
  ⟨(heap_set5 h.box _).1, itLow h.row (Nat.le_refl _) fun g hg => Below.heap_setCell _ _ _ _ (by simpa using (h.neRow hg).1), h.map.same (Below.heap_setCell _ _ _ _ (by simpa using h.neM.symm)), h.bs, h.bm⟩
theorem Stk.below {B : Nat} {w w' : World} {sb M : Nat} {lk room : Int} {v : Value} {es : List Itm} (h : Stk B w sb M lk room v es) (hb : Below w.heap.size w w') : Stk B w' sb M lk room v es :=
  ⟨(hb.block sb (Array.getElem?_eq_some_iff.1 h.box).1).trans h.box, itKept h.row hb, h.map.same (hb.block M h.map.lt), h.bs, h.bm⟩
/-- fewer items: the row's own first ones -/
theorem own_firstI {w : World} {B n m c : Nat} {a : Option Addr} {es : List Itm} (h : w.ownsRow B 83 3 (.slice a n c) n (itV es)) (hn : es.length = n) (hm : m ≤ n) (h0 : 0 < n) : w.ownsRow B 83 3 (.slice a m c) m (itV (es.take m)) := by
  have hl : (es.take m).length = m := by simp; omega
  refine ⟨by rw [itV_length, hl], ?_⟩
  rcases h.2 with ⟨e, e0⟩ | ⟨g, cap, cur, hv, hg, hh, h1, h2, h3, h4⟩
  · omega
  · simp only [Value.slice.injEq, true_and] at hv
    obtain ⟨rfl, rfl⟩ := hv
    refine .inr ⟨g, c, cur, rfl, hg, hh, by omega, h2, h3, ?_⟩
    have he : es = es.take m ++ es.drop m := (List.take_append_drop m es).symm
    have hq : (itV es).take (m * 3) = itV (es.take m) := by
      conv => lhs; rw [he, itV_app]
      rw [List.take_left' (by rw [itV_length, hl])]
    rw [← hq, ← h4, List.take_take, Nat.min_eq_left (by omega)]
/-- the items set anew -/
theorem Stk.cut {B : Nat} {w : World} {sb M : Nat} {lk room : Int} {v v' : Value} {es es' : List Itm} (h : Stk B w sb M lk room v es) (hr : w.ownsRow B 83 3 v' es'.length (itV es')) (hne : ∀ g, v'.ownBlock = some g → g ≠ sb) : Stk B (w.setCell ⟨sb, 3, none⟩ v') sb M lk room v' es' :=
  ⟨(heap_set5 h.box _).2, itLow hr (Nat.le_refl _) fun g hg => Below.heap_setCell _ _ _ _ (by simpa using hne g hg), h.map.same (Below.heap_setCell _ _ _ _ (by simpa using h.neM.symm)), h.bs, h.bm⟩
/-- the map turned -/
theorem Stk.turn {B : Nat} {w w' : World} {sb M : Nat} {lk room : Int} {v : Value} {es : List Itm} (h : Stk B w sb M lk room v es) (hM : AMap w' M) (hb : ButT M w.drew w') : Stk B w' sb M lk room v es :=
  ⟨(hb.2.2.2.2 sb h.neM).trans h.box, ButT.owns (w := w.drew) hb h.map.map h.row, hM, h.bs, h.bm⟩

set_option maxHeartbeats 1600000 in
set_option maxRecDepth 100000 in
theorem stkTold (B sb M : Nat) (room : Int) (v : Value) (es : List Itm) (w : World) (h : Stk B w sb M 0 room v es) (hb : itsBulk es ≤ 4194304) (hBw : B ≤ w.heap.size) :
    Calls Tryz.prog 57 #[.pointer (some ⟨sb, 0, none⟩)] w fun e w' => ∃ a c, e = .returned (.agg #[.int .i64 room, .slice a es.length c]) ∧ w'.ownsRow w.heap.size 83 3 (.slice a es.length c) es.length (itV es) ∧ Below w.heap.size w w' := by
  have hlen : es.length ≤ 4194304 := by unfold itsBulk at hb; omega
  have hbox0 := h.box
  have hbs := h.bs
  obtain ⟨av, cv, rfl⟩ := slice_ownI h.row
  have hA : Below w.heap.size w (w.alloc (.cells #[.int .i64 0, .slice none 0 0] 35)) := (Below.refl _ _).alloc (Nat.le_refl _) _
  have h1 := (h.below hA).lock 1
  have r0 : ((w.alloc (.cells #[.int .i64 0, .slice none 0 0] 35)).setCell ⟨sb, 0, none⟩ (.int .i32 1)).heap[w.heap.size]? = some (.cells #[.int .i64 0, .slice none 0 0] 35 (0, 0)) := by
    rw [Below.heap_setCell _ _ _ _ (by have := (Array.getElem?_eq_some_iff.1 h.box).1; simp; omega)]
    exact (MapKept.heap_alloc w _).1
  obtain ⟨s0, f0⟩ : (w.alloc (.cells #[.int .i64 0, .slice none 0 0] 35)).cell? ⟨sb, 0, none⟩ = some (.int .i32 0) ∧ (w.alloc (.cells #[.int .i64 0, .slice none 0 0] 35)).frozen? ⟨sb, 0, none⟩ = false := ⟨(block5 (h.below hA).box).1.1, (block5 (h.below hA).box).2 0⟩
  have hbB : Below B w ((w.alloc (.cells #[.int .i64 0, .slice none 0 0] 35)).setCell ⟨sb, 0, none⟩ (.int .i32 1)) := ((Below.refl _ _).alloc hBw _).setCell h.bs _
  have hXk : ∀ k, k < w.heap.size → k ≠ sb → ((w.alloc (.cells #[.int .i64 0, .slice none 0 0] 35)).setCell ⟨sb, 0, none⟩ (.int .i32 1)).heap[k]? = w.heap[k]? := fun k hk hne => by
    rw [Below.heap_setCell _ _ _ _ (by simpa using hne)]
    exact (MapKept.heap_alloc w _).2 k hk
  have HXK : Hid (type_of% hXk) := hXk
  have HBOX0 : Hid (type_of% hbox0) := hbox0
  clear hA h hb hXk hbox0
  go_enter_defers Tryz.func57, Tryz.ntmps57
  go_wp2_with (go_at_call 82; refine (lock_free Tryz.muLib ⟨sb, 0, none⟩ _ s0 f0).mono ?_; rintro e w' ⟨rfl, rfl⟩)
  have hzX : w.heap.size < ((w.alloc (.cells #[.int .i64 0, .slice none 0 0] 35)).setCell ⟨sb, 0, none⟩ (.int .i32 1)).heap.size := by simp
  generalize ((w.alloc (.cells #[.int .i64 0, .slice none 0 0] 35)).setCell ⟨sb, 0, none⟩ (.int .i32 1)) = X at *
  clear s0 f0
  have hsbX : sb < X.heap.size := (Array.getElem?_eq_some_iff.1 h1.box).1
  have hsbw : sb ≠ w.heap.size := fun e => by
    have := h1.box
    rw [e, r0] at this
    simp only [Option.some.injEq, Obj.cells.injEq] at this
    exact absurd this.2.1 (by decide)
  have hQ0 : X.cell? ⟨sb, 2, none⟩ = some (.int .i64 room) ∧ X.cell? ⟨sb, 3, none⟩ = some (.slice av es.length cv) := ⟨(block5 h1.box).1.2.2.1, (block5 h1.box).1.2.2.2.1⟩
  have HCP0 := slCloneI (.slice av es.length cv) es X.drew (itRow (w := X.drew) h1.row) hlen
  have HCP : Hid (type_of% HCP0) := HCP0
  have HST : Hid (∀ (w4 : World) (a : Option Addr) (c : Nat), w4.ownsRow X.drew.heap.size 83 3 (.slice a es.length c) es.length (itV es) → Below X.drew.heap.size X.drew w4 → (w4.cell? ⟨sb, 2, none⟩ = some (.int .i64 room) ∧ w4.cell? ⟨sb, 3, none⟩ = some (.slice av es.length cv)) ∧ w4.cell? ⟨w.heap.size, 0, none⟩ = some (.int .i64 0) ∧ w4.cell? ⟨w.heap.size, 1, none⟩ = some (.slice none 0 0) ∧ w4.frozen? ⟨w.heap.size, 0, none⟩ = false ∧ w4.frozen? ⟨w.heap.size, 1, none⟩ = false ∧ (((w4.setCell ⟨w.heap.size, 0, none⟩ (.int .i64 room)).setCell ⟨w.heap.size, 1, none⟩ (.slice a es.length c)).cell? ⟨sb, 2, none⟩ = some (.int .i64 room) ∧ ((w4.setCell ⟨w.heap.size, 0, none⟩ (.int .i64 room)).setCell ⟨w.heap.size, 1, none⟩ (.slice a es.length c)).cell? ⟨sb, 3, none⟩ = some (.slice av es.length cv)) ∧ ((w4.setCell ⟨w.heap.size, 0, none⟩ (.int .i64 room)).setCell ⟨w.heap.size, 1, none⟩ (.slice a es.length c)).cell? ⟨sb, 0, none⟩ = some (.int .i32 1) ∧ ((w4.setCell ⟨w.heap.size, 0, none⟩ (.int .i64 room)).setCell ⟨w.heap.size, 1, none⟩ (.slice a es.length c)).frozen? ⟨sb, 0, none⟩ = false ∧ Hid ((((w4.setCell ⟨w.heap.size, 0, none⟩ (.int .i64 room)).setCell ⟨w.heap.size, 1, none⟩ (.slice a es.length c)).setCell ⟨sb, 0, none⟩ (.int .i32 0)).cell? ⟨w.heap.size, 0, none⟩ = some (.int .i64 room) ∧ (((w4.setCell ⟨w.heap.size, 0, none⟩ (.int .i64 room)).setCell ⟨w.heap.size, 1, none⟩ (.slice a es.length c)).setCell ⟨sb, 0, none⟩ (.int .i32 0)).cell? ⟨w.heap.size, 1, none⟩ = some (.slice a es.length c) ∧ (((w4.setCell ⟨w.heap.size, 0, none⟩ (.int .i64 room)).setCell ⟨w.heap.size, 1, none⟩ (.slice a es.length c)).setCell ⟨sb, 0, none⟩ (.int .i32 0)).ownsRow w.heap.size 83 3 (.slice a es.length c) es.length (itV es) ∧ Below w.heap.size w (((w4.setCell ⟨w.heap.size, 0, none⟩ (.int .i64 room)).setCell ⟨w.heap.size, 1, none⟩ (.slice a es.length c)).setCell ⟨sb, 0, none⟩ (.int .i32 0)))) := fun w4 a c ho hb4 => by
    have hzd : X.drew.heap.size = X.heap.size := rfl
    have hbx : w4.heap[sb]? = some (.cells #[.int .i32 1, .int .u32 0, .int .i64 room, .slice av es.length cv, .map (some M)] 152 (0, 0)) := (hb4.block sb hsbX).trans h1.box
    have hr4 : w4.heap[w.heap.size]? = some (.cells #[.int .i64 0, .slice none 0 0] 35 (0, 0)) := (hb4.block _ hzX).trans r0
    obtain ⟨⟨x0, _, x2, x3, _⟩, xf⟩ := block5 hbx
    have d0 : w4.cell? ⟨w.heap.size, 0, none⟩ = some (.int .i64 0) := by rw [cell_of_row _ _ 0 _ _ (0, 0) hr4]; rfl
    have d1 : w4.cell? ⟨w.heap.size, 1, none⟩ = some (.slice none 0 0) := by rw [cell_of_row _ _ 1 _ _ (0, 0) hr4]; rfl
    have hne : ∀ i j : Nat, (⟨w.heap.size, i, none⟩ : Addr) ≠ ⟨sb, j, none⟩ := fun i j e => by
      simp only [Addr.mk.injEq, and_true] at e
      omega
    have hoth : ∀ j u, w4.cell? ⟨sb, j, none⟩ = some u → ((w4.setCell ⟨w.heap.size, 0, none⟩ (.int .i64 room)).setCell ⟨w.heap.size, 1, none⟩ (.slice a es.length c)).cell? ⟨sb, j, none⟩ = some u := fun j u h => by
      rw [World.cell?_setCell_other _ _ _ _ (hne _ _), World.cell?_setCell_other _ _ _ _ (hne _ _)]
      exact h
    have hBB : B ≤ w4.heap.size := by have := hb4.size; omega
    refine ⟨⟨x2, x3⟩, d0, d1, frozen_of_row w4 _ 0 _ _ hr4, frozen_of_row w4 _ 1 _ _ hr4, ⟨hoth _ _ x2, hoth _ _ x3⟩, hoth _ _ x0, ?_, ?_, ?_, ?_, ?_⟩
    · simp [xf 0]
    · rw [World.cell?_setCell_other _ _ _ _ (fun e => hne _ _ e.symm), World.cell?_setCell_other _ _ _ _ (by simp), World.cell?_setCell_same _ _ _ d0]
    · rw [World.cell?_setCell_other _ _ _ _ (fun e => hne _ _ e.symm), World.cell?_setCell_same _ _ _ (by rw [World.cell?_setCell_other _ _ _ _ (by simp)]; exact d1)]
    · refine itLow ho (by omega) fun g hg => ?_
      have hgl := (ho.lt g hg).1
      rw [Below.heap_setCell _ _ _ _ (by simp; omega), Below.heap_setCell _ _ _ _ (by simp; omega), Below.heap_setCell _ _ _ _ (by simp; omega)]
    · have hB' := (((hbB.drew.trans (hb4.mono (by omega))).setCell (p := ⟨w.heap.size, 0, none⟩) hBw (.int .i64 room)).setCell (p := ⟨w.heap.size, 1, none⟩) hBw (.slice a es.length c)).setCell (p := ⟨sb, 0, none⟩) h1.bs (.int .i32 0)
      refine ⟨hB'.os, hB'.tape, hB'.output, hB'.size, fun k hk => ?_⟩
      by_cases ck : k = sb
      · subst ck
        have e1 : ((w4.setCell ⟨w.heap.size, 0, none⟩ (.int .i64 room)).setCell ⟨w.heap.size, 1, none⟩ (.slice a es.length c)).heap[k]? = _ := (Below.heap_setCell _ _ _ _ (by simp; omega)).trans ((Below.heap_setCell _ _ _ _ (by simp; omega)).trans hbx)
        rw [heap_setCell_same _ _ 0 _ _ _ e1, HBOX0.out]
        rfl
      · rw [Below.heap_setCell _ _ _ _ (by simpa using ck), Below.heap_setCell _ _ _ _ (by simp; omega), Below.heap_setCell _ _ _ _ (by simp; omega), hb4.block k (by omega)]
        exact HXK.out k hk ck
  clear h1 r0 HCP0 HXK HBOX0
  go_region_held3 (fun w' => w'.cell? ⟨sb, 2, none⟩ = some (.int .i64 room) ∧ w'.cell? ⟨sb, 3, none⟩ = some (.slice av es.length cv))
    (first
      | exact hQ0
      | (revert hQ4; intro hQ4; exact hQ4)
      | (revert hQm; intro hQm; exact hQm)
      | (revert hQ5; intro hQ5; exact hQ5))
    (first
      | (go_at_call 84; refine HCP.out.mono ?_; rintro e w4 ⟨a, c, rfl, ho4, hb4⟩; obtain ⟨hQ4, d0, d1, f0, f1, hQ5, k0, kf, HF⟩ := HST.out w4 a c ho4 hb4; have z0 := setCell_self d0; have z1 := setCell_self d1; have hQm : (w4.setCell ⟨w.heap.size, 0, none⟩ (.int .i64 room)).cell? ⟨sb, 2, none⟩ = some (.int .i64 room) ∧ (w4.setCell ⟨w.heap.size, 0, none⟩ (.int .i64 room)).cell? ⟨sb, 3, none⟩ = some (.slice av es.length cv) := ⟨by rw [World.cell?_setCell_other _ _ _ _ (by simp)]; exact hQ4.1, by rw [World.cell?_setCell_other _ _ _ _ (by simp)]; exact hQ4.2⟩))
  go_wp2_with fail
  refine leaves_cons (f := 83) (args := #[.pointer (some ⟨sb, 0, none⟩)]) (by simp) (by simp [go_sem]) ?_
  refine (unlock_deferred Tryz.muLib ⟨sb, 0, none⟩ .returning _ k0 kf).mono ?_
  rintro e u' w'' ⟨rfl, rfl, rfl⟩
  obtain ⟨h0, h1, h2, h3⟩ := HF.out
  refine ⟨.agg #[.int .i64 room, .slice a es.length c], ?_, a, c, rfl, h2, h3⟩
  simp [results, Tryz.results57, go_sem, h0, h1]

theorem its_take (es : List Itm) (m : Nat) : itsBulk (es.take m) ≤ itsBulk es := by
  have := itSum_le es m
  unfold itsBulk
  have hl : (es.take m).length ≤ es.length := by simp; omega
  omega

/-- a store's answer put into its box: the box, the row and what was there -/
theorem boxEnd {w W2 w4 : World} {room : Int} {a : Option Addr} {m c : Nat} {L : List Itm} (hB2 : Below w.heap.size w W2) (hs1 : w.heap.size + 1 < W2.heap.size) (r0 : W2.heap[w.heap.size + 1]? = some (.cells #[.int .i64 0, .slice none 0 0] 35 (0, 0)))
    (ho : w4.ownsRow W2.heap.size 83 3 (.slice a m c) m (itV L)) (b4 : Below W2.heap.size W2 w4) : w4.cell? ⟨w.heap.size + 1, 0, none⟩ = some (.int .i64 0) ∧ w4.cell? ⟨w.heap.size + 1, 1, none⟩ = some (.slice none 0 0) ∧ w4.frozen? ⟨w.heap.size + 1, 0, none⟩ = false ∧ w4.frozen? ⟨w.heap.size + 1, 1, none⟩ = false ∧ Hid (((w4.setCell ⟨w.heap.size + 1, 0, none⟩ (.int .i64 room)).setCell ⟨w.heap.size + 1, 1, none⟩ (.slice a m c)).cell? ⟨w.heap.size + 1, 0, none⟩ = some (.int .i64 room) ∧ ((w4.setCell ⟨w.heap.size + 1, 0, none⟩ (.int .i64 room)).setCell ⟨w.heap.size + 1, 1, none⟩ (.slice a m c)).cell? ⟨w.heap.size + 1, 1, none⟩ = some (.slice a m c) ∧ ((w4.setCell ⟨w.heap.size + 1, 0, none⟩ (.int .i64 room)).setCell ⟨w.heap.size + 1, 1, none⟩ (.slice a m c)).ownsRow w.heap.size 83 3 (.slice a m c) m (itV L) ∧ Below w.heap.size w ((w4.setCell ⟨w.heap.size + 1, 0, none⟩ (.int .i64 room)).setCell ⟨w.heap.size + 1, 1, none⟩ (.slice a m c))) := by
  have hr5 : w4.heap[w.heap.size + 1]? = some (.cells #[.int .i64 0, .slice none 0 0] 35 (0, 0)) := (b4.block _ hs1).trans r0
  have d0 : w4.cell? ⟨w.heap.size + 1, 0, none⟩ = some (.int .i64 0) := by rw [cell_of_row _ _ 0 _ _ (0, 0) hr5]; rfl
  have d1 : w4.cell? ⟨w.heap.size + 1, 1, none⟩ = some (.slice none 0 0) := by rw [cell_of_row _ _ 1 _ _ (0, 0) hr5]; rfl
  refine ⟨d0, d1, frozen_of_row w4 _ 0 _ _ hr5, frozen_of_row w4 _ 1 _ _ hr5, ?_, ?_, ?_, ?_⟩
  · rw [World.cell?_setCell_other _ _ _ _ (by simp), World.cell?_setCell_same _ _ _ d0]
  · rw [World.cell?_setCell_same _ _ _ (by rw [World.cell?_setCell_other _ _ _ _ (by simp)]; exact d1)]
  · refine itLow ho (by omega) fun g hg => ?_
    have hgl := (ho.lt g hg).1
    rw [Below.heap_setCell _ _ _ _ (by simp; omega), Below.heap_setCell _ _ _ _ (by simp; omega)]
  · exact ((hB2.trans (b4.mono (by omega))).setCell (by simp) _).setCell (by simp) _

end Go.Proofs.YtllbfbllkefjeaaGreatDoor
