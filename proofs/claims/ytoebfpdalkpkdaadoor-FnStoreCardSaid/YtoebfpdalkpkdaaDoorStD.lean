/-
  The walks of the draws of stores: l11Store.
-/
import Derived.Test.YtoebfpdalkpkdaaDoorItPs
import Derived.Test.YtoebfpdalkpkdaaDoorStP
import Derived.Test.YtoebfpdalkpkdaaDoorCurB
import Derived.Test.YtoebfpdalkpkdaaDoorDrawsC
import Derived.Deep.RegionHeld3
namespace Go.Proofs.YtoebfpdalkpkdaaDoor
open Go.RowKit

/-- a drawn store in memory: its box, the box of the answer, its items, the cursor -/
structure DrSt (B cb r sb : Nat) (a : Option Addr) (len cap : Nat) (w X : World) (room : Int) (v : Value) (es : List Itm) : Prop where
  box : X.heap[sb]? = some (.cells #[.int .i64 room, v] 29 (0, 0))
  res : X.heap[r]? = some (.cells #[.int .i64 0, .slice none 0 0] 29 (0, 0))
  row : X.ownsRow (sb + 1) 50 3 v es.length (itV es)
  cur : Cur B X cb a len cap
  grn : w.grownBy X (some cb)
  lt0 : cb < w.heap.size
  lt1 : w.heap.size ≤ r
  lt2 : r < sb

theorem DrSt.lt3 {B cb r sb : Nat} {a : Option Addr} {len cap : Nat} {w X : World} {room : Int} {v : Value} {es : List Itm} (h : DrSt B cb r sb a len cap w X room v es) : sb < X.heap.size := (Array.getElem?_eq_some_iff.1 h.box).1
theorem DrSt.cells {B cb r sb : Nat} {a : Option Addr} {len cap : Nat} {w X : World} {room : Int} {v : Value} {es : List Itm} (h : DrSt B cb r sb a len cap w X room v es) : (X.cell? ⟨sb, 0, none⟩ = some (.int .i64 room) ∧ X.cell? ⟨sb, 1, none⟩ = some v) ∧ X.frozen? ⟨sb, 0, none⟩ = false ∧ X.frozen? ⟨sb, 1, none⟩ = false := by
  refine ⟨⟨?_, ?_⟩, frozen_of_row X sb 0 _ _ h.box, frozen_of_row X sb 1 _ _ h.box⟩
  · rw [cell_of_row X sb 0 _ _ (0, 0) h.box]; rfl
  · rw [cell_of_row X sb 1 _ _ (0, 0) h.box]; rfl
theorem DrSt.neCur {B cb r sb : Nat} {a : Option Addr} {len cap : Nat} {w X : World} {room : Int} {v : Value} {es : List Itm} (h : DrSt B cb r sb a len cap w X room v es) : v.ownBlock = none ∨ v.ownBlock ≠ some cb := .inr fun e => by
  have h1 := (h.row.lt cb e).1
  have h2 := h.lt0
  have h3 := h.lt1
  have h4 := h.lt2
  omega
/-- what only turns the cursor -/
theorem DrSt.grown {B cb r sb : Nat} {a : Option Addr} {len cap : Nat} {w X Y : World} {room : Int} {v : Value} {es : List Itm} (h : DrSt B cb r sb a len cap w X room v es) (hg : X.grownBy Y (some cb)) (hC : Cur B Y cb a len cap) : DrSt B cb r sb a len cap w Y room v es := by
  have h2 := h.lt0
  have h3 := h.lt1
  have h4 := h.lt2
  have h5 := h.lt3
  refine ⟨(hg.block sb h5 (by simp; omega)).trans h.box, (hg.block r (by omega) (by simp; omega)).trans h.res, h.row.kept hg h.neCur, hC, grown_trans h.grn hg, h2, h3, h4⟩
/-- what turns nothing -/
theorem DrSt.below {B cb r sb : Nat} {a : Option Addr} {len cap : Nat} {w X Y : World} {room : Int} {v : Value} {es : List Itm} (h : DrSt B cb r sb a len cap w X room v es) (hb : Below X.heap.size X Y) : DrSt B cb r sb a len cap w Y room v es := by
  have hg : X.grownBy Y (some cb) := ⟨hb.os, hb.tape, hb.output, hb.size, fun k hk _ => hb.block k hk⟩
  have h2 := h.cur.ltC
  have h3 := h.cur.here
  exact h.grown hg (h.cur.kept (hb.mono (by omega)) (hb.block cb h2))
/-- a value in the box's cells -/
theorem DrSt.setBox {B cb r sb : Nat} {a : Option Addr} {len cap : Nat} {w X : World} {room : Int} {v : Value} {es : List Itm} (h : DrSt B cb r sb a len cap w X room v es) (i : Nat) (u : Value) : Cur B (X.setCell ⟨sb, i, none⟩ u) cb a len cap ∧ w.grownBy (X.setCell ⟨sb, i, none⟩ u) (some cb) := by
  have h2 := h.lt0
  have h3 := h.lt1
  have h4 := h.lt2
  have hh := h.cur.here
  refine ⟨h.cur.kept ((Below.refl _ _).setCell (p := ⟨sb, i, none⟩) (by show B ≤ sb; omega) _) (Below.heap_setCell _ _ _ _ (by simp; omega)), ?_⟩
  exact ⟨h.grn.os, h.grn.tape, h.grn.output, by simpa using h.grn.size, fun k hk hr => by
    rw [Below.heap_setCell _ _ _ _ (by simp; omega)]
    exact h.grn.block k hk hr⟩
theorem DrSt.room {B cb r sb : Nat} {a : Option Addr} {len cap : Nat} {w X : World} {room : Int} {v : Value} {es : List Itm} (h : DrSt B cb r sb a len cap w X room v es) (room' : Int) : DrSt B cb r sb a len cap w (X.setCell ⟨sb, 0, none⟩ (.int .i64 room')) room' v es := by
  obtain ⟨h5, h6⟩ := h.setBox 0 (.int .i64 room')
  have h2 := h.lt0
  have h3 := h.lt1
  have h4 := h.lt2
  refine ⟨heap_setCell_same _ _ 0 _ _ _ h.box, ?_, itLow h.row (Nat.le_refl _) fun g hg => Below.heap_setCell _ _ _ _ ?_, h5, h6, h2, h3, h4⟩
  · rw [Below.heap_setCell _ _ _ _ (by simp; omega)]
    exact h.res
  · have := (h.row.lt g hg).1
    simp
    omega
theorem DrSt.items {B cb r sb : Nat} {a : Option Addr} {len cap : Nat} {w X : World} {room : Int} {v v' : Value} {es es' : List Itm} (h : DrSt B cb r sb a len cap w X room v es) (ho : X.ownsRow (sb + 1) 50 3 v' es'.length (itV es')) : DrSt B cb r sb a len cap w (X.setCell ⟨sb, 1, none⟩ v') room v' es' := by
  obtain ⟨h5, h6⟩ := h.setBox 1 v'
  have h2 := h.lt0
  have h3 := h.lt1
  have h4 := h.lt2
  refine ⟨heap_setCell_same _ _ 1 _ _ _ h.box, ?_, itLow ho (Nat.le_refl _) fun g hg => Below.heap_setCell _ _ _ _ ?_, h5, h6, h2, h3, h4⟩
  · rw [Below.heap_setCell _ _ _ _ (by simp; omega)]
    exact h.res
  · have := (ho.lt g hg).1
    simp
    omega
/-- the store that a call answers, put into the box -/
theorem DrSt.put {B cb r sb : Nat} {a : Option Addr} {len cap : Nat} {w X Y : World} {room room' : Int} {v v' : Value} {es es' : List Itm} (h : DrSt B cb r sb a len cap w X room v es) (hb : Below X.heap.size X Y) (ho : Y.ownsRow X.heap.size 50 3 v' es'.length (itV es')) : DrSt B cb r sb a len cap w ((Y.setCell ⟨sb, 0, none⟩ (.int .i64 room')).setCell ⟨sb, 1, none⟩ v') room' v' es' := by
  have h3 := h.lt3
  refine ((h.below hb).room room').items (itLow ho (by omega) fun g hg => Below.heap_setCell _ _ _ _ ?_)
  have := (ho.lt g hg).1
  simp
  omega
/-- an item behind the others -/
theorem DrSt.app {B cb r sb : Nat} {a : Option Addr} {len cap : Nat} {w X Z Y : World} {room : Int} {v v' : Value} {es es' : List Itm} (h : DrSt B cb r sb a len cap w X room v es) (hb : Below X.heap.size X Z) (hg : Z.grownBy Y v.ownBlock) (ho : Y.ownsRow (sb + 1) 50 3 v' es'.length (itV es')) : DrSt B cb r sb a len cap w (Y.setCell ⟨sb, 1, none⟩ v') room v' es' ∧ (Y.cell? ⟨sb, 0, none⟩ = some (.int .i64 room) ∧ Y.cell? ⟨sb, 1, none⟩ = some v) ∧ Y.frozen? ⟨sb, 1, none⟩ = false := by
  have hz := h.below hb
  have h2 := hz.lt0
  have h3 := hz.lt1
  have h4 := hz.lt2
  have h5 := hz.lt3
  have hne : ∀ k, k ≤ sb → v.ownBlock ≠ some k := fun k hk e => by
    have := (h.row.lt k e).1
    omega
  have hblk : ∀ k, k ≤ sb → Y.heap[k]? = Z.heap[k]? := fun k hk => hg.block k (by omega) (fun e => hne k hk e.symm)
  have hzz : Y.ownsRow (sb + 1) 50 3 v' es'.length (itV es') := ho
  have hbB : Below (sb + 1) Z Y := ⟨hg.os, hg.tape, hg.output, hg.size, fun k hk => hblk k (by omega)⟩
  have hB := hz.cur.here
  have hbox := (hblk sb (Nat.le_refl _)).trans hz.box
  have hgr : w.grownBy Y (some cb) := ⟨hg.os.trans hz.grn.os, hg.tape.trans hz.grn.tape, hg.output.trans hz.grn.output, Nat.le_trans hz.grn.size hg.size, fun k hk hr => (hblk k (by omega)).trans (hz.grn.block k hk hr)⟩
  have hD : DrSt B cb r sb a len cap w (Y.setCell ⟨sb, 1, none⟩ v') room v' es' := by
    have hc : Cur B Y cb a len cap := hz.cur.kept (hbB.mono (by omega)) (hblk cb (by omega))
    have hr := (hblk r (by omega)).trans hz.res
    refine ⟨heap_setCell_same _ _ 1 _ _ _ hbox, ?_, itLow hzz (Nat.le_refl _) fun g hg => Below.heap_setCell _ _ _ _ ?_, hc.kept ((Below.refl _ _).setCell (p := ⟨sb, 1, none⟩) (by show B ≤ sb; omega) _) (Below.heap_setCell _ _ _ _ (by simp; omega)), ?_, h2, h3, h4⟩
    · rw [Below.heap_setCell _ _ _ _ (by simp; omega)]
      exact hr
    · have := (hzz.lt g hg).1
      simp
      omega
    · exact ⟨hgr.os, hgr.tape, hgr.output, by simpa using hgr.size, fun k hk hr => by
        rw [Below.heap_setCell _ _ _ _ (by simp; omega)]
        exact hgr.block k hk hr⟩
  refine ⟨hD, ⟨?_, ?_⟩, frozen_of_row Y sb 1 _ _ hbox⟩
  · rw [cell_of_row Y sb 0 _ _ (0, 0) hbox]; rfl
  · rw [cell_of_row Y sb 1 _ _ (0, 0) hbox]; rfl
/-- a key turned -/
theorem DrSt.key {B cb r sb g c : Nat} {a : Option Addr} {len cap : Nat} {w X : World} {room : Int} {x0 x1 x2 u : ByteArray} {es : List Itm} (h : DrSt B cb r sb a len cap w X room (.slice (some ⟨g, 0, none⟩) (es.length + 1) c) ((x0, x1, x2) :: es)) : (X.cell? ⟨g, 0, none⟩ = some (.string x0) ∧ X.frozen? ⟨g, 0, none⟩ = false) ∧ DrSt B cb r sb a len cap w (X.setCell ⟨g, 0, none⟩ (.string u)) room (.slice (some ⟨g, 0, none⟩) (es.length + 1) c) ((u, x1, x2) :: es) := by
  have hl := h.row.lt g rfl
  have h2 := h.lt0
  have h3 := h.lt1
  have h4 := h.lt2
  have hh := h.cur.here
  obtain ⟨S1, _⟩ := h.row.stored 0 (.string u)
  have hv : (itV ((x0, x1, x2) :: es)).set 0 (.string u) = itV ((u, x1, x2) :: es) := rfl
  rw [hv] at S1
  refine ⟨⟨?_, h.row.frozenAt 0⟩, ?_, ?_, S1, h.cur.kept ((Below.refl _ _).setCell (p := ⟨g, 0, none⟩) (by show B ≤ g; omega) _) (Below.heap_setCell _ _ _ _ (by simp; omega)), ?_, h2, h3, h4⟩
  · rw [h.row.cellAt 0 (by simp)]
    rfl
  · rw [Below.heap_setCell _ _ _ _ (by simp; omega)]
    exact h.box
  · rw [Below.heap_setCell _ _ _ _ (by simp; omega)]
    exact h.res
  · exact ⟨h.grn.os, h.grn.tape, h.grn.output, by simpa using h.grn.size, fun k hk hr => by
      rw [Below.heap_setCell _ _ _ _ (by simp; omega)]
      exact h.grn.block k hk hr⟩

theorem ret_l11Store {R : Ending → World → Prop} {W : World} {tmps : Array Value} {b : Nat} {x0 x1 : Value} (hp : tmps[2]?.getD undef = .pointer (some ⟨b, 0, none⟩))
    (h : W.cell? ⟨b, 0, none⟩ = some x0 ∧ W.cell? ⟨b, 1, none⟩ = some x1) (hR : R (.returned (.agg #[x0, x1])) W) :
    bodyPost Tryd.prog Tryd.f44 R .ret { tmps := tmps, defers := [] } W := by
  obtain ⟨h0, h1⟩ := h
  refine bodyPost_ret (v := .agg #[x0, x1]) ?_ rfl hR
  simp [results, Tryd.results44, go_sem, hp, h0, h1]

/-- what a draw of a store leaves -/
def DrStore (B cb : Nat) (a : Option Addr) (len cap : Nat) (w : World) (e : Ending) (w' : World) : Prop :=
  ∃ (room : Int) (v : Value) (es : List Itm), e = .returned (.agg #[.int .i64 room, v]) ∧ SmallI es 8 200 ∧ w'.ownsRow w.heap.size 50 3 v es.length (itV es) ∧ Cur B w' cb a len cap ∧ w.grownBy w' (some cb)

/-- the end: the answer's box -/
theorem DrSt.fin {B cb r sb : Nat} {a : Option Addr} {len cap : Nat} {w X : World} {room : Int} {v : Value} {es : List Itm} (h : DrSt B cb r sb a len cap w X room v es) (hs : SmallI es 8 200) : X.cell? ⟨r, 0, none⟩ = some (.int .i64 0) ∧ X.cell? ⟨r, 1, none⟩ = some (.slice none 0 0) ∧ X.frozen? ⟨r, 0, none⟩ = false ∧ X.frozen? ⟨r, 1, none⟩ = false ∧ Hid ((((X.setCell ⟨r, 0, none⟩ (.int .i64 room)).setCell ⟨r, 1, none⟩ v).cell? ⟨r, 0, none⟩ = some (.int .i64 room) ∧ ((X.setCell ⟨r, 0, none⟩ (.int .i64 room)).setCell ⟨r, 1, none⟩ v).cell? ⟨r, 1, none⟩ = some v) ∧ DrStore B cb a len cap w (.returned (.agg #[.int .i64 room, v])) ((X.setCell ⟨r, 0, none⟩ (.int .i64 room)).setCell ⟨r, 1, none⟩ v)) := by
  have h2 := h.lt0
  have h3 := h.lt1
  have h4 := h.lt2
  have hh := h.cur.here
  have d0 : X.cell? ⟨r, 0, none⟩ = some (.int .i64 0) := by rw [cell_of_row X r 0 _ _ (0, 0) h.res]; rfl
  have d1 : X.cell? ⟨r, 1, none⟩ = some (.slice none 0 0) := by rw [cell_of_row X r 1 _ _ (0, 0) h.res]; rfl
  refine ⟨d0, d1, frozen_of_row X r 0 _ _ h.res, frozen_of_row X r 1 _ _ h.res, ⟨?_, ?_⟩, room, v, es, rfl, hs, ?_, ?_, ?_⟩
  · rw [World.cell?_setCell_other _ _ _ _ (by simp), World.cell?_setCell_same _ _ _ d0]
  · rw [World.cell?_setCell_same _ _ _ (by rw [World.cell?_setCell_other _ _ _ _ (by simp)]; exact d1)]
  · refine itLow h.row (by omega) fun g hg => ?_
    have := (h.row.lt g hg).1
    rw [Below.heap_setCell _ _ _ _ (by simp; omega), Below.heap_setCell _ _ _ _ (by simp; omega)]
  · refine (h.cur.kept (((Below.refl _ _).setCell (p := ⟨r, 0, none⟩) (by show B ≤ r; omega) _).setCell (p := ⟨r, 1, none⟩) (by show B ≤ r; omega) _) ?_)
    rw [Below.heap_setCell _ _ _ _ (by simp; omega), Below.heap_setCell _ _ _ _ (by simp; omega)]
  · exact ⟨h.grn.os, h.grn.tape, h.grn.output, by simpa using h.grn.size, fun k hk hr => by
      rw [Below.heap_setCell _ _ _ _ (by simp; omega), Below.heap_setCell _ _ _ _ (by simp; omega)]
      exact h.grn.block k hk hr⟩

end Go.Proofs.YtoebfpdalkpkdaaDoor
