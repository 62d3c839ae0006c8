/-
  The walks of the draws DrawStorePut, DrawStoreGet, DrawStoreDrop, and of the laws' sameStore at stores that hold the same.
-/
import Derived.Test.YtoebfpdalkpkdaaDoorStE
namespace Go.Proofs.YtoebfpdalkpkdaaDoor
open Go.RowKit

def abeL : List ByteArray := [⟨#[97]⟩, ⟨#[98]⟩, ⟨#[101]⟩]

theorem DrStore.cellsOf {B cb : Nat} {a : Option Addr} {len cap : Nat} {w : World} {e : Ending} {w' : World} (h : DrStore B cb a len cap w e w') : ∃ (room : Int) (av : Option Addr) (cv : Nat) (es : List Itm), e = .returned (.agg #[.int .i64 room, .slice av es.length cv]) ∧ (av = none → cv = 0) ∧ SmallI es 8 200 ∧ w'.ownsRow w.heap.size 50 3 (.slice av es.length cv) es.length (itV es) ∧ Cur B w' cb a len cap ∧ w.grownBy w' (some cb) := by
  obtain ⟨room, v, es, he, hs, ho, hC, hg⟩ := h
  obtain ⟨av, cv, e0⟩ := slice_ownI ho
  subst e0
  refine ⟨room, av, cv, es, he, fun e0 => ?_, hs, ho, hC, hg⟩
  rcases ho.2 with ⟨e1, _⟩ | ⟨g, c, cur, e1, _⟩
  · simp only [Value.slice.injEq] at e1
    exact e1.2.2
  · rw [e0] at e1
    cases e1

/-- what a draw of a store and of a further argument leaves -/
def DrSt2 (w : World) (e : Ending) (w' : World) (z : Value → Prop) : Prop :=
  ∃ (room : Int) (av : Option Addr) (cv : Nat) (es : List Itm) (u : Value), e = .returned (.tuple #[.agg #[.int .i64 room, .slice av es.length cv], u]) ∧ z u ∧ (av = none → cv = 0) ∧ SmallI es 8 200 ∧ w'.ownsRow w.heap.size 50 3 (.slice av es.length cv) es.length (itV es) ∧ Below w.heap.size w w'

theorem ret_drGet {R : Ending → World → Prop} {W : World} {tmps : Array Value} {b : Nat} {x0 x1 x2 : Value} (hp : tmps[2]?.getD undef = .pointer (some ⟨b, 0, none⟩)) (hq : tmps[3]?.getD undef = x2)
    (h : W.cell? ⟨b, 0, none⟩ = some x0 ∧ W.cell? ⟨b, 1, none⟩ = some x1) (hR : R (.returned (.tuple #[.agg #[x0, x1], x2])) W) :
    bodyPost Tryd.prog Tryd.f23 R .ret { tmps := tmps, defers := [] } W := by
  obtain ⟨h0, h1⟩ := h
  refine bodyPost_ret (v := .tuple #[.agg #[x0, x1], x2]) ?_ rfl hR
  simp [results, Tryd.results23, go_sem, hp, hq, h0, h1]
theorem ret_drDrop {R : Ending → World → Prop} {W : World} {tmps : Array Value} {b : Nat} {x0 x1 x2 : Value} (hp : tmps[2]?.getD undef = .pointer (some ⟨b, 0, none⟩)) (hq : tmps[3]?.getD undef = x2)
    (h : W.cell? ⟨b, 0, none⟩ = some x0 ∧ W.cell? ⟨b, 1, none⟩ = some x1) (hR : R (.returned (.tuple #[.agg #[x0, x1], x2])) W) :
    bodyPost Tryd.prog Tryd.f24 R .ret { tmps := tmps, defers := [] } W := by
  obtain ⟨h0, h1⟩ := h
  refine bodyPost_ret (v := .tuple #[.agg #[x0, x1], x2]) ?_ rfl hR
  simp [results, Tryd.results24, go_sem, hp, hq, h0, h1]
theorem ret_drPut {R : Ending → World → Prop} {W : World} {tmps : Array Value} {b : Nat} {x0 x1 x2 x3 : Value} (hp : tmps[2]?.getD undef = .pointer (some ⟨b, 0, none⟩)) (hq : tmps[3]?.getD undef = x2) (hr : tmps[4]?.getD undef = x3)
    (h : W.cell? ⟨b, 0, none⟩ = some x0 ∧ W.cell? ⟨b, 1, none⟩ = some x1) (hR : R (.returned (.tuple #[.agg #[x0, x1], x2, x3])) W) :
    bodyPost Tryd.prog Tryd.f22 R .ret { tmps := tmps, defers := [] } W := by
  obtain ⟨h0, h1⟩ := h
  refine bodyPost_ret (v := .tuple #[.agg #[x0, x1], x2, x3]) ?_ rfl hR
  simp [results, Tryd.results22, go_sem, hp, hq, hr, h0, h1]

/-- the draw's end: the store goes into the answer's box -/
theorem drEnd {w wS X : World} {cb r : Nat} {room : Int} {av : Option Addr} {cv : Nat} {es : List Itm} (hr0 : w.heap.size ≤ r) (hrS : r < wS.heap.size) (hS : Below w.heap.size w wS) (hcb : w.heap.size ≤ cb) (hcr : cb ≠ r) {wT : World} (hT : wS.grownBy wT (some cb)) (ho : wT.ownsRow wS.heap.size 50 3 (.slice av es.length cv) es.length (itV es)) (hg : wT.grownBy X (some cb)) (hcS : cb < wS.heap.size) (hbx : wS.heap[r]? = some (.cells #[.int .i64 0, .slice none 0 0] 29 (0, 0))) :
    X.cell? ⟨r, 0, none⟩ = some (.int .i64 0) ∧ X.cell? ⟨r, 1, none⟩ = some (.slice none 0 0) ∧ X.frozen? ⟨r, 0, none⟩ = false ∧ X.frozen? ⟨r, 1, none⟩ = false ∧ Hid ((((X.setCell ⟨r, 0, none⟩ (.int .i64 room)).setCell ⟨r, 1, none⟩ (.slice av es.length cv)).cell? ⟨r, 0, none⟩ = some (.int .i64 room) ∧ ((X.setCell ⟨r, 0, none⟩ (.int .i64 room)).setCell ⟨r, 1, none⟩ (.slice av es.length cv)).cell? ⟨r, 1, none⟩ = some (.slice av es.length cv)) ∧ ((X.setCell ⟨r, 0, none⟩ (.int .i64 room)).setCell ⟨r, 1, none⟩ (.slice av es.length cv)).ownsRow w.heap.size 50 3 (.slice av es.length cv) es.length (itV es) ∧ Below w.heap.size w ((X.setCell ⟨r, 0, none⟩ (.int .i64 room)).setCell ⟨r, 1, none⟩ (.slice av es.length cv))) := by
  have hgT := grown_trans hT hg
  have hbX : X.heap[r]? = some (.cells #[.int .i64 0, .slice none 0 0] 29 (0, 0)) := (hgT.block r hrS (by simp; omega)).trans hbx
  have d0 : X.cell? ⟨r, 0, none⟩ = some (.int .i64 0) := by rw [cell_of_row X r 0 _ _ (0, 0) hbX]; rfl
  have d1 : X.cell? ⟨r, 1, none⟩ = some (.slice none 0 0) := by rw [cell_of_row X r 1 _ _ (0, 0) hbX]; rfl
  have hz := hS.size
  have hoX := ho.kept hg (.inr fun e => by have := (ho.lt cb e).1; omega)
  refine ⟨d0, d1, frozen_of_row X r 0 _ _ hbX, frozen_of_row X r 1 _ _ hbX, ⟨?_, ?_⟩, ?_, ?_⟩
  · rw [World.cell?_setCell_other _ _ _ _ (by simp), World.cell?_setCell_same _ _ _ d0]
  · rw [World.cell?_setCell_same _ _ _ (by rw [World.cell?_setCell_other _ _ _ _ (by simp)]; exact d1)]
  · refine itLow hoX (by omega) fun g hg => ?_
    have := (hoX.lt g hg).1
    rw [Below.heap_setCell _ _ _ _ (by simp; omega), Below.heap_setCell _ _ _ _ (by simp; omega)]
  · have hb : Below w.heap.size wS X := ⟨hgT.os, hgT.tape, hgT.output, hgT.size, fun k hk => hgT.block k (by omega) (by simp; omega)⟩
    exact ((hS.trans hb).setCell (p := ⟨r, 0, none⟩) hr0 _).setCell (p := ⟨r, 1, none⟩) hr0 _

/-- the box of the drawn store, while the cursor goes on -/
theorem drBox {w X Y : World} {cb r : Nat} {room : Int} {v : Value} (hX : X = w.alloc (.cells #[.int .i64 room, v] 29)) (hg : X.grownBy Y (some cb)) (hcb : cb < w.heap.size) (hr : r < w.heap.size) : (Y.cell? ⟨w.heap.size, 0, none⟩ = some (.int .i64 room) ∧ Y.cell? ⟨w.heap.size, 1, none⟩ = some v) ∧ ∀ u0 u1, ((Y.setCell ⟨r, 0, none⟩ u0).setCell ⟨r, 1, none⟩ u1).cell? ⟨w.heap.size, 0, none⟩ = some (.int .i64 room) ∧ ((Y.setCell ⟨r, 0, none⟩ u0).setCell ⟨r, 1, none⟩ u1).cell? ⟨w.heap.size, 1, none⟩ = some v := by
  have h0 : X.heap[w.heap.size]? = some (.cells #[.int .i64 room, v] 29 (0, 0)) := by rw [hX]; exact heap_alloc_new w _
  have h1 : Y.heap[w.heap.size]? = some (.cells #[.int .i64 room, v] 29 (0, 0)) := (hg.block w.heap.size (by rw [hX]; simp) (by simp; omega)).trans h0
  have h2 : Y.cell? ⟨w.heap.size, 0, none⟩ = some (.int .i64 room) ∧ Y.cell? ⟨w.heap.size, 1, none⟩ = some v := by
    refine ⟨?_, ?_⟩
    · rw [cell_of_row Y _ 0 _ _ (0, 0) h1]; rfl
    · rw [cell_of_row Y _ 1 _ _ (0, 0) h1]; rfl
  refine ⟨h2, fun u0 u1 => ⟨?_, ?_⟩⟩
  · rw [World.cell?_setCell_other _ _ _ _ (by first | (simp; done) | (simp; omega)), World.cell?_setCell_other _ _ _ _ (by first | (simp; done) | (simp; omega))]
    exact h2.1
  · rw [World.cell?_setCell_other _ _ _ _ (by first | (simp; done) | (simp; omega)), World.cell?_setCell_other _ _ _ _ (by first | (simp; done) | (simp; omega))]
    exact h2.2

theorem pickInts (B cb : Nat) (a : Option Addr) (len cap : Nat) (w X : World) (zs : List Int) (m : Int) (hC : Cur B w cb a len cap) (h0 : 1 ≤ zs.length) (h1 : zs.length ≤ 256) (hm : ∀ z ∈ zs, z ≤ m) (hX : X = (w.alloc (.cells (zs.map (Value.int .i64)).toArray 3)).drew ∨ X = w.drew.alloc (.cells (zs.map (Value.int .i64)).toArray 3) ∨ X = w.alloc (.cells (zs.map (Value.int .i64)).toArray 3)) :
    Calls Tryd.prog 46 #[.pointer (some ⟨cb, 0, none⟩), .slice (some ⟨w.heap.size, 0, none⟩) zs.length zs.length] X fun e w' => ∃ t : Int, e = .returned (.int .i64 t) ∧ t ≤ m ∧ Cur B w' cb a len cap ∧ w.grownBy w' (some cb) := by
  have hlt := hC.ltC
  have h : Cur B X cb a len cap ∧ w.grownBy X (some cb) ∧ (∀ j (h : j < zs.length), X.cell? ⟨w.heap.size, j, none⟩ = some (.int .i64 zs[j])) := by
    rcases hX with rfl | rfl | rfl
    · exact ⟨(hC.allocC _).drewN 1, grown_drewN (World.grownBy_alloc _ _ _) 1, cells_lit w zs _⟩
    · exact ⟨(hC.drewN 1).allocC _, grown_trans (grown_drewN (World.grownBy.refl _ _) 1) (World.grownBy_alloc _ _ _), cells_lit w.drew zs _⟩
    · exact ⟨hC.allocC _, World.grownBy_alloc _ _ _, cells_lit w zs _⟩
  obtain ⟨h2, h3, h4⟩ := h
  refine (drawPick B cb w.heap.size a len cap X zs h2 (by omega) h0 h1 h4).mono ?_
  rintro e w' ⟨t, he, ht, hC', hg⟩
  exact ⟨t, he, hm t ht, hC', grown_trans h3 hg⟩

set_option maxHeartbeats 1600000 in
set_option maxRecDepth 100000 in
theorem drawStoreGet (a : Option Addr) (len cap : Nat) (w : World) (hA : CodeL w a len) :
    Calls Tryd.prog 23 #[.slice a len cap] w fun e w' => DrSt2 w e w' fun u => ∃ s : ByteArray, u = .string s ∧ s.size ≤ 1 := by
  have bA : Below w.heap.size w (w.alloc (.cells #[.int .i64 0, .slice none 0 0] 29)) := (Below.refl _ _).alloc (Nat.le_refl _) _
  have hA1 := hA.below bA
  have hz1 : (w.alloc (.cells #[.int .i64 0, .slice none 0 0] 29)).heap.size = w.heap.size + 1 := by simp
  have HN : Hid (type_of% (drawNew a len cap _ hA1.low hA1.code hA1.size)) := drawNew a len cap _ hA1.low hA1.code hA1.size
  rw [hz1] at HN
  have hbx : (w.alloc (.cells #[.int .i64 0, .slice none 0 0] 29)).heap[w.heap.size]? = some (.cells #[.int .i64 0, .slice none 0 0] 29 (0, 0)) := heap_alloc_new w _
  have HBX : Hid (type_of% hbx) := hbx
  have HBA : Hid (type_of% bA) := bA
  clear hA hA1 hbx bA
  go_enter Tryd.func23, Tryd.ntmps23
  go_wp2_with fail
  refine HN.out.mono ?_
  rintro e w1 ⟨rfl, hC1, hb1⟩
  have hlt1 := hC1.ltC
  have hb01 : Below w.heap.size w w1 := HBA.out.trans (hb1.mono (by omega))
  have hbx1 := (hb1.block w.heap.size (by omega)).trans HBX.out
  have HDS : Hid (type_of% (drawStore _ _ a len cap w1 hC1)) := drawStore _ _ a len cap w1 hC1
  clear HN HBX HBA hb1 hC1
  go_wp2_with fail
  refine HDS.out.mono ?_
  rintro e w2 h2
  obtain ⟨room, av, cv, es, rfl, hnil, hsm, ho2, hC2, hg2⟩ := h2.cellsOf
  have hlt2 := hC2.ltC
  have hr2 : w.heap.size < w2.heap.size := by omega
  obtain ⟨X, hX⟩ : ∃ X, X = w2.alloc (.cells #[.int .i64 room, .slice av es.length cv] 29) := ⟨_, rfl⟩
  have hCX : Cur (w.heap.size + 1) X (w.heap.size + 1) a len cap := by rw [hX]; exact hC2.allocC _
  have hgX : w2.grownBy X (some (w.heap.size + 1)) := by rw [hX]; exact World.grownBy_alloc _ _ _
  have HQ : Hid (∀ Y, X.grownBy Y (some (w.heap.size + 1)) → _) := fun Y hY => drBox (r := w.heap.size) hX hY hlt2 hr2
  have HE : Hid (∀ Y, X.grownBy Y (some (w.heap.size + 1)) → _) := fun Y hY => drEnd (room := room) (r := w.heap.size) (Nat.le_refl _) (by omega) hb01 (by omega) (by omega) hg2 ho2 (grown_trans hgX hY) hlt1 hbx1
  have HPK : Hid (∀ Z, (Z = (X.alloc (.cells (strV abeL).toArray 9)).drew ∨ Z = X.drew.alloc (.cells (strV abeL).toArray 9) ∨ Z = X.alloc (.cells (strV abeL).toArray 9)) → Calls Tryd.prog 45 #[.pointer (some ⟨w.heap.size + 1, 0, none⟩), .slice (some ⟨X.heap.size, 0, none⟩) 3 3] Z fun e w' => ∃ t : ByteArray, e = .returned (.string t) ∧ t.size ≤ 1 ∧ Cur (w.heap.size + 1) w' (w.heap.size + 1) a len cap ∧ X.grownBy w' (some (w.heap.size + 1))) := fun Z hZ => pickStrs _ _ a len cap X Z abeL 1 hCX (by decide) (by decide) (sizeB _ _ (by decide)) hZ
  simp only [strV, abeL, List.map_cons, List.map_nil] at HPK
  have HSN : Hid (type_of% (And.intro hnil hsm)) := ⟨hnil, hsm⟩
  obtain ⟨c0, c1⟩ := (HQ.out X (World.grownBy.refl _ _)).1
  have hqA := (HQ.out _ (grown_drewN (World.grownBy_alloc X (.cells #[.string ⟨#[97]⟩, .string ⟨#[98]⟩, .string ⟨#[101]⟩] 9) (some (w.heap.size + 1))) 1)).1
  have hqB := (HQ.out _ (grown_trans (grown_drewN (World.grownBy.refl X (some (w.heap.size + 1))) 1) (World.grownBy_alloc _ (.cells #[.string ⟨#[97]⟩, .string ⟨#[98]⟩, .string ⟨#[101]⟩] 9) _))).1
  have hqC := (HQ.out _ (grown_drewN (World.grownBy.refl X (some (w.heap.size + 1))) 1)).1
  have hqD := (HQ.out _ (World.grownBy_alloc X (.cells #[.string ⟨#[97]⟩, .string ⟨#[98]⟩, .string ⟨#[101]⟩] 9) (some (w.heap.size + 1)))).1
  clear HDS h2 hnil hsm ho2 hC2 hg2 hCX hgX hb01 hbx1
  go_wp2_with fail
  rw [← hX]
  generalize hsb : w2.heap.size = sb at *
  generalize hr : w.heap.size = r at *
  have HR : Hid (w.heap.size = r) := hr
  clear hX hsb hr
  go_region_held3 (fun w' => w'.cell? ⟨sb, 0, none⟩ = some (.int .i64 room) ∧ w'.cell? ⟨sb, 1, none⟩ = some (.slice av es.length cv))
    (first
      | exact ⟨c0, c1⟩
      | exact hqA
      | exact hqB
      | exact hqC
      | exact hqD
      | (revert hq3; intro hq3; exact hq3)
      | (revert hq4; intro hq4; exact hq4 _ _))
    (first
      | (go_at_call 45; refine (HPK.out _ (by first | exact .inl rfl | exact .inr (.inl rfl) | exact .inr (.inr rfl))).mono ?_; rintro e w3 ⟨t, rfl, ht, hC3, hg3⟩; obtain ⟨d0, d1, e0, e1, HF⟩ := HE.out w3 hg3; obtain ⟨hq3, hq4⟩ := HQ.out w3 hg3))
  all_goals
    clear HQ HE HPK c0 c1 hC3 hg3 d0 d1 e0 e1 hqA hqB hqC hqD hq3 hq4
    go_wp2_with fail
    obtain ⟨q, o, b⟩ := HF.out
    have hr := HR.out
    subst hr
    exact ret_drGet (b := w.heap.size) rfl rfl q ⟨room, av, cv, es, _, rfl, ⟨t, rfl, ht⟩, HSN.out.1, HSN.out.2, o, b⟩

set_option maxHeartbeats 1600000 in
set_option maxRecDepth 100000 in
theorem drawStoreDrop (a : Option Addr) (len cap : Nat) (w : World) (hA : CodeL w a len) :
    Calls Tryd.prog 24 #[.slice a len cap] w fun e w' => DrSt2 w e w' fun u => ∃ n : Int, u = .int .i64 n := by
  have bA : Below w.heap.size w (w.alloc (.cells #[.int .i64 0, .slice none 0 0] 29)) := (Below.refl _ _).alloc (Nat.le_refl _) _
  have hA1 := hA.below bA
  have hz1 : (w.alloc (.cells #[.int .i64 0, .slice none 0 0] 29)).heap.size = w.heap.size + 1 := by simp
  have HN : Hid (type_of% (drawNew a len cap _ hA1.low hA1.code hA1.size)) := drawNew a len cap _ hA1.low hA1.code hA1.size
  rw [hz1] at HN
  have hbx : (w.alloc (.cells #[.int .i64 0, .slice none 0 0] 29)).heap[w.heap.size]? = some (.cells #[.int .i64 0, .slice none 0 0] 29 (0, 0)) := heap_alloc_new w _
  have HBX : Hid (type_of% hbx) := hbx
  have HBA : Hid (type_of% bA) := bA
  clear hA hA1 hbx bA
  go_enter Tryd.func24, Tryd.ntmps24
  go_wp2_with fail
  refine HN.out.mono ?_
  rintro e w1 ⟨rfl, hC1, hb1⟩
  have hlt1 := hC1.ltC
  have hb01 : Below w.heap.size w w1 := HBA.out.trans (hb1.mono (by omega))
  have hbx1 := (hb1.block w.heap.size (by omega)).trans HBX.out
  have HDS : Hid (type_of% (drawStore _ _ a len cap w1 hC1)) := drawStore _ _ a len cap w1 hC1
  clear HN HBX HBA hb1 hC1
  go_wp2_with fail
  refine HDS.out.mono ?_
  rintro e w2 h2
  obtain ⟨room, av, cv, es, rfl, hnil, hsm, ho2, hC2, hg2⟩ := h2.cellsOf
  have hlt2 := hC2.ltC
  have hr2 : w.heap.size < w2.heap.size := by omega
  obtain ⟨X, hX⟩ : ∃ X, X = w2.alloc (.cells #[.int .i64 room, .slice av es.length cv] 29) := ⟨_, rfl⟩
  have hCX : Cur (w.heap.size + 1) X (w.heap.size + 1) a len cap := by rw [hX]; exact hC2.allocC _
  have hgX : w2.grownBy X (some (w.heap.size + 1)) := by rw [hX]; exact World.grownBy_alloc _ _ _
  have HQ : Hid (∀ Y, X.grownBy Y (some (w.heap.size + 1)) → _) := fun Y hY => drBox (r := w.heap.size) hX hY hlt2 hr2
  have HE : Hid (∀ Y, X.grownBy Y (some (w.heap.size + 1)) → _) := fun Y hY => drEnd (room := room) (r := w.heap.size) (Nat.le_refl _) (by omega) hb01 (by omega) (by omega) hg2 ho2 (grown_trans hgX hY) hlt1 hbx1
  have HPK : Hid (∀ Z, (Z = (X.alloc (.cells (([0, 1, 2, 100, 101, -1] : List Int).map (Value.int .i64)).toArray 3)).drew ∨ Z = X.drew.alloc (.cells (([0, 1, 2, 100, 101, -1] : List Int).map (Value.int .i64)).toArray 3) ∨ Z = X.alloc (.cells (([0, 1, 2, 100, 101, -1] : List Int).map (Value.int .i64)).toArray 3)) → Calls Tryd.prog 46 #[.pointer (some ⟨w.heap.size + 1, 0, none⟩), .slice (some ⟨X.heap.size, 0, none⟩) 6 6] Z fun e w' => ∃ t : Int, e = .returned (.int .i64 t) ∧ t ≤ 101 ∧ Cur (w.heap.size + 1) w' (w.heap.size + 1) a len cap ∧ X.grownBy w' (some (w.heap.size + 1))) := fun Z hZ => pickInts _ _ a len cap X Z [0, 1, 2, 100, 101, -1] 101 hCX (by decide) (by decide) (by decide) hZ
  simp only [List.map_cons, List.map_nil] at HPK
  have HSN : Hid (type_of% (And.intro hnil hsm)) := ⟨hnil, hsm⟩
  obtain ⟨c0, c1⟩ := (HQ.out X (World.grownBy.refl _ _)).1
  have hqA := (HQ.out _ (grown_drewN (World.grownBy_alloc X (.cells #[.int .i64 0, .int .i64 1, .int .i64 2, .int .i64 100, .int .i64 101, .int .i64 (-1)] 3) (some (w.heap.size + 1))) 1)).1
  have hqB := (HQ.out _ (grown_trans (grown_drewN (World.grownBy.refl X (some (w.heap.size + 1))) 1) (World.grownBy_alloc _ (.cells #[.int .i64 0, .int .i64 1, .int .i64 2, .int .i64 100, .int .i64 101, .int .i64 (-1)] 3) _))).1
  have hqC := (HQ.out _ (grown_drewN (World.grownBy.refl X (some (w.heap.size + 1))) 1)).1
  have hqD := (HQ.out _ (World.grownBy_alloc X (.cells #[.int .i64 0, .int .i64 1, .int .i64 2, .int .i64 100, .int .i64 101, .int .i64 (-1)] 3) (some (w.heap.size + 1)))).1
  clear HDS h2 hnil hsm ho2 hC2 hg2 hCX hgX hb01 hbx1
  go_wp2_with fail
  rw [← hX]
  generalize hsb : w2.heap.size = sb at *
  generalize hr : w.heap.size = r at *
  have HR : Hid (w.heap.size = r) := hr
  clear hX hsb hr
  go_region_held3 (fun w' => w'.cell? ⟨sb, 0, none⟩ = some (.int .i64 room) ∧ w'.cell? ⟨sb, 1, none⟩ = some (.slice av es.length cv))
    (first
      | exact ⟨c0, c1⟩
      | exact hqA
      | exact hqB
      | exact hqC
      | exact hqD
      | (revert hq3; intro hq3; exact hq3)
      | (revert hq4; intro hq4; exact hq4 _ _))
    (first
      | (go_at_call 46; refine (HPK.out _ (by first | exact .inl rfl | exact .inr (.inl rfl) | exact .inr (.inr rfl))).mono ?_; rintro e w3 ⟨t, rfl, ht, hC3, hg3⟩; obtain ⟨d0, d1, e0, e1, HF⟩ := HE.out w3 hg3; obtain ⟨hq3, hq4⟩ := HQ.out w3 hg3))
  all_goals
    clear HQ HE HPK c0 c1 hC3 hg3 d0 d1 e0 e1 hqA hqB hqC hqD hq3 hq4
    go_wp2_with fail
    obtain ⟨q, o, b⟩ := HF.out
    have hr := HR.out
    subst hr
    exact ret_drDrop (b := w.heap.size) rfl rfl q ⟨room, av, cv, es, _, rfl, ⟨t, rfl⟩, HSN.out.1, HSN.out.2, o, b⟩

set_option maxHeartbeats 1600000 in
set_option maxRecDepth 100000 in
theorem drawStorePut (a : Option Addr) (len cap : Nat) (w : World) (hA : CodeL w a len) :
    Calls Tryd.prog 22 #[.slice a len cap] w fun e w' => ∃ (room : Int) (av : Option Addr) (cv : Nat) (es : List Itm) (s : ByteArray), e = .returned (.tuple #[.agg #[.int .i64 room, .slice av es.length cv], .string s, .string ⟨#[110, 101, 119]⟩]) ∧ s.size ≤ 1 ∧ (av = none → cv = 0) ∧ SmallI es 8 200 ∧ w'.ownsRow w.heap.size 50 3 (.slice av es.length cv) es.length (itV es) ∧ Below w.heap.size w w' := by
  have bA : Below w.heap.size w (w.alloc (.cells #[.int .i64 0, .slice none 0 0] 29)) := (Below.refl _ _).alloc (Nat.le_refl _) _
  have hA1 := hA.below bA
  have hz1 : (w.alloc (.cells #[.int .i64 0, .slice none 0 0] 29)).heap.size = w.heap.size + 1 := by simp
  have HN : Hid (type_of% (drawNew a len cap _ hA1.low hA1.code hA1.size)) := drawNew a len cap _ hA1.low hA1.code hA1.size
  rw [hz1] at HN
  have hbx : (w.alloc (.cells #[.int .i64 0, .slice none 0 0] 29)).heap[w.heap.size]? = some (.cells #[.int .i64 0, .slice none 0 0] 29 (0, 0)) := heap_alloc_new w _
  have HBX : Hid (type_of% hbx) := hbx
  have HBA : Hid (type_of% bA) := bA
  clear hA hA1 hbx bA
  go_enter Tryd.func22, Tryd.ntmps22
  go_wp2_with fail
  refine HN.out.mono ?_
  rintro e w1 ⟨rfl, hC1, hb1⟩
  have hlt1 := hC1.ltC
  have hb01 : Below w.heap.size w w1 := HBA.out.trans (hb1.mono (by omega))
  have hbx1 := (hb1.block w.heap.size (by omega)).trans HBX.out
  have HDS : Hid (type_of% (drawStore _ _ a len cap w1 hC1)) := drawStore _ _ a len cap w1 hC1
  clear HN HBX HBA hb1 hC1
  go_wp2_with fail
  refine HDS.out.mono ?_
  rintro e w2 h2
  obtain ⟨room, av, cv, es, rfl, hnil, hsm, ho2, hC2, hg2⟩ := h2.cellsOf
  have hlt2 := hC2.ltC
  have hr2 : w.heap.size < w2.heap.size := by omega
  obtain ⟨X, hX⟩ : ∃ X, X = w2.alloc (.cells #[.int .i64 room, .slice av es.length cv] 29) := ⟨_, rfl⟩
  have hCX : Cur (w.heap.size + 1) X (w.heap.size + 1) a len cap := by rw [hX]; exact hC2.allocC _
  have hgX : w2.grownBy X (some (w.heap.size + 1)) := by rw [hX]; exact World.grownBy_alloc _ _ _
  have HQ : Hid (∀ Y, X.grownBy Y (some (w.heap.size + 1)) → _) := fun Y hY => drBox (r := w.heap.size) hX hY hlt2 hr2
  have HE : Hid (∀ Y, X.grownBy Y (some (w.heap.size + 1)) → _) := fun Y hY => drEnd (room := room) (r := w.heap.size) (Nat.le_refl _) (by omega) hb01 (by omega) (by omega) hg2 ho2 (grown_trans hgX hY) hlt1 hbx1
  have HPK : Hid (∀ Z, (Z = (X.alloc (.cells (strV abeL).toArray 9)).drew ∨ Z = X.drew.alloc (.cells (strV abeL).toArray 9) ∨ Z = X.alloc (.cells (strV abeL).toArray 9)) → Calls Tryd.prog 45 #[.pointer (some ⟨w.heap.size + 1, 0, none⟩), .slice (some ⟨X.heap.size, 0, none⟩) 3 3] Z fun e w' => ∃ t : ByteArray, e = .returned (.string t) ∧ t.size ≤ 1 ∧ Cur (w.heap.size + 1) w' (w.heap.size + 1) a len cap ∧ X.grownBy w' (some (w.heap.size + 1))) := fun Z hZ => pickStrs _ _ a len cap X Z abeL 1 hCX (by decide) (by decide) (sizeB _ _ (by decide)) hZ
  simp only [strV, abeL, List.map_cons, List.map_nil] at HPK
  have HSN : Hid (type_of% (And.intro hnil hsm)) := ⟨hnil, hsm⟩
  obtain ⟨c0, c1⟩ := (HQ.out X (World.grownBy.refl _ _)).1
  have hqA := (HQ.out _ (grown_drewN (World.grownBy_alloc X (.cells #[.string ⟨#[97]⟩, .string ⟨#[98]⟩, .string ⟨#[101]⟩] 9) (some (w.heap.size + 1))) 1)).1
  have hqB := (HQ.out _ (grown_trans (grown_drewN (World.grownBy.refl X (some (w.heap.size + 1))) 1) (World.grownBy_alloc _ (.cells #[.string ⟨#[97]⟩, .string ⟨#[98]⟩, .string ⟨#[101]⟩] 9) _))).1
  have hqC := (HQ.out _ (grown_drewN (World.grownBy.refl X (some (w.heap.size + 1))) 1)).1
  have hqD := (HQ.out _ (World.grownBy_alloc X (.cells #[.string ⟨#[97]⟩, .string ⟨#[98]⟩, .string ⟨#[101]⟩] 9) (some (w.heap.size + 1)))).1
  clear HDS h2 hnil hsm ho2 hC2 hg2 hCX hgX hb01 hbx1
  go_wp2_with fail
  rw [← hX]
  generalize hsb : w2.heap.size = sb at *
  generalize hr : w.heap.size = r at *
  have HR : Hid (w.heap.size = r) := hr
  clear hX hsb hr
  go_region_held3 (fun w' => w'.cell? ⟨sb, 0, none⟩ = some (.int .i64 room) ∧ w'.cell? ⟨sb, 1, none⟩ = some (.slice av es.length cv))
    (first
      | exact ⟨c0, c1⟩
      | exact hqA
      | exact hqB
      | exact hqC
      | exact hqD
      | (revert hq3; intro hq3; exact hq3)
      | (revert hq4; intro hq4; exact hq4 _ _))
    (first
      | (go_at_call 45; refine (HPK.out _ (by first | exact .inl rfl | exact .inr (.inl rfl) | exact .inr (.inr rfl))).mono ?_; rintro e w3 ⟨t, rfl, ht, hC3, hg3⟩; obtain ⟨d0, d1, e0, e1, HF⟩ := HE.out w3 hg3; obtain ⟨hq3, hq4⟩ := HQ.out w3 hg3))
  all_goals
    clear HQ HE HPK c0 c1 hC3 hg3 d0 d1 e0 e1 hqA hqB hqC hqD hq3 hq4
    go_wp2_with fail
    obtain ⟨q, o, b⟩ := HF.out
    have hr := HR.out
    subst hr
    exact ret_drPut (b := w.heap.size) rfl rfl rfl q ⟨room, av, cv, es, t, rfl, ht, HSN.out.1, HSN.out.2, o, b⟩

end Go.Proofs.YtoebfpdalkpkdaaDoor
