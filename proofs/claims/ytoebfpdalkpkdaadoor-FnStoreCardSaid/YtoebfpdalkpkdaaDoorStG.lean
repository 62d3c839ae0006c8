/-
  The walk of the laws' sameStore at stores that hold the same; what the law FnStore holds in memory.
-/
import Derived.Test.YtoebfpdalkpkdaaDoorStF
import Derived.Test.YtoebfpdalkpkdaaDoorItO
namespace Go.Proofs.YtoebfpdalkpkdaaDoor
open Go.RowKit

set_option maxHeartbeats 1600000 in
set_option maxRecDepth 100000 in
theorem lawsSameStore (room : Int) (va vb : Value) (es : List Itm) (w : World) (hA : ItAt w va es) (hB : ItAt w vb es) (hkl : es.length ≤ 1048577) :
    Calls Tryd.prog 25 #[.agg #[.int .i64 room, va], .agg #[.int .i64 room, vb]] w fun e w' => e = .returned (.bool true) ∧ Below w.heap.size w w' := by
  obtain ⟨a, capa, rfl, ha⟩ := itOpen hA
  obtain ⟨b, capb, rfl, hb⟩ := itOpen hB
  have HEA : Hid (type_of% ha) := ha
  have HEB : Hid (type_of% hb) := hb
  have hB2 : Below w.heap.size w ((w.alloc (.cells #[.int .i64 room, .slice a es.length capa] 29)).alloc (.cells #[.int .i64 room, .slice b es.length capb] 29)) := ((Below.refl _ _).alloc (Nat.le_refl _) _).alloc (by simp) _
  have a1 : ((w.alloc (.cells #[.int .i64 room, .slice a es.length capa] 29)).alloc (.cells #[.int .i64 room, .slice b es.length capb] 29)).cell? ⟨w.heap.size, 1, none⟩ = some (.slice a es.length capa) := by rw [itOld _ (by simp), itNew _ rfl]; rfl
  have b1 : ((w.alloc (.cells #[.int .i64 room, .slice a es.length capa] 29)).alloc (.cells #[.int .i64 room, .slice b es.length capb] 29)).cell? ⟨w.heap.size + 1, 1, none⟩ = some (.slice b es.length capb) := by rw [itNew _ (by simp)]; rfl
  have hzW : ((w.alloc (.cells #[.int .i64 room, .slice a es.length capa] 29)).alloc (.cells #[.int .i64 room, .slice b es.length capb] 29)).heap.size = w.heap.size + 1 + 1 := by simp
  clear hA hB ha hb
  go_enter Tryd.func25, Tryd.ntmps25
  go_wp2_with fail
  generalize ((w.alloc (.cells #[.int .i64 room, .slice a es.length capa] 29)).alloc (.cells #[.int .i64 room, .slice b es.length capb] 29)) = W at *
  go_loopw [5] (fun i wr => ∃ k : Nat, k ≤ es.length ∧ i = .int .i64 k ∧ Below W.heap.size W wr) (fun i _ => es.length - (intOf i).toNat)
  case atStart => exact ⟨0, Nat.zero_le _, rfl, Below.refl _ _⟩
  case round =>
    obtain ⟨k, hk, rfl, hbe⟩ := hrel
    have A := (hbe.cell (p := ⟨w.heap.size, 1, none⟩) (by show w.heap.size < W.heap.size; omega)).trans a1
    have B := (hbe.cell (p := ⟨w.heap.size + 1, 1, none⟩) (by show w.heap.size + 1 < W.heap.size; omega)).trans b1
    have hbw : Below w.heap.size w wr := hB2.trans (hbe.mono (by omega))
    by_cases hlt : k < es.length
    · obtain ⟨ba, oa, rfl, hba, p0, p1, p2⟩ := HEA.out k hlt
      obtain ⟨bb, ob, rfl, hbb, q0, q1, q2⟩ := HEB.out k hlt
      have P0 := (hbw.cell (p := ⟨ba, oa + k * 3, none⟩) hba).trans p0
      have P1 := (hbw.cell (p := ⟨ba, oa + k * 3 + 1, none⟩) hba).trans p1
      have P2 := (hbw.cell (p := ⟨ba, oa + k * 3 + 2, none⟩) hba).trans p2
      have Q0 := (hbw.cell (p := ⟨bb, ob + k * 3, none⟩) hbb).trans q0
      have Q1 := (hbw.cell (p := ⟨bb, ob + k * 3 + 1, none⟩) hbb).trans q1
      have Q2 := (hbw.cell (p := ⟨bb, ob + k * 3 + 2, none⟩) hbb).trans q2
      clear p0 p1 p2 q0 q1 q2 HEA HEB hbw
      generalize es[k].1 = ky at *
      generalize es[k].2.1 = inp at *
      generalize es[k].2.2 = out at *
      have hk0 : (0 : Int) ≤ k := by omega
      have hk1 : (k : Int) < es.length := by omega
      go_wp2_with fail
      go_quiet (fail)
      go_wp2_with fail
      go_roundw
      case rel => exact ⟨k + 1, by omega, by go_num, below_drewN hbe _⟩
      case measure => simp [intOf]; omega
    · clear HEA HEB
      go_wp2_with fail
      go_ret
      exact ⟨rfl, hbw⟩

/-- a box, its store's room, its slice and its items -/
abbrev SBx := Nat × Int × Value × List Itm
structure SMem (w Y : World) (bs : List SBx) : Prop where
  bel : Below w.heap.size w Y
  box : ∀ q ∈ bs, Y.heap[q.1]? = some (.cells #[.int .i64 q.2.1, q.2.2.1] 29 (0, 0))
  row : ∀ q ∈ bs, ItAt Y q.2.2.1 q.2.2.2
theorem SMem.below {w Y Z : World} {bs : List SBx} (h : SMem w Y bs) (hb : Below Y.heap.size Y Z) : SMem w Z bs :=
  ⟨h.bel.trans (hb.mono h.bel.size), fun q hq => (hb.block q.1 (Array.getElem?_eq_some_iff.1 (h.box q hq)).1).trans (h.box q hq), fun q hq => (h.row q hq).below hb⟩
theorem SMem.add {w Y Z : World} {bs : List SBx} (h : SMem w Y bs) {B : Nat} {room : Int} {v : Value} {L : List Itm} (hb : Below Y.heap.size Y Z) (ho : Z.ownsRow B 50 3 v L.length (itV L)) : SMem w (Z.alloc (.cells #[.int .i64 room, v] 29)) ((Z.heap.size, room, v, L) :: bs) := by
  have hA : Below Z.heap.size Z (Z.alloc (.cells #[.int .i64 room, v] 29)) := (Below.refl _ _).alloc (Nat.le_refl _) _
  have h2 := (h.below hb).below hA
  refine ⟨h2.bel, fun q hq => ?_, fun q hq => ?_⟩
  · rcases List.mem_cons.1 hq with rfl | hq
    · exact (MapKept.heap_alloc Z _).1
    · exact h2.box q hq
  · rcases List.mem_cons.1 hq with rfl | hq
    · exact (itRow ho).below hA
    · exact h2.row q hq
theorem SMem.cells {w Y : World} {bs : List SBx} (h : SMem w Y bs) {b : Nat} {room : Int} {v : Value} {L : List Itm} (hq : (b, room, v, L) ∈ bs) : Y.cell? ⟨b, 0, none⟩ = some (.int .i64 room) ∧ Y.cell? ⟨b, 1, none⟩ = some v := by
  have hb := h.box _ hq
  refine ⟨?_, ?_⟩
  · rw [cell_of_row Y b 0 _ _ (0, 0) hb]; rfl
  · rw [cell_of_row Y b 1 _ _ (0, 0) hb]; rfl
theorem SMem.at {w Y : World} {bs : List SBx} (h : SMem w Y bs) {b : Nat} {room : Int} {v : Value} {L : List Itm} (hq : (b, room, v, L) ∈ bs) : ItAt Y v L := h.row _ hq
theorem own_nilI {w : World} {B n c : Nat} {av : Option Addr} {xs : List Value} (h : w.ownsRow B 50 3 (.slice av n c) n xs) : av = none → c = 0 := fun e0 => by
  rcases h.2 with ⟨e1, _⟩ | ⟨g, c', cur, e1, _⟩
  · simp only [Value.slice.injEq] at e1
    exact e1.2.2
  · rw [e0] at e1
    cases e1

theorem lawsBigSt (a : Option Addr) (len cap : Nat) (w : World) :
    Calls Tryd.prog 21 #[.slice a len cap] w fun e w' => e = .returned (.bool (decide ((1048576 : Int) < len))) ∧ w = w' := by
  go_enter Tryd.func21, Tryd.ntmps21
  go_wp2
  go_ret
  exact ⟨rfl, rfl⟩

end Go.Proofs.YtoebfpdalkpkdaaDoor
