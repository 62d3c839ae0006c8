/-
  The walk of impl.refusedLine: the line that the panic bears.
-/
import Derived.Test.YtihpdngpedgjhaaDoorAsT
import Derived.Test.YtihpdngpedgjhaaDoorToksW
import Derived.Defers
import Derived.Recover
namespace Go.Proofs.YtihpdngpedgjhaaDoor
open Go.RowKit Go.Extern.Stop Go.Stop Go.Extern

theorem ErrIs.lt {w : World} (h : ErrIs w) : 1 < w.heap.size := World.block_lt_of_cell? w ⟨1, 0, none⟩ h
theorem ErrIs.below {w w' : World} {B : Nat} (h : ErrIs w) (hb : Below B w w') (hB : 1 < B) : ErrIs w' :=
  (hb.cell (p := ⟨1, 0, none⟩) hB).trans h

theorem Tryd.assertErr (n : Int) (w : World) : (Instr.typeAssert (.iface 49 (.agg #[.int .i64 n])) 20 46 true).run Tryd.prog w = .ok (.tuple #[.iface 49 (.agg #[.int .i64 n]), .bool true]) w := by kernel_rfl

set_option maxHeartbeats 800000 in
theorem implRefusedLine (n : Int) (w : World) (hg : ErrIs w) :
    Calls Tryd.prog 22 #[.iface 49 (.agg #[.int .i64 n])] w fun e w' => e = .returned (.int .i64 n) ∧ Below w.heap.size w w' := by
  have ha := Tryd.assertErr n
  have hg2 : ErrIs (w.alloc (.cells #[.int .i64 0] 49)) := hg.below ((Below.refl _ _).alloc (Nat.le_refl _) _) hg.lt
  have HA : Hid (Calls Tryd.prog 27 #[.iface 49 (.agg #[.int .i64 n]), .iface 51 (.pointer (some ⟨w.heap.size, 0, none⟩))] (w.alloc (.cells #[.int .i64 0] 49)) fun ev w' => ev = .returned (.bool true) ∧ w'.cell? ⟨w.heap.size, 0, none⟩ = some (.int .i64 n) ∧ Below w.heap.size w w') := by
    refine (as_hit n ⟨w.heap.size, 0, none⟩ (.int .i64 0) _ hg2 (by simp) (by simp)).mono ?_
    rintro e w' ⟨rfl, rfl⟩
    refine ⟨rfl, ?_, ?_⟩
    · refine World.cell?_setCell_same' _ _ _ ?_
      rw [World.cell?_alloc_lt _ _ ⟨w.heap.size, 0, none⟩ (by simp; omega), World.cell?_alloc_lt _ _ ⟨w.heap.size, 0, none⟩ (by simp; omega), World.cell?_alloc_lt _ _ ⟨w.heap.size, 0, none⟩ (by simp; omega), World.cell?_alloc_lt _ _ ⟨w.heap.size, 0, none⟩ (by simp)]
      simp
    · exact (((((((Below.refl _ _).alloc (Nat.le_refl _) _).alloc (by simp) _).alloc (by simp; omega) _).alloc (by simp; omega) _).alloc (by simp; omega) _)).setCell (Nat.le_refl _) _
  clear hg hg2
  go_enter Tryd.func22, Tryd.ntmps22
  go_wp2_with fail
  refine HA.out.mono ?_
  rintro e w1 ⟨rfl, hcell, hb1⟩
  go_wp2
  go_ret
  exact ⟨rfl, hb1⟩

end Go.Proofs.YtihpdngpedgjhaaDoor
