/-
  The walk of impl.StoreOk.
-/
import Derived.Test.YtoebfpdalkpkdaaDoorItN
namespace Go.Proofs.YtoebfpdalkpkdaaDoor
open Go.RowKit

set_option maxHeartbeats 800000 in
set_option maxRecDepth 100000 in
open Classical in
theorem implStoreOk (room : Int) (v : Value) (es : List Itm) (w : World) (hrow : ItAt w v es) (hb : itsBulk es ≤ 4194304) (htab : w.cell? ⟨3, 15, none⟩ = some (.int .u8 4)) :
    Calls Tryd.prog 11 #[.agg #[.int .i64 room, v]] w fun e w' => e = .returned (.bool (decide (StoreRight room es))) ∧ Below w.heap.size w w' := by
  obtain ⟨av, capv, rfl, _⟩ := itOpen hrow
  have hB1 : Below w.heap.size w (w.alloc (.cells #[.int .i64 room, .slice av es.length capv] 29)) := (Below.refl _ _).alloc (Nat.le_refl _) _
  have HC0 := implNewStock room _ es _ (hrow.below hB1) hb ((hB1.cell (p := ⟨3, 15, none⟩) (World.block_lt_of_cell? w ⟨3, 15, none⟩ htab)).trans htab)
  have HC : Hid (type_of% HC0) := HC0
  clear HC0 hrow hb htab
  go_enter Tryd.func11, Tryd.ntmps11
  go_wp2_with fail
  refine HC.out.mono ?_
  rintro e w2 ⟨hb2, ⟨hno, rfl⟩ | ⟨hyes, sb, M, a, c, rfl, _⟩⟩
  · have HR : Hid (decide (StoreRight room es) = false) := decide_eq_false hno
    clear hno HC
    go_wp2_with fail
    go_ret
    exact ⟨by rw [HR.out]; rfl, hB1.trans (hb2.mono hB1.size)⟩
  · have HR : Hid (decide (StoreRight room es) = true) := decide_eq_true hyes
    clear hyes HC
    go_wp2_with fail
    go_ret
    exact ⟨by rw [HR.out]; rfl, hB1.trans (hb2.mono hB1.size)⟩

end Go.Proofs.YtoebfpdalkpkdaaDoor
