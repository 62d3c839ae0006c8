/-
  The walk of impl.newForm: a new form, with nothing told of its text yet.
-/
import Derived.Test.YtbojmbeopnlmiaaGreatDoorMkB
namespace Go.Proofs.YtbojmbeopnlmiaaGreatDoor
open Go.RowKit

/-- the cells of a form that was just made: it has no number and no height yet -/
def rawCells (kd : Int) (nm : ByteArray) (vk vn : Value) : Array Value := ([.int .i64 0, vk, .int .i64 0, .slice none 0 0, .int .i64 0] ++ (if kd = 4 then [.string nm] else if kd = 5 then [vn] else [])).toArray

set_option maxHeartbeats 1600000 in
set_option maxRecDepth 100000 in
theorem implNewForm (kd : Int) (nm : ByteArray) (ak : Option Addr) (lk ck : Nat) (an : Option Addr) (ln cn : Nat) (w : World) (hk0 : 0 ≤ kd) (hk7 : kd ≤ 7) (h4 : kd = 4 → 0 < ln ∧ ∃ b off, an = some ⟨b, off, none⟩ ∧ w.cell? ⟨b, off, none⟩ = some (.string nm)) :
    Calls Tryz.prog 124 #[.int .i64 kd, .slice ak lk ck, .slice an ln cn] w fun e w' => ∃ b, e = .returned (.iface (ptT kd) (.pointer (some ⟨b, 0, none⟩))) ∧ w.heap.size ≤ b ∧ w'.heap[b]? = some (.cells (rawCells kd nm (.slice ak lk ck) (.slice an ln cn)) (stT kd) (0, 0)) ∧ Below w.heap.size w w' := by
  obtain ⟨W1, hW1⟩ : ∃ W1, W1 = w.alloc (.cells #[.int .i64 0, .slice ak lk ck, .int .i64 0, .slice none 0 0, .int .i64 0] 165) := ⟨_, rfl⟩
  have hb1 : Below w.heap.size w W1 := by rw [hW1]; exact (Below.refl _ _).alloc (Nat.le_refl _) _
  have hend : ∀ (arr : Array Value) (T : TypeId), (W1.alloc (.cells arr T)).heap[w.heap.size + 1]? = some (.cells arr T (0, 0)) := fun arr T => by
    have := (MapKept.heap_alloc W1 (.cells arr T)).1
    rw [hW1] at this ⊢
    simpa using this
  have HEND : Hid (type_of% hend) := hend
  have HB : Hid (∀ (arr : Array Value) (T : TypeId), Below w.heap.size w (W1.alloc (.cells arr T))) := fun arr T => hb1.alloc hb1.size _
  clear hend
  obtain rfl | rfl | rfl | rfl | rfl | rfl | rfl | rfl : kd = 0 ∨ kd = 1 ∨ kd = 2 ∨ kd = 3 ∨ kd = 4 ∨ kd = 5 ∨ kd = 6 ∨ kd = 7 := by omega
  · clear hb1 h4
    subst hW1
    go_enter Tryz.func124, Tryz.ntmps124
    go_wp2_with fail
    go_ret
    exact ⟨w.heap.size + 1, rfl, by omega, HEND.out _ _, HB.out _ _⟩
  · clear hb1 h4
    subst hW1
    go_enter Tryz.func124, Tryz.ntmps124
    go_wp2_with fail
    go_ret
    exact ⟨w.heap.size + 1, rfl, by omega, HEND.out _ _, HB.out _ _⟩
  · clear hb1 h4
    subst hW1
    go_enter Tryz.func124, Tryz.ntmps124
    go_wp2_with fail
    go_ret
    exact ⟨w.heap.size + 1, rfl, by omega, HEND.out _ _, HB.out _ _⟩
  · clear hb1 h4
    subst hW1
    go_enter Tryz.func124, Tryz.ntmps124
    go_wp2_with fail
    go_ret
    exact ⟨w.heap.size + 1, rfl, by omega, HEND.out _ _, HB.out _ _⟩
  · obtain ⟨hl, b, off, rfl, hc⟩ := h4 rfl
    have hc1 := (hb1.cell (p := ⟨b, off, none⟩) (World.block_lt_of_cell? w ⟨b, off, none⟩ hc)).trans hc
    have hli : (0 : Int) < (ln : Int) := by omega
    clear hb1 hc
    subst hW1
    go_enter Tryz.func124, Tryz.ntmps124
    go_wp2_with fail
    go_region
    all_goals go_wp2_with fail
    all_goals go_ret
    all_goals exact ⟨w.heap.size + 1, rfl, by omega, HEND.out _ _, (HB.out _ _).drew⟩
  · clear hb1 h4
    subst hW1
    go_enter Tryz.func124, Tryz.ntmps124
    go_wp2_with fail
    go_ret
    exact ⟨w.heap.size + 1, rfl, by omega, HEND.out _ _, HB.out _ _⟩
  · clear hb1 h4
    subst hW1
    go_enter Tryz.func124, Tryz.ntmps124
    go_wp2_with fail
    go_ret
    exact ⟨w.heap.size + 1, rfl, by omega, HEND.out _ _, HB.out _ _⟩
  · clear hb1 h4
    subst hW1
    go_enter Tryz.func124, Tryz.ntmps124
    go_wp2_with fail
    go_ret
    exact ⟨w.heap.size + 1, rfl, by omega, HEND.out _ _, HB.out _ _⟩

end Go.Proofs.YtbojmbeopnlmiaaGreatDoor
