/-
  The walk of impl.join: it answers its parts one behind the other, and turns nothing that was there.
-/
import Derived.Test.YtllbfbllkefjeaaGreatDoorRows
import Derived.Test.YtllbfbllkefjeaaGreatDoorLib
import Derived.WalkKit
import Derived.WalkSpells
import Derived.WalkLawsBesides
namespace Go.Proofs.YtllbfbllkefjeaaGreatDoor
open Go.RowKit

/-- the bytes of parts, one behind the other -/
def catL : List ByteArray → List UInt8
  | [] => []
  | p :: r => p.data.toList ++ catL r
theorem catL_append (a b : List ByteArray) : catL (a ++ b) = catL a ++ catL b := by
  induction a with
  | nil => rfl
  | cons p r ih => simp [catL, ih]
theorem catL_take_le (ps : List ByteArray) (k : Nat) : (catL (ps.take k)).length ≤ (catL ps).length := by
  have := congrArg List.length (catL_append (ps.take k) (ps.drop k))
  rw [List.take_append_drop, List.length_append] at this
  omega
theorem catL_more (ps : List ByteArray) (k : Nat) (h : k < ps.length) : catL (ps.take (k + 1)) = catL (ps.take k) ++ ps[k].data.toList := by
  rw [List.take_succ_eq_append_getElem h, catL_append]
  simp [catL]
theorem size_list (p : ByteArray) : p.data.toList.length = p.size := rfl

set_option maxHeartbeats 400000 in
theorem implJoin (b off cap : Nat) (ps : List ByteArray) (w : World) (hc : ∀ j (h : j < ps.length), w.cell? ⟨b, off + j, none⟩ = some (.string ps[j])) (hsum : (catL ps).length ≤ 140737488355328) (hlen : ps.length ≤ 140737488355328) :
    Calls Tryz.prog 111 #[.slice (some ⟨b, off, none⟩) ps.length cap] w fun e w' => e = .returned (.string ⟨(catL ps).toArray⟩) ∧ Below w.heap.size w w' := by
  have HC : Hid (∀ j (h : j < ps.length), w.cell? ⟨b, off + j, none⟩ = some (.string ps[j])) := hc
  clear hc
  go_enter Tryz.func111, Tryz.ntmps111
  go_wp2
  go_loop [3, 11] (fun z i => ∃ k : Nat, k ≤ ps.length ∧ i = .int .i64 k ∧ z = .int .i64 ((catL (ps.take k)).length : Nat)) (fun _ i => ps.length - (intOf i).toNat)
  case atStart => exact ⟨0, Nat.zero_le _, rfl, by simp [catL]⟩
  case round =>
    obtain ⟨k, hk, rfl, rfl⟩ := hrel
    by_cases hlt : k < ps.length
    · have hcell := HC.out k hlt
      have HM : Hid (catL (ps.take (k + 1)) = catL (ps.take k) ++ ps[k].data.toList) := catL_more ps k hlt
      have HT := catL_take_le ps (k + 1)
      rw [HM.out, List.length_append, size_list] at HT
      generalize hp : ps[k] = p at *
      generalize hcl : (catL (ps.take k)).length = c at *
      have HP : Hid (ps[k] = p) := hp
      have HCL : Hid ((catL (ps.take k)).length = c) := hcl
      clear hp hcl
      go_wp2
      go_round
      case rel => exact ⟨k + 1, by omega, by go_num, by rw [HM.out, List.length_append, HCL.out, size_list]; go_num⟩
      case measure => simp [intOf]; omega
    · have hke : k = ps.length := by omega
      subst hke
      rw [List.take_of_length_le (Nat.le_refl _)]
      go_wp2_with fail
      refine (builder_Grow w.heap.size w.heap.size (catL ps).length _ (Nat.le_refl _) (heap_alloc_new w _) (by simp) (by omega)).mono ?_
      rintro e w1 ⟨rfl, hB1, hb1⟩
      have hbel : Below w.heap.size w w1 := ((Below.refl _ _).alloc (Nat.le_refl _) _).trans hb1
      have hsz1 : w.heap.size ≤ w1.heap.size := hbel.size
      clear hb1
      go_wp2_with fail
      go_loopw [24] (fun i wr => ∃ k : Nat, k ≤ ps.length ∧ i = .int .i64 k ∧ Lib.IsBuilder 201 5 w.heap.size w.heap.size (Lib.byteCells (catL (ps.take k))) wr ∧ Below w.heap.size w wr ∧ w.heap.size ≤ wr.heap.size) (fun i _ => ps.length - (intOf i).toNat)
      case atStart => exact ⟨0, Nat.zero_le _, rfl, .inr hB1, hbel, hsz1⟩
      case round =>
        obtain ⟨k, hk, rfl, hbu, hbe, hsz⟩ := hrel
        clear hB1 hbel hsz1
        by_cases hlt : k < ps.length
        · have hc0 := HC.out k hlt
          have hblt : b < w.heap.size := World.block_lt_of_cell? w ⟨b, off + k, none⟩ hc0
          have hcell := (hbe.cell (p := ⟨b, off + k, none⟩) hblt).trans hc0
          have HM : Hid (catL (ps.take (k + 1)) = catL (ps.take k) ++ ps[k].data.toList) := catL_more ps k hlt
          have HT := catL_take_le ps (k + 1)
          rw [HM.out, List.length_append, size_list] at HT
          generalize hp : ps[k] = p at *
          have HP : Hid (ps[k] = p) := hp
          clear hp hc0
          go_wp2_with (go_at_call 128; refine (builder_WriteString w.heap.size w.heap.size _ p _ hbu (by rw [Lib.byteCells_length]; omega) hsz).mono ?_; rintro e w2 ⟨rfl, hB2, hb2⟩)
          have hR : Lib.IsBuilder 201 5 w.heap.size w.heap.size (Lib.byteCells (catL (ps.take (k + 1)))) w2 := by
            rw [HM.out]
            have e1 : Lib.byteCells (catL (ps.take k) ++ p.data.toList) = Lib.byteCells (catL (ps.take k)) ++ Lib.strCells p := by simp [Lib.byteCells, Lib.strCells]
            rw [e1]
            exact .inr hB2
          go_roundw
          case rel => exact ⟨k + 1, by omega, by go_num, hR, hbe.trans hb2, Nat.le_trans hsz hb2.size⟩
          case measure => simp [intOf]; omega
        · have hke : k = ps.length := by omega
          subst hke
          rw [List.take_of_length_le (Nat.le_refl _)] at hbu
          go_wp2_with (go_at_call 129; refine (builder_String w.heap.size w.heap.size (catL ps) _ hbu hsz).mono ?_; rintro e w2 ⟨rfl, hb2⟩)
          go_ret
          exact ⟨rfl, hbe.trans hb2⟩

end Go.Proofs.YtllbfbllkefjeaaGreatDoor
