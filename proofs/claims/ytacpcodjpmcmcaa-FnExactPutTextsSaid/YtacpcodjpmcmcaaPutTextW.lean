/-
  The walks of impl.PutText and spec.PutText: each answers the number of bytes as bytes and the text behind it, and turns nothing that was there.
-/
import Derived.Test.YtacpcodjpmcmcaaPutNumW
import Derived.Test.YtacpcodjpmcmcaaJoinW
namespace Go.Proofs.Ytacpcodjpmcmcaa
open Go.RowKit

/-- a number's bytes as a text -/
def numB (n : Nat) : ByteArray := strOfNums (ints (Plain.encF 4 n))
theorem numB_size (n : Nat) : (numB n).size ≤ 5 := by
  have := (Plain.encF_length 4 n).2
  simp [numB, strOfNums_size, ints]
  omega
/-- PutText's answer -/
def putT (s : ByteArray) : ByteArray := if 10000000 < s.size then ⟨#[]⟩ else numB s.size ++ s

theorem cat_two (a b : ByteArray) : (⟨(catL [a, b]).toArray⟩ : ByteArray) = a ++ b := by
  apply ByteArray.ext
  simp [catL]

theorem two_cells (w : World) (a b : ByteArray) : ∀ j (h : j < [a, b].length), (w.alloc (Obj.cells #[Value.string a, Value.string b] 9)).cell? ⟨w.heap.size, 0 + j, none⟩ = some (.string [a, b][j]) := by
  intro j h
  match j, h with
  | 0, _ => simp
  | 1, _ => simp

set_option maxHeartbeats 400000 in
theorem specPutText (s : ByteArray) (w : World) (hs : s.size ≤ 140737488355328) :
    Calls Try.prog 5 #[.string s] w fun e w' => e = .returned (.string (putT s)) ∧ Below w.heap.size w w' := by
  by_cases h : 10000000 < s.size
  · rw [show putT s = ⟨#[]⟩ from if_pos h]
    go_enter Try.func5, Try.ntmps5
    go_wp2
    go_ret
    exact ⟨rfl, Below.refl _ _⟩
  · rw [show putT s = numB s.size ++ s from if_neg h]
    have h9 : s.size ≤ 999999999 := by omega
    have hv := numB_size s.size
    have HN : Hid (∀ wx : World, Calls Try.prog 12 #[.int .i64 (s.size : Int)] wx fun e w' => e = .returned (.string (numB s.size)) ∧ Below wx.heap.size wx w') := fun wx => specPutNum_yes s.size wx h9
    generalize numB s.size = V at *
    go_enter Try.func5, Try.ntmps5
    go_wp2_with (go_at_call 12; refine (HN.out _).mono ?_; rintro e w1 ⟨rfl, hb⟩)
    go_ret
    exact ⟨rfl, hb⟩

set_option maxHeartbeats 400000 in
theorem implPutText (s : ByteArray) (w : World) (hs : s.size ≤ 140737488355328) :
    Calls Try.prog 6 #[.string s] w fun e w' => e = .returned (.string (putT s)) ∧ Below w.heap.size w w' := by
  by_cases h : 10000000 < s.size
  · rw [show putT s = ⟨#[]⟩ from if_pos h]
    go_enter Try.func6, Try.ntmps6
    go_wp2
    go_ret
    exact ⟨rfl, Below.refl _ _⟩
  · rw [show putT s = numB s.size ++ s from if_neg h]
    have h9 : s.size ≤ 999999999 := by omega
    have hv := numB_size s.size
    have HN : Hid (∀ wx : World, Calls Try.prog 14 #[.int .i64 (s.size : Int)] wx fun e w' => e = .returned (.string (numB s.size)) ∧ Below wx.heap.size wx w') := fun wx => implPutNum_yes s.size wx h9
    generalize numB s.size = V at *
    go_enter Try.func6, Try.ntmps6
    go_wp2_with (go_at_call 14; refine (HN.out _).mono ?_; rintro e w1 ⟨rfl, hb⟩)
    have hJ := implJoin w1.heap.size 0 2 [V, s] (w1.alloc (Obj.cells #[Value.string V, Value.string s] 9)) (two_cells w1 V s) (by simp [catL]; omega) (by simp)
    rw [cat_two] at hJ
    refine hJ.mono ?_
    rintro e w2 ⟨rfl, hb2⟩
    have hbe : Below w.heap.size w w2 := (hb.alloc hb.size _).trans (hb2.mono (by have := hb.size; simp; omega))
    clear hJ hb hb2
    go_wp2
    go_ret
    exact ⟨rfl, hbe⟩

end Go.Proofs.Ytacpcodjpmcmcaa
