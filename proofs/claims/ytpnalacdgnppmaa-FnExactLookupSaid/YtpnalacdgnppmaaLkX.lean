/-
  The walk of slices.IndexFunc at names and types with impl.Lookup's own function.
-/
import Derived.Test.YtpnalacdgnppmaaLkD
namespace Go.Proofs.Ytpnalacdgnppmaa
open Go.RowKit

/-- where the first of that name stands, or -1 -/
def FirstAt (es : List (ByteArray × Ty)) (nm : ByteArray) (i : Int) : Prop := (∃ k : Nat, i = k ∧ ∃ h : k < es.length, es[k].1 = nm ∧ ∀ j (hj : j < k), (es[j]'(by omega)).1 ≠ nm) ∨ (i = -1 ∧ ∀ j (h : j < es.length), es[j].1 ≠ nm)

set_option maxHeartbeats 800000 in
set_option maxRecDepth 100000 in
theorem lookFn (x nm : ByteArray) (x0 x1 x2 x3 : Value) (P : Nat) (w : World) (hP : w.cell? ⟨P, 0, none⟩ = some (.string nm)) :
    Calls Try.prog 17 #[.agg #[.string x, x0, x1, x2, x3], .pointer (some ⟨P, 0, none⟩)] w fun e w' => e = .returned (.bool (x.toList == nm.toList)) ∧ Below w.heap.size w w' := by
  have hPl : P < w.heap.size := World.block_lt_of_cell? w ⟨P, 0, none⟩ hP
  have hB1 : Below w.heap.size w (w.alloc (.cells #[.string x, x0, x1, x2, x3] 44)) := (Below.refl _ _).alloc (Nat.le_refl _) _
  have hP1 := (hB1.cell (p := ⟨P, 0, none⟩) hPl).trans hP
  clear hP
  go_enter Try.func17, Try.ntmps17
  go_wp2_with fail
  go_ret
  exact ⟨rfl, hB1⟩

set_option maxHeartbeats 1600000 in
set_option maxRecDepth 100000 in
theorem slIndexFunc (n : Nat) (v : Value) (es : List (ByteArray × Ty)) (nm : ByteArray) (P : Nat) (w : World) (hrow : EnvAt w n v es) (hlen : es.length ≤ 1048576) (hP : w.cell? ⟨P, 0, none⟩ = some (.string nm)) :
    Calls Try.prog 16 #[v, .func (Fn.func 17) #[] #[.pointer (some ⟨P, 0, none⟩)]] w fun e w' => ∃ i : Int, e = .returned (.int .i64 i) ∧ FirstAt es nm i ∧ Below w.heap.size w w' := by
  obtain ⟨av, capv, rfl, hel⟩ := envOpen hrow
  have HEL : Hid (type_of% hel) := hel
  have hPl : P < w.heap.size := World.block_lt_of_cell? w ⟨P, 0, none⟩ hP
  clear hel hrow
  go_enter Try.func16, Try.ntmps16
  go_wp2_with fail
  go_loopw [8] (fun i wr => ∃ k : Nat, k ≤ es.length ∧ i = .int .i64 k ∧ (∀ j (h : j < es.length), j < k → es[j].1 ≠ nm) ∧ Below w.heap.size w wr) (fun i _ => es.length - (intOf i).toNat)
  case atStart => exact ⟨0, Nat.zero_le _, rfl, fun j _ h => absurd h (by omega), Below.refl _ _⟩
  case round =>
    obtain ⟨k, hk, rfl, hall, hbe⟩ := hrel
    have HALL : Hid (type_of% hall) := hall
    clear hall
    by_cases hlt : k < es.length
    · obtain ⟨b, off, x0, x1, x2, x3, rfl, hbl, _, hty, q0, q1, q2, q3, q4⟩ := HEL.out k hlt
      have c0 := (hbe.cell (p := ⟨b, off + k * 5, none⟩) hbl).trans q0
      have c1 := (hbe.cell (p := ⟨b, off + k * 5 + 1, none⟩) hbl).trans q1
      have c2 := (hbe.cell (p := ⟨b, off + k * 5 + 2, none⟩) hbl).trans q2
      have c3 := (hbe.cell (p := ⟨b, off + k * 5 + 3, none⟩) hbl).trans q3
      have c4 := (hbe.cell (p := ⟨b, off + k * 5 + 4, none⟩) hbl).trans q4
      have hk0i : (0 : Int) ≤ (k : Int) := by omega
      have hk1i : (k : Int) < (es.length : Int) := by omega
      have HF0 := lookFn es[k].1 nm x0 x1 x2 x3 P wr ((hbe.cell (p := ⟨P, 0, none⟩) hPl).trans hP)
      by_cases he : es[k].1 = nm
      · have HA : Hid (FirstAt es nm k) := .inl ⟨k, rfl, hlt, he, fun j hj => HALL.out j (by omega) hj⟩
        rw [show (es[k].1.toList == nm.toList) = true by rw [he]; exact beq_self_eq_true _] at HF0
        have HF : Hid (type_of% HF0) := HF0
        clear HF0 he q0 q1 q2 q3 q4 hty HALL HEL
        generalize es[k].1 = x at *
        go_wp2_with fail
        refine HF.out.mono ?_
        rintro e w2 ⟨rfl, hb2⟩
        go_wp2_with fail
        go_ret
        exact ⟨k, rfl, HA.out, hbe.trans (hb2.mono hbe.size)⟩
      · have HA2 : Hid (∀ j (h : j < es.length), j < k + 1 → es[j].1 ≠ nm) := fun j hj hjk => by
          by_cases c : j = k
          · subst c; exact he
          · exact HALL.out j hj (by omega)
        rw [eq_no he] at HF0
        have HF : Hid (type_of% HF0) := HF0
        clear HF0 he q0 q1 q2 q3 q4 hty HALL
        generalize es[k].1 = x at *
        go_wp2_with fail
        refine HF.out.mono ?_
        rintro e w2 ⟨rfl, hb2⟩
        go_wp2_with fail
        go_roundw
        case rel => exact ⟨k + 1, by omega, by go_num, HA2.out, hbe.trans (hb2.mono hbe.size)⟩
        case measure => simp [intOf]; omega
    · have HA : Hid (FirstAt es nm (-1)) := .inr ⟨rfl, fun j h => HALL.out j h (by omega)⟩
      clear HALL HEL
      go_wp2_with fail
      go_ret
      exact ⟨-1, rfl, HA.out, hbe⟩

end Go.Proofs.Ytpnalacdgnppmaa
