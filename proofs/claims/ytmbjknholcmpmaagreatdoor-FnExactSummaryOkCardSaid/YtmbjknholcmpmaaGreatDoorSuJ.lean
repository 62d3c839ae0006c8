/-
  The walks of slices.ContainsFunc at names and types, of impl.hasDot and hasNoDot, of impl.namesOf, and of slices.Equal at texts.
-/
import Derived.Test.YtmbjknholcmpmaaGreatDoorSuI
import Derived.Test.YtmbjknholcmpmaaGreatDoorSuO
import Derived.BigQuiet
import Derived.Lib.QuietBelow
namespace Go.Proofs.YtmbjknholcmpmaaGreatDoor
open Go.RowKit

def FirstD (D : ByteArray → Bool) (es : List (ByteArray × Ty)) (i : Int) : Prop := (∃ k : Nat, i = k ∧ ∃ h : k < es.length, D es[k].1 = true) ∨ (i = -1 ∧ ∀ j (h : j < es.length), D es[j].1 = false)

set_option maxHeartbeats 1600000 in
set_option maxRecDepth 100000 in
theorem slIndexDot (D : ByteArray → Bool) (n : Nat) (v : Value) (es : List (ByteArray × Ty)) (w : World) (hrow : EnvAt w n v es) (hlen : es.length ≤ 1048576)
    (hF : ∀ (x : ByteArray) (x0 x1 x2 x3 : Value) (wx : World), Calls Tryz.prog 20 #[.agg #[.string x, x0, x1, x2, x3]] wx fun e w' => e = .returned (.bool (D x)) ∧ Below wx.heap.size wx w') :
    Calls Tryz.prog 44 #[v, .func (Fn.func 20) #[] #[]] w fun e w' => ∃ i : Int, e = .returned (.int .i64 i) ∧ FirstD D es i ∧ Below w.heap.size w w' := by
  obtain ⟨av, capv, rfl, hel⟩ := envOpen hrow
  have HEL : Hid (type_of% hel) := hel
  have HFF : Hid (type_of% hF) := hF
  clear hel hrow hF
  go_enter Tryz.func44, Tryz.ntmps44
  go_wp2_with fail
  go_loopw [8] (fun i wr => ∃ k : Nat, k ≤ es.length ∧ i = .int .i64 k ∧ (∀ j (h : j < es.length), j < k → D es[j].1 = false) ∧ Below w.heap.size w wr) (fun i _ => es.length - (intOf i).toNat)
  case atStart => exact ⟨0, Nat.zero_le _, rfl, fun j _ h => absurd h (by omega), Below.refl _ _⟩
  case round =>
    obtain ⟨k, hk, rfl, hall, hbe⟩ := hrel
    have HALL : Hid (type_of% hall) := hall
    clear hall
    by_cases hlt : k < es.length
    · obtain ⟨b, off, x0, x1, x2, x3, rfl, hbl, _, hty, q0, q1, q2, q3, q4⟩ := HEL.out k hlt
      have c0 := (hbe.cell (p := ⟨b, off + k * 5, none⟩) hbl).trans q0
      have c1 := (hbe.cell (p := ⟨b, off + k * 5 + 1, none⟩) hbl).trans q1
      have c2 := (hbe.cell (p := ⟨b, off + k * 5 + 2, none⟩) hbl).trans q2
      have c3 := (hbe.cell (p := ⟨b, off + k * 5 + 3, none⟩) hbl).trans q3
      have c4 := (hbe.cell (p := ⟨b, off + k * 5 + 4, none⟩) hbl).trans q4
      have hk0i : (0 : Int) ≤ (k : Int) := by omega
      have hk1i : (k : Int) < (es.length : Int) := by omega
      have HF0 := HFF.out es[k].1 x0 x1 x2 x3 wr
      cases he : D es[k].1 with
      | true =>
        have HA : Hid (FirstD D es k) := .inl ⟨k, rfl, hlt, he⟩
        rw [he] at HF0
        have HF : Hid (type_of% HF0) := HF0
        clear HF0 he q0 q1 q2 q3 q4 hty HALL HEL HFF
        generalize es[k].1 = x at *
        go_wp2_with fail
        refine HF.out.mono ?_
        rintro e w2 ⟨rfl, hb2⟩
        go_wp2_with fail
        go_ret
        exact ⟨k, rfl, HA.out, hbe.trans (hb2.mono hbe.size)⟩
      | false =>
        have HA2 : Hid (∀ j (h : j < es.length), j < k + 1 → D es[j].1 = false) := fun j hj hjk => by
          by_cases c : j = k
          · subst c; exact he
          · exact HALL.out j hj (by omega)
        rw [he] at HF0
        have HF : Hid (type_of% HF0) := HF0
        clear HF0 he q0 q1 q2 q3 q4 hty HALL
        generalize es[k].1 = x at *
        go_wp2_with fail
        refine HF.out.mono ?_
        rintro e w2 ⟨rfl, hb2⟩
        go_wp2_with fail
        go_roundw
        case rel => exact ⟨k + 1, by omega, by go_num, HA2.out, hbe.trans (hb2.mono hbe.size)⟩
        case measure => simp [intOf]; omega
    · have HA : Hid (FirstD D es (-1)) := .inr ⟨rfl, fun j h => HALL.out j h (by omega)⟩
      clear HALL HEL HFF
      go_wp2_with fail
      go_ret
      exact ⟨-1, rfl, HA.out, hbe⟩

set_option maxHeartbeats 800000 in
set_option maxRecDepth 100000 in
theorem slContainsDot (D : ByteArray → Bool) (n : Nat) (v : Value) (es : List (ByteArray × Ty)) (w : World) (hrow : EnvAt w n v es) (hlen : es.length ≤ 1048576)
    (hF : ∀ (x : ByteArray) (x0 x1 x2 x3 : Value) (wx : World), Calls Tryz.prog 20 #[.agg #[.string x, x0, x1, x2, x3]] wx fun e w' => e = .returned (.bool (D x)) ∧ Below wx.heap.size wx w') :
    Calls Tryz.prog 19 #[v, .func (Fn.func 20) #[] #[]] w fun e w' => e = .returned (.bool (es.any fun x => D x.1)) ∧ Below w.heap.size w w' := by
  have HX : Hid (type_of% (slIndexDot D n v es w hrow hlen hF)) := slIndexDot D n v es w hrow hlen hF
  obtain ⟨av, capv, rfl, _⟩ := envOpen hrow
  obtain ⟨R, hR⟩ : ∃ R, R = es.any fun x => D x.1 := ⟨_, rfl⟩
  rw [← hR]
  have HY : Hid (∀ i, FirstD D es i → (0 ≤ i ∧ R = true) ∨ (i = -1 ∧ R = false)) := fun i h => by
    rcases h with ⟨k, rfl, hk, he⟩ | ⟨rfl, h⟩
    · exact .inl ⟨by omega, by rw [hR]; exact List.any_eq_true.2 ⟨es[k], List.getElem_mem hk, he⟩⟩
    · refine .inr ⟨rfl, ?_⟩
      rw [hR]
      refine List.any_eq_false.2 fun x hx => ?_
      obtain ⟨j, hj, rfl⟩ := List.getElem_of_mem hx
      simp [h j hj]
  clear hR hrow hF
  go_enter Tryz.func19, Tryz.ntmps19
  go_wp2_with fail
  refine HX.out.mono ?_
  rintro e w2 ⟨i, rfl, hi, hb2⟩
  rcases HY.out i hi with ⟨h0, rfl⟩ | ⟨rfl, rfl⟩
  · clear HX HY hi
    go_wp2_with fail
    go_ret
    exact ⟨by simp, hb2⟩
  · clear HX HY hi
    go_wp2_with fail
    go_ret
    exact ⟨rfl, hb2⟩

set_option maxHeartbeats 1600000 in
set_option maxRecDepth 100000 in
theorem slIndexNoDot (D : ByteArray → Bool) (n : Nat) (v : Value) (es : List (ByteArray × Ty)) (w : World) (hrow : EnvAt w n v es) (hlen : es.length ≤ 1048576)
    (hF : ∀ (x : ByteArray) (x0 x1 x2 x3 : Value) (wx : World), Calls Tryz.prog 21 #[.agg #[.string x, x0, x1, x2, x3]] wx fun e w' => e = .returned (.bool (D x)) ∧ Below wx.heap.size wx w') :
    Calls Tryz.prog 44 #[v, .func (Fn.func 21) #[] #[]] w fun e w' => ∃ i : Int, e = .returned (.int .i64 i) ∧ FirstD D es i ∧ Below w.heap.size w w' := by
  obtain ⟨av, capv, rfl, hel⟩ := envOpen hrow
  have HEL : Hid (type_of% hel) := hel
  have HFF : Hid (type_of% hF) := hF
  clear hel hrow hF
  go_enter Tryz.func44, Tryz.ntmps44
  go_wp2_with fail
  go_loopw [8] (fun i wr => ∃ k : Nat, k ≤ es.length ∧ i = .int .i64 k ∧ (∀ j (h : j < es.length), j < k → D es[j].1 = false) ∧ Below w.heap.size w wr) (fun i _ => es.length - (intOf i).toNat)
  case atStart => exact ⟨0, Nat.zero_le _, rfl, fun j _ h => absurd h (by omega), Below.refl _ _⟩
  case round =>
    obtain ⟨k, hk, rfl, hall, hbe⟩ := hrel
    have HALL : Hid (type_of% hall) := hall
    clear hall
    by_cases hlt : k < es.length
    · obtain ⟨b, off, x0, x1, x2, x3, rfl, hbl, _, hty, q0, q1, q2, q3, q4⟩ := HEL.out k hlt
      have c0 := (hbe.cell (p := ⟨b, off + k * 5, none⟩) hbl).trans q0
      have c1 := (hbe.cell (p := ⟨b, off + k * 5 + 1, none⟩) hbl).trans q1
      have c2 := (hbe.cell (p := ⟨b, off + k * 5 + 2, none⟩) hbl).trans q2
      have c3 := (hbe.cell (p := ⟨b, off + k * 5 + 3, none⟩) hbl).trans q3
      have c4 := (hbe.cell (p := ⟨b, off + k * 5 + 4, none⟩) hbl).trans q4
      have hk0i : (0 : Int) ≤ (k : Int) := by omega
      have hk1i : (k : Int) < (es.length : Int) := by omega
      have HF0 := HFF.out es[k].1 x0 x1 x2 x3 wr
      cases he : D es[k].1 with
      | true =>
        have HA : Hid (FirstD D es k) := .inl ⟨k, rfl, hlt, he⟩
        rw [he] at HF0
        have HF : Hid (type_of% HF0) := HF0
        clear HF0 he q0 q1 q2 q3 q4 hty HALL HEL HFF
        generalize es[k].1 = x at *
        go_wp2_with fail
        refine HF.out.mono ?_
        rintro e w2 ⟨rfl, hb2⟩
        go_wp2_with fail
        go_ret
        exact ⟨k, rfl, HA.out, hbe.trans (hb2.mono hbe.size)⟩
      | false =>
        have HA2 : Hid (∀ j (h : j < es.length), j < k + 1 → D es[j].1 = false) := fun j hj hjk => by
          by_cases c : j = k
          · subst c; exact he
          · exact HALL.out j hj (by omega)
        rw [he] at HF0
        have HF : Hid (type_of% HF0) := HF0
        clear HF0 he q0 q1 q2 q3 q4 hty HALL
        generalize es[k].1 = x at *
        go_wp2_with fail
        refine HF.out.mono ?_
        rintro e w2 ⟨rfl, hb2⟩
        go_wp2_with fail
        go_roundw
        case rel => exact ⟨k + 1, by omega, by go_num, HA2.out, hbe.trans (hb2.mono hbe.size)⟩
        case measure => simp [intOf]; omega
    · have HA : Hid (FirstD D es (-1)) := .inr ⟨rfl, fun j h => HALL.out j h (by omega)⟩
      clear HALL HEL HFF
      go_wp2_with fail
      go_ret
      exact ⟨-1, rfl, HA.out, hbe⟩

set_option maxHeartbeats 800000 in
set_option maxRecDepth 100000 in
theorem slContainsNoDot (D : ByteArray → Bool) (n : Nat) (v : Value) (es : List (ByteArray × Ty)) (w : World) (hrow : EnvAt w n v es) (hlen : es.length ≤ 1048576)
    (hF : ∀ (x : ByteArray) (x0 x1 x2 x3 : Value) (wx : World), Calls Tryz.prog 21 #[.agg #[.string x, x0, x1, x2, x3]] wx fun e w' => e = .returned (.bool (D x)) ∧ Below wx.heap.size wx w') :
    Calls Tryz.prog 19 #[v, .func (Fn.func 21) #[] #[]] w fun e w' => e = .returned (.bool (es.any fun x => D x.1)) ∧ Below w.heap.size w w' := by
  have HX : Hid (type_of% (slIndexNoDot D n v es w hrow hlen hF)) := slIndexNoDot D n v es w hrow hlen hF
  obtain ⟨av, capv, rfl, _⟩ := envOpen hrow
  obtain ⟨R, hR⟩ : ∃ R, R = es.any fun x => D x.1 := ⟨_, rfl⟩
  rw [← hR]
  have HY : Hid (∀ i, FirstD D es i → (0 ≤ i ∧ R = true) ∨ (i = -1 ∧ R = false)) := fun i h => by
    rcases h with ⟨k, rfl, hk, he⟩ | ⟨rfl, h⟩
    · exact .inl ⟨by omega, by rw [hR]; exact List.any_eq_true.2 ⟨es[k], List.getElem_mem hk, he⟩⟩
    · refine .inr ⟨rfl, ?_⟩
      rw [hR]
      refine List.any_eq_false.2 fun x hx => ?_
      obtain ⟨j, hj, rfl⟩ := List.getElem_of_mem hx
      simp [h j hj]
  clear hR hrow hF
  go_enter Tryz.func19, Tryz.ntmps19
  go_wp2_with fail
  refine HX.out.mono ?_
  rintro e w2 ⟨i, rfl, hi, hb2⟩
  rcases HY.out i hi with ⟨h0, rfl⟩ | ⟨rfl, rfl⟩
  · clear HX HY hi
    go_wp2_with fail
    go_ret
    exact ⟨by simp, hb2⟩
  · clear HX HY hi
    go_wp2_with fail
    go_ret
    exact ⟨rfl, hb2⟩

/-- a dot is in it -/
def dotIn (x : ByteArray) : Bool := decide (0 ≤ Lib.indexByte x.data.toList 46)

set_option maxHeartbeats 400000 in
theorem implHasDot (x : ByteArray) (x0 x1 x2 x3 : Value) (w : World) :
    Calls Tryz.prog 20 #[.agg #[.string x, x0, x1, x2, x3]] w fun e w' => e = .returned (.bool (dotIn x)) ∧ Below w.heap.size w w' := by
  have HCT : Hid (∀ wx : World, Calls Tryz.prog 45 #[.string x, .string ⟨#[46]⟩] wx fun e w' => e = .returned (.bool (dotIn x)) ∧ w' = wx) := fun wx => Tryz.strings_Contains_one x 46 wx
  have hB1 : Below w.heap.size w (w.alloc (.cells #[.string x, x0, x1, x2, x3] 42)) := (Below.refl _ _).alloc (Nat.le_refl _) _
  generalize dotIn x = d at *
  go_enter Tryz.func20, Tryz.ntmps20
  go_wp2_with fail
  refine (HCT.out _).mono ?_
  rintro e w2 ⟨rfl, rfl⟩
  go_wp2_with fail
  go_ret
  exact ⟨rfl, hB1⟩

set_option maxHeartbeats 400000 in
theorem implHasNoDot (x : ByteArray) (x0 x1 x2 x3 : Value) (w : World) :
    Calls Tryz.prog 21 #[.agg #[.string x, x0, x1, x2, x3]] w fun e w' => e = .returned (.bool (!dotIn x)) ∧ Below w.heap.size w w' := by
  have HCT : Hid (∀ wx : World, Calls Tryz.prog 20 #[.agg #[.string x, x0, x1, x2, x3]] wx fun e w' => e = .returned (.bool (dotIn x)) ∧ Below wx.heap.size wx w') := fun wx => implHasDot x x0 x1 x2 x3 wx
  have hB1 : Below w.heap.size w (w.alloc (.cells #[.string x, x0, x1, x2, x3] 42)) := (Below.refl _ _).alloc (Nat.le_refl _) _
  generalize dotIn x = d at *
  go_enter Tryz.func21, Tryz.ntmps21
  go_wp2_with fail
  refine (HCT.out _).mono ?_
  rintro e w2 ⟨rfl, hb2⟩
  go_wp2_with fail
  go_ret
  exact ⟨rfl, hB1.trans (hb2.mono hB1.size)⟩

/-- the names of a list that hold a dot, and those that hold none -/
theorem hasDots (n : Nat) (v : Value) (es : List (ByteArray × Ty)) (w : World) (hrow : EnvAt w n v es) (hlen : es.length ≤ 1048576) :
    Calls Tryz.prog 19 #[v, .func (Fn.func 20) #[] #[]] w fun e w' => e = .returned (.bool (es.any fun x => dotIn x.1)) ∧ Below w.heap.size w w' := slContainsDot dotIn n v es w hrow hlen fun x x0 x1 x2 x3 wx => implHasDot x x0 x1 x2 x3 wx
theorem hasNoDots (n : Nat) (v : Value) (es : List (ByteArray × Ty)) (w : World) (hrow : EnvAt w n v es) (hlen : es.length ≤ 1048576) :
    Calls Tryz.prog 19 #[v, .func (Fn.func 21) #[] #[]] w fun e w' => e = .returned (.bool (es.any fun x => !dotIn x.1)) ∧ Below w.heap.size w w' := slContainsNoDot (fun x => !dotIn x) n v es w hrow hlen fun x x0 x1 x2 x3 wx => implHasNoDot x x0 x1 x2 x3 wx

end Go.Proofs.YtmbjknholcmpmaaGreatDoor
