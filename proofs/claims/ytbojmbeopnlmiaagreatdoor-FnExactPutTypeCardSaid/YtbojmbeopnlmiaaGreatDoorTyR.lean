/-
  When a type is right, plainly; and the walks of spec.l03Dotted and spec.l03Plain.
-/
import Derived.Test.YtbojmbeopnlmiaaGreatDoorTextU
import Derived.Test.YtbojmbeopnlmiaaGreatDoorNameW
namespace Go.Proofs.YtbojmbeopnlmiaaGreatDoor
open Go.RowKit

/-- where its first dot stands, from there on -/
def dotP (s : ByteArray) : Nat → Nat → Option Nat
  | 0, _ => none
  | f + 1, i => if i < s.size then (if Lx.byt s i = 46 then some i else dotP s f (i + 1)) else none
/-- a name, or two with a dot between -/
def dottedP (s : ByteArray) : Bool := match dotP s (s.size + 1) 0 with
  | some i => Lx.nameOkP (s.extract 0 i) && Lx.nameOkP (s.extract (i + 1) s.size)
  | none => Lx.nameOkP s

theorem dotP_skip {s : ByteArray} {f i : Nat} (h : i < s.size) (hb : Lx.byt s i ≠ 46) : dotP s (f + 1) i = dotP s f (i + 1) := by
  rw [dotP, if_pos h, if_neg hb]
theorem dotP_hit {s : ByteArray} {f i : Nat} (h : i < s.size) (hb : Lx.byt s i = 46) : dotP s (f + 1) i = some i := by
  rw [dotP, if_pos h, if_pos hb]
theorem dotP_end {s : ByteArray} {f i : Nat} (h : ¬ i < s.size) : dotP s f i = none := by
  cases f with
  | zero => rfl
  | succ f => rw [dotP, if_neg h]

set_option maxHeartbeats 800000 in
set_option maxRecDepth 100000 in
theorem specDotted (s : ByteArray) (w : World) (hs : s.size ≤ 140737488355328) :
    Calls Tryz.prog 63 #[.string s] w fun e w' => e = .returned (.bool (dottedP s)) ∧ Below w.heap.size w w' := by
  have HN : Hid (∀ (x : ByteArray) (wx : World), x.size ≤ 140737488355328 → Calls Tryz.prog 48 #[.string x] wx fun e w' => e = .returned (.bool (Lx.nameOkP x)) ∧ Below wx.heap.size wx w') := fun x wx hx => specNameOk x wx hx
  go_enter Tryz.func63, Tryz.ntmps63
  go_wp2_with fail
  go_loopw [3] (fun i wr => ∃ k : Nat, k ≤ s.size ∧ i = .int .i64 k ∧ dotP s (s.size + 1) 0 = dotP s (s.size + 1 - k) k ∧ Below w.heap.size w wr) (fun i _ => s.size - (intOf i).toNat)
  case atStart => exact ⟨0, Nat.zero_le _, rfl, rfl, Below.refl _ _⟩
  case round =>
    obtain ⟨k, hk, rfl, hd, hbe⟩ := hrel
    have HD : Hid (dotP s (s.size + 1) 0 = dotP s (s.size + 1 - k) k) := hd
    clear hd
    by_cases hlt : k < s.size
    · have hb := Lx.byt_lt s k
      have hbe1 := Lx.byt_eq s k hlt
      have hf : s.size + 1 - k = (s.size - k) + 1 := by omega
      by_cases h46 : Lx.byt s k = 46
      · have HR : Hid (dottedP s = (Lx.nameOkP (s.extract 0 k) && Lx.nameOkP (s.extract (k + 1) s.size))) := by
          show _ = _
          unfold dottedP
          rw [HD.out, hf, dotP_hit hlt h46]
        have e1 : (s.extract 0 k).size ≤ 140737488355328 := by rw [ByteArray.size_extract]; omega
        have e2 : (s.extract (k + 1) s.size).size ≤ 140737488355328 := by rw [ByteArray.size_extract]; omega
        have H1 : Hid (∀ wx : World, Calls Tryz.prog 48 #[.string (s.extract 0 k)] wx fun e w' => e = .returned (.bool (Lx.nameOkP (s.extract 0 k))) ∧ Below wx.heap.size wx w') := fun wx => HN.out _ wx e1
        have H2 : Hid (∀ wx : World, Calls Tryz.prog 48 #[.string (s.extract (k + 1) s.size)] wx fun e w' => e = .returned (.bool (Lx.nameOkP (s.extract (k + 1) s.size))) ∧ Below wx.heap.size wx w') := fun wx => HN.out _ wx e2
        rw [h46] at hbe1
        have hk0 : (0 : Int) ≤ (k : Int) := by omega
        have hk1 : (k : Int) ≤ (s.size : Int) := by omega
        have hk2 : (k : Int) + 1 ≤ (s.size : Int) := by omega
        clear h46 HD HN e1 e2 hf
        generalize Lx.nameOkP (s.extract 0 k) = r1 at *
        generalize Lx.nameOkP (s.extract (k + 1) s.size) = r2 at *
        cases r1 with
        | false =>
          go_wp2_with fail
          refine (H1.out _).mono ?_
          rintro e w2 ⟨rfl, hb2⟩
          go_wp2_with fail
          go_ret
          exact ⟨by rw [HR.out]; rfl, hbe.trans (hb2.mono hbe.size)⟩
        | true =>
          go_wp2_with fail
          refine (H1.out _).mono ?_
          rintro e w2 ⟨rfl, hb2⟩
          have hbe2 := hbe.trans (hb2.mono hbe.size)
          go_wp2_with fail
          refine (H2.out _).mono ?_
          rintro e w3 ⟨rfl, hb3⟩
          go_wp2_with fail
          go_ret
          exact ⟨by rw [HR.out]; rfl, hbe2.trans (hb3.mono hbe2.size)⟩
      · have HD2 : Hid (dotP s (s.size + 1) 0 = dotP s (s.size + 1 - (k + 1)) (k + 1)) := by
          show _ = _
          rw [HD.out, hf, dotP_skip hlt h46, show s.size + 1 - (k + 1) = s.size - k by omega]
        have hne : ¬ ((Lx.byt s k : Nat) : Int) = 46 := by omega
        clear hf HN
        go_wp2_with fail
        go_roundw
        case rel => exact ⟨k + 1, by omega, by go_num, HD2.out, hbe⟩
        case measure => simp [intOf]; omega
    · have HR : Hid (dottedP s = Lx.nameOkP s) := by
        show _ = _
        unfold dottedP
        rw [HD.out, dotP_end hlt]
      have H1 := HN.out s wr hs
      have H12 : Hid (type_of% H1) := H1
      clear H1 HN HD
      generalize Lx.nameOkP s = R at *
      go_wp2_with fail
      refine H12.out.mono ?_
      rintro e w2 ⟨rfl, hb2⟩
      go_wp2_with fail
      go_ret
      exact ⟨by rw [HR.out]; rfl, hbe.trans (hb2.mono hbe.size)⟩

/-- nothing but its kind -/
def plainP (t : Ty) : Bool := decide (t.name.size = 0) && decide (t.names.length = 0) && decide (t.kids.length = 0)

set_option maxHeartbeats 800000 in
set_option maxRecDepth 100000 in
theorem specPlain (kd : Int) (nm : ByteArray) (an ak : Option Addr) (ln cn lk ck : Nat) (w : World) :
    Calls Tryz.prog 62 #[.agg #[.int .i64 kd, .string nm, .slice an ln cn, .slice ak lk ck]] w fun e w' => e = .returned (.bool (decide (nm.size = 0) && decide (ln = 0) && decide (lk = 0))) ∧ Below w.heap.size w w' := by
  have hB1 : Below w.heap.size w (w.alloc (.cells #[.int .i64 kd, .string nm, .slice an ln cn, .slice ak lk ck] 30)) := (Below.refl _ _).alloc (Nat.le_refl _) _
  obtain ⟨R, hR⟩ : ∃ R, R = (decide (nm.size = 0) && decide (ln = 0) && decide (lk = 0)) := ⟨_, rfl⟩
  rw [← hR]
  by_cases h1 : nm.size = 0
  · have e1 := isEmpty_of h1
    by_cases h2 : ln = 0
    · subst h2
      by_cases h3 : lk = 0
      · subst h3
        have HR : Hid (R = true) := by show R = true; rw [hR]; simp [h1]
        clear h1 hR
        go_enter Tryz.func62, Tryz.ntmps62
        go_wp2
        go_ret
        exact ⟨by rw [HR.out]; rfl, hB1⟩
      · have HR : Hid (R = false) := by show R = false; rw [hR]; simp [h3]
        have h3i : ((lk : Int) == 0) = false := by rw [beq_eq_false_iff_ne]; omega
        clear h1 hR
        go_enter Tryz.func62, Tryz.ntmps62
        go_wp2
        go_ret
        exact ⟨by rw [HR.out]; rfl, hB1⟩
    · have HR : Hid (R = false) := by show R = false; rw [hR]; simp [h2]
      have h2i : ((ln : Int) == 0) = false := by rw [beq_eq_false_iff_ne]; omega
      clear h1 hR
      go_enter Tryz.func62, Tryz.ntmps62
      go_wp2
      go_ret
      exact ⟨by rw [HR.out]; rfl, hB1⟩
  · have e1 := isEmpty_no (s := nm) (by omega)
    have HR : Hid (R = false) := by show R = false; rw [hR]; simp [h1]
    clear h1 hR
    go_enter Tryz.func62, Tryz.ntmps62
    go_wp2
    go_ret
    exact ⟨by rw [HR.out]; rfl, hB1⟩

end Go.Proofs.YtbojmbeopnlmiaaGreatDoor
