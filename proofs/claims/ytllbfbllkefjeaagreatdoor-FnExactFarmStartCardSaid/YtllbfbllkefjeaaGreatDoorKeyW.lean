/-
  The walks of spec.Key and impl.Key: each answers the sum as sixteen hexadecimal digits.
  When a store is right; the walk of spec.StoreOk.
-/
import Derived.Test.YtllbfbllkefjeaaGreatDoorDigestW
import Derived.Test.YtllbfbllkefjeaaGreatDoorJoinW
import Derived.Test.YtllbfbllkefjeaaGreatDoorRepeatLib
import Derived.Test.YtllbfbllkefjeaaGreatDoorItD
namespace Go.Proofs.YtllbfbllkefjeaaGreatDoor
open Go.RowKit

theorem dig_range (l : List UInt8) : 0 ≤ dig l ∧ dig l ≤ 18446744073709551615 := by
  suffices h : ∀ (l : List UInt8) (y : Int), (0 ≤ y ∧ y ≤ 18446744073709551615) → 0 ≤ l.foldl digStep y ∧ l.foldl digStep y ≤ 18446744073709551615 from h l digStart (by decide)
  intro l
  induction l with
  | nil => intro y h; exact h
  | cons b r ih =>
    intro y h
    exact ih _ (by unfold digStep; rw [IntKind.wrap_u64]; omega)

/-- Key's answer -/
def keyB (s : ByteArray) : ByteArray := ⟨(Hex.hf 16 (dig s.data.toList).toNat).toArray⟩

def digits16 : ByteArray := ⟨#[48, 49, 50, 51, 52, 53, 54, 55, 56, 57, 97, 98, 99, 100, 101, 102]⟩
theorem digit16_at (d : Nat) (h : d < 16) : digits16.extract d (d + 1) = ⟨[Hex.hd d].toArray⟩ := by
  have hd : d = 0 ∨ d = 1 ∨ d = 2 ∨ d = 3 ∨ d = 4 ∨ d = 5 ∨ d = 6 ∨ d = 7 ∨ d = 8 ∨ d = 9 ∨ d = 10 ∨ d = 11 ∨ d = 12 ∨ d = 13 ∨ d = 14 ∨ d = 15 := by omega
  rcases hd with rfl | rfl | rfl | rfl | rfl | rfl | rfl | rfl | rfl | rfl | rfl | rfl | rfl | rfl | rfl | rfl
  all_goals rfl

theorem run_digit16 (d : Nat) (h : d < 16) (wx : World) : (Instr.slice 9 (.string ⟨#[48, 49, 50, 51, 52, 53, 54, 55, 56, 57, 97, 98, 99, 100, 101, 102]⟩) (some (.int .i64 (d : Int))) (some (.int .i64 ((d : Int) + 1))) none).run Tryz.prog wx = .ok (.string ⟨[Hex.hd d].toArray⟩) wx := by
  have := run_slice_string (P := Tryz.prog) wx 9 digits16 .i64 .i64 (d : Int) ((d : Int) + 1) Tryz.underlying9 (by omega) (by omega) (by simp [digits16, ByteArray.size]; omega)
  rw [show ((d : Int)).toNat = d from Int.toNat_natCast d, show ((d : Int) + 1).toNat = d + 1 from by omega, digit16_at d h] at this
  exact this

theorem key_cons (a : UInt8) (l : List UInt8) : (⟨[a].toArray⟩ : ByteArray) ++ ⟨l.toArray⟩ = ⟨(a :: l).toArray⟩ := by
  apply ByteArray.ext
  simp

set_option maxHeartbeats 400000 in
theorem specKey (s : ByteArray) (w : World) (hs : s.size ≤ 140737488355328) :
    Calls Tryz.prog 48 #[.string s] w fun e w' => e = .returned (.string (keyB s)) ∧ w = w' := by
  have hr := dig_range s.data.toList
  have HD : Hid (∀ wx : World, Calls Tryz.prog 72 #[.string s] wx fun e w' => e = .returned (.int .u64 (dig s.data.toList)) ∧ wx = w') := fun wx => specDigest s wx hs
  unfold keyB
  generalize dig s.data.toList = y at *
  obtain ⟨u, rfl⟩ := Int.eq_ofNat_of_zero_le hr.1
  rw [Int.toNat_natCast]
  have hu := hr.2
  clear hr
  go_enter Tryz.func48, Tryz.ntmps48
  go_wp2_with (go_at_call 72; refine (HD.out _).mono ?_; rintro e w1 ⟨rfl, rfl⟩)
  go_loop [3, 4, 5] (fun x o i => ∃ (k f : Nat) (l : List UInt8), x = .int .u64 k ∧ k ≤ u ∧ i = .int .i64 (l.length : Nat) ∧ o = .string ⟨l.toArray⟩ ∧ l.length + f = 16 ∧ Hex.hf f k ++ l = Hex.hf 16 u) (fun _ _ i => 16 - (intOf i).toNat)
  case atStart => exact ⟨u, 16, [], rfl, Nat.le_refl _, rfl, rfl, rfl, by simp⟩
  case round =>
    obtain ⟨k, f, l, rfl, hk, rfl, rfl, hl, hh⟩ := hrel
    have HH : Hid (Hex.hf f k ++ l = Hex.hf 16 u) := hh
    clear hh
    have hsz : (⟨l.toArray⟩ : ByteArray).size ≤ 16 := by simp [ByteArray.size]; omega
    by_cases hlt : l.length < 16
    · obtain ⟨f, rfl⟩ : ∃ q, f = q + 1 := ⟨f - 1, by omega⟩
      have HH2 : Hid (Hex.hf f (k / 16) ++ (Hex.hd (k % 16) :: l) = Hex.hf 16 u) := by
        have h2 : Hex.hf (f + 1) k ++ l = Hex.hf 16 u := HH.out
        rw [Hex.hf, List.append_assoc] at h2
        exact h2
      have hsl := run_digit16 (k % 16) (by omega)
      rw [show (((k % 16 : Nat)) : Int) = (k : Int) % 16 from by omega] at hsl
      have HS : Hid ((⟨[Hex.hd (k % 16)].toArray⟩ : ByteArray) ++ ⟨l.toArray⟩ = ⟨(Hex.hd (k % 16) :: l).toArray⟩) := key_cons _ _
      have hV1 : (⟨[Hex.hd (k % 16)].toArray⟩ : ByteArray).size ≤ 1 := by simp [ByteArray.size]
      generalize (⟨[Hex.hd (k % 16)].toArray⟩ : ByteArray) = V at *
      generalize hOe : (⟨l.toArray⟩ : ByteArray) = O at *
      clear hOe
      go_wp2
      go_round
      case rel => exact ⟨k / 16, f, Hex.hd (k % 16) :: l, by go_num, by omega, by simp, by rw [HS.out], by simp; omega, HH2.out⟩
      case measure => simp [intOf]; omega
    · have hf0 : f = 0 := by omega
      subst hf0
      have HE : Hid (l = Hex.hf 16 u) := HH.out
      generalize hOe : (⟨l.toArray⟩ : ByteArray) = O at *
      have HO : Hid ((⟨l.toArray⟩ : ByteArray) = O) := hOe
      clear hOe
      go_wp2
      go_ret
      exact ⟨by rw [← HE.out, HO.out]; rfl, rfl⟩

theorem repeatL_nought (c : Nat) : Lib.repeatL [48] c = List.replicate c 48 := by
  induction c with
  | zero => rfl
  | succ c ih => rw [Lib.repeatL, ih, List.replicate_succ]; rfl

theorem key_two (a b : List UInt8) : (⟨(catL [⟨a.toArray⟩, ⟨b.toArray⟩]).toArray⟩ : ByteArray) = ⟨(a ++ b).toArray⟩ := by
  apply ByteArray.ext
  simp [catL]

theorem key_cells (w : World) (a b : ByteArray) : ∀ j (h : j < [a, b].length), (w.alloc (Obj.cells #[Value.string a, Value.string b] 9)).cell? ⟨w.heap.size, 0 + j, none⟩ = some (.string [a, b][j]) := by
  intro j h
  match j, h with
  | 0, _ => simp
  | 1, _ => simp

set_option maxHeartbeats 400000 in
theorem implKey (s : ByteArray) (w : World) (hs : s.size ≤ 140737488355328) (hc : w.cell? ⟨5, 15, none⟩ = some (.int .u8 4)) :
    Calls Tryz.prog 100 #[.string s] w fun e w' => e = .returned (.string (keyB s)) ∧ Below w.heap.size w w' := by
  have hr := dig_range s.data.toList
  have HD : Hid (∀ wx : World, Calls Tryz.prog 110 #[.string s] wx fun e w' => e = .returned (.int .u64 (dig s.data.toList)) ∧ wx = w') := fun wx => implDigest s wx hs
  unfold keyB
  generalize dig s.data.toList = y at *
  obtain ⟨u, rfl⟩ := Int.eq_ofNat_of_zero_le hr.1
  rw [Int.toNat_natCast]
  have hu := hr.2
  clear hr
  have hlen := Hex.hx_length 15 u
  have hpad := Hex.hf_hx 15 u (by omega)
  have HF : Hid (Calls Tryz.prog 109 #[.int .u64 u, .int .i64 16] w fun e w' => e = .returned (.string ⟨(Hex.hx 15 u).toArray⟩) ∧ Below w.heap.size w w') := libFormatUint u w (by omega) hc
  generalize Hex.hx 15 u = L at *
  have hLs : (⟨L.toArray⟩ : ByteArray).size = L.length := by simp [ByteArray.size]
  have HP : Hid (Hex.hf 16 u = List.replicate (16 - L.length) 48 ++ L) := hpad
  have HR : Hid (∀ wx : World, Calls Tryz.prog 112 #[.string ⟨#[48]⟩, .int .i64 (16 - (L.length : Int))] wx fun e w' => e = .returned (.string ⟨(List.replicate (16 - L.length) 48).toArray⟩) ∧ Below wx.heap.size wx w') := fun wx => by
    have := Tryz.strings_Repeat ⟨#[48]⟩ (16 - L.length) wx (by omega) (by simp [ByteArray.size]; omega)
    rw [show (((16 - L.length : Nat)) : Int) = 16 - (L.length : Int) from by omega, repeatL_nought] at this
    exact this
  clear hpad hc
  go_enter Tryz.func100, Tryz.ntmps100
  go_wp2_with fail
  refine (HD.out _).mono ?_
  rintro e w1 ⟨rfl, rfl⟩
  go_wp2_with fail
  refine HF.out.mono ?_
  rintro e w1 ⟨rfl, hb1⟩
  go_wp2_with fail
  refine (HR.out _).mono ?_
  rintro e w2 ⟨rfl, hb2⟩
  have hbe : Below w.heap.size w w2 := hb1.trans (hb2.mono hb1.size)
  have HJ : Hid (Calls Tryz.prog 111 #[.slice (some ⟨w2.heap.size, 0, none⟩) 2 2] (w2.alloc (Obj.cells #[Value.string ⟨(List.replicate (16 - L.length) 48).toArray⟩, Value.string ⟨L.toArray⟩] 9)) fun e w' => e = .returned (.string ⟨(Hex.hf 16 u).toArray⟩) ∧ Below (w2.alloc (Obj.cells #[Value.string ⟨(List.replicate (16 - L.length) 48).toArray⟩, Value.string ⟨L.toArray⟩] 9)).heap.size (w2.alloc (Obj.cells #[Value.string ⟨(List.replicate (16 - L.length) 48).toArray⟩, Value.string ⟨L.toArray⟩] 9)) w') := by
    have := implJoin w2.heap.size 0 2 [⟨(List.replicate (16 - L.length) 48).toArray⟩, ⟨L.toArray⟩] _ (key_cells w2 _ _) (by simp [catL]; omega) (by simp)
    rw [key_two, ← HP.out] at this
    exact this
  clear hb1 hb2 HR HF HP
  go_wp2_with fail
  refine HJ.out.mono ?_
  rintro e w3 ⟨rfl, hb3⟩
  have hfin : Below w.heap.size w w3 := (hbe.alloc hbe.size _).trans (hb3.mono (by have := hbe.size; simp; omega))
  clear HJ hb3
  go_wp2
  go_ret
  exact ⟨rfl, hfin⟩

end Go.Proofs.YtllbfbllkefjeaaGreatDoor

namespace Go.Proofs.YtllbfbllkefjeaaGreatDoor
open Go.RowKit
open Go.Sort (grow)

/-- room for nothing up to 100, not more items than room, each with the key of its input, no two of one input -/
def StoreRight (room : Int) (es : List Itm) : Prop :=
  (∀ j (h : j < es.length), es[j].1 = keyB es[j].2.1 ∧ ∀ i (hi : i < j), (es[i]'(by omega)).2.1 ≠ es[j].2.1) ∧ 0 ≤ room ∧ room ≤ 100 ∧ (es.length : Int) ≤ room

theorem it_same {a b : ByteArray} (h : a = b) : (a.toList == b.toList) = true := by rw [h]; exact beq_self_eq_true _
theorem it_other {a b : ByteArray} (h : ¬ a = b) : (a.toList == b.toList) = false := by
  rw [beq_eq_false_iff_ne]
  intro e
  refine h ?_
  rw [ByteArray.toList_eq, ByteArray.toList_eq] at e
  obtain ⟨⟨x⟩⟩ := a
  obtain ⟨⟨y⟩⟩ := b
  exact congrArg _ (congrArg _ e)

set_option maxHeartbeats 800000 in
set_option maxRecDepth 100000 in
theorem specIn (x lo hi : Int) (w : World) : Calls Tryz.prog 20 #[.int .i64 x, .int .i64 lo, .int .i64 hi] w fun e w' => e = .returned (.bool (decide (lo ≤ x) && decide (x ≤ hi))) ∧ w' = w := by
  by_cases h1 : lo ≤ x
  · by_cases h2 : x ≤ hi
    · go_enter Tryz.func20, Tryz.ntmps20
      go_wp2
      go_ret
      exact ⟨by simp [h1, h2], rfl⟩
    · have HR : Hid ((decide (lo ≤ x) && decide (x ≤ hi)) = false) := by
        show _ = _
        rw [decide_eq_false h2, Bool.and_false]
      rw [HR.out]
      go_enter Tryz.func20, Tryz.ntmps20
      go_wp2
      go_ret
      exact ⟨rfl, rfl⟩
  · have HR : Hid ((decide (lo ≤ x) && decide (x ≤ hi)) = false) := by
      show _ = _
      rw [decide_eq_false h1, Bool.false_and]
    rw [HR.out]
    go_enter Tryz.func20, Tryz.ntmps20
    go_wp2
    go_ret
    exact ⟨rfl, rfl⟩

/-- what is asked of the item at j -/
def ItFine (es : List Itm) (j : Nat) (h : j < es.length) : Prop := es[j].1 = keyB es[j].2.1 ∧ ∀ i (hi : i < j), (es[i]'(by omega)).2.1 ≠ es[j].2.1

set_option maxHeartbeats 1600000 in
set_option maxRecDepth 100000 in
open Classical in
theorem specStoreOk (room : Int) (v : Value) (es : List Itm) (w : World) (hrow : ItAt w v es) (hb : itsBulk es ≤ 4194304) :
    Calls Tryz.prog 21 #[.agg #[.int .i64 room, v]] w fun e w' => e = .returned (.bool (decide (StoreRight room es))) ∧ Below w.heap.size w w' := by
  obtain ⟨av, capv, rfl, hel⟩ := itOpen hrow
  have hlen : es.length ≤ 4194304 := by unfold itsBulk at hb; omega
  obtain ⟨RR, hRR⟩ : ∃ RR, RR = decide (StoreRight room es) := ⟨_, rfl⟩
  rw [← hRR]
  have HNO : Hid (¬ StoreRight room es → RR = false) := fun h => by rw [hRR]; exact decide_eq_false h
  have HYES : Hid (StoreRight room es → RR = true) := fun h => by rw [hRR]; exact decide_eq_true h
  have hB1 : Below w.heap.size w (w.alloc (.cells #[.int .i64 room, .slice av es.length capv] 35)) := (Below.refl _ _).alloc (Nat.le_refl _) _
  have hz1 : w.heap.size < (w.alloc (.cells #[.int .i64 room, .slice av es.length capv] 35)).heap.size := by simp
  have k0 : (w.alloc (.cells #[.int .i64 room, .slice av es.length capv] 35)).cell? ⟨w.heap.size, 0, none⟩ = some (.int .i64 room) := by simp
  have k1 : (w.alloc (.cells #[.int .i64 room, .slice av es.length capv] 35)).cell? ⟨w.heap.size, 1, none⟩ = some (.slice av es.length capv) := by simp
  have HEL : Hid (∀ j (h : j < es.length), ∃ b off, av = some ⟨b, off, none⟩ ∧ b < (w.alloc (.cells #[.int .i64 room, .slice av es.length capv] 35)).heap.size ∧ (w.alloc (.cells #[.int .i64 room, .slice av es.length capv] 35)).cell? ⟨b, off + j * 3, none⟩ = some (.string es[j].1) ∧ (w.alloc (.cells #[.int .i64 room, .slice av es.length capv] 35)).cell? ⟨b, off + j * 3 + 1, none⟩ = some (.string es[j].2.1)) := fun j h => by
    obtain ⟨b, off, e, hbl, q0, q1, _⟩ := hel j h
    exact ⟨b, off, e, Nat.lt_trans hbl hz1, (hB1.cell (p := ⟨b, off + j * 3, none⟩) hbl).trans q0, (hB1.cell (p := ⟨b, off + j * 3 + 1, none⟩) hbl).trans q1⟩
  have HB : Hid (type_of% hb) := hb
  clear hRR hel hrow hb
  go_enter Tryz.func21, Tryz.ntmps21
  go_wp2_with fail
  generalize (w.alloc (.cells #[.int .i64 room, .slice av es.length capv] 35)) = W1 at *
  go_loopw [3] (fun i wr => ∃ k : Nat, k ≤ es.length ∧ i = .int .i64 k ∧ (∀ j (h : j < es.length), j < k → ItFine es j h) ∧ Below W1.heap.size W1 wr) (fun i _ => es.length - (intOf i).toNat)
  case atStart => exact ⟨0, Nat.zero_le _, rfl, fun j _ h => absurd h (by omega), Below.refl _ _⟩
  case round =>
    obtain ⟨k, hk, rfl, hall, hbe⟩ := hrel
    have HALL : Hid (type_of% hall) := hall
    clear hall
    have K0 := (hbe.cell (p := ⟨w.heap.size, 0, none⟩) hz1).trans k0
    have K1 := (hbe.cell (p := ⟨w.heap.size, 1, none⟩) hz1).trans k1
    by_cases hlt : k < es.length
    · obtain ⟨b, off, rfl, hbl, q0, q1⟩ := HEL.out k hlt
      have c0 := (hbe.cell (p := ⟨b, off + k * 3, none⟩) hbl).trans q0
      have c1 := (hbe.cell (p := ⟨b, off + k * 3 + 1, none⟩) hbl).trans q1
      have r0 : ∀ d os, (grow (redrawn wr d) os).cell? ⟨b, off + k * 3, none⟩ = _ := fun d os => cell_regrown c0 d os
      have r1 : ∀ d os, (grow (redrawn wr d) os).cell? ⟨b, off + k * 3 + 1, none⟩ = _ := fun d os => cell_regrown c1 d os
      have rs : ∀ d os, (grow (redrawn wr d) os).cell? ⟨w.heap.size, 1, none⟩ = _ := fun d os => cell_regrown K1 d os
      have hbk := it_bulk es k hlt
      have hB := HB.out
      have HND : Hid (∀ wx : World, Calls Tryz.prog 48 #[.string es[k].2.1] wx fun e w' => e = .returned (.string (keyB es[k].2.1)) ∧ Below wx.heap.size wx w') := fun wx => (specKey _ wx (by omega)).mono fun e w' h => ⟨h.1, h.2 ▸ Below.refl _ _⟩
      have hk0i : (0 : Int) ≤ (k : Int) := by omega
      have hk1i : (k : Int) < (es.length : Int) := by omega
      clear q0 q1 hbk hB
      by_cases hd : es[k].1 = keyB es[k].2.1
      · have hcmp := it_same hd
        have HNEW : Hid ((∀ i (hi : i < k), (es[i]'(by omega)).2.1 ≠ es[k].2.1) → ∀ j (h : j < es.length), j < k + 1 → ItFine es j h) := fun hne j hj hjk => by
          by_cases c : j = k
          · subst c
            exact ⟨hd, hne⟩
          · exact HALL.out j hj (by omega)
        have HBAD : Hid (∀ i (hi : i < k), (es[i]'(by omega)).2.1 = es[k].2.1 → RR = false) := fun i hi e => HNO.out fun h => (h.1 k hlt).2 i hi e
        generalize keyB es[k].2.1 = ky at *
        generalize es[k].1 = x at *
        clear hd HALL HNO
        go_wp2_with fail
        refine wp_region_quiet_below (by kernel_rfl) (by kernel_rfl) ?_
        repeat (go_big_quiet_step (exact Calls.regrown_of (HND.out _)))
        refine wpQuiet_nil ?_
        intro _ hw'
        obtain ⟨⟨dq, osq⟩, hw''⟩ := hw'
        subst hw''
        have D2 := hbe.trans ((below_regrown wr dq osq).mono hbe.size)
        clear r0 r1 rs
        generalize grow (redrawn wr dq) osq = w2 at *
        clear K0 K1 c0 c1 hbe
        go_wp2_with fail
        go_loopw [4] (fun i wm => ∃ m : Nat, m ≤ k ∧ i = .int .i64 m ∧ (∀ i (hi : i < m) (hk : i < k), (es[i]'(by omega)).2.1 ≠ es[k].2.1) ∧ Below W1.heap.size W1 wm) (fun i _ => k - (intOf i).toNat)
        case atStart => exact ⟨0, Nat.zero_le _, rfl, fun j h => absurd h (by omega), D2⟩
        case round =>
          obtain ⟨m, hm, rfl, hne, hbm⟩ := hrel
          have HNE : Hid (type_of% hne) := hne
          clear hne D2
          by_cases hlm : m < k
          · obtain ⟨b', off', e', _, p0, p1⟩ := HEL.out m (by omega)
            simp only [Option.some.injEq, Addr.mk.injEq, and_true] at e'
            obtain ⟨rfl, rfl⟩ := e'
            obtain ⟨b', off', e', _, _, q1⟩ := HEL.out k hlt
            simp only [Option.some.injEq, Addr.mk.injEq, and_true] at e'
            obtain ⟨rfl, rfl⟩ := e'
            have C1 := (hbm.cell (p := ⟨b, off + k * 3 + 1, none⟩) hbl).trans q1
            have P1 := (hbm.cell (p := ⟨b, off + m * 3 + 1, none⟩) hbl).trans p1
            have K1 := (hbm.cell (p := ⟨w.heap.size, 1, none⟩) hz1).trans k1
            have hm0i : (0 : Int) ≤ (m : Int) := by omega
            have hm1i : (m : Int) < (es.length : Int) := by omega
            by_cases hq : (es[m]'(by omega)).2.1 = es[k].2.1
            · have HR : Hid (RR = false) := HBAD.out m hlm hq
              have hcm := it_same hq
              clear hq HNE HBAD HNEW HEL HB HYES p0 p1 q1 k0 k1 HND
              generalize es[k].2.1 = y at *
              generalize (es[m]'(by omega)).2.1 = z at *
              go_wp2_with fail
              go_quiet (fail)
              go_wp2_with fail
              go_ret
              exact ⟨by rw [HR.out]; rfl, hB1.trans ((below_drewN hbm _).mono (by omega))⟩
            · have HNE2 : Hid (∀ i (hi : i < m + 1) (hk : i < k), (es[i]'(by omega)).2.1 ≠ es[k].2.1) := fun i hi hik => by
                by_cases c : i = m
                · subst c; exact hq
                · exact HNE.out i (by omega) hik
              have hcm := it_other hq
              clear hq HNE HBAD HNEW HEL HB HYES p0 p1 q1 k0 k1 HND
              generalize hyy : es[k].2.1 = y at C1 hcm
              generalize hzz : (es[m]'(by omega)).2.1 = z at P1 hcm
              have HY : Hid (type_of% hyy) := hyy
              clear hyy hzz
              go_wp2_with fail
              go_quiet (fail)
              go_wp2_with fail
              go_roundw
              case rel => exact ⟨m + 1, by omega, by go_num, fun i hi hik => by rw [← HY.out]; exact HNE2.out i hi hik, below_drewN hbm _⟩
              case measure => simp [intOf]; omega
          · have HA2 : Hid (type_of% (HNEW.out fun i hi => HNE.out i (by omega) hi)) := HNEW.out fun i hi => HNE.out i (by omega) hi
            clear HNE HBAD HNEW HEL HB HYES k0 k1 HND
            go_wp2_with fail
            go_roundw
            case rel => exact ⟨k + 1, by omega, by go_num, HA2.out, hbm⟩
            case measure => simp [intOf]; omega
      · have HR : Hid (RR = false) := HNO.out fun h => hd (h.1 k hlt).1
        have hcmp := it_other hd
        generalize keyB es[k].2.1 = ky at *
        generalize es[k].2.1 = y at *
        generalize es[k].1 = x at *
        clear hd HNO HYES HALL HEL HB
        go_wp2_with fail
        refine wp_region_quiet_below (by kernel_rfl) (by kernel_rfl) ?_
        repeat (go_big_quiet_step (exact Calls.regrown_of (HND.out _)))
        refine wpQuiet_nil ?_
        intro _ hw'
        obtain ⟨⟨dq, osq⟩, hw''⟩ := hw'
        subst hw''
        have D2 := hbe.trans ((below_regrown wr dq osq).mono hbe.size)
        clear r0 r1 rs
        generalize grow (redrawn wr dq) osq = w2 at *
        go_wp2_with fail
        go_ret
        exact ⟨by rw [HR.out]; rfl, hB1.trans (D2.mono (by omega))⟩
    · have hke : k = es.length := by omega
      have HIN := fun wx => specIn room 0 100 wx
      have HI : Hid (type_of% HIN) := HIN
      have HR : Hid (((decide (0 ≤ room) && decide (room ≤ 100)) && decide ((es.length : Int) ≤ room)) = RR) := by
        show _ = _
        by_cases h : StoreRight room es
        · rw [HYES.out h, decide_eq_true h.2.1, decide_eq_true h.2.2.1, decide_eq_true h.2.2.2]
          rfl
        · rw [HNO.out h]
          by_cases a : 0 ≤ room
          · by_cases b : room ≤ 100
            · by_cases c : (es.length : Int) ≤ room
              · exact absurd ⟨fun j hj => HALL.out j hj (by omega), a, b, c⟩ h
              · rw [decide_eq_false c, Bool.and_false]
            · rw [decide_eq_false b, Bool.and_false, Bool.false_and]
          · rw [decide_eq_false a, Bool.false_and, Bool.false_and]
      clear HNO HYES HALL HEL HB HIN
      cases hd : (decide (0 ≤ room) && decide (room ≤ 100)) with
      | true =>
        rw [hd] at HI HR
        go_wp2_with (go_at_call 20; refine (HI.out _).mono ?_; rintro e w2 ⟨rfl, rfl⟩)
        go_ret
        exact ⟨by rw [← HR.out]; rfl, hB1.trans (hbe.mono (by omega))⟩
      | false =>
        rw [hd] at HI HR
        go_wp2_with (go_at_call 20; refine (HI.out _).mono ?_; rintro e w2 ⟨rfl, rfl⟩)
        go_ret
        exact ⟨by rw [← HR.out]; rfl, hB1.trans (hbe.mono (by omega))⟩

end Go.Proofs.YtllbfbllkefjeaaGreatDoor
