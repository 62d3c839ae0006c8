/-
  Words, plainly: what a text's words are. No program here.
  The walks of impl.classOf, nameEnd, digitsEnd and noteEnd, where the table of classes holds them.
  The walk of impl.IsWord: whether a text is a word of the language.
  The walks of spec.l02Has and spec.IsWord: whether a text is one of a list.
-/
import Derived.Test.YtllbfbllkefjeaaGreatDoorRows
import Derived.WalkKit
import Derived.WalkSpells
import Derived.WalkLawsBesides
import Derived.Deep.QuietTactic
import Derived.BigQuiet
import Derived.Test.YtllbfbllkefjeaaGreatDoorTextsD
namespace Go.Proofs.YtllbfbllkefjeaaGreatDoor.Lx

def letterB (b : Nat) : Bool := decide ((97 ≤ b ∧ b ≤ 122) ∨ (65 ≤ b ∧ b ≤ 90))
def digitB (b : Nat) : Bool := decide (48 ≤ b ∧ b ≤ 57)
def alB (b : Nat) : Bool := letterB b || digitB b
def noteB (b : Nat) : Bool := decide (b ≠ 10)
def textB (b : Nat) : Bool := decide (32 ≤ b ∧ b ≤ 126 ∧ b ≠ 34 ∧ b ≠ 92)
def signB (b : Nat) : Bool := decide (b = 43 ∨ b = 61 ∨ b = 58 ∨ b = 44 ∨ b = 46 ∨ b = 124 ∨ b = 40 ∨ b = 41 ∨ b = 123 ∨ b = 125)
/-- the class of a byte -/
def cls (b : Nat) : Nat :=
  if letterB b then 4 else if digitB b then 5 else if b = 32 then 1 else if b = 10 then 2 else if b = 35 then 3 else if b = 34 then 6 else if b = 45 ∨ signB b then 7 else 0

/-- the byte at a place -/
def byt (s : ByteArray) (k : Nat) : Nat := if h : k < s.size then s[k].toNat else 0
theorem byt_eq (s : ByteArray) (k : Nat) (h : k < s.size) : s[k].toNat = byt s k := by unfold byt; rw [dif_pos h]
theorem byt_lt (s : ByteArray) (k : Nat) : byt s k < 256 := by
  unfold byt
  split
  · exact UInt8.toNat_lt _
  · omega

/-- the first place from k on whose byte is not such -/
def endP (p : Nat → Bool) (s : ByteArray) (k : Nat) : Nat := if k < s.size then (if p (byt s k) then endP p s (k + 1) else k) else k
  termination_by s.size - k

theorem endP_go {p : Nat → Bool} {s : ByteArray} {k : Nat} (h : k < s.size) (hp : p (byt s k) = true) : endP p s k = endP p s (k + 1) := by
  rw [endP, if_pos h, if_pos hp]
theorem endP_no {p : Nat → Bool} {s : ByteArray} {k : Nat} (hp : p (byt s k) = false) : endP p s k = k := by
  rw [endP]
  split
  · rw [if_neg (by simp [hp])]
  · rfl
theorem endP_out {p : Nat → Bool} {s : ByteArray} {k : Nat} (h : s.size ≤ k) : endP p s k = k := by
  rw [endP, if_neg (by omega)]
theorem endP_ge (p : Nat → Bool) (s : ByteArray) (k : Nat) : k ≤ endP p s k := by
  fun_induction endP p s k <;> omega
theorem endP_le (p : Nat → Bool) (s : ByteArray) (k : Nat) (h : k ≤ s.size) : endP p s k ≤ s.size := by
  fun_induction endP p s k <;> omega
theorem endP_in (p : Nat → Bool) (s : ByteArray) (k j : Nat) (h1 : k ≤ j) (h2 : j < endP p s k) : p (byt s j) = true := by
  fun_induction endP p s k with
  | case1 k h hp ih =>
    by_cases e : j = k
    · subst e; exact hp
    · exact ih (by omega) h2
  | case2 => omega
  | case3 => omega
theorem endP_at (p : Nat → Bool) (s : ByteArray) (k : Nat) : s.size ≤ endP p s k ∨ p (byt s (endP p s k)) = false := by
  fun_induction endP p s k with
  | case1 k h hp ih => exact ih
  | case2 k h hp => right; simpa using hp
  | case3 k h => left; omega

/-- the words of the language -/
def wordsL : List ByteArray := [⟨#[105, 109, 112, 111, 114, 116]⟩, ⟨#[116, 121, 112, 101]⟩, ⟨#[108, 101, 116]⟩, ⟨#[102, 110]⟩, ⟨#[105, 102]⟩, ⟨#[116, 104, 101, 110]⟩, ⟨#[101, 108, 115, 101]⟩, ⟨#[105, 110]⟩, ⟨#[116, 114, 117, 101]⟩, ⟨#[102, 97, 108, 115, 101]⟩, ⟨#[105, 110, 116]⟩, ⟨#[116, 101, 120, 116]⟩, ⟨#[98, 111, 111, 108]⟩, ⟨#[97, 110, 121]⟩]
def isWordP (t : ByteArray) : Bool := wordsL.any fun x => decide (x.data = t.data)
theorem isWordP_iff (t : ByteArray) : isWordP t = true ↔ t ∈ wordsL := by
  unfold isWordP
  rw [List.any_eq_true]
  constructor
  · rintro ⟨x, hx, he⟩
    have e : x = t := by
      cases x; cases t
      simpa using he
    exact e ▸ hx
  · intro h
    exact ⟨t, h, by simp⟩
def nameOkP (t : ByteArray) : Bool := decide (1 ≤ t.size ∧ t.size ≤ 12) && (letterB (byt t 0) && decide (endP alB t 0 = t.size)) && !isWordP t

structure Tok where
  kind : Nat
  text : ByteArray
  n : Nat
  line : Nat

/-- the number of so many digits from a place on -/
def numP (s : ByteArray) (i : Nat) : Nat → Nat
  | 0 => 0
  | k + 1 => 10 * numP s i k + (byt s (i + k) - 48)

def twoB (s : ByteArray) (i : Nat) : Bool := decide (i + 1 < s.size ∧ ((byt s i = 45 ∧ byt s (i + 1) = 62) ∨ (byt s i = 61 ∧ byt s (i + 1) = 61)))

/-- the word that begins at a place, and the place behind it -/
def tokP (s : ByteArray) (i line : Nat) : Option (Tok × Nat) :=
  if letterB (byt s i) then
    if 12 < endP alB s i - i then none
    else some (⟨if isWordP (s.extract i (endP alB s i)) then 4 else 0, s.extract i (endP alB s i), 0, line⟩, endP alB s i)
  else if digitB (byt s i) then
    if 9 < endP digitB s i - i then none
    else some (⟨1, ByteArray.empty, numP s i (endP digitB s i - i), line⟩, endP digitB s i)
  else if byt s i = 34 then
    if endP textB s (i + 1) < s.size ∧ byt s (endP textB s (i + 1)) = 34 then some (⟨2, s.extract (i + 1) (endP textB s (i + 1)), 0, line⟩, endP textB s (i + 1) + 1)
    else none
  else if twoB s i then some (⟨3, s.extract i (i + 2), 0, line⟩, i + 2)
  else if signB (byt s i) then some (⟨3, s.extract i (i + 1), 0, line⟩, i + 1)
  else none

theorem tokP_range {s : ByteArray} {i line : Nat} {t : Tok} {k : Nat} (h : tokP s i line = some (t, k)) (hi : i < s.size) : i < k ∧ k ≤ s.size ∧ t.line = line := by
  unfold tokP at h
  have g1 := endP_ge alB s (i + 1)
  have g2 := endP_ge digitB s (i + 1)
  have g3 := endP_ge textB s (i + 1)
  have l1 := endP_le alB s i (by omega)
  have l2 := endP_le digitB s i (by omega)
  split at h
  · rename_i hl
    have : endP alB s i = endP alB s (i + 1) := endP_go hi (by simp [alB, hl])
    split at h
    · simp at h
    · simp only [Option.some.injEq, Prod.mk.injEq] at h
      obtain ⟨rfl, rfl⟩ := h
      exact ⟨by omega, l1, rfl⟩
  · split at h
    · rename_i hl
      have : endP digitB s i = endP digitB s (i + 1) := endP_go hi hl
      split at h
      · simp at h
      · simp only [Option.some.injEq, Prod.mk.injEq] at h
        obtain ⟨rfl, rfl⟩ := h
        exact ⟨by omega, l2, rfl⟩
    · split at h
      · split at h
        · simp only [Option.some.injEq, Prod.mk.injEq] at h
          obtain ⟨rfl, rfl⟩ := h
          exact ⟨by omega, by omega, rfl⟩
        · simp at h
      · split at h
        · rename_i ht
          simp only [Option.some.injEq, Prod.mk.injEq] at h
          obtain ⟨rfl, rfl⟩ := h
          simp only [twoB, decide_eq_true_eq] at ht
          exact ⟨by omega, by omega, rfl⟩
        · split at h
          · simp only [Option.some.injEq, Prod.mk.injEq] at h
            obtain ⟨rfl, rfl⟩ := h
            exact ⟨by omega, by omega, rfl⟩
          · simp at h

/-- the words from a place on, or the line where there is none -/
def lexP (s : ByteArray) (i line : Nat) : Except Nat (List Tok) :=
  if _h : i < s.size then
    if byt s i = 32 then lexP s (i + 1) line
    else if byt s i = 10 then lexP s (i + 1) (line + 1)
    else if byt s i = 35 then
      if _h2 : i < endP noteB s i then lexP s (endP noteB s i) line else .error 0
    else match tokP s i line with
      | none => .error line
      | some (t, k) => if _h3 : i < k then (lexP s k line).map (t :: ·) else .error 0
  else .ok []
  termination_by s.size - i

theorem lexP_out {s : ByteArray} {i line : Nat} (h : s.size ≤ i) : lexP s i line = .ok [] := by
  rw [lexP, dif_neg (by omega)]
theorem lexP_blank {s : ByteArray} {i line : Nat} (h : i < s.size) (hb : byt s i = 32) : lexP s i line = lexP s (i + 1) line := by
  rw [lexP, dif_pos h, if_pos hb]
theorem lexP_newline {s : ByteArray} {i line : Nat} (h : i < s.size) (hb : byt s i = 10) : lexP s i line = lexP s (i + 1) (line + 1) := by
  rw [lexP, dif_pos h, if_neg (by omega), if_pos hb]
theorem noteEnd_gt {s : ByteArray} {i : Nat} (h : i < s.size) (hb : byt s i = 35) : i < endP noteB s i := by
  rw [endP_go h (by simp [noteB, hb])]
  have := endP_ge noteB s (i + 1)
  omega
theorem lexP_note {s : ByteArray} {i line : Nat} (h : i < s.size) (hb : byt s i = 35) : lexP s i line = lexP s (endP noteB s i) line := by
  rw [lexP, dif_pos h, if_neg (by omega), if_neg (by omega), if_pos hb, dif_pos (noteEnd_gt h hb)]
theorem lexP_none {s : ByteArray} {i line : Nat} (h : i < s.size) (h1 : byt s i ≠ 32) (h2 : byt s i ≠ 10) (h3 : byt s i ≠ 35) (ht : tokP s i line = none) : lexP s i line = .error line := by
  rw [lexP, dif_pos h, if_neg h1, if_neg h2, if_neg h3, ht]
theorem lexP_some {s : ByteArray} {i line : Nat} {t : Tok} {k : Nat} (h : i < s.size) (h1 : byt s i ≠ 32) (h2 : byt s i ≠ 10) (h3 : byt s i ≠ 35) (ht : tokP s i line = some (t, k)) : lexP s i line = (lexP s k line).map (t :: ·) := by
  rw [lexP, dif_pos h, if_neg h1, if_neg h2, if_neg h3, ht]
  exact dif_pos (tokP_range ht h).1

/-- what Lex answers -/
def lexA (s : ByteArray) : List Tok × Nat :=
  if 3000 < s.size then ([], 1) else match lexP s 0 1 with
    | .ok l => (l, 0)
    | .error n => ([], n)

/-- what is still to be read, behind what has been read -/
def Rest (s : ByteArray) (acc : List Tok) (i line : Nat) : Prop := lexP s 0 1 = (lexP s i line).map (acc ++ ·)
theorem Rest.start (s : ByteArray) : Rest s [] 0 1 := by
  unfold Rest
  cases lexP s 0 1 <;> simp [Except.map]
theorem Rest.same {s : ByteArray} {acc : List Tok} {i line i' line' : Nat} (h : Rest s acc i line) (e : lexP s i line = lexP s i' line') : Rest s acc i' line' := by
  unfold Rest at h ⊢
  rw [h, e]
theorem Rest.go {s : ByteArray} {acc : List Tok} {i line : Nat} {t : Tok} {k : Nat} (h : Rest s acc i line) (e : lexP s i line = (lexP s k line).map (t :: ·)) : Rest s (acc ++ [t]) k line := by
  unfold Rest at h ⊢
  rw [h, e]
  cases lexP s k line <;> simp [Except.map]
theorem Rest.no {s : ByteArray} {acc : List Tok} {i line n : Nat} (h : Rest s acc i line) (e : lexP s i line = .error n) (hs : s.size ≤ 3000) : lexA s = ([], n) := by
  unfold Rest at h
  rw [e] at h
  unfold lexA
  rw [if_neg (by omega), h]
  rfl
theorem Rest.done {s : ByteArray} {acc : List Tok} {i line : Nat} (h : Rest s acc i line) (e : lexP s i line = .ok []) (hs : s.size ≤ 3000) : lexA s = (acc, 0) := by
  unfold Rest at h
  rw [e] at h
  unfold lexA
  rw [if_neg (by omega), h]
  simp [Except.map]

end Go.Proofs.YtllbfbllkefjeaaGreatDoor.Lx

namespace Go.Proofs.YtllbfbllkefjeaaGreatDoor
open Go.RowKit

/-- the table of classes holds the classes -/
def ClsIs (w : World) : Prop := ∀ i, i < 128 → w.cell? ⟨1, i, none⟩ = some (.int .u8 (Lx.cls i : Nat))
theorem ClsIs.lt {w : World} (h : ClsIs w) : 1 < w.heap.size := World.block_lt_of_cell? w ⟨1, 0, none⟩ (h 0 (by decide))
theorem ClsIs.below {w w' : World} {B : Nat} (h : ClsIs w) (hb : Below B w w') (hB : 1 < B) : ClsIs w' := fun i hi =>
  (hb.cell (p := ⟨1, i, none⟩) hB).trans (h i hi)

theorem cls_big (b : Nat) (h : 128 ≤ b) : Lx.cls b = 0 := by
  unfold Lx.cls
  rw [if_neg (by simp [Lx.letterB]; omega), if_neg (by simp [Lx.digitB]; omega), if_neg (by omega), if_neg (by omega), if_neg (by omega), if_neg (by omega), if_neg (by simp [Lx.signB]; omega)]
theorem cls_le (b : Nat) : Lx.cls b ≤ 7 := by
  unfold Lx.cls
  repeat' split
  all_goals omega

set_option maxHeartbeats 400000 in
theorem implClassOf (b : Nat) (w : World) (hb : b < 256) (hc : ClsIs w) :
    Calls Tryz.prog 97 #[.int .u8 b] w fun e w' => e = .returned (.int .u8 (Lx.cls b : Nat)) ∧ w = w' := by
  by_cases h : 128 ≤ b
  · rw [cls_big b h]
    clear hc
    have h' : (128 : Int) ≤ b := by omega
    go_enter Tryz.func97, Tryz.ntmps97
    go_wp2
    go_ret
    exact ⟨rfl, rfl⟩
  · have h' : ¬ (128 : Int) ≤ b := by omega
    have hcell := hc b (by omega)
    generalize Lx.cls b = c at *
    clear hc
    go_enter Tryz.func97, Tryz.ntmps97
    go_wp2
    go_ret
    exact ⟨rfl, rfl⟩

theorem cls4 (b : Nat) : Lx.cls b = 4 ↔ Lx.letterB b = true := by
  unfold Lx.cls
  constructor
  · intro h
    by_cases hl : Lx.letterB b = true
    · exact hl
    · rw [if_neg hl] at h
      revert h
      repeat' split
      all_goals omega
  · intro h; rw [if_pos h]
theorem digit_no_letter (b : Nat) (h : Lx.digitB b = true) : Lx.letterB b = false := by
  simp [Lx.digitB, Lx.letterB] at h ⊢
  omega
theorem cls5 (b : Nat) : Lx.cls b = 5 ↔ Lx.digitB b = true := by
  unfold Lx.cls
  constructor
  · intro h
    by_cases hl : Lx.digitB b = true
    · exact hl
    · rw [if_neg hl] at h
      revert h
      repeat' split
      all_goals omega
  · intro h; rw [if_neg (by simp [digit_no_letter b h]), if_pos h]
theorem alB_cls (b : Nat) : Lx.alB b = true ↔ (Lx.cls b = 4 ∨ Lx.cls b = 5) := by
  rw [cls4, cls5]
  simp [Lx.alB]

set_option maxHeartbeats 400000 in
theorem implNameEnd (s : ByteArray) (i : Nat) (w : World) (hs : s.size ≤ 140737488355328) (hi : i ≤ s.size) (hc : ClsIs w) :
    Calls Tryz.prog 98 #[.string s, .int .i64 i] w fun e w' => e = .returned (.int .i64 (Lx.endP Lx.alB s i : Nat)) ∧ w = w' := by
  have HC : Hid (ClsIs w) := hc
  clear hc
  go_enter Tryz.func98, Tryz.ntmps98
  go_wp2
  go_loop [1] (fun a => ∃ k : Nat, k ≤ s.size ∧ a = .int .i64 k ∧ Lx.endP Lx.alB s i = Lx.endP Lx.alB s k) (fun a => s.size - (intOf a).toNat)
  case atStart => exact ⟨i, hi, rfl, rfl⟩
  case round =>
    obtain ⟨k, hk, rfl, he⟩ := hrel
    have HE : Hid (Lx.endP Lx.alB s i = Lx.endP Lx.alB s k) := he
    clear he
    by_cases hlt : k < s.size
    · have hb := Lx.byt_lt s k
      have hbe := Lx.byt_eq s k hlt
      have HK : Hid (∀ wx : World, wx = w → Calls Tryz.prog 97 #[.int .u8 (Lx.byt s k : Nat)] wx fun e w' => e = .returned (.int .u8 (Lx.cls (Lx.byt s k) : Nat)) ∧ wx = w') := fun wx hx => implClassOf _ wx hb (hx ▸ HC.out)
      by_cases ha : Lx.alB (Lx.byt s k) = true
      · have HG : Hid (Lx.endP Lx.alB s k = Lx.endP Lx.alB s (k + 1)) := Lx.endP_go hlt ha
        by_cases h4 : Lx.cls (Lx.byt s k) = 4
        · rw [h4] at HK
          go_wp2_with (go_at_call 97; refine (HK.out _ rfl).mono ?_; rintro e w1 ⟨rfl, rfl⟩)
          go_round
          case rel => exact ⟨k + 1, by omega, by go_num, by rw [HE.out, HG.out]⟩
          case measure => simp [intOf]; omega
        · have h5 : Lx.cls (Lx.byt s k) = 5 := by have := (alB_cls _).1 ha; omega
          rw [h5] at HK
          go_wp2_with (go_at_call 97; refine (HK.out _ rfl).mono ?_; rintro e w1 ⟨rfl, rfl⟩)
          go_round
          case rel => exact ⟨k + 1, by omega, by go_num, by rw [HE.out, HG.out]⟩
          case measure => simp [intOf]; omega
      · have HG : Hid (Lx.endP Lx.alB s k = k) := Lx.endP_no (by simpa using ha)
        have h45 := mt (alB_cls _).2 ha
        have h4 : ((Lx.cls (Lx.byt s k) : Int) == 4) = false := by simp; omega
        have h5 : ((Lx.cls (Lx.byt s k) : Int) == 5) = false := by simp; omega
        clear h45 ha
        generalize Lx.cls (Lx.byt s k) = c at *
        go_wp2_with (go_at_call 97; refine (HK.out _ rfl).mono ?_; rintro e w1 ⟨rfl, rfl⟩)
        go_ret
        exact ⟨by rw [HE.out, HG.out]; rfl, rfl⟩
    · have HG : Hid (Lx.endP Lx.alB s k = k) := Lx.endP_out (by omega)
      go_wp2
      go_ret
      exact ⟨by rw [HE.out, HG.out]; rfl, rfl⟩

end Go.Proofs.YtllbfbllkefjeaaGreatDoor

namespace Go.Proofs.YtllbfbllkefjeaaGreatDoor
open Go.RowKit

theorem lit_ne {s : ByteArray} {l : List UInt8} (h : ¬ s = ⟨l.toArray⟩) : (s.toList == l) = false := by
  rw [ByteArray.toList_eq]
  simp only [beq_eq_false_iff_ne, ne_eq]
  intro e
  exact h (by cases s; simp at e; simp [← e])
theorem lit_eq {s : ByteArray} {l : List UInt8} (h : s = ⟨l.toArray⟩) : (s.toList == l) = true := by
  rw [ByteArray.toList_eq, h]
  simp

set_option maxHeartbeats 800000 in
theorem implIsWord (s : ByteArray) (w : World) :
    Calls Tryz.prog 96 #[.string s] w fun e w' => e = .returned (.bool (Lx.isWordP s)) ∧ w = w' := by
  by_cases h : s ∈ Lx.wordsL
  · rw [(Lx.isWordP_iff s).2 h]
    unfold Lx.wordsL at h
    simp only [List.mem_cons, List.not_mem_nil, or_false] at h
    rcases h with rfl | rfl | rfl | rfl | rfl | rfl | rfl | rfl | rfl | rfl | rfl | rfl | rfl | rfl
    all_goals
      go_enter Tryz.func96, Tryz.ntmps96
      go_wp2
      go_ret
      exact ⟨rfl, rfl⟩
  · have hf : Lx.isWordP s = false := by
      cases hh : Lx.isWordP s
      · rfl
      · exact absurd ((Lx.isWordP_iff s).1 hh) h
    rw [hf]
    unfold Lx.wordsL at h
    simp only [List.mem_cons, List.not_mem_nil, or_false, not_or] at h
    obtain ⟨n1, n2, n3, n4, n5, n6, n7, n8, n9, n10, n11, n12, n13, n14⟩ := h
    have h1 := lit_ne n1
    have h2 := lit_ne n2
    have h3 := lit_ne n3
    have h4 := lit_ne n4
    have h5 := lit_ne n5
    have h6 := lit_ne n6
    have h7 := lit_ne n7
    have h8 := lit_ne n8
    have h9 := lit_ne n9
    have h10 := lit_ne n10
    have h11 := lit_ne n11
    have h12 := lit_ne n12
    have h13 := lit_ne n13
    have h14 := lit_ne n14
    clear n1 n2 n3 n4 n5 n6 n7 n8 n9 n10 n11 n12 n13 n14
    go_enter Tryz.func96, Tryz.ntmps96
    go_wp2
    go_ret
    exact ⟨rfl, rfl⟩

end Go.Proofs.YtllbfbllkefjeaaGreatDoor

namespace Go.Proofs.YtllbfbllkefjeaaGreatDoor
open Go.RowKit

def hasP (ts : List ByteArray) (s : ByteArray) : Bool := ts.any fun x => decide (x.data = s.data)
theorem hasP_at {ts : List ByteArray} {s : ByteArray} {k : Nat} (h : k < ts.length) (e : ts[k] = s) : hasP ts s = true := by
  unfold hasP
  rw [List.any_eq_true]
  exact ⟨ts[k], List.getElem_mem h, by simp [e]⟩
theorem hasP_none {ts : List ByteArray} {s : ByteArray} (h : ∀ k (hk : k < ts.length), ¬ ts[k] = s) : hasP ts s = false := by
  unfold hasP
  rw [List.any_eq_false]
  intro x hx
  obtain ⟨k, hk, rfl⟩ := List.getElem_of_mem hx
  have := h k hk
  intro e
  apply this
  have e2 : ts[k].data = s.data := by simpa using e
  generalize ts[k] = a at *
  cases a; cases s; simp at e2; rw [e2]
theorem list_differ {a b : ByteArray} (h : ¬ a = b) : (a.toList == b.toList) = false := by
  rw [ByteArray.toList_eq, ByteArray.toList_eq]
  simp only [beq_eq_false_iff_ne, ne_eq]
  intro e
  have h2 : a.data = b.data := Array.toList_inj.1 e
  exact h (by cases a; cases b; simp at h2; rw [h2])

set_option maxHeartbeats 400000 in
theorem specHas (v : Value) (ts : List ByteArray) (s : ByteArray) (w : World) (hT : Texts w v ts) (hl : ts.length ≤ 1048576) :
    Calls Tryz.prog 95 #[v, .string s] w fun e w' => e = .returned (.bool (hasP ts s)) ∧ w = w' := by
  obtain ⟨a, cap, rfl, hc⟩ : ∃ a cap, v = .slice a ts.length cap ∧ ∀ j (h : j < ts.length), ∃ b off, a = some ⟨b, off, none⟩ ∧ w.cell? ⟨b, off + j, none⟩ = some (.string ts[j]) := by
    rcases hT with ⟨h, a, cap, e⟩ | ⟨b, off, cap, e, hc⟩
    · subst h; exact ⟨a, cap, e, fun j hj => absurd hj (by simp)⟩
    · exact ⟨_, cap, e, fun j hj => ⟨b, off, rfl, hc j hj⟩⟩
  have HC : Hid (∀ j (h : j < ts.length), ∃ b off, a = some ⟨b, off, none⟩ ∧ w.cell? ⟨b, off + j, none⟩ = some (.string ts[j])) := hc
  clear hT hc
  go_enter Tryz.func95, Tryz.ntmps95
  go_wp2
  go_loop [5] (fun i => ∃ k : Nat, k ≤ ts.length ∧ i = .int .i64 k ∧ ∀ j (hj : j < ts.length), j < k → ¬ ts[j] = s) (fun i => ts.length - (intOf i).toNat)
  case atStart => exact ⟨0, Nat.zero_le _, rfl, fun j _ h => absurd h (by omega)⟩
  case round =>
    obtain ⟨k, hk, rfl, hno⟩ := hrel
    have HN : Hid (∀ j (hj : j < ts.length), j < k → ¬ ts[j] = s) := hno
    clear hno
    by_cases hlt : k < ts.length
    · obtain ⟨b, off, rfl, hcell⟩ := HC.out k hlt
      by_cases he : ts[k] = s
      · have HY : Hid (hasP ts s = true) := hasP_at hlt he
        rw [he] at hcell
        clear he HC
        go_wp2
        go_ret
        exact ⟨by rw [HY.out]; rfl, rfl⟩
      · have hne := list_differ he
        have HN2 : Hid (∀ j (hj : j < ts.length), j < k + 1 → ¬ ts[j] = s) := fun j hj h => by
          by_cases e : j = k
          · subst e; exact he
          · exact HN.out j hj (by omega)
        clear he
        generalize ts[k] = p at *
        go_wp2
        go_round
        case rel => exact ⟨k + 1, by omega, by go_num, HN2.out⟩
        case measure => simp [intOf]; omega
    · have HY : Hid (hasP ts s = false) := hasP_none fun j hj => HN.out j hj (by omega)
      go_wp2
      go_ret
      exact ⟨by rw [HY.out]; rfl, rfl⟩

theorem hasP_words (s : ByteArray) : hasP Lx.wordsL s = Lx.isWordP s := rfl

set_option maxHeartbeats 400000 in
theorem specIsWord (s : ByteArray) (w : World) :
    Calls Tryz.prog 71 #[.string s] w fun e w' => e = .returned (.bool (Lx.isWordP s)) ∧ Below w.heap.size w w' := by
  have HH : Hid (Calls Tryz.prog 95 #[.slice (some ⟨w.heap.size, 0, none⟩) 14 14, .string s] (w.alloc (.cells (strV Lx.wordsL).toArray 9)) fun e w' => e = .returned (.bool (Lx.isWordP s)) ∧ (w.alloc (.cells (strV Lx.wordsL).toArray 9)) = w') := by
    have hT : Texts (w.alloc (.cells (strV Lx.wordsL).toArray 9)) (.slice (some ⟨w.heap.size, 0, none⟩) 14 14) Lx.wordsL :=
      Texts.own (B := w.heap.size) (World.ownsRow_lit (base := w.heap.size) (e := 9) (size := 1) w (strV Lx.wordsL).toArray 14 (Nat.le_refl _) (by decide) rfl)
    exact specHas _ _ _ _ hT (by decide)
  simp only [strV, Lx.wordsL, List.map_cons, List.map_nil] at HH
  generalize Lx.isWordP s = r at *
  go_enter Tryz.func71, Tryz.ntmps71
  go_wp2_with (go_at_call 95; refine HH.out.mono ?_; rintro e w1 ⟨rfl, rfl⟩)
  go_ret
  exact ⟨rfl, (Below.refl _ _).alloc (Nat.le_refl _) _⟩

end Go.Proofs.YtllbfbllkefjeaaGreatDoor
