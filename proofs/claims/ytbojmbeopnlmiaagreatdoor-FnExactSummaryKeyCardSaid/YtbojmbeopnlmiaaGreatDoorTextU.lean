/-
 The walk of spec.l03Text at a record; and spec.l03Text at every type.
-/
import Derived.Test.YtbojmbeopnlmiaaGreatDoorEqTy
import Derived.Lib.QuietBelow
namespace Go.Proofs.YtbojmbeopnlmiaaGreatDoor
open Go.RowKit Go.Sort
theorem cat3 (o x c t : ByteArray) : o ++ x ++ c ++ t = o ++ (x ++ c ++ t) := by
 apply ByteArray.ext
 simp
set_option maxHeartbeats 1600000 in
set_option maxRecDepth 100000 in
theorem specTextRec (n : Nat) (ih : TextAt n) (nm : ByteArray) (nms : List ByteArray) (ks : List Ty) (vn vk : Value) (w : World) (hT : Texts w vn nms) (hrow : RowAt w (TyAt w n) vk ks) (hbk : Ty.textsBulk nms + rowBulk n ks ≤ 1048576) (hf : ∀ k ∈ ks, Ty.fine n k) (hnk : nms.length = ks.length) :
  Calls Tryz.prog 64 #[.agg #[.int .i64 5, .string nm, vn, vk]] w fun e w' => e = .returned (.string (⟨#[123]⟩ ++ joinP ⟨#[44, 32]⟩ (fieldsP (Ty.text n) nms ks) ++ ⟨#[125]⟩)) ∧ Below w.heap.size w w' := by
 obtain ⟨av, capv, rfl, hel⟩ := rowOpen hrow
 obtain ⟨an, capn, rfl, hnc⟩ : ∃ a cap, vn = .slice a nms.length cap ∧ ∀ j (h : j < nms.length), ∃ b off, a = some ⟨b, off, none⟩ ∧ w.cell? ⟨b, off + j, none⟩ = some (.string nms[j]) := by
  rcases hT with ⟨h, a, cap, e⟩ | ⟨b, off, cap, e, hc⟩
  ·subst h; exact ⟨a, cap, e, fun j hj => absurd hj (by simp)⟩
  ·exact ⟨_, cap, e, fun j hj => ⟨b, off, rfl, hc j hj⟩⟩
 have hlen : ks.length ≤ 1048576 := by unfold rowBulk at hbk; omega
 obtain ⟨F, hF⟩ : ∃ F, F = fieldsP (Ty.text n) nms ks := ⟨_, rfl⟩
 have hFl : F.length = ks.length := by rw [hF]; unfold fieldsP; rw [List.length_zipWith]; omega
 have hsum : sizes F + 2 * ks.length ≤ 100000000 := by
  have a1 := kids_fields (n := n) nms ks
  have a2 := kids_text (text_size n) ks
  rw [hF]
  unfold rowBulk at hbk
  omega
 have HEL : Hid (type_of% hel) := hel
 have HNC : Hid (type_of% hnc) := hnc
 have HTX : Hid (∀ k (hk : k < ks.length) (cs : List Value) (wx : World), TyAt wx n cs ks[k] → Calls Tryz.prog 64 #[.agg cs.toArray] wx fun e w' => e = .returned (.string (Ty.text n ks[k])) ∧ Below wx.heap.size wx w') := fun k hk cs wx h => ih cs ks[k] wx h (hf _ (List.getElem_mem hk)) (by have := kid_bulk n ks k hk; unfold rowBulk at hbk; omega)
 have HFK : Hid (∀ k (hk : k < ks.length) (hk' : k < F.length) (hk2 : k < nms.length), F[k] = nms[k] ++ ⟨#[58, 32]⟩ ++ Ty.text n ks[k]) := fun k hk hk' hk2 => by subst hF; simp [fieldsP]
 have HJ : Hid (∀ k (hk : k < F.length), (0 < k → joinP ⟨#[44, 32]⟩ (F.take (k + 1)) = joinP ⟨#[44, 32]⟩ (F.take k) ++ ⟨#[44, 32]⟩ ++ F[k]) ∧ (k = 0 → joinP ⟨#[44, 32]⟩ (F.take (k + 1)) = F[k]) ∧ F[k].size ≤ 100000000) := fun k hk => by
  refine ⟨fun h => joinP_more _ F k hk h, fun h => by subst h; exact joinP_one _ F hk, ?_⟩
  have a2 : F[k].size ≤ sizes F := sizes_mem F _ (List.getElem_mem hk)
  omega
 have HS : Hid (∀ k, (joinP ⟨#[44, 32]⟩ (F.take k)).size ≤ 100000000) := fun k => by
  have a1 := joinP_take ⟨#[44, 32]⟩ F k
  have e1 : (⟨#[44, 32]⟩ : ByteArray).size = 2 := rfl
  rw [e1, hFl] at a1
  omega
 rw [← hF]
 have HBX : Hid (∀ wx : World, Below (w.heap.size + 1) (w.alloc (.cells #[.int .i64 5, .string nm, .slice an nms.length capn, .slice av ks.length capv] 30)) wx → wx.cell? ⟨w.heap.size, 2, none⟩ = some (.slice an nms.length capn) ∧ wx.cell? ⟨w.heap.size, 3, none⟩ = some (.slice av ks.length capv) ∧ Below w.heap.size w wx ∧ w.heap.size + 1 ≤ wx.heap.size) := fun wx hx => by
  obtain ⟨_, b2, b3, b4, b5⟩ := boxed hx
  exact ⟨b2, b3, b4, b5⟩
 have HNK : Hid (nms.length = ks.length) := hnk
 have hnl : nms.length ≤ 1048576 := by omega
 clear hF hsum hrow hel ih hf hbk hT hnc hnk
 go_enter Tryz.func64, Tryz.ntmps64
 go_wp2_with fail
 go_loopw [3, 4] (fun o i wr => ∃ k : Nat, k ≤ ks.length ∧ i = .int .i64 k ∧ o = .string (joinP ⟨#[44, 32]⟩ (F.take k)) ∧ Below (w.heap.size + 1) (w.alloc (.cells #[.int .i64 5, .string nm, .slice an nms.length capn, .slice av ks.length capv] 30)) wr) (fun _ i _ => ks.length - (intOf i).toNat)
 case atStart => exact ⟨0, Nat.zero_le _, rfl, rfl, Below.refl _ _⟩
 case round =>
  obtain ⟨k, hk, rfl, rfl, D⟩ := hrel
  obtain ⟨b2, b3, hbw, hz⟩ := HBX.out wr D
  by_cases hlt : k < ks.length
  ·obtain ⟨b, off, x0, x1, x2, x3, rfl, hba, hta, a0, a1, a2, a3⟩ := HEL.out k hlt
   obtain ⟨nb, no, rfl, n0⟩ := HNC.out k (by have := HNK.out; omega)
   have hnb : nb < w.heap.size := World.block_lt_of_cell? w ⟨nb, no + k, none⟩ n0
   have A0 := (hbw.cell (p := ⟨b, off + k * 4, none⟩) hba).trans a0
   have A1 := (hbw.cell (p := ⟨b, off + k * 4 + 1, none⟩) hba).trans a1
   have A2 := (hbw.cell (p := ⟨b, off + k * 4 + 2, none⟩) hba).trans a2
   have A3 := (hbw.cell (p := ⟨b, off + k * 4 + 3, none⟩) hba).trans a3
   have N0 := (hbw.cell (p := ⟨nb, no + k, none⟩) hnb).trans n0
   have HC : Hid (∀ wx : World, Below wr.heap.size wr wx → Calls Tryz.prog 64 #[.agg #[x0, x1, x2, x3]] wx fun e w' => e = .returned (.string (Ty.text n ks[k])) ∧ Below wx.heap.size wx w') := fun wx hx => HTX.out k hlt [x0, x1, x2, x3] wx ((hta.below hbw).below hx)
   obtain ⟨j1, j2, j3⟩ := HJ.out k (by omega)
   rw [HFK.out k hlt (by omega) (by have := HNK.out; omega)] at j1 j2 j3
   have hO := HS.out k
   have hO2 := HS.out (k + 1)
   have j4 : (nms[k]'(by have := HNK.out; omega)).size + 2 + (Ty.text n ks[k]).size ≤ 100000000 := by
    simp only [ByteArray.size_append] at j3
    exact j3
   have hk0i : (0 : Int) ≤ (k : Int) := by omega
   have hk1i : (k : Int) < (ks.length : Int) := by omega
   have hk2i : (k : Int) < (nms.length : Int) := by have := HNK.out; omega
   clear a0 a1 a2 a3 hta HEL HTX HNC HFK HJ HS j3 n0
   generalize nms[k]'(by have := HNK.out; omega) = X at *
   generalize Ty.text n ks[k] = R at *
   have q2 : ∀ d os, (grow (redrawn wr d) os).cell? ⟨w.heap.size, 2, none⟩ = _ := fun d os => cell_regrown b2 d os
   have q3 : ∀ d os, (grow (redrawn wr d) os).cell? ⟨w.heap.size, 3, none⟩ = _ := fun d os => cell_regrown b3 d os
   have qN : ∀ d os, (grow (redrawn wr d) os).cell? ⟨nb, no + k, none⟩ = _ := fun d os => cell_regrown N0 d os
   have qA0 : ∀ d os, (grow (redrawn wr d) os).cell? ⟨b, off + k * 4, none⟩ = _ := fun d os => cell_regrown A0 d os
   have qA1 : ∀ d os, (grow (redrawn wr d) os).cell? ⟨b, off + k * 4 + 1, none⟩ = _ := fun d os => cell_regrown A1 d os
   have qA2 : ∀ d os, (grow (redrawn wr d) os).cell? ⟨b, off + k * 4 + 2, none⟩ = _ := fun d os => cell_regrown A2 d os
   have qA3 : ∀ d os, (grow (redrawn wr d) os).cell? ⟨b, off + k * 4 + 3, none⟩ = _ := fun d os => cell_regrown A3 d os
   by_cases hk0 : k = 0
   ·have HJ1 : Hid (joinP ⟨#[44, 32]⟩ (F.take (k + 1)) = joinP ⟨#[44, 32]⟩ (F.take k) ++ X ++ ⟨#[58, 32]⟩ ++ R) := by
     show _ = _
     rw [j2 hk0, hk0, cat3]
     exact (empty_cat _).symm
    have hkp : ¬ (0 : Int) < (k : Int) := by omega
    clear j1 j2 hk0
    generalize hOe : joinP ⟨#[44, 32]⟩ (F.take k) = O at *
    clear hOe
    go_wp2_with fail
    refine wp_region_quiet_below (by kernel_rfl) (by kernel_rfl) ?_
    repeat (go_big_quiet_step (exact Calls.regrown_of (HC.out _ (below_regrown wr _ _))))
    refine wpQuiet_nil ?_
    intro _ hw'
    obtain ⟨⟨dq, osq⟩, hw''⟩ := hw'
    subst hw''
    have D2 := D.trans ((below_regrown wr dq osq).mono hz)
    clear q2 q3 qN qA0 qA1 qA2 qA3
    generalize grow (redrawn wr dq) osq = w2 at *
    go_wp2_with fail
    go_roundw
    case rel => exact ⟨k + 1, by omega, by go_num, by rw [HJ1.out], D2⟩
    case measure => simp [intOf]; omega
   ·have HJ1 : Hid (joinP ⟨#[44, 32]⟩ (F.take (k + 1)) = joinP ⟨#[44, 32]⟩ (F.take k) ++ ⟨#[44, 32]⟩ ++ X ++ ⟨#[58, 32]⟩ ++ R) := by
     show _ = _
     rw [j1 (by omega), cat3]
    have hkp : (0 : Int) < (k : Int) := by omega
    clear j1 j2 hk0
    generalize hOe : joinP ⟨#[44, 32]⟩ (F.take k) = O at *
    clear hOe
    go_wp2_with fail
    refine wp_region_quiet_below (by kernel_rfl) (by kernel_rfl) ?_
    repeat (go_big_quiet_step (exact Calls.regrown_of (HC.out _ (below_regrown wr _ _))))
    refine wpQuiet_nil ?_
    intro _ hw'
    obtain ⟨⟨dq, osq⟩, hw''⟩ := hw'
    subst hw''
    have D2 := D.trans ((below_regrown wr dq osq).mono hz)
    clear q2 q3 qN qA0 qA1 qA2 qA3
    generalize grow (redrawn wr dq) osq = w2 at *
    go_wp2_with fail
    go_roundw
    case rel => exact ⟨k + 1, by omega, by go_num, by rw [HJ1.out], D2⟩
    case measure => simp [intOf]; omega
  ·have hFe : F.take k = F := List.take_of_length_le (by omega)
   have hO := HS.out k
   rw [hFe] at hO ⊢
   clear HEL HTX HNC HFK HJ HS hFe
   generalize hOe : joinP ⟨#[44, 32]⟩ F = O at *
   have HOE : Hid (joinP ⟨#[44, 32]⟩ F = O) := hOe
   clear hOe
   go_wp2_with fail
   go_ret
   exact ⟨by rw [HOE.out]; rfl, hbw⟩
theorem specText (n : Nat) : TextAt n := by
 induction n with
 | zero => intro cs t w h; exact h.elim
 | succ n ih =>
  intro cs t w h hf hb
  obtain ⟨vn, vk, rfl, _, _, ⟨hT, _, _⟩, _, hrow⟩ := h
  obtain ⟨f5, f6, fk⟩ := hf
  cases t with
  | mk kd nm nms ks =>
   have hbk : Ty.textsBulk nms + rowBulk n ks ≤ 1048576 := by
    have : Ty.bulk (n + 1) (.mk kd nm nms ks) = nm.size + (nms.length + Ty.textsBulk nms) + rowBulk n ks := rfl
    omega
   by_cases hp : kd = 0 ∨ kd = 1 ∨ kd = 2 ∨ kd = 3 ∨ kd = 4
   ·exact specTextPlain n kd nm nms ks vn vk w hp
   ·by_cases h5 : kd = 5
    ·subst h5
     exact specTextRec n ih nm nms ks vn vk w hT hrow hbk fk (f5 rfl)
    ·by_cases h6 : kd = 6
     ·subst h6
      exact specTextFn n ih nm ks vn vk w hrow (by omega) fk (f6 rfl)
     ·have e : Ty.text (n + 1) (.mk kd nm nms ks) = joinP ⟨#[32, 124, 32]⟩ (ks.map fun k => roundP 6 k (Ty.text n k)) := by
       rw [Ty.text]
       have q : ∀ c : Int, ¬ kd = c → ¬ (Ty.mk kd nm nms ks).kind = c := fun c h => h
       exact (if_neg (q 0 (by omega))).trans ((if_neg (q 1 (by omega))).trans ((if_neg (q 2 (by omega))).trans ((if_neg (q 3 (by omega))).trans ((if_neg (q 4 (by omega))).trans ((if_neg (q 5 h5)).trans (if_neg (q 6 h6)))))))
      rw [e]
      exact specTextUnion n ih kd nm ks vn vk w hrow (by omega) fk (by omega) (by omega) (by omega) (by omega) (by omega) h5 h6
end Go.Proofs.YtbojmbeopnlmiaaGreatDoor
namespace Go.Proofs.YtbojmbeopnlmiaaGreatDoor.Lx
def letterB (b : Nat) : Bool := decide ((97 ≤ b ∧ b ≤ 122) ∨ (65 ≤ b ∧ b ≤ 90))
def digitB (b : Nat) : Bool := decide (48 ≤ b ∧ b ≤ 57)
def alB (b : Nat) : Bool := letterB b || digitB b
def signB (b : Nat) : Bool := decide (b = 43 ∨ b = 61 ∨ b = 58 ∨ b = 44 ∨ b = 46 ∨ b = 124 ∨ b = 40 ∨ b = 41 ∨ b = 123 ∨ b = 125)
def cls (b : Nat) : Nat :=
 if letterB b then 4 else if digitB b then 5 else if b = 32 then 1 else if b = 10 then 2 else if b = 35 then 3 else if b = 34 then 6 else if b = 45 ∨ signB b then 7 else 0
def byt (s : ByteArray) (k : Nat) : Nat := if h : k < s.size then s[k].toNat else 0
theorem byt_eq (s : ByteArray) (k : Nat) (h : k < s.size) : s[k].toNat = byt s k := by unfold byt; rw [dif_pos h]
theorem byt_lt (s : ByteArray) (k : Nat) : byt s k < 256 := by
 unfold byt
 split
 ·exact UInt8.toNat_lt _
 ·omega
def endP (p : Nat → Bool) (s : ByteArray) (k : Nat) : Nat := if k < s.size then (if p (byt s k) then endP p s (k + 1) else k) else k
 termination_by s.size - k
theorem endP_go {p : Nat → Bool} {s : ByteArray} {k : Nat} (h : k < s.size) (hp : p (byt s k) = true) : endP p s k = endP p s (k + 1) := by
 rw [endP, if_pos h, if_pos hp]
theorem endP_no {p : Nat → Bool} {s : ByteArray} {k : Nat} (hp : p (byt s k) = false) : endP p s k = k := by
 rw [endP]
 split
 ·rw [if_neg (by simp [hp])]
 ·rfl
theorem endP_out {p : Nat → Bool} {s : ByteArray} {k : Nat} (h : s.size ≤ k) : endP p s k = k := by
 rw [endP, if_neg (by omega)]
theorem endP_ge (p : Nat → Bool) (s : ByteArray) (k : Nat) : k ≤ endP p s k := by
 fun_induction endP p s k <;> omega
theorem endP_le (p : Nat → Bool) (s : ByteArray) (k : Nat) (h : k ≤ s.size) : endP p s k ≤ s.size := by
 fun_induction endP p s k <;> omega
theorem endP_in (p : Nat → Bool) (s : ByteArray) (k j : Nat) (h1 : k ≤ j) (h2 : j < endP p s k) : p (byt s j) = true := by
 fun_induction endP p s k with
 | case1 k h hp ih =>
  by_cases e : j = k
  ·subst e; exact hp
  ·exact ih (by omega) h2
 | case2 => omega
 | case3 => omega
theorem endP_at (p : Nat → Bool) (s : ByteArray) (k : Nat) : s.size ≤ endP p s k ∨ p (byt s (endP p s k)) = false := by
 fun_induction endP p s k with
 | case1 k h hp ih => exact ih
 | case2 k h hp => right; simpa using hp
 | case3 k h => left; omega
def wordsL : List ByteArray := [⟨#[105, 109, 112, 111, 114, 116]⟩, ⟨#[116, 121, 112, 101]⟩, ⟨#[108, 101, 116]⟩, ⟨#[102, 110]⟩, ⟨#[105, 102]⟩, ⟨#[116, 104, 101, 110]⟩, ⟨#[101, 108, 115, 101]⟩, ⟨#[105, 110]⟩, ⟨#[116, 114, 117, 101]⟩, ⟨#[102, 97, 108, 115, 101]⟩, ⟨#[105, 110, 116]⟩, ⟨#[116, 101, 120, 116]⟩, ⟨#[98, 111, 111, 108]⟩, ⟨#[97, 110, 121]⟩]
def isWordP (t : ByteArray) : Bool := wordsL.any fun x => decide (x.data = t.data)
theorem isWordP_iff (t : ByteArray) : isWordP t = true ↔ t ∈ wordsL := by
 unfold isWordP
 rw [List.any_eq_true]
 constructor
 ·rintro ⟨x, hx, he⟩
  have e : x = t := by
   cases x; cases t
   simpa using he
  exact e ▸ hx
 ·intro h
  exact ⟨t, h, by simp⟩
def nameOkP (t : ByteArray) : Bool := decide (1 ≤ t.size ∧ t.size ≤ 12) && (letterB (byt t 0) && decide (endP alB t 0 = t.size)) && !isWordP t
end Go.Proofs.YtbojmbeopnlmiaaGreatDoor.Lx
namespace Go.Proofs.YtbojmbeopnlmiaaGreatDoor
open Go.RowKit
def ClsIs (w : World) : Prop := ∀ i, i < 128 → w.cell? ⟨0, i, none⟩ = some (.int .u8 (Lx.cls i : Nat))
theorem ClsIs.lt {w : World} (h : ClsIs w) : 0 < w.heap.size := World.block_lt_of_cell? w ⟨0, 0, none⟩ (h 0 (by decide))
theorem ClsIs.below {w w' : World} {B : Nat} (h : ClsIs w) (hb : Below B w w') (hB : 0 < B) : ClsIs w' := fun i hi =>
 (hb.cell (p := ⟨0, i, none⟩) hB).trans (h i hi)
theorem cls_big (b : Nat) (h : 128 ≤ b) : Lx.cls b = 0 := by
 unfold Lx.cls
 rw [if_neg (by simp [Lx.letterB]; omega), if_neg (by simp [Lx.digitB]; omega), if_neg (by omega), if_neg (by omega), if_neg (by omega), if_neg (by omega), if_neg (by simp [Lx.signB]; omega)]
set_option maxHeartbeats 400000 in
theorem implClassOf (b : Nat) (w : World) (hb : b < 256) (hc : ClsIs w) :
  Calls Tryz.prog 102 #[.int .u8 b] w fun e w' => e = .returned (.int .u8 (Lx.cls b : Nat)) ∧ w = w' := by
 by_cases h : 128 ≤ b
 ·rw [cls_big b h]
  clear hc
  have h' : (128 : Int) ≤ b := by omega
  go_enter Tryz.func102, Tryz.ntmps102
  go_wp2
  go_ret
  exact ⟨rfl, rfl⟩
 ·have h' : ¬ (128 : Int) ≤ b := by omega
  have hcell := hc b (by omega)
  generalize Lx.cls b = c at *
  clear hc
  go_enter Tryz.func102, Tryz.ntmps102
  go_wp2
  go_ret
  exact ⟨rfl, rfl⟩
theorem cls4 (b : Nat) : Lx.cls b = 4 ↔ Lx.letterB b = true := by
 unfold Lx.cls
 constructor
 ·intro h
  by_cases hl : Lx.letterB b = true
  ·exact hl
  ·rw [if_neg hl] at h
   revert h
   repeat' split
   all_goals omega
 ·intro h; rw [if_pos h]
theorem digit_no_letter (b : Nat) (h : Lx.digitB b = true) : Lx.letterB b = false := by
 simp [Lx.digitB, Lx.letterB] at h ⊢
 omega
theorem cls5 (b : Nat) : Lx.cls b = 5 ↔ Lx.digitB b = true := by
 unfold Lx.cls
 constructor
 ·intro h
  by_cases hl : Lx.digitB b = true
  ·exact hl
  ·rw [if_neg hl] at h
   revert h
   repeat' split
   all_goals omega
 ·intro h; rw [if_neg (by simp [digit_no_letter b h]), if_pos h]
theorem alB_cls (b : Nat) : Lx.alB b = true ↔ (Lx.cls b = 4 ∨ Lx.cls b = 5) := by
 rw [cls4, cls5]
 simp [Lx.alB]
set_option maxHeartbeats 400000 in
theorem implNameEnd (s : ByteArray) (i : Nat) (w : World) (hs : s.size ≤ 140737488355328) (hi : i ≤ s.size) (hc : ClsIs w) :
  Calls Tryz.prog 103 #[.string s, .int .i64 i] w fun e w' => e = .returned (.int .i64 (Lx.endP Lx.alB s i : Nat)) ∧ w = w' := by
 have HC : Hid (ClsIs w) := hc
 clear hc
 go_enter Tryz.func103, Tryz.ntmps103
 go_wp2
 go_loop [1] (fun a => ∃ k : Nat, k ≤ s.size ∧ a = .int .i64 k ∧ Lx.endP Lx.alB s i = Lx.endP Lx.alB s k) (fun a => s.size - (intOf a).toNat)
 case atStart => exact ⟨i, hi, rfl, rfl⟩
 case round =>
  obtain ⟨k, hk, rfl, he⟩ := hrel
  have HE : Hid (Lx.endP Lx.alB s i = Lx.endP Lx.alB s k) := he
  clear he
  by_cases hlt : k < s.size
  ·have hb := Lx.byt_lt s k
   have hbe := Lx.byt_eq s k hlt
   have HK : Hid (∀ wx : World, wx = w → Calls Tryz.prog 102 #[.int .u8 (Lx.byt s k : Nat)] wx fun e w' => e = .returned (.int .u8 (Lx.cls (Lx.byt s k) : Nat)) ∧ wx = w') := fun wx hx => implClassOf _ wx hb (hx ▸ HC.out)
   by_cases ha : Lx.alB (Lx.byt s k) = true
   ·have HG : Hid (Lx.endP Lx.alB s k = Lx.endP Lx.alB s (k + 1)) := Lx.endP_go hlt ha
    by_cases h4 : Lx.cls (Lx.byt s k) = 4
    ·rw [h4] at HK
     go_wp2_with (go_at_call 102; refine (HK.out _ rfl).mono ?_; rintro e w1 ⟨rfl, rfl⟩)
     go_round
     case rel => exact ⟨k + 1, by omega, by go_num, by rw [HE.out, HG.out]⟩
     case measure => simp [intOf]; omega
    ·have h5 : Lx.cls (Lx.byt s k) = 5 := by have := (alB_cls _).1 ha; omega
     rw [h5] at HK
     go_wp2_with (go_at_call 102; refine (HK.out _ rfl).mono ?_; rintro e w1 ⟨rfl, rfl⟩)
     go_round
     case rel => exact ⟨k + 1, by omega, by go_num, by rw [HE.out, HG.out]⟩
     case measure => simp [intOf]; omega
   ·have HG : Hid (Lx.endP Lx.alB s k = k) := Lx.endP_no (by simpa using ha)
    have h45 := mt (alB_cls _).2 ha
    have h4 : ((Lx.cls (Lx.byt s k) : Int) == 4) = false := by simp; omega
    have h5 : ((Lx.cls (Lx.byt s k) : Int) == 5) = false := by simp; omega
    clear h45 ha
    generalize Lx.cls (Lx.byt s k) = c at *
    go_wp2_with (go_at_call 102; refine (HK.out _ rfl).mono ?_; rintro e w1 ⟨rfl, rfl⟩)
    go_ret
    exact ⟨by rw [HE.out, HG.out]; rfl, rfl⟩
  ·have HG : Hid (Lx.endP Lx.alB s k = k) := Lx.endP_out (by omega)
   go_wp2
   go_ret
   exact ⟨by rw [HE.out, HG.out]; rfl, rfl⟩
end Go.Proofs.YtbojmbeopnlmiaaGreatDoor
