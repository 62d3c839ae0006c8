/-
  The walk of impl.formOf.
  The walk of impl.TypeOk.
  The walks of a form's height and of impl.wordedForms.
  What impl.unionOf asks of its parts.
  The walk of impl.unionOf.
  The walk of impl.Union.
-/
import Derived.Test.YthomlchbgcjcfaaGreatDoorTextL
import Derived.Lib.QuietBelow
import Derived.Test.YthomlchbgcjcfaaGreatDoorTxI
import Derived.Test.YthomlchbgcjcfaaGreatDoorStepA
import Derived.Deep.AppendLies
import Derived.Test.YthomlchbgcjcfaaGreatDoorTypeH
import Derived.Test.YthomlchbgcjcfaaGreatDoorTypeJ
namespace Go.Proofs.YthomlchbgcjcfaaGreatDoor
open Go.RowKit Go.Shelf Go.Sort

/-- what formOf leaves, at that depth -/
def FormPost (n : Nat) (t : Ty) (d : Int) (W w : World) (e : Ending) (w' : World) : Prop := ∃ (v : Value) (ok : Bool), e = .returned (.tuple #[v, .bool ok]) ∧ (ok = true ↔ Right n t d) ∧ (ok = true → FormIn w' W.heap.size n w.heap.size w'.heap.size v t) ∧ Below w.heap.size w w'

theorem form_no {n : Nat} {t : Ty} {d : Int} {W w w' : World} {v : Value} (h : ¬ Right n t d) (hb : Below w.heap.size w w') : FormPost n t d W w (.returned (.tuple #[v, .bool false])) w' := ⟨v, false, rfl, ⟨fun h => Bool.noConfusion h, fun q => absurd q h⟩, fun h => Bool.noConfusion h, hb⟩
theorem form_if {n : Nat} {t : Ty} {d : Int} {W w w' : World} {v : Value} {b : Bool} (h : b = true ↔ Right n t d) (hf : FormIn w' W.heap.size n w.heap.size w'.heap.size v t) (hb : Below w.heap.size w w') : FormPost n t d W w (.returned (.tuple #[v, .bool b])) w' := ⟨v, b, rfl, h, fun _ => hf, hb⟩

set_option maxHeartbeats 3200000 in
set_option maxRecDepth 100000 in
open Classical in
theorem implFormStep (n : Nat) (ih : FormOfAt n) (kd : Int) (nm : ByteArray) (nms : List ByteArray) (ks : List Ty) (an ak : Option Addr) (cn ck deep : Nat) (W w : World) (hT : Texts W (.slice an nms.length cn) nms) (hrow : RowAt W (TyAt W n) (.slice ak ks.length ck) ks) (hWw : Below W.heap.size W w) (hbk : rowBulk n ks ≤ 1048576) (hnm : nm.size ≤ 1048576) (hnl : nms.length ≤ 1048576) (hns : ∀ x ∈ nms, x.size ≤ 1048576) (hd : deep ≤ 14) (hc : ClsIs W) (hcl : 1 < W.heap.size) :
    Calls Tryz.prog 19 #[.agg #[.int .i64 kd, .string nm, .slice an nms.length cn, .slice ak ks.length ck], .int .i64 deep] w fun e w' => FormPost (n + 1) (.mk kd nm nms ks) (12 - (deep : Int)) W w e w' := by
  have hB1 : Below w.heap.size w (w.alloc (.cells #[.int .i64 kd, .string nm, .slice an nms.length cn, .slice ak ks.length ck] 28)) := (Below.refl _ _).alloc (Nat.le_refl _) _
  have hWz : W.heap.size ≤ w.heap.size := hWw.size
  by_cases hdd : 12 < deep
  · have HNR : Hid (¬ Right (n + 1) (.mk kd nm nms ks) (12 - (deep : Int))) := fun h => by have := h.1; omega
    clear hT hrow hc hcl ih hns hbk
    go_enter Tryz.func19, Tryz.ntmps19
    go_wp2_with fail
    go_ret2
    exact form_no HNR.out hB1
  have HBX : Hid (∀ wx : World, Below (w.heap.size + 1) (w.alloc (.cells #[.int .i64 kd, .string nm, .slice an nms.length cn, .slice ak ks.length ck] 28)) wx → (wx.cell? ⟨w.heap.size, 0, none⟩ = some (.int .i64 kd) ∧ wx.cell? ⟨w.heap.size, 1, none⟩ = some (.string nm) ∧ wx.cell? ⟨w.heap.size, 2, none⟩ = some (.slice an nms.length cn) ∧ wx.cell? ⟨w.heap.size, 3, none⟩ = some (.slice ak ks.length ck)) ∧ Below w.heap.size w wx ∧ w.heap.size + 1 ≤ wx.heap.size) := fun wx hx => boxedR hx
  have HOA0 := implOwnAlone kd nm an ak nms.length cn ks.length ck (w.alloc (.cells #[.int .i64 kd, .string nm, .slice an nms.length cn, .slice ak ks.length ck] 28))
  cases hoa : ownAlone kd nm nms.length ks.length with
  | false =>
    have HNR : Hid (¬ Right (n + 1) (.mk kd nm nms ks) (12 - (deep : Int))) := fun h => by
      have h2 : ownAlone kd nm nms.length ks.length = true := right_alone h.2.2
      rw [hoa] at h2
      cases h2
    rw [hoa] at HOA0
    have HOA : Hid (type_of% HOA0) := HOA0
    clear hT hrow hc hcl ih hns hbk hoa HOA0
    go_enter Tryz.func19, Tryz.ntmps19
    go_wp2_with fail
    refine HOA.out.mono ?_
    rintro e w2 ⟨rfl, hb2⟩
    go_wp2_with fail
    go_ret2
    exact form_no HNR.out (hB1.trans (hb2.mono (by simp)))
  | true =>
    rw [hoa] at HOA0
    have HOA : Hid (type_of% HOA0) := HOA0
    have HFS : Hid (∀ wx : World, Below W.heap.size W wx → Calls Tryz.prog 13 #[.slice ak ks.length ck, .int .i64 ((deep : Int) + 1)] wx fun e w' => ∃ (a : Option Addr) (l c : Nat) (ok : Bool), e = .returned (.tuple #[.slice a l c, .bool ok]) ∧ (ok = true ↔ ∀ q ∈ ks, Right n q (12 - (deep : Int) - 1)) ∧ (ok = true → l = ks.length ∧ PartsIn w' (FormIn w' W.heap.size n) wx.heap.size w'.heap.size (.slice a l c) ks) ∧ Below wx.heap.size wx w') := fun wx hx => by
      have := implForms n ih (.slice ak ks.length ck) ks (deep + 1) W wx hrow hx hbk (by omega) hc hcl
      have e : (12 - ((deep + 1 : Nat) : Int)) = 12 - (deep : Int) - 1 := by omega
      rw [e] at this
      exact this
    clear HOA0
    go_enter Tryz.func19, Tryz.ntmps19
    go_wp2_with fail
    refine HOA.out.mono ?_
    rintro e w2 ⟨rfl, hb2⟩
    have D2 : Below (w.heap.size + 1) (w.alloc (.cells #[.int .i64 kd, .string nm, .slice an nms.length cn, .slice ak ks.length ck] 28)) w2 := hb2.mono (by simp)
    obtain ⟨⟨b0, b1, b2, b3⟩, hbw2, hz2⟩ := HBX.out w2 D2
    have hWw2 : Below W.heap.size W w2 := hWw.trans (hbw2.mono hWz)
    clear HOA hb2
    go_wp2_with fail
    refine (HFS.out w2 hWw2).mono ?_
    rintro e w3 ⟨a, l, c, ok, rfl, hok, hpt, hb3⟩
    have D3 : Below (w.heap.size + 1) (w.alloc (.cells #[.int .i64 kd, .string nm, .slice an nms.length cn, .slice ak ks.length ck] 28)) w3 := D2.trans (hb3.mono hz2)
    have HOK : Hid (type_of% hok) := hok
    have HPT : Hid (type_of% hpt) := hpt
    clear b0 b1 b2 b3 HFS hok hpt D2
    obtain ⟨⟨b0, b1, b2, b3⟩, hbw3, hz3⟩ := HBX.out w3 D3
    cases ok with
    | false =>
      have HNR : Hid (¬ Right (n + 1) (.mk kd nm nms ks) (12 - (deep : Int))) := fun h => by
        have := HOK.out.2 h.2.1
        cases this
      clear hT hrow hc hcl ih hns hbk hoa HOK HPT
      go_wp2_with fail
      go_ret2
      exact form_no HNR.out hbw3
    | true =>
      obtain ⟨hl, hP3⟩ := HPT.out rfl
      subst hl
      have hz23 := hb3.size
      have hKR : ∀ q ∈ ks, Right n q (12 - (deep : Int) - 1) := HOK.out.1 rfl
      have HRI : Hid (Right (n + 1) (.mk kd nm nms ks) (12 - (deep : Int)) ↔ OwnRight n (.mk kd nm nms ks)) := ⟨fun h => h.2.2, fun h => ⟨by omega, hKR, h⟩⟩
      have hbw4 : Below w.heap.size w (w3.alloc (.cells #[.slice a ks.length c] 56)) := hbw3.alloc (by omega) _
      have hWw3 : Below W.heap.size W w3 := hWw.trans (hbw3.mono hWz)
      have c40 : (w3.alloc (.cells #[.slice a ks.length c] 56)).cell? ⟨w.heap.size, 0, none⟩ = some (.int .i64 kd) := (cellOld 0 (by omega)).trans b0
      have c41 : (w3.alloc (.cells #[.slice a ks.length c] 56)).cell? ⟨w.heap.size, 1, none⟩ = some (.string nm) := (cellOld 1 (by omega)).trans b1
      have c42 : (w3.alloc (.cells #[.slice a ks.length c] 56)).cell? ⟨w.heap.size, 2, none⟩ = some (.slice an nms.length cn) := (cellOld 2 (by omega)).trans b2
      have HFI : Hid (∀ wz : World, Below (w3.heap.size + 1) (w3.alloc (.cells #[.slice a ks.length c] 56)) wz → FormIn wz W.heap.size (n + 1) w.heap.size wz.heap.size (formV (.mk kd nm nms ks) (.slice a ks.length c) (.slice an nms.length cn)) (.mk kd nm nms ks) ∧ Below w.heap.size w wz) := fun wz hx => by
        have hx3 : Below w3.heap.size w3 wz := ((Below.refl w3.heap.size w3).alloc (Nat.le_refl _) _).trans (hx.mono (by omega))
        have hsz := hx3.size
        refine ⟨⟨_, _, rfl, fun w'' hs => hT.same fun b hb => (hs b hb).trans ((hx3.block b (by omega)).trans (hWw3.block b hb)), ?_⟩, hbw3.trans (hx3.mono (by omega))⟩
        exact hP3.step hx3 (by omega) (Nat.le_refl _) (by omega) hsz
      have HPA : Hid (PartsAt w3 (FormAt w3 n) (.slice a ks.length c) ks) := hP3.parts
      have HTN : Hid (∀ wx : World, Below w.heap.size w wx → Calls Tryz.prog 37 #[.string nm] wx fun e w' => e = .returned (.bool (dottedP nm)) ∧ Below wx.heap.size wx w') := fun wx hx => implTypeNameOk nm wx (by omega) (hc.below (hWw.trans (hx.mono hWz)) hcl) (by have := hx.size; omega)
      have HFO : Hid (∀ wx : World, Below w.heap.size w wx → Calls Tryz.prog 38 #[.slice an nms.length cn, .slice a ks.length c] wx fun e w' => e = .returned (.bool (decide (FieldsRight nms ks.length))) ∧ Below wx.heap.size wx w') := fun wx hx => implFieldsOk _ nms a ks.length c wx (hT.same fun b hb => (hWw.trans (hx.mono hWz)).block b hb) hnl hns (hc.below (hWw.trans (hx.mono hWz)) hcl) (by have := hx.size; omega)
      have HUK : Hid (∀ wx : World, Below w3.heap.size w3 wx → Calls Tryz.prog 39 #[.slice a ks.length c] wx fun e w' => e = .returned (.bool (decide (KidsRight n ks))) ∧ Below wx.heap.size wx w') := fun wx hx => implUnionKidsOk n _ ks _ wx (HPA.out.below hx fun u t _ h => h.below hx) hKR hbk
      have HOA : Hid (type_of% hoa) := hoa
      have hlen : ks.length ≤ 1048576 := by unfold rowBulk at hbk; omega
      clear hT hrow hc hcl ih hns hbk hoa HOK HPT hP3 hKR HPA hb3 D3 HBX
      by_cases k0 : kd = 0
      · subst k0
        have HY : Hid (Right (n + 1) (.mk 0 nm nms ks) (12 - (deep : Int))) := HRI.out.2 (own_plain (by omega) HOA.out)
        obtain ⟨f1, f2⟩ := HFI.out _ (Below.refl _ _)
        have HF : Hid (type_of% f1) := f1
        clear f1 HRI HFI HTN HFO HUK HOA
        go_wp2_with fail
        go_ret2
        exact form_if (iff_of_true rfl HY.out) HF.out f2
      by_cases k1 : kd = 1
      · subst k1
        have HY : Hid (Right (n + 1) (.mk 1 nm nms ks) (12 - (deep : Int))) := HRI.out.2 (own_plain (by omega) HOA.out)
        obtain ⟨f1, f2⟩ := HFI.out _ (Below.refl _ _)
        have HF : Hid (type_of% f1) := f1
        clear f1 HRI HFI HTN HFO HUK HOA
        go_wp2_with fail
        go_ret2
        exact form_if (iff_of_true rfl HY.out) HF.out f2
      by_cases k2 : kd = 2
      · subst k2
        have HY : Hid (Right (n + 1) (.mk 2 nm nms ks) (12 - (deep : Int))) := HRI.out.2 (own_plain (by omega) HOA.out)
        obtain ⟨f1, f2⟩ := HFI.out _ (Below.refl _ _)
        have HF : Hid (type_of% f1) := f1
        clear f1 HRI HFI HTN HFO HUK HOA
        go_wp2_with fail
        go_ret2
        exact form_if (iff_of_true rfl HY.out) HF.out f2
      by_cases k3 : kd = 3
      · subst k3
        have HY : Hid (Right (n + 1) (.mk 3 nm nms ks) (12 - (deep : Int))) := HRI.out.2 (own_plain (by omega) HOA.out)
        obtain ⟨f1, f2⟩ := HFI.out _ (Below.refl _ _)
        have HF : Hid (type_of% f1) := f1
        clear f1 HRI HFI HTN HFO HUK HOA
        go_wp2_with fail
        go_ret2
        exact form_if (iff_of_true rfl HY.out) HF.out f2
      have q0 : ∀ d os, (grow (redrawn (w3.alloc (.cells #[.slice a ks.length c] 56)) d) os).cell? ⟨w3.heap.size, 0, none⟩ = some (.slice a ks.length c) := fun d os => cell_regrown (cellNew 0 rfl) d os
      have q1 : ∀ d os, (grow (redrawn (w3.alloc (.cells #[.slice a ks.length c] 56)) d) os).cell? ⟨w.heap.size, 1, none⟩ = some (.string nm) := fun d os => cell_regrown ((cellOld 1 (by omega)).trans b1) d os
      have q2 : ∀ d os, (grow (redrawn (w3.alloc (.cells #[.slice a ks.length c] 56)) d) os).cell? ⟨w.heap.size, 2, none⟩ = some (.slice an nms.length cn) := fun d os => cell_regrown ((cellOld 2 (by omega)).trans b2) d os
      by_cases k4 : kd = 4
      · subst k4
        have HY : Hid (dottedP nm = true ↔ Right (n + 1) (.mk 4 nm nms ks) (12 - (deep : Int))) := by show _ ↔ _; rw [HRI.out, own_name HOA.out]
        have HCC : Hid (∀ d os, type_of% (HTN.out (grow (redrawn (w3.alloc (.cells #[.slice a ks.length c] 56)) d) os) (hbw4.trans ((below_regrown (w3.alloc (.cells #[.slice a ks.length c] 56)) d os).mono (by simp; omega))))) := fun d os => HTN.out (grow (redrawn (w3.alloc (.cells #[.slice a ks.length c] 56)) d) os) (hbw4.trans ((below_regrown (w3.alloc (.cells #[.slice a ks.length c] 56)) d os).mono (by simp; omega)))
        clear HRI HTN HFO HUK HOA
        go_wp2_with fail
        refine wp_region_quiet_below (by kernel_rfl) (by kernel_rfl) ?_
        repeat (go_big_quiet_step (exact Calls.regrown_of (HCC.out _ _)))
        refine wpQuiet_nil ?_
        intro _ hw'
        obtain ⟨⟨dq, osq⟩, hw''⟩ := hw'
        subst hw''
        obtain ⟨f1, f2⟩ := HFI.out _ ((below_regrown (w3.alloc (.cells #[.slice a ks.length c] 56)) dq osq).mono (by simp))
        have HF : Hid (type_of% f1) := f1
        clear f1 HFI q0 q1 q2
        generalize grow (redrawn (w3.alloc (.cells #[.slice a ks.length c] 56)) dq) osq = w5 at *
        go_wp2_with fail
        go_ret2
        exact form_if HY.out HF.out f2
      by_cases k5 : kd = 5
      · subst k5
        have HY : Hid (decide (FieldsRight nms ks.length) = true ↔ Right (n + 1) (.mk 5 nm nms ks) (12 - (deep : Int))) := by show _ ↔ _; rw [HRI.out, own_record HOA.out, decide_eq_true_eq]
        have HCC : Hid (∀ d os, type_of% (HFO.out (grow (redrawn (w3.alloc (.cells #[.slice a ks.length c] 56)) d) os) (hbw4.trans ((below_regrown (w3.alloc (.cells #[.slice a ks.length c] 56)) d os).mono (by simp; omega))))) := fun d os => HFO.out (grow (redrawn (w3.alloc (.cells #[.slice a ks.length c] 56)) d) os) (hbw4.trans ((below_regrown (w3.alloc (.cells #[.slice a ks.length c] 56)) d os).mono (by simp; omega)))
        clear HRI HTN HFO HUK HOA
        go_wp2_with fail
        refine wp_region_quiet_below (by kernel_rfl) (by kernel_rfl) ?_
        repeat (go_big_quiet_step (exact Calls.regrown_of (HCC.out _ _)))
        refine wpQuiet_nil ?_
        intro _ hw'
        obtain ⟨⟨dq, osq⟩, hw''⟩ := hw'
        subst hw''
        obtain ⟨f1, f2⟩ := HFI.out _ ((below_regrown (w3.alloc (.cells #[.slice a ks.length c] 56)) dq osq).mono (by simp))
        have HF : Hid (type_of% f1) := f1
        clear f1 HFI q0 q1 q2
        generalize grow (redrawn (w3.alloc (.cells #[.slice a ks.length c] 56)) dq) osq = w5 at *
        go_wp2_with fail
        go_ret2
        exact form_if HY.out HF.out f2
      by_cases k6 : kd = 6
      · subst k6
        have HY : Hid (decide (0 < ks.length) = true ↔ Right (n + 1) (.mk 6 nm nms ks) (12 - (deep : Int))) := by show _ ↔ _; rw [HRI.out, own_fn HOA.out, decide_eq_true_eq]
        obtain ⟨f1, f2⟩ := HFI.out _ (Below.refl _ _)
        have HF : Hid (type_of% f1) := f1
        clear f1 HRI HFI HTN HFO HUK HOA q0 q1 q2
        go_wp2_with fail
        go_ret2
        exact form_if (by simpa using HY.out) HF.out f2
      by_cases k7 : kd = 7
      · subst k7
        have HY : Hid (decide (KidsRight n ks) = true ↔ Right (n + 1) (.mk 7 nm nms ks) (12 - (deep : Int))) := by show _ ↔ _; rw [HRI.out, own_union HOA.out, decide_eq_true_eq]
        have HCC : Hid (∀ d os, type_of% (HUK.out (grow (redrawn (w3.alloc (.cells #[.slice a ks.length c] 56)) d) os) (((Below.refl w3.heap.size w3).alloc (Nat.le_refl _) _).trans ((below_regrown (w3.alloc (.cells #[.slice a ks.length c] 56)) d os).mono (by simp))))) := fun d os => HUK.out (grow (redrawn (w3.alloc (.cells #[.slice a ks.length c] 56)) d) os) (((Below.refl w3.heap.size w3).alloc (Nat.le_refl _) _).trans ((below_regrown (w3.alloc (.cells #[.slice a ks.length c] 56)) d os).mono (by simp)))
        clear HRI HTN HFO HUK HOA
        go_wp2_with fail
        refine wp_region_quiet_below (by kernel_rfl) (by kernel_rfl) ?_
        repeat (go_big_quiet_step (exact Calls.regrown_of (HCC.out _ _)))
        refine wpQuiet_nil ?_
        intro _ hw'
        obtain ⟨⟨dq, osq⟩, hw''⟩ := hw'
        subst hw''
        obtain ⟨f1, f2⟩ := HFI.out _ ((below_regrown (w3.alloc (.cells #[.slice a ks.length c] 56)) dq osq).mono (by simp))
        have HF : Hid (type_of% f1) := f1
        clear f1 HFI q0 q1 q2
        generalize grow (redrawn (w3.alloc (.cells #[.slice a ks.length c] 56)) dq) osq = w5 at *
        go_wp2_with fail
        go_ret2
        exact form_if HY.out HF.out f2
      have HNR : Hid (¬ Right (n + 1) (.mk kd nm nms ks) (12 - (deep : Int))) := fun h => own_other (by omega) (HRI.out.1 h)
      have e0 : (kd == 0) = false := by rw [beq_eq_false_iff_ne]; exact k0
      have e1 : (kd == 1) = false := by rw [beq_eq_false_iff_ne]; exact k1
      have e2 : (kd == 2) = false := by rw [beq_eq_false_iff_ne]; exact k2
      have e3 : (kd == 3) = false := by rw [beq_eq_false_iff_ne]; exact k3
      have e4 : (kd == 4) = false := by rw [beq_eq_false_iff_ne]; exact k4
      have e5 : (kd == 5) = false := by rw [beq_eq_false_iff_ne]; exact k5
      have e6 : (kd == 6) = false := by rw [beq_eq_false_iff_ne]; exact k6
      have e7 : (kd == 7) = false := by rw [beq_eq_false_iff_ne]; exact k7
      clear HRI HFI HTN HFO HUK HOA q0 q1 q2 k0 k1 k2 k3 k4 k5 k6 k7
      go_wp2_with fail
      go_ret2
      exact form_no HNR.out hbw4

theorem implFormOf (n : Nat) : FormOfAt n := by
  induction n with
  | zero => intro W cs t deep w h; exact h.elim
  | succ n ih =>
    intro W cs t deep w h hWw hb hd hc hcl
    obtain ⟨vn, vk, rfl, _, _, ⟨hT, _, _⟩, _, hrow⟩ := h
    cases t with
    | mk kd nm nms ks =>
      have hbe : Ty.bulk (n + 1) (.mk kd nm nms ks) = nm.size + (nms.length + Ty.textsBulk nms) + rowBulk n ks := rfl
      have hT' : Texts W vn nms := hT
      obtain ⟨an, cn, rfl⟩ : ∃ a cap, vn = .slice a nms.length cap := by
        rcases hT' with ⟨h, a, cap, e⟩ | ⟨b, off, cap, e, hc⟩
        · subst h; exact ⟨a, cap, e⟩
        · exact ⟨_, cap, e⟩
      obtain ⟨ak, ck, rfl, _⟩ := rowOpen hrow
      exact implFormStep n ih kd nm nms ks an ak cn ck deep W w hT' hrow hWw (by omega) (by omega) (by omega) (fun x hx => by have := textsBulk_mem nms x hx; omega) hd hc hcl

end Go.Proofs.YthomlchbgcjcfaaGreatDoor

namespace Go.Proofs.YthomlchbgcjcfaaGreatDoor
open Go.RowKit Go.Shelf

set_option maxHeartbeats 800000 in
set_option maxRecDepth 100000 in
open Classical in
theorem implTypeOk (n : Nat) (cs : List Value) (t : Ty) (w : World) (h : TyAt w n cs t) (hb : Ty.bulk n t ≤ 1048576) (hc : ClsIs w) :
    Calls Tryz.prog 9 #[.agg cs.toArray] w fun e w' => e = .returned (.bool (decide (Right n t 12))) ∧ Below w.heap.size w w' := by
  have hB1 : Below w.heap.size w (w.alloc (.cells cs.toArray 28)) := (Below.refl _ _).alloc (Nat.le_refl _) _
  have HC := implFormOf n w cs t 0 (w.alloc (.cells cs.toArray 28)) h hB1 hb (by omega) hc hc.lt
  obtain ⟨x0, x1, x2, x3, rfl⟩ : ∃ x0 x1 x2 x3, cs = [x0, x1, x2, x3] := by
    have hl := h.len
    match cs, hl with
    | [x0, x1, x2, x3], _ => exact ⟨x0, x1, x2, x3, rfl⟩
  have HC2 : Hid (type_of% HC) := HC
  clear HC h hc
  go_enter Tryz.func9, Tryz.ntmps9
  go_wp2_with fail
  refine HC2.out.mono ?_
  rintro e w1 ⟨v, ok, rfl, hok, _, hb1⟩
  have e : ok = decide (Right n t 12) := by
    by_cases hr : Right n t 12
    · rw [decide_eq_true hr]; exact hok.2 (by simpa using hr)
    · rw [decide_eq_false hr]
      cases ok with
      | false => rfl
      | true => exact absurd (hok.1 rfl) (by simpa using hr)
  have HE : Hid (type_of% e) := e
  clear e hok
  go_wp2_with fail
  go_ret
  exact ⟨by rw [HE.out]; rfl, hB1.trans (hb1.mono (by simp))⟩

end Go.Proofs.YthomlchbgcjcfaaGreatDoor

namespace Go.Proofs.YthomlchbgcjcfaaGreatDoor
open Go.RowKit

theorem form_height {w : World} {n : Nat} {v : Value} {t : Ty} (h : FormAt w (n + 1) v t) : ∃ T x a c, v = .iface T x ∧ PartsAt w (FormAt w n) (.slice a t.kids.length c) t.kids ∧
    ∀ wx : World, Sem.run Tryz.prog (method 261 T x "loop.example/g00276/impl.height") wx = .ok (117, .agg #[.slice a t.kids.length c]) wx := by
  obtain ⟨a, c, an, cn, hP, _, hc⟩ := h.cases
  generalize t.names.length = l' at *
  generalize t.name = nm at *
  rcases hc with ⟨k, rfl⟩ | ⟨k, rfl⟩ | ⟨k, rfl⟩ | ⟨k, rfl⟩ | ⟨k, rfl⟩ | ⟨k, rfl⟩ | ⟨k, rfl⟩ | ⟨k, rfl⟩
  · exact ⟨_, _, a, c, rfl, hP, fun wx => by generalize t.kids.length = l at *; kernel_rfl⟩
  · exact ⟨_, _, a, c, rfl, hP, fun wx => by generalize t.kids.length = l at *; kernel_rfl⟩
  · exact ⟨_, _, a, c, rfl, hP, fun wx => by generalize t.kids.length = l at *; kernel_rfl⟩
  · exact ⟨_, _, a, c, rfl, hP, fun wx => by generalize t.kids.length = l at *; kernel_rfl⟩
  · exact ⟨_, _, a, c, rfl, hP, fun wx => by generalize t.kids.length = l at *; kernel_rfl⟩
  · exact ⟨_, _, a, c, rfl, hP, fun wx => by generalize t.kids.length = l at *; kernel_rfl⟩
  · exact ⟨_, _, a, c, rfl, hP, fun wx => by generalize t.kids.length = l at *; kernel_rfl⟩
  · exact ⟨_, _, a, c, rfl, hP, fun wx => by generalize t.kids.length = l at *; kernel_rfl⟩

/-- how deep these are at most, and one more -/
def hgts (n : Nat) (ks : List Ty) : Nat := ks.foldl (fun m k => max m (Ty.hgt n k + 1)) 0
theorem hgts_more (n : Nat) (ks : List Ty) (k : Nat) (h : k < ks.length) : hgts n (ks.take (k + 1)) = max (hgts n (ks.take k)) (Ty.hgt n ks[k] + 1) := by
  unfold hgts
  rw [List.take_succ_eq_append_getElem h, List.foldl_append]
  rfl
theorem hgts_le {n : Nat} {ks : List Ty} {b : Nat} (h : ∀ k ∈ ks, Ty.hgt n k ≤ b) (j : Nat) : hgts n (ks.take j) ≤ b + 1 := by
  have := (fold_max (Ty.hgt n) (ks.take j) 0 ((b : Int) + 1)).2 ⟨by omega, fun k hk => by have := h k (List.mem_of_mem_take hk); omega⟩
  unfold hgts
  omega
/-- what height does at that depth -/
def HeightAt (n : Nat) : Prop := ∀ (a : Option Addr) (c : Nat) (ks : List Ty) (w : World), PartsAt w (FormAt w n) (.slice a ks.length c) ks → rowBulk n ks ≤ 1048576 → (∀ k ∈ ks, Ty.hgt n k ≤ 1000) →
  Calls Tryz.prog 117 #[.agg #[.slice a ks.length c]] w fun e w' => e = .returned (.int .i64 (hgts n ks)) ∧ Below w.heap.size w w'

set_option maxHeartbeats 3200000 in
set_option maxRecDepth 100000 in
theorem heightStep (n : Nat) (ih : ∀ m, n = m + 1 → HeightAt m) : HeightAt n := by
  intro a c ks w hP hbk hh
  have hlen : ks.length ≤ 1048576 := by unfold rowBulk at hbk; omega
  obtain ⟨a', c', e', hel⟩ := partsOpen hP
  simp only [Value.slice.injEq, true_and] at e'
  obtain ⟨rfl, rfl⟩ := e'
  have HEL : Hid (∀ k (hk : k < ks.length), ∃ b off T x, a = some ⟨b, off, none⟩ ∧ b < w.heap.size ∧ w.cell? ⟨b, off + k, none⟩ = some (.iface T x) ∧ ∃ a2 c2, (∀ wx : World, Sem.run Tryz.prog (method 261 T x "loop.example/g00276/impl.height") wx = .ok (117, .agg #[.slice a2 ks[k].kids.length c2]) wx) ∧ ∀ wx, Below w.heap.size w wx → Calls Tryz.prog 117 #[.agg #[.slice a2 ks[k].kids.length c2]] wx fun e w' => e = .returned (.int .i64 (Ty.hgt n ks[k])) ∧ Below wx.heap.size wx w') := fun k hk => by
    obtain ⟨b, off, u, h1, h2, h3⟩ := hel k hk
    cases n with
    | zero => exact h3.elim
    | succ m =>
      obtain ⟨T, x, a2, c2, rfl, hP2, hm⟩ := form_height h3
      refine ⟨b, off, T, x, h1, World.block_lt_of_cell? w ⟨b, off + k, none⟩ h2, h2, a2, c2, hm, fun wx hx => ?_⟩
      have hkb := kid_bulk (m + 1) ks k hk
      have hkk : Ty.bulk (m + 1) ks[k] = ks[k].name.size + (ks[k].names.length + Ty.textsBulk ks[k].names) + (ks[k].kids.length + (ks[k].kids.map (Ty.bulk m)).sum) := rfl
      have hle := hh _ (List.getElem_mem hk)
      refine ih m rfl a2 c2 ks[k].kids wx (hP2.below hx fun u t _ h => h.below hx) (by unfold rowBulk at hbk ⊢; omega) fun q hq => ?_
      have h9 := (fold_max (Ty.hgt m) ks[k].kids 0 1000).1 (by
        have : Ty.hgt (m + 1) ks[k] = ks[k].kids.foldl (fun m' k' => max m' (Ty.hgt m k' + 1)) 0 := rfl
        rw [← this]
        omega)
      have := h9.2 q hq
      omega
  have HLE : Hid (∀ j, hgts n (ks.take j) ≤ 1001) := fun j => hgts_le hh j
  have HMO : Hid (type_of% (hgts_more n ks)) := hgts_more n ks
  clear hP hel hh ih hbk
  go_enter Tryz.func117, Tryz.ntmps117
  go_wp2_with fail
  go_loopw [3, 9] (fun v i wr => ∃ k : Nat, k ≤ ks.length ∧ i = .int .i64 k ∧ v = .int .i64 (hgts n (ks.take k)) ∧ Below w.heap.size w wr) (fun _ i _ => ks.length - (intOf i).toNat)
  case atStart => exact ⟨0, Nat.zero_le _, rfl, rfl, (Below.refl _ _).alloc (Nat.le_refl _) _⟩
  case round =>
    obtain ⟨k, hk, rfl, rfl, hbe⟩ := hrel
    have hl0 := HLE.out k
    by_cases hlt : k < ks.length
    · obtain ⟨b, off, T, x, rfl, hbl, q0, a2, c2, hm, hcal⟩ := HEL.out k hlt
      have C0 := (hbe.cell (p := ⟨b, off + k, none⟩) hbl).trans q0
      have HC : Hid (type_of% (hcal wr hbe)) := hcal wr hbe
      have hl1 := HLE.out (k + 1)
      have hmx := HMO.out k hlt
      have HMX : Hid (Value.int .i64 (max (hgts n (ks.take k) : Int) ((Ty.hgt n ks[k] : Int) + 1)) = Value.int .i64 (hgts n (ks.take (k + 1)))) := by
        show _ = _
        rw [hmx]
        congr 1
        omega
      have hkd : Ty.hgt n ks[k] ≤ 1001 := by omega
      have hk0 : (0 : Int) ≤ (k : Int) := by omega
      have hk1 : (k : Int) < (ks.length : Int) := by omega
      clear q0 hcal hmx HMO HLE hl1
      generalize hgts n (ks.take k) = p at *
      generalize Ty.hgt n ks[k] = h at *
      generalize ks[k].kids.length = l2 at *
      go_wp2_with fail
      refine HC.out.mono ?_
      rintro e w2 ⟨rfl, hb2⟩
      have D2 := hbe.trans (hb2.mono hbe.size)
      clear HC hb2
      go_wp2_with fail
      exact ⟨⟨k + 1, by omega, by go_num, HMX.out, D2⟩, by simp [intOf]; omega⟩
    · have hke : ks.take k = ks := List.take_of_length_le (by omega)
      rw [hke]
      go_wp2_with fail
      go_ret
      exact ⟨rfl, hbe⟩

theorem implHeight (n : Nat) : HeightAt n := by
  induction n with
  | zero => exact heightStep 0 fun m h => by omega
  | succ n ih =>
    refine heightStep (n + 1) fun m h => ?_
    obtain rfl : n = m := by omega
    exact ih

theorem Tryz.infoWorded : (Tryz.prog.info? 64).map (fun i => (i.zero, i.size, i.bytes)) = some (some (.agg #[.string ⟨#[]⟩, .nilIface]), 2, 32) := by kernel_rfl

theorem slice_ownW {w : World} {B e z : Nat} {v : Value} {n : Nat} {xs : List Value} (h : w.ownsRow B e z v n xs) : ∃ a cap, v = .slice a n cap := by
  rcases h.2 with ⟨e, h0⟩ | ⟨g, c, cur, e, _⟩
  · exact ⟨none, 0, by rw [e, h0]⟩
  · exact ⟨_, c, e⟩
/-- the interface value holds the type; its memory is within those blocks -/
def InQ (w : World) (B lo hi n : Nat) (v : Value) (t : Ty) : Prop := ∃ l' h', lo ≤ l' ∧ h' ≤ hi ∧ FormIn w B n l' h' v t
theorem InQ.at {w : World} {B lo hi n : Nat} {v : Value} {t : Ty} (h : InQ w B lo hi n v t) : FormAt w n v t := by
  obtain ⟨_, _, _, _, h⟩ := h
  exact h.at
/-- these hold the types -/
def HoldW (w : World) (B lo hi n : Nat) (l : List WE) : Prop := ∀ e ∈ l, InQ w B lo hi n (.iface e.T e.x) e.t

set_option maxHeartbeats 3200000 in
set_option maxRecDepth 100000 in
theorem implWorded (n : Nat) (a : Option Addr) (c : Nat) (ks : List Ty) (d : Int) (B lo hi : Nat) (W w : World) (hWw : Below W.heap.size W w) (hP : PartsAt w (InQ W B lo hi n) (.slice a ks.length c) ks) (hr : ∀ q ∈ ks, Right n q d) (hbk : rowBulk n ks ≤ 1048576) :
    Calls Tryz.prog 24 #[.slice a ks.length c] w fun e w' => ∃ (v : Value) (l : List WE), e = .returned v ∧ l.map (·.t) = ks ∧ HoldW W B lo hi n l ∧ w'.ownsRow w.heap.size 64 2 v l.length (flatW n l) ∧ Below w.heap.size w w' := by
  obtain ⟨i0, hi0, hz0, hz1, hz2⟩ := info_parts Tryz.infoWorded
  have hlen : ks.length ≤ 1048576 := by unfold rowBulk at hbk; omega
  obtain ⟨a', c', e', hel⟩ := partsOpen hP
  simp only [Value.slice.injEq, true_and] at e'
  obtain ⟨rfl, rfl⟩ := e'
  have HEL : Hid (∀ k (hk : k < ks.length), ∃ b off T x, a = some ⟨b, off, none⟩ ∧ b < w.heap.size ∧ w.cell? ⟨b, off + k, none⟩ = some (.iface T x) ∧ InQ W B lo hi n (.iface T x) ks[k] ∧ ∀ wx, Below w.heap.size w wx → Calls Tryz.prog 43 #[.iface T x] wx fun e w' => e = .returned (.string (Ty.text n ks[k])) ∧ Below wx.heap.size wx w') := fun k hk => by
    obtain ⟨b, off, u, h1, h2, h3⟩ := hel k hk
    obtain ⟨T, x, rfl⟩ := form_iface h3.at
    refine ⟨b, off, T, x, h1, World.block_lt_of_cell? w ⟨b, off + k, none⟩ h2, h2, h3, fun wx hx => implTextOf n _ _ d wx (h3.at.below (hWw.trans (hx.mono hWw.size))) (hr _ (List.getElem_mem hk)) ?_⟩
    have := kid_bulk n ks k hk
    unfold rowBulk at hbk
    omega
  clear hP hel hr hbk
  go_enter Tryz.func24, Tryz.ntmps24
  go_wp2_with fail
  go_loopw [3, 8] (fun v i wr => ∃ (k : Nat) (l : List WE), k ≤ ks.length ∧ i = .int .i64 k ∧ l.length = k ∧ l.map (·.t) = ks.take k ∧ HoldW W B lo hi n l ∧ wr.ownsRow w.heap.size 64 2 v l.length (flatW n l) ∧ Below w.heap.size w wr) (fun _ i _ => ks.length - (intOf i).toNat)
  case atStart => exact ⟨0, [], Nat.zero_le _, rfl, rfl, by simp, fun e he => absurd he (by simp), World.ownsRow_nil _ _ _ _, Below.refl _ _⟩
  case round =>
    obtain ⟨k, l, hk, rfl, hll, hlt, hW, ho, hbe⟩ := hrel
    obtain ⟨av, cv, hv⟩ := slice_ownW ho
    subst hv
    have HW : Hid (type_of% hW) := hW
    have HLT : Hid (type_of% hlt) := hlt
    have hlb : l.length ≤ 1048576 := by omega
    have HLL : Hid (type_of% hll) := hll
    have HO : Hid (type_of% ho) := ho
    by_cases hkl : k < ks.length
    · obtain ⟨b, off, T, x, rfl, hbl, q0, hfm, hcal⟩ := HEL.out k hkl
      have C0 := (hbe.cell (p := ⟨b, off + k, none⟩) hbl).trans q0
      have HC : Hid (type_of% (hcal wr hbe)) := hcal wr hbe
      have HW2 : Hid (HoldW W B lo hi n (l ++ [⟨T, x, ks[k]⟩])) := fun e he => by
        rcases List.mem_append.1 he with he | he
        · exact HW.out e he
        · simp only [List.mem_singleton] at he
          subst he
          exact hfm
      have HLT2 : Hid ((l ++ [(⟨T, x, ks[k]⟩ : WE)]).map (·.t) = ks.take (k + 1)) := by
        show _ = _
        rw [List.map_append, HLT.out, List.take_succ_eq_append_getElem hkl]
        rfl
      have HFL : Hid (flatW n l ++ [.string (Ty.text n ks[k]), .iface T x] = flatW n (l ++ [⟨T, x, ks[k]⟩])) := by
        show _ = _
        rw [flatW_app]
        rfl
      have hk0 : (0 : Int) ≤ (k : Int) := by omega
      have hk1 : (k : Int) < (ks.length : Int) := by omega
      obtain ⟨L, hL⟩ : ∃ L : List WE, L = l ++ [⟨T, x, ks[k]⟩] := ⟨_, rfl⟩
      have hLl : L.length = l.length + 1 := by rw [hL]; simp
      have HLL2 : Hid (L.length = k + 1 ∧ L.length = l.length + 1) := ⟨by omega, hLl⟩
      rw [← hL] at HW2 HLT2 HFL
      clear q0 hcal hW hlt hfm hll hL hLl ho HW HLT HLL
      generalize Ty.text n ks[k] = tx at *
      go_wp2_with fail
      refine HC.out.mono ?_
      rintro e w2 ⟨rfl, hb2⟩
      have D2 := hbe.trans (hb2.mono hbe.size)
      have hA : Below w2.heap.size w2 (w2.alloc (.cells #[.string tx, .iface T x] 64)) := (Below.refl _ _).alloc (Nat.le_refl _) _
      have how := kept_belowT (kept_belowT HO.out hb2) hA
      have D3 := D2.trans (hA.mono D2.size)
      have hz2' : w.heap.size ≤ w2.heap.size := D2.size
      clear HC hb2 HO hA
      go_wp2_with (at_builtin; refine wpList_append_lies _ rfl _ _ 54 rfl w.heap.size 64 i0 _ 2 32 Tryz.underlying54 hi0 hz0 hz1 hz2 rfl (by decide) _ _ _ rfl how ⟨w2.heap.size, 0, none⟩ 1 1 [.string tx, .iface T x] rfl rfl ?d1 ?d2 (by decide) ?d3 ?d4 ?d5 (w2.heap.size + 1) (by simp) ?_)
      case d1 => exact World.news_of_block (cs := #[.string tx, .iface T x]) (t := 64) (fr := (0, 0)) (MapKept.heap_alloc w2 _).1
      case d2 => simp [Value.oneCell']
      case d3 => unfold maxLen; omega
      case d4 => omega
      case d5 => simp; omega
      intro gl cl w3 hown hgrow _ _
      have HON : Hid (w3.ownsRow w.heap.size 64 2 (.slice (some ⟨gl, 0, none⟩) (l.length + 1) cl) L.length (flatW n L)) := by
        rw [HLL2.out.2, ← HFL.out]
        exact hown
      have HB3 : Hid (type_of% (D3.grown hgrow (by simp; omega) (fun j hj => (how.lt j hj).1))) := D3.grown hgrow (by simp; omega) (fun j hj => (how.lt j hj).1)
      clear hown hgrow how D2 D3 HFL
      go_wp2_with fail
      go_roundw
      case rel => exact ⟨k + 1, L, by omega, by go_num, HLL2.out.1, HLT2.out, HW2.out, HON.out, HB3.out⟩
      case measure => simp [intOf]; omega
    · have HLT2 : Hid (l.map (·.t) = ks) := by
        show _ = _
        rw [HLT.out]
        exact List.take_of_length_le (by omega)
      clear ho hW hlt
      go_wp2_with fail
      go_ret
      exact ⟨_, l, rfl, HLT2.out, HW.out, HO.out, hbe⟩

end Go.Proofs.YthomlchbgcjcfaaGreatDoor

namespace Go.Proofs.YthomlchbgcjcfaaGreatDoor
open Go.RowKit

theorem FormAt.up {w : World} {n : Nat} {v : Value} {t : Ty} (h : FormAt w n v t) : FormAt w (n + 1) v t := by
  induction n generalizing v t with
  | zero => exact h.elim
  | succ n ih =>
    obtain ⟨vp, vn, h1, h2, h3⟩ := h
    refine ⟨vp, vn, h1, h2, ?_⟩
    rcases h3 with h | ⟨b, off, cap, e, hcap, hc⟩
    · exact .inl h
    · refine .inr ⟨b, off, cap, e, hcap, fun j hj => ?_⟩
      obtain ⟨u, q1, q2⟩ := hc j hj
      exact ⟨u, q1, ih q2⟩
theorem FormIn.up {w : World} {B n lo hi : Nat} {v : Value} {t : Ty} (h : FormIn w B n lo hi v t) : FormIn w B (n + 1) lo hi v t := by
  induction n generalizing lo hi v t with
  | zero => exact h.elim
  | succ n ih =>
    obtain ⟨vp, vn, h1, h2, h3⟩ := h
    refine ⟨vp, vn, h1, h2, ?_⟩
    rcases h3 with h3 | ⟨b, cap, e, g0, g1, g2, g3⟩
    · exact .inl h3
    · refine .inr ⟨b, cap, e, g0, g1, g2, fun j hj => ?_⟩
      obtain ⟨l', h', u, q1, q2, q3, q4⟩ := g3 j hj
      exact ⟨l', h', u, q1, q2, q3, ih q4⟩
theorem InQ.up {w : World} {B lo hi n : Nat} {v : Value} {t : Ty} (h : InQ w B lo hi n v t) : InQ w B lo hi (n + 1) v t := by
  obtain ⟨l', h', a, b, c⟩ := h
  exact ⟨l', h', a, b, c.up⟩
theorem InQ.kids {w : World} {B lo hi n : Nat} {a : Option Addr} {l c : Nat} {t : Ty} (h : InQ w B lo hi (n + 1) (.iface 59 (.agg #[.slice a l c])) t) (h7 : t.kind = 7) : PartsAt w (InQ w B lo hi n) (.slice a l c) t.kids := by
  obtain ⟨l', h', a1, b1, vp, vn, e, _, hP⟩ := h
  unfold formV at e
  rw [if_neg (by omega), if_neg (by omega), if_neg (by omega), if_neg (by omega), if_neg (by omega), if_neg (by omega), if_neg (by omega)] at e
  simp only [Value.iface.injEq, Value.agg.injEq, true_and] at e
  have e' : Value.slice a l c = vp := by
    have := congrArg (fun x : Array Value => x[0]?) e
    simpa using this
  subst e'
  rcases hP with hP | ⟨b, cap, e, g0, g1, g2, g3⟩
  · exact .inl hP
  · refine .inr ⟨b, 0, cap, e, g0, fun j hj => ?_⟩
    obtain ⟨l2, h2, u, q1, q2, q3, q4⟩ := g3 j hj
    exact ⟨u, by rw [Nat.zero_add]; exact q3, l2, h2, by omega, by omega, q4⟩
theorem InQ.step {w w' : World} {B lo hi n : Nat} {v : Value} {t : Ty} (h : InQ w B lo hi n v t) (hb : Below w.heap.size w w') (hB : B ≤ w.heap.size) (hh : hi ≤ w.heap.size) : FormIn w' B n lo w'.heap.size v t := by
  obtain ⟨l', h', a, b, c⟩ := h
  exact (c.same (fun x hx => hb.block x (by omega)) (fun x _ hx => hb.block x (by omega))).mono a (by have := hb.size; omega)
theorem assert3 {w : World} {n : Nat} {v : Value} {t : Ty} (h : FormAt w n v t) (hk : t.kind = 3) : ∃ x, v = .iface 58 x ∧ (∃ a l c, x = .agg #[.slice a l c]) ∧ ∀ wx : World, (Instr.typeAssert v 41 58 true).run Tryz.prog wx = .ok (.tuple #[x, .bool true]) wx := by
  cases n with
  | zero => exact h.elim
  | succ n =>
    obtain ⟨a, c, an, cn, _, _, hc⟩ := h.cases
    generalize t.kids.length = l at *
    generalize t.names.length = l' at *
    generalize t.name = nm at *
    rcases hc with ⟨k, rfl⟩ | ⟨k, rfl⟩ | ⟨k, rfl⟩ | ⟨k, rfl⟩ | ⟨k, rfl⟩ | ⟨k, rfl⟩ | ⟨k, rfl⟩ | ⟨k, rfl⟩
    · omega
    · omega
    · omega
    · exact ⟨_, rfl, ⟨_, _, _, rfl⟩, fun wx => by kernel_rfl⟩
    · omega
    · omega
    · omega
    · omega
theorem assert7 {w : World} {n : Nat} {v : Value} {t : Ty} (h : FormAt w (n + 1) v t) (hk : t.kind = 7) : ∃ a c, v = .iface 59 (.agg #[.slice a t.kids.length c]) ∧ PartsAt w (FormAt w n) (.slice a t.kids.length c) t.kids ∧ (∀ wx : World, (Instr.typeAssert v 41 58 true).run Tryz.prog wx = .ok (.tuple #[.agg #[.slice none 0 0], .bool false]) wx) ∧ ∀ wx : World, (Instr.typeAssert v 41 59 true).run Tryz.prog wx = .ok (.tuple #[.agg #[.slice a t.kids.length c], .bool true]) wx := by
  obtain ⟨a, c, an, cn, hP, _, hc⟩ := h.cases
  generalize t.names.length = l' at *
  generalize t.name = nm at *
  rcases hc with ⟨k, rfl⟩ | ⟨k, rfl⟩ | ⟨k, rfl⟩ | ⟨k, rfl⟩ | ⟨k, rfl⟩ | ⟨k, rfl⟩ | ⟨k, rfl⟩ | ⟨k, rfl⟩
  · omega
  · omega
  · omega
  · omega
  · omega
  · omega
  · omega
  · exact ⟨a, c, rfl, hP, fun wx => by generalize t.kids.length = l at *; kernel_rfl, fun wx => by generalize t.kids.length = l at *; kernel_rfl⟩

/-- what wordedForms leaves -/
def WordPost (W wx : World) (B lo hi n : Nat) (ks : List Ty) (e : Ending) (w' : World) : Prop := ∃ (g cap : Nat) (l : List WE), e = .returned (.slice (some ⟨g, 0, none⟩) l.length cap) ∧ 0 < l.length ∧ l.length ≤ 1048576 ∧ l.map (·.t) = ks ∧ HoldW W B lo hi n l ∧ w'.ownsRow wx.heap.size 64 2 (.slice (some ⟨g, 0, none⟩) l.length cap) l.length (flatW n l) ∧ Below wx.heap.size wx w'

theorem flatW_up {n : Nat} {l : List WE} {d : Int} (h : ∀ e ∈ l, Right n e.t d) : flatW (n + 1) l = flatW n l := by
  unfold flatW
  induction l with
  | nil => rfl
  | cons a r ih =>
    rw [List.flatMap_cons, List.flatMap_cons, ih fun e he => h e (List.mem_cons_of_mem _ he)]
    unfold encW
    rw [text_up (h a (by simp))]
theorem own_some {w : World} {B e z : Nat} {v : Value} {n : Nat} {xs : List Value} (h : w.ownsRow B e z v n xs) (hn : 0 < n) : ∃ g cap, v = .slice (some ⟨g, 0, none⟩) n cap := by
  rcases h.2 with ⟨_, h0⟩ | ⟨g, c, cur, e, _⟩
  · omega
  · exact ⟨g, c, e⟩

theorem word7 {W w : World} {B lo hi n : Nat} {a : Option Addr} {c : Nat} {t : Ty} (hW : Below W.heap.size W w) (hP : PartsAt W (InQ W B lo hi n) (.slice a t.kids.length c) t.kids) (hr : Right (n + 1) t 12) (h7 : t.kind = 7) (hb : Ty.bulk (n + 1) t ≤ 1048576) :
    Calls Tryz.prog 24 #[.slice a t.kids.length c] w (WordPost W w B lo hi (n + 1) t.kids) := by
  have hbb : Ty.bulk (n + 1) t = t.name.size + (t.names.length + Ty.textsBulk t.names) + (t.kids.length + (t.kids.map (Ty.bulk n)).sum) := rfl
  refine (implWorded n a c t.kids (12 - 1) B lo hi W w hW (hP.below hW fun u q _ h => h) (fun q hq => hr.2.1 q hq) (by unfold rowBulk; omega)).mono fun e w' h => ?_
  obtain ⟨v, l, rfl, hlt, hh, ho, hbe⟩ := h
  have hll : l.length = t.kids.length := by rw [← hlt]; simp
  obtain ⟨x, y, r, hk⟩ := (right_union hr h7).2.2.2
  have hk2 : 0 < t.kids.length := by rw [hk]; simp
  obtain ⟨g, cap, rfl⟩ := own_some ho (by omega)
  refine ⟨g, cap, l, rfl, by omega, by omega, hlt, fun e he => (hh e he).up, ?_, hbe⟩
  rw [flatW_up (d := 12 - 1) fun e he => hr.2.1 e.t (by rw [← hlt]; exact List.mem_map_of_mem he)]
  exact ho
theorem word1 {W w : World} {B lo hi n b : Nat} {T : Nat} {x : Value} {t : Ty} {d : Int} (hW : Below W.heap.size W w) (hc : w.cell? ⟨b, 0, none⟩ = some (.iface T x)) (hf : InQ W B lo hi n (.iface T x) t) (hr : Right n t d) (hb : Ty.bulk n t < 1048576) :
    Calls Tryz.prog 24 #[.slice (some ⟨b, 0, none⟩) 1 1] w (WordPost W w B lo hi n [t]) := by
  have hP : PartsAt w (InQ W B lo hi n) (.slice (some ⟨b, 0, none⟩) [t].length 1) [t] := .inr ⟨b, 0, 1, rfl, Nat.le_refl _, fun j hj => by
    obtain rfl : j = 0 := by simp at hj; omega
    exact ⟨_, hc, hf⟩⟩
  refine (implWorded n (some ⟨b, 0, none⟩) 1 [t] d B lo hi W w hW hP (fun q hq => by simp only [List.mem_singleton] at hq; subst hq; exact hr) (by unfold rowBulk; simp; omega)).mono fun e w' h => ?_
  obtain ⟨v, l, rfl, hlt, hh, ho, hbe⟩ := h
  have hll : l.length = 1 := by have := congrArg List.length hlt; simpa using this
  obtain ⟨g, cap, rfl⟩ := own_some ho (by omega)
  exact ⟨g, cap, l, rfl, by omega, by omega, hlt, hh, ho, hbe⟩

/-- the type of such a union -/
def UForm (n : Nat) (ts : List Ty) (t : Ty) : Prop :=
  ((∃ q ∈ ts, q.kind = 3) ∧ t = .mk 3 ⟨#[]⟩ [] []) ∨ ((∀ q ∈ ts, q.kind ≠ 3) ∧ ∃ S, UnionS n ts S ∧ (S = [t] ∨ (1 < S.length ∧ t = .mk 7 ⟨#[]⟩ [] S)))

theorem any_of {n : Nat} {t : Ty} {d : Int} (h : Right n t d) (h3 : t.kind = 3) : t = .mk 3 ⟨#[]⟩ [] [] := by
  cases n with
  | zero => exact h.elim
  | succ n =>
    have ha := right_alone h.2.2
    rw [ownAlone_iff] at ha
    obtain ⟨kd, nm, nms, ks⟩ := t
    simp only at h3 ha
    subst h3
    obtain ⟨h1, h2, h4⟩ := ha
    have e1 : nm = ⟨#[]⟩ := ByteArray.ext (Array.eq_empty_of_size_eq_zero (by rcases h1 with h | h; omega; exact h))
    have e2 : nms = [] := List.eq_nil_of_length_eq_zero (by omega)
    have e3 : ks = [] := List.eq_nil_of_length_eq_zero (by omega)
    rw [e1, e2, e3]

/-- what is kept of sorted ones is the union -/
theorem keep_union {n : Nat} {ts : List Ty} {l E L : List WE} (hr : ∀ q ∈ ts, Right n q 12) (hl : l.map (·.t) = atoms ts) (hp : E.Perm l) (hk : KeepP (fun e => Ty.text n e.t) E E.length L) : UnionS n ts (L.map (·.t)) := by
  have hE : ∀ e, e ∈ E → e.t ∈ atoms ts := fun e he => by rw [← hl]; exact List.mem_map_of_mem (hp.mem_iff.1 he)
  refine ⟨fun x => ⟨fun hx => ?_, fun hx => ?_⟩, ?_⟩
  · obtain ⟨e, he, rfl⟩ := List.mem_map.1 hx
    exact hE e (hk.sub e he)
  · rw [← hl] at hx
    obtain ⟨e, he, rfl⟩ := List.mem_map.1 hx
    have he' := hp.mem_iff.2 he
    obtain ⟨e', h1, h2⟩ := hk.all e (by rw [List.take_length]; exact he')
    have r1 := (atom_right hr (hE e he')).1
    have r2 := (atom_right hr (hE e' (hk.sub e' h1))).1
    exact List.mem_map.2 ⟨e', h1, text_one r2 r1 h2⟩
  · rw [List.pairwise_map]
    exact hk.asc

end Go.Proofs.YthomlchbgcjcfaaGreatDoor

namespace Go.Proofs.YthomlchbgcjcfaaGreatDoor
open Go.RowKit

/-- the union that is being made -/
structure Box1 (W wr : World) (k : Nat) (v : Value) (X : List Value) : Prop where
  box : wr.heap[W.heap.size]? = some (.cells #[v] 59 (0, 0))
  own : wr.ownsRow (W.heap.size + 1) 41 1 v k X
  old : Below W.heap.size W wr
theorem block1U {W : World} {b : Nat} {x : Value} (h : W.heap[b]? = some (.cells #[x] 59 (0, 0))) : W.cell? ⟨b, 0, none⟩ = some x ∧ W.frozen? ⟨b, 0, none⟩ = false := by
  constructor
  · rw [cell_of_row W b 0 _ _ _ h]; rfl
  · simp [World.frozen?, h]
theorem Box1.step {W wr w4 : World} {k : Nat} {v v' : Value} {X X' : List Value} {o1 o2 : Obj} (h : Box1 W wr k v X) (hg : ((wr.alloc o1).alloc o2).grownBy w4 v.ownBlock) (hown : w4.ownsRow (W.heap.size + 1) 41 1 v' (k + 1) X') : Box1 W (w4.setCell ⟨W.heap.size, 0, none⟩ v') (k + 1) v' X' := by
  have hlt : W.heap.size < wr.heap.size := (Array.getElem?_eq_some_iff.1 h.box).1
  have hN : ∀ g, v.ownBlock = some g → W.heap.size + 1 ≤ g := fun g e => (h.own.lt g e).1
  have keep : ∀ b, b < wr.heap.size → v.ownBlock ≠ some b → w4.heap[b]? = wr.heap[b]? := fun b hb hne => (hg.block b (by simp; omega) fun e => hne e.symm).trans (((MapKept.heap_alloc (wr.alloc o1) o2).2 b (by simp; omega)).trans ((MapKept.heap_alloc wr o1).2 b hb))
  refine ⟨?_, ?_, ?_⟩
  · have hb : w4.heap[W.heap.size]? = some (.cells #[v] 59 (0, 0)) := (keep _ hlt fun e => by have := hN _ e; omega).trans h.box
    exact heap_setCell_same w4 W.heap.size 0 _ _ _ hb
  · refine ⟨hown.1, ?_⟩
    rcases hown.2 with q | ⟨g, cap, cur, q1, q2, q3, q4⟩
    · exact .inl q
    · refine .inr ⟨g, cap, cur, q1, q2, ?_, q4⟩
      rw [Below.heap_setCell _ _ _ _ (by simp; omega)]
      exact q3
  · have h1 : Below W.heap.size W ((wr.alloc o1).alloc o2) := (h.old.alloc (by omega) _).alloc (by simp; omega) _
    exact (h1.grown hg (by simp; omega) (fun j hj => by have := hN j hj; omega)).setCell (Nat.le_refl _) _

theorem cellOld_anyU {w : World} {o : Obj} {b i : Nat} {u : Value} (h : w.cell? ⟨b, i, none⟩ = some u) (hb : b < w.heap.size) : (w.alloc o).cell? ⟨b, i, none⟩ = some u := (cellOld i hb).trans h
theorem frozen_sameU {w w' : World} {b : Nat} (o : Nat) (h : w'.heap[b]? = w.heap[b]?) : w'.frozen? ⟨b, o, none⟩ = w.frozen? ⟨b, o, none⟩ := by simp only [World.frozen?, h]

/-- the union that was made, as a form -/
theorem Box1.form {W wr w : World} {B lo hi n : Nat} {v : Value} {L : List WE} (h : Box1 W wr L.length v (L.map fun e => .iface e.T e.x)) (hH : HoldW w B lo hi n L) (hw : Below w.heap.size w wr) (hB : B ≤ w.heap.size) (hh : hi ≤ w.heap.size) (hlo : lo ≤ W.heap.size) (h0 : 0 < L.length) : ∃ a c, v = .slice a L.length c ∧ FormIn wr B (n + 1) lo wr.heap.size (.iface 59 (.agg #[.slice a L.length c])) (.mk 7 ⟨#[]⟩ [] (L.map (·.t))) := by
  obtain ⟨g, cap, rfl⟩ := own_some h.own h0
  have hcap : L.length ≤ cap := by
    rcases h.own.2 with ⟨_, q⟩ | ⟨g', c', cur, e, _, _, q, _⟩
    · omega
    · cases e; exact q
  have hg := h.own.lt g rfl
  refine ⟨_, _, rfl, .slice (some ⟨g, 0, none⟩) L.length cap, .slice none 0 0, rfl, fun w' _ => .inl ⟨rfl, none, 0, rfl⟩, .inr ⟨g, cap, by simp, by simpa using hcap, by omega, hg.2, fun j hj => ?_⟩⟩
  have hj' : j < L.length := by simpa using hj
  refine ⟨lo, wr.heap.size, .iface L[j].T L[j].x, Nat.le_refl _, Nat.le_refl _, ?_, ?_⟩
  · rw [h.own.cellAt j (by omega)]
    simp [hj']
  · have := (hH _ (List.getElem_mem hj')).step hw hB hh
    simpa using this

theorem atoms_len {n : Nat} {ts : List Ty} (hr : ∀ q ∈ ts, Right n q 12) (hbk : rowBulk n ts ≤ 1048576) (k : Nat) : (atoms (ts.take k)).length ≤ 1048576 := by
  have h1 := atoms_bulk fun t ht => hr t (List.mem_of_mem_take (i := k) ht)
  have h2 := sum_le n ts k
  have h3 : (ts.take k).length ≤ ts.length := by rw [List.length_take]; omega
  unfold rowBulk at hbk
  omega
theorem atoms_more {ts : List Ty} (k : Nat) (h : k < ts.length) : atoms (ts.take (k + 1)) = atoms (ts.take k) ++ atoms [ts[k]] := by rw [List.take_succ_eq_append_getElem h, atoms_app]
theorem atoms_7 {t : Ty} (h : t.kind = 7) : atoms [t] = t.kids := by simp [atoms, h]
theorem atoms_1 {t : Ty} (h : t.kind ≠ 7) : atoms [t] = [t] := by simp [atoms, h]

theorem own_new {w : World} {B e g n cap z : Nat} {xs : List Value} (h : w.ownsRow B e z (.slice (some ⟨g, 0, none⟩) n cap) n xs) : ∀ j u, xs[j]? = some u → w.cell? ((⟨g, 0, none⟩ : Addr).add j) = some u := fun j u hu => by
  have hadd : (⟨g, 0, none⟩ : Addr).add j = ⟨g, j, none⟩ := by unfold Addr.add; split <;> simp_all
  have hj : j < n * z := by rw [← h.1]; exact (List.getElem?_eq_some_iff.1 hu).1
  rw [hadd, h.cellAt j hj, hu]
theorem flat_one (n : Nat) (l : List WE) : ∀ u ∈ flatW n l, u.oneCell' = true := fun u hu => by
  obtain ⟨e, _, he⟩ := List.mem_flatMap.1 hu
  simp only [encW, List.mem_cons, List.not_mem_nil, or_false] at he
  rcases he with rfl | rfl <;> rfl

theorem one_map (L : List WE) (h : L.length = 1) : L.map (·.t) = [(L[0]'(by omega)).t] := by
  match L, h with
  | [e], _ => rfl

set_option maxHeartbeats 6400000 in
set_option maxRecDepth 100000 in
theorem implUnionOf (B lo hi n : Nat) (a : Option Addr) (c : Nat) (ts : List Ty) (w : World) (hBw : B ≤ w.heap.size) (hlo : lo ≤ w.heap.size) (hhi : hi ≤ w.heap.size) (hP : PartsAt w (InQ w B lo hi n) (.slice a ts.length c) ts) (hr : ∀ q ∈ ts, Right n q 12) (h0 : ts ≠ []) (hbk : rowBulk n ts ≤ 1048576) :
    Calls Tryz.prog 14 #[.slice a ts.length c] w fun e w' => ∃ (T : Nat) (x : Value) (t : Ty), e = .returned (.iface T x) ∧ FormIn w' B (n + 1) lo w'.heap.size (.iface T x) t ∧ UForm n ts t ∧ Below w.heap.size w w' := by
  obtain ⟨i0, hi0, hz0, hz1, hz2⟩ := info_parts Tryz.infoWorded
  obtain ⟨j0, hj, hy0, hy1, hy2⟩ := info_parts Tryz.infoForm
  have hlen : ts.length ≤ 1048576 := by unfold rowBulk at hbk; omega
  obtain ⟨a', c', e', hel⟩ := partsOpen hP
  simp only [Value.slice.injEq, true_and] at e'
  obtain ⟨rfl, rfl⟩ := e'
  have HEL : Hid (∀ k (hk : k < ts.length), ∃ b off T x, a = some ⟨b, off, none⟩ ∧ b < w.heap.size ∧ w.cell? ⟨b, off + k, none⟩ = some (.iface T x) ∧ InQ w B lo hi n (.iface T x) ts[k]) := fun k hk => by
    obtain ⟨b, off, u, h1, h2, h3⟩ := hel k hk
    obtain ⟨T, x, rfl⟩ := form_iface h3.at
    exact ⟨b, off, T, x, h1, World.block_lt_of_cell? w ⟨b, off + k, none⟩ h2, h2, h3⟩
  have HR : Hid (type_of% hr) := hr
  have HBK : Hid (type_of% hbk) := hbk
  have H0 : Hid (type_of% h0) := h0
  have HAL : Hid (∀ k, (atoms (ts.take k)).length ≤ 1048576) := atoms_len hr hbk
  clear hP hel hr hbk h0
  go_enter Tryz.func14, Tryz.ntmps14
  go_wp2_with fail
  go_loopw [3, 14] (fun v i wr => ∃ (k : Nat) (l : List WE), k ≤ ts.length ∧ i = .int .i64 k ∧ l.map (·.t) = atoms (ts.take k) ∧ (∀ q ∈ ts.take k, q.kind ≠ 3) ∧ HoldW w B lo hi n l ∧ wr.ownsRow w.heap.size 64 2 v l.length (flatW n l) ∧ Below w.heap.size w wr) (fun _ i _ => ts.length - (intOf i).toNat)
  case atStart => exact ⟨0, [], Nat.zero_le _, rfl, by simp [atoms], fun q hq => absurd hq (by simp), fun e he => absurd he (by simp), World.ownsRow_nil _ _ _ _, Below.refl _ _⟩
  case round =>
    obtain ⟨wo, rfl⟩ : ∃ wo, wo = wr := ⟨_, rfl⟩
    obtain ⟨k, l, hk, rfl, hlt, hn3, hW, ho, hbe⟩ := hrel
    obtain ⟨av, cv, hv⟩ := slice_ownW ho
    subst hv
    have hlb : l.length ≤ 1048576 := by have := HAL.out k; rw [← hlt] at this; simpa using this
    have HW : Hid (type_of% hW) := hW
    have HLT : Hid (type_of% hlt) := hlt
    have HN3 : Hid (type_of% hn3) := hn3
    have HO : Hid (type_of% ho) := ho
    have hz : w.heap.size ≤ wo.heap.size := hbe.size
    clear hW hlt hn3 ho
    by_cases hkl : k < ts.length
    · obtain ⟨b, off, T, x, rfl, hbl, q0, hfm⟩ := HEL.out k hkl
      have C0 := (hbe.cell (p := ⟨b, off + k, none⟩) hbl).trans q0
      have hk0 : (0 : Int) ≤ (k : Int) := by omega
      have hk1 : (k : Int) < (ts.length : Int) := by omega
      have hrk := HR.out _ (List.getElem_mem hkl)
      have hbu : Ty.bulk n ts[k] < 1048576 := by
        have h1 := kid_bulk n ts k hkl
        have h2 := HBK.out
        unfold rowBulk at h2
        omega
      clear q0
      by_cases c3 : ts[k].kind = 3
      · obtain ⟨x', e', ⟨a3, l3, c3', hx⟩, h3⟩ := assert3 hfm.at c3
        simp only [Value.iface.injEq] at e'
        obtain ⟨rfl, rfl⟩ := e'
        subst hx
        have HF : Hid (∀ w', Below w.heap.size w w' → FormIn w' B (n + 1) lo w'.heap.size (.iface 58 (.agg #[.slice a3 l3 c3'])) ts[k] ∧ UForm n ts ts[k]) := fun w' h => ⟨hfm.up.step h hBw hhi, .inl ⟨⟨_, List.getElem_mem hkl, c3⟩, any_of hrk c3⟩⟩
        clear hfm c3 hrk HR HBK HAL HEL HLT HN3 HO HW
        generalize ts[k] = t at *
        go_wp2_with fail
        go_ret
        have hb9 := hbe.alloc hz (.cells #[.slice a3 l3 c3'] 58)
        exact ⟨_, _, t, rfl, (HF.out _ hb9).1, (HF.out _ hb9).2, hb9⟩
      · have HN2 : Hid (∀ q ∈ ts.take (k + 1), q.kind ≠ 3) := fun q hq => by
          rw [List.take_succ_eq_append_getElem hkl, List.mem_append, List.mem_singleton] at hq
          rcases hq with hq | hq
          · exact HN3.out q hq
          · subst hq; exact c3
        have HA1 := HAL.out (k + 1)
        by_cases c7 : ts[k].kind = 7
        · obtain ⟨m, rfl⟩ : ∃ m, n = m + 1 := by
            cases n with
            | zero => exact hrk.elim
            | succ m => exact ⟨m, rfl⟩
          obtain ⟨a7, l7, e7, _, h3, h7⟩ := assert7 hfm.at c7
          simp only [Value.iface.injEq] at e7
          obtain ⟨rfl, rfl⟩ := e7
          have hP7 := hfm.kids c7
          have HC : Hid (∀ wx, Below w.heap.size w wx → Calls Tryz.prog 24 #[.slice a7 ts[k].kids.length l7] wx (WordPost w wx B lo hi (m + 1) ts[k].kids)) := fun wx hx => word7 hx hP7 hrk c7 (by omega)
          have HK1 : Hid (∀ wx : World, Calls Tryz.prog 25 #[.agg #[.slice a7 ts[k].kids.length l7]] wx fun e w' => e = .returned (.slice a7 ts[k].kids.length l7) ∧ w' = wx.alloc (.cells #[.slice a7 ts[k].kids.length l7] 56)) := fun wx => implKids a7 ts[k].kids.length l7 wx
          have HMO : Hid (∀ l2 : List WE, l2.map (·.t) = ts[k].kids → (l ++ l2).map (·.t) = atoms (ts.take (k + 1)) ∧ (l ++ l2).length ≤ 1048576) := fun l2 h2 => by
            have e1 : (l ++ l2).map (·.t) = atoms (ts.take (k + 1)) := by rw [List.map_append, HLT.out, h2, atoms_more k hkl, atoms_7 c7]
            exact ⟨e1, by rw [← e1] at HA1; simpa using HA1⟩
          clear hfm c3 c7 hrk HR HBK HAL HEL HLT HN3 hP7 hbu HA1
          generalize ts[k].kids = kids at *
          generalize kids.length = lk at *
          go_wp2_with fail
          refine (HK1.out _).mono ?_
          rintro e w1 ⟨rfl, rfl⟩
          have hb1 : Below w.heap.size w ((wo.alloc (.cells #[.slice a7 lk l7] 59)).alloc (.cells #[.slice a7 lk l7] 56)) := (hbe.alloc hz _).alloc (by simp; omega) _
          have ho1 := (HO.out.alloc (.cells #[.slice a7 lk l7] 59)).alloc (.cells #[.slice a7 lk l7] 56)
          have HC1 : Hid (type_of% (HC.out _ hb1)) := HC.out _ hb1
          clear HC HO HK1
          go_wp2_with fail
          refine HC1.out.mono ?_
          rintro e w2 ⟨g2, cap2, l2, rfl, hl0, hl1, hm2, hW2, ho2, hb2⟩
          have how := kept_belowT ho1 hb2
          have D2 := hb1.trans (hb2.mono hb1.size)
          have hz2' : w.heap.size ≤ w2.heap.size := D2.size
          have HM : Hid (type_of% (HMO.out l2 hm2)) := HMO.out l2 hm2
          have HW2 : Hid (HoldW w B lo hi (m + 1) (l ++ l2)) := fun e he => by
            rcases List.mem_append.1 he with he | he
            · exact HW.out e he
            · exact hW2 e he
          have HO2 : Hid (type_of% ho2) := ho2
          have hfl : (flatW (m + 1) l2).length = l2.length * 2 := flatW_len _ _
          have hone := flat_one (m + 1) l2
          have hnew := own_new ho2
          clear hW2 ho2 hm2 HMO HC1 hb2 ho1 hb1
          go_wp2_with (at_builtin; refine wpList_append_lies _ rfl _ _ 54 rfl w.heap.size 64 i0 _ 2 32 Tryz.underlying54 hi0 hz0 hz1 hz2 rfl (by decide) _ _ _ rfl how ⟨g2, 0, none⟩ l2.length cap2 (flatW (m + 1) l2) rfl hfl hnew hone hl0 ?d3 ?d4 ?d5 w2.heap.size rfl ?_)
          case d3 => unfold maxLen; omega
          case d4 => omega
          case d5 => exact hz2'
          intro gl cl w3 hown hgrow _ _
          have HON : Hid (w3.ownsRow w.heap.size 64 2 (.slice (some ⟨gl, 0, none⟩) (l.length + l2.length) cl) (l ++ l2).length (flatW (m + 1) (l ++ l2))) := by
            rw [flatW_app, List.length_append]
            exact hown
          have HB3 : Hid (type_of% (D2.grown hgrow hz2' (fun j hj => (how.lt j hj).1))) := D2.grown hgrow hz2' (fun j hj => (how.lt j hj).1)
          clear hown hgrow how D2 hnew hone hfl
          go_wp2_with fail
          go_roundw
          case rel => exact ⟨k + 1, l ++ l2, by omega, by go_num, HM.out.1, HN2.out, HW2.out, HON.out, HB3.out⟩
          case measure => simp [intOf]; omega
        · obtain ⟨a3, l3, c3', h3⟩ := assertAny hfm.at
          obtain ⟨a7, l7, c7', h7⟩ := assertUnion hfm.at (right_kind hrk)
          rw [decide_eq_false c3] at h3
          rw [decide_eq_false c7] at h7
          have HC : Hid (∀ wx, Below w.heap.size w wx → ∀ b, wx.cell? ⟨b, 0, none⟩ = some (.iface T x) → Calls Tryz.prog 24 #[.slice (some ⟨b, 0, none⟩) 1 1] wx (WordPost w wx B lo hi n [ts[k]])) := fun wx hx b hb => word1 hx hb hfm hrk hbu
          have HMO : Hid (∀ l2 : List WE, l2.map (·.t) = [ts[k]] → (l ++ l2).map (·.t) = atoms (ts.take (k + 1)) ∧ (l ++ l2).length ≤ 1048576) := fun l2 h2 => by
            have e1 : (l ++ l2).map (·.t) = atoms (ts.take (k + 1)) := by rw [List.map_append, HLT.out, h2, atoms_more k hkl, atoms_1 c7]
            exact ⟨e1, by rw [← e1] at HA1; simpa using HA1⟩
          clear hfm c3 c7 hrk HR HBK HAL HEL HLT HN3 hbu HA1
          generalize ts[k] = tk at *
          have hb1 : Below w.heap.size w (wo.alloc (.cells #[.iface T x] 41)) := hbe.alloc hz _
          have ho1 := HO.out.alloc (.cells #[.iface T x] 41)
          have HC1 : Hid (type_of% (HC.out _ hb1 wo.heap.size (cellNew 0 rfl))) := HC.out _ hb1 wo.heap.size (cellNew 0 rfl)
          clear HC HO
          go_wp2_with fail
          refine HC1.out.mono ?_
          rintro e w2 ⟨g2, cap2, l2, rfl, hl0, hl1, hm2, hW2, ho2, hb2⟩
          have how := kept_belowT ho1 hb2
          have D2 := hb1.trans (hb2.mono hb1.size)
          have hz2' : w.heap.size ≤ w2.heap.size := D2.size
          have HM : Hid (type_of% (HMO.out l2 hm2)) := HMO.out l2 hm2
          have HW2 : Hid (HoldW w B lo hi n (l ++ l2)) := fun e he => by
            rcases List.mem_append.1 he with he | he
            · exact HW.out e he
            · exact hW2 e he
          have HO2 : Hid (type_of% ho2) := ho2
          have hfl : (flatW n l2).length = l2.length * 2 := flatW_len _ _
          have hone := flat_one n l2
          have hnew := own_new ho2
          clear hW2 ho2 hm2 HMO HC1 hb2 ho1 hb1
          go_wp2_with (at_builtin; refine wpList_append_lies _ rfl _ _ 54 rfl w.heap.size 64 i0 _ 2 32 Tryz.underlying54 hi0 hz0 hz1 hz2 rfl (by decide) _ _ _ rfl how ⟨g2, 0, none⟩ l2.length cap2 (flatW n l2) rfl hfl hnew hone hl0 ?d3 ?d4 ?d5 w2.heap.size rfl ?_)
          case d3 => unfold maxLen; omega
          case d4 => omega
          case d5 => exact hz2'
          intro gl cl w3 hown hgrow _ _
          have HON : Hid (w3.ownsRow w.heap.size 64 2 (.slice (some ⟨gl, 0, none⟩) (l.length + l2.length) cl) (l ++ l2).length (flatW n (l ++ l2))) := by
            rw [flatW_app, List.length_append]
            exact hown
          have HB3 : Hid (type_of% (D2.grown hgrow hz2' (fun j hj => (how.lt j hj).1))) := D2.grown hgrow hz2' (fun j hj => (how.lt j hj).1)
          clear hown hgrow how D2 hnew hone hfl
          go_wp2_with fail
          go_roundw
          case rel => exact ⟨k + 1, l ++ l2, by omega, by go_num, HM.out.1, HN2.out, HW2.out, HON.out, HB3.out⟩
          case measure => simp [intOf]; omega
    · have hke : ts.take k = ts := List.take_of_length_le (by omega)
      have hla : l.map (·.t) = atoms ts := by rw [HLT.out, hke]
      have hn3 : ∀ q ∈ ts, q.kind ≠ 3 := fun q hq => HN3.out q (by rw [hke]; exact hq)
      have hl0 : 0 < l.length := by
        obtain ⟨y, hy⟩ := atoms_some HR.out H0.out
        rw [← hla] at hy
        obtain ⟨e, he, _⟩ := List.mem_map.1 hy
        exact List.length_pos_of_mem he
      obtain ⟨g, cg, hg⟩ := own_some HO.out hl0
      simp only [Value.slice.injEq, true_and] at hg
      obtain ⟨rfl, rfl⟩ := hg
      have HLA : Hid (type_of% hla) := hla
      have HNA : Hid (type_of% hn3) := hn3
      have HS : Hid (type_of% (slSortW w.heap.size g cv n l wo HO.out (by omega))) := slSortW w.heap.size g cv n l wo HO.out (by omega)
      clear hla hn3 HLT HN3 HO HAL HEL hke
      go_wp2_with fail
      refine HS.out.mono ?_
      rintro e w4 ⟨rfl, E, hp, hs, ho4, hb4⟩
      have hEl : E.length = l.length := hp.length_eq
      have hbe4 : Below w.heap.size w w4 := hbe.trans hb4
      have HC0 := slCompact w.heap.size g cv n E w4 ho4 (by omega) (by omega) hs
      rw [hEl] at HC0
      have HC : Hid (type_of% HC0) := HC0
      have HEL : Hid (type_of% hEl) := hEl
      have HP : Hid (type_of% hp) := hp
      clear HS HC0 hp hs ho4 hb4 hEl
      go_wp2_with fail
      refine HC.out.mono ?_
      rintro e w5 ⟨L, rfl, hL0, hkeep, ho5, hb5⟩
      have hbe5 : Below w.heap.size w w5 := hbe4.trans hb5
      have HU : Hid (UnionS n ts (L.map (·.t))) := keep_union HR.out HLA.out HP.out (by rw [HEL.out]; exact hkeep)
      have HWL : Hid (HoldW w B lo hi n L) := fun e he => HW.out e (HP.out.mem_iff.1 (hkeep.sub e he))
      have hLb : L.length ≤ 1048576 := by have := hkeep.few; omega
      have HO5 : Hid (type_of% ho5) := ho5
      have hg5 : g < w5.heap.size := (ho5.lt g rfl).2
      have HCL : Hid (∀ j (h : j < L.length), w5.cell? ⟨g, j * 2, none⟩ = some (.string (Ty.text n L[j].t)) ∧ w5.cell? ⟨g, j * 2 + 1, none⟩ = some (.iface L[j].T L[j].x)) := fun j hj => by
        obtain ⟨q1, q2⟩ := flatW_get n L j hj
        exact ⟨by rw [ho5.cellAt (j * 2) (by omega)]; exact q1, by rw [ho5.cellAt (j * 2 + 1) (by omega)]; exact q2⟩
      clear HC hkeep ho5 hb5 hbe4 HP HEL HW HLA
      by_cases h1 : L.length = 1
      · obtain ⟨q1, q2⟩ := HCL.out 0 (by omega)
        rw [Nat.zero_mul] at q1 q2
        have hi1 : ((L.length : Int) == 1) = true := by rw [beq_iff_eq]; omega
        have hi2 : (0 : Int) < (L.length : Int) := by omega
        have HF : Hid (FormIn w5 B (n + 1) lo w5.heap.size (.iface (L[0]'(by omega)).T (L[0]'(by omega)).x) (L[0]'(by omega)).t ∧ UForm n ts (L[0]'(by omega)).t) := by
          refine ⟨(HWL.out _ (List.getElem_mem (by omega))).up.step hbe5 hBw hhi, .inr ⟨HNA.out, _, HU.out, .inl (one_map L h1)⟩⟩
        clear h1 HU HWL HCL HO5 HNA HR HBK H0
        generalize (L[0]'(by omega)).T = T0 at *
        generalize (L[0]'(by omega)).x = x0 at *
        generalize (L[0]'(by omega)).t = t0 at *
        go_wp2_with fail
        go_ret
        exact ⟨_, _, t0, rfl, HF.out.1, HF.out.2, hbe5⟩
      · have hi1 : ((L.length : Int) == 1) = false := by rw [beq_eq_false_iff_ne]; omega
        have HLL : Hid (1 < L.length) := by show 1 < _; omega
        have hB0 : Box1 w5 (w5.alloc (.cells #[.slice none 0 0] 59)) 0 (.slice none 0 0) [] := ⟨heap_alloc_new w5 _, World.ownsRow_nil _ _ _ _, (Below.refl _ _).alloc (Nat.le_refl _) _⟩
        clear h1
        go_wp2_with fail
        go_loopw [52] (fun i wr => ∃ (k : Nat) (v : Value), k ≤ L.length ∧ i = .int .i64 k ∧ Box1 w5 wr k v ((L.take k).map fun e => .iface e.T e.x)) (fun i _ => L.length - (intOf i).toNat)
        case atStart => exact ⟨0, _, Nat.zero_le _, rfl, hB0⟩
        case round =>
          obtain ⟨k2, v2, hk2, rfl, hB⟩ := hrel
          clear hB0
          obtain ⟨u0, uf⟩ := block1U hB.box
          have hlt5 : w5.heap.size < wr.heap.size := (Array.getElem?_eq_some_iff.1 hB.box).1
          obtain ⟨a2, c2, hv2⟩ := slice_ownW hB.own
          subst hv2
          have HB : Hid (type_of% hB) := hB
          have hbwr : Below w.heap.size w wr := hbe5.trans (hB.old.mono hbe5.size)
          by_cases hkl2 : k2 < L.length
          · obtain ⟨q1, q2⟩ := HCL.out k2 hkl2
            have C1 := (hB.old.cell (p := ⟨g, k2 * 2, none⟩) hg5).trans q1
            have C2 := (hB.old.cell (p := ⟨g, k2 * 2 + 1, none⟩) hg5).trans q2
            have ho2 := hB.own
            have hk20 : (0 : Int) ≤ (k2 : Int) := by omega
            have hk21 : (k2 : Int) < (L.length : Int) := by omega
            have HNX : Hid (((L.take k2).map fun e : WE => Value.iface e.T e.x) ++ [.iface L[k2].T L[k2].x] = (L.take (k2 + 1)).map fun e => .iface e.T e.x) := by show _ = _; rw [List.take_succ_eq_append_getElem hkl2, List.map_append]; rfl
            clear q1 q2 hB
            generalize L[k2].T = T2 at *
            generalize L[k2].x = x2 at *
            generalize Ty.text n L[k2].t = tx2 at *
            have how := (ho2.alloc (.cells #[.string tx2, .iface T2 x2] 64)).alloc (.cells #[.iface T2 x2] 41)
            have hnT : (Value.slice a2 k2 c2).ownBlock ≠ some w5.heap.size := fun e => by have := (ho2.lt _ e).1; omega
            clear ho2
            go_wp2_with (at_builtin; refine wpList_append_lies _ rfl _ _ 37 rfl (w5.heap.size + 1) 41 j0 _ 1 16 Tryz.underlying37 hj hy0 hy1 hy2 rfl (by decide) _ _ _ rfl how ⟨wr.heap.size + 1, 0, none⟩ 1 1 [.iface T2 x2] rfl rfl ?d1 ?d2 (by decide) ?d3 ?d4 ?d5 (wr.heap.size + 1 + 1) (by simp) ?_)
            case d1 => exact World.news_of_block (cs := #[.iface T2 x2]) (t := 41) (fr := (0, 0)) (by simpa using heap_alloc_new (wr.alloc (.cells #[.string tx2, .iface T2 x2] 64)) (.cells #[.iface T2 x2] 41))
            case d2 => simp [Value.oneCell']
            case d3 => unfold maxLen; omega
            case d4 => omega
            case d5 => simp; omega
            intro gl cl w6 hown hgrow _ _
            have hown1 : w6.ownsRow (w5.heap.size + 1) 41 1 (.slice (some ⟨gl, 0, none⟩) (k2 + 1) cl) (k2 + 1) ((L.take (k2 + 1)).map fun e => .iface e.T e.x) := by rw [← HNX.out, List.map_take]; exact hown
            have HB2 : Hid (type_of% (HB.out.step hgrow hown1)) := HB.out.step hgrow hown1
            have hT6 := hgrow.block w5.heap.size (by simp; omega) (fun e => hnT e.symm)
            have z0 := cell_same (cellOld_anyU (cellOld_anyU u0 hlt5) (by simp; omega)) hT6
            have zf := (frozen_sameU 0 hT6).trans ((frozenOld 0 (by simp; omega)).trans ((frozenOld 0 hlt5).trans uf))
            clear hown hown1 hgrow how hT6 HB u0 uf
            go_wp2_with fail
            go_roundw
            case rel => exact ⟨k2 + 1, _, by omega, by go_num, HB2.out⟩
            case measure => simp [intOf]; omega
          · have hke2 : k2 = L.length := by omega
            subst hke2
            have htl : L.take L.length = L := List.take_length
            have hB2 := HB.out
            rw [htl] at hB2
            obtain ⟨a9, c9, e9, hf9⟩ := hB2.form HWL.out hbwr hBw hhi (by have := hbe5.size; omega) (by omega)
            simp only [Value.slice.injEq, true_and] at e9
            obtain ⟨rfl, rfl⟩ := e9
            have HF : Hid (type_of% hf9) := hf9
            have HUF : Hid (UForm n ts (.mk 7 ⟨#[]⟩ [] (L.map (·.t)))) := .inr ⟨HNA.out, _, HU.out, .inr ⟨by have := HLL.out; simpa using this, rfl⟩⟩
            clear hB hB2 HB hf9 htl HCL HWL HU HO5 HNA HR HBK H0
            go_wp2_with fail
            go_ret
            exact ⟨_, _, _, rfl, HF.out, HUF.out, hbwr⟩

end Go.Proofs.YthomlchbgcjcfaaGreatDoor

namespace Go.Proofs.YthomlchbgcjcfaaGreatDoor
open Go.RowKit

/-- what such a union is -/
theorem uform_facts {n : Nat} {ts : List Ty} {t : Ty} (h : UForm n ts t) (h0 : ts ≠ []) (hr : ∀ q ∈ ts, Right n q 12) (hbk : rowBulk n ts ≤ 1048576) :
    Right (n + 1) t 13 ∧ Ty.bulk (n + 1) t ≤ 1048576 ∧ (Right (n + 1) t 12 → UAns n ts t true) ∧ (¬ Right (n + 1) t 12 → UAns n ts (.mk 0 ⟨#[]⟩ [] []) false) := by
  have wide : ∀ {m : Nat} {q : Ty} {d : Int}, Right m q 12 → d = 13 → Right m q d := fun hq e => (right_hgt hq).2 (by have := right_hgt_le hq; omega)
  rcases h with ⟨⟨q, hq, h3⟩, e⟩ | ⟨hn, S, hS, h⟩
  · have e2 := any_of (hr q hq) h3
    have hR := right_up (hr q hq)
    rw [e2] at hR
    subst e
    refine ⟨wide hR rfl, ?_, fun _ => .inr ⟨⟨h0, hr⟩, .inl ⟨⟨q, hq, h3⟩, rfl, rfl⟩⟩, fun h => absurd hR h⟩
    have : Ty.bulk (n + 1) (.mk 3 ⟨#[]⟩ [] []) = 0 := rfl
    omega
  · have hb := hS.bulk hr
    unfold rowBulk at hbk
    rcases h with e | ⟨hl, e⟩
    · subst e
      have hx := (atom_right hr ((hS.1 t).1 (by simp))).1
      refine ⟨wide (right_up hx) rfl, ?_, fun _ => .inr ⟨⟨h0, hr⟩, .inr ⟨hn, _, hS, .inl ⟨rfl, rfl, rfl⟩⟩⟩, fun h => absurd (right_up hx) h⟩
      rw [bulk_up hx]
      simp at hb
      omega
    · subst e
      have hiff := union_right hS hr hn hl
      have h13 : Right (n + 1) (.mk 7 ⟨#[]⟩ [] S) 13 := by
        refine ⟨by omega, fun s hs => ?_, .inr (.inr (.inr (.inr ⟨rfl, fun i hi => ⟨?_, fun h0 => ?_⟩, rfl, rfl, hl⟩)))⟩
        · exact (right_hgt (atom_right hr ((hS.1 s).1 hs)).1).2 (right_hgt_le (atom_right hr ((hS.1 s).1 hs)).1)
        · have hx := (hS.1 _).1 (List.getElem_mem hi)
          exact ⟨(atom_right hr hx).2, atom_any hr hn hx⟩
        · exact List.pairwise_iff_getElem.1 hS.2 (i - 1) i _ hi (by omega)
      refine ⟨h13, ?_, fun h => .inr ⟨⟨h0, hr⟩, .inr ⟨hn, S, hS, .inr (.inl ⟨hl, hiff.1 h, rfl, rfl⟩)⟩⟩, fun h => .inr ⟨⟨h0, hr⟩, .inr ⟨hn, S, hS, .inr (.inr ⟨hl, fun q => h (hiff.2 q), rfl, rfl⟩)⟩⟩⟩
      have : Ty.bulk (n + 1) (.mk 7 ⟨#[]⟩ [] S) = 0 + (0 + 0) + (S.length + (S.map (Ty.bulk n)).sum) := rfl
      omega

theorem parts_q {w : World} {B n lo hi : Nat} {v : Value} {ks : List Ty} (h : PartsIn w (FormIn w B n) lo hi v ks) : PartsAt w (InQ w B lo hi n) v ks := by
  rcases h with h | ⟨b, cap, e, g0, g1, g2, g3⟩
  · exact .inl h
  · refine .inr ⟨b, 0, cap, e, g0, fun j hj => ?_⟩
    obtain ⟨l', h', u, q1, q2, q3, q4⟩ := g3 j hj
    exact ⟨u, by rw [Nat.zero_add]; exact q3, l', h', q1, q2, q4⟩
theorem NewLay.putU {B B' R : Nat} {w : World} {n : Nat} {l : Lay} {t : Ty} {x0 x1 x2 x3 : Value} (h : NewLay B w n l t) (hR : R < B) (hB : B' ≤ B) : NewLay B' ((((w.setCell ⟨R, 0, none⟩ x0).setCell ⟨R, 1, none⟩ x1).setCell ⟨R, 2, none⟩ x2).setCell ⟨R, 3, none⟩ x3) n l t :=
  ⟨h.1.same fun b hb => put_other (by have := h.2.2 b hb; omega), h.2.1, fun b hb => Nat.le_trans hB (h.2.2 b hb)⟩
theorem ret_un {R : Ending → World → Prop} {W : World} {tmps : Array Value} {b : Nat} {x0 x1 x2 x3 : Value} {ok : Bool} (hp : tmps[2]?.getD undef = .pointer (some ⟨b, 0, none⟩)) (hq : tmps[3]?.getD undef = .bool ok)
    (h : W.cell? ⟨b, 0, none⟩ = some x0 ∧ W.cell? ⟨b, 1, none⟩ = some x1 ∧ W.cell? ⟨b, 2, none⟩ = some x2 ∧ W.cell? ⟨b, 3, none⟩ = some x3) (hR : R (.returned (.tuple #[.agg #[x0, x1, x2, x3], .bool ok])) W) :
    bodyPost Tryz.prog Tryz.f6 R .ret { tmps := tmps, defers := [] } W := by
  obtain ⟨h0, h1, h2, h3⟩ := h
  refine bodyPost_ret (v := .tuple #[.agg #[x0, x1, x2, x3], .bool ok]) ?_ rfl hR
  simp [results, Tryz.results6, go_sem, hp, hq, h0, h1, h2, h3]

set_option maxHeartbeats 3200000 in
set_option maxRecDepth 100000 in
theorem implUnion (n : Nat) (vk : Value) (ts : List Ty) (w : World) (hrow : RowAt w (TyAt w n) vk ts) (hbk : rowBulk n ts ≤ 1048576) (hc : ClsIs w) :
    Calls Tryz.prog 6 #[vk] w fun e w' => ∃ (l : Lay) (t : Ty) (ok : Bool), e = .returned (.tuple #[.agg (cellsK t l).toArray, .bool ok]) ∧ UAns n ts t ok ∧ NewLay w.heap.size w' (n + 1) l t ∧ Below w.heap.size w w' := by
  have hbx : Below w.heap.size w (w.alloc (.cells #[.int .i64 0, .string ⟨#[]⟩, .slice none 0 0, .slice none 0 0] 28)) := (Below.refl _ _).alloc (Nat.le_refl _) _
  have HF0 := implForms n (implFormOf n) vk ts 0 w (w.alloc (.cells #[.int .i64 0, .string ⟨#[]⟩, .slice none 0 0, .slice none 0 0] 28)) hrow hbx hbk (by omega) hc hc.lt
  have hr0 : (w.alloc (.cells #[.int .i64 0, .string ⟨#[]⟩, .slice none 0 0, .slice none 0 0] 28)).heap[w.heap.size]? = some (.cells #[.int .i64 0, .string ⟨#[]⟩, .slice none 0 0, .slice none 0 0] 28 (0, 0)) := heap_alloc_new w _
  have hz0 : (w.alloc (.cells #[.int .i64 0, .string ⟨#[]⟩, .slice none 0 0, .slice none 0 0] 28)).heap.size = w.heap.size + 1 := by simp
  have HF : Hid (type_of% HF0) := HF0
  have HBK : Hid (type_of% hbk) := hbk
  obtain ⟨ak, ck, rfl, _⟩ := rowOpen hrow
  clear HF0 hrow hbk hc
  go_enter Tryz.func6, Tryz.ntmps6
  go_wp2_with fail
  refine HF.out.mono ?_
  rintro e w2 ⟨a2, l2, c2, ok, rfl, hok, hfm, hb2⟩
  have hbw2 : Below w.heap.size w w2 := hbx.trans (hb2.mono (by omega))
  have hr2 := (hb2.block w.heap.size (by omega)).trans hr0
  have lt2 : w.heap.size < w2.heap.size := by have := hb2.size; omega
  have HOK : Hid (ok = true ↔ ∀ q ∈ ts, Right n q 12) := by
    show _ ↔ _
    rw [hok]
    simp
  have HFM : Hid (type_of% hfm) := hfm
  clear hok hfm HF hr0 hz0 hbx hb2
  cases ok with
  | false =>
    have HA : Hid (UAns n ts (.mk 0 ⟨#[]⟩ [] []) false) := .inl ⟨rfl, rfl, .inr fun h => by have := HOK.out.2 h; cases this⟩
    obtain ⟨⟨rc0, rc1, rc2, rc3⟩, rf⟩ := block4 hr2
    have rf0 := rf 0
    have rf1 := rf 1
    have rf2 := rf 2
    have rf3 := rf 3
    clear HOK HFM rf HBK
    go_wp2_with fail
    refine ret_un rfl rfl (put4T fun j hj => ?_) ⟨.mk (.slice none 0 0) (.slice none 0 0) [], .mk 0 ⟨#[]⟩ [] [], false, rfl, HA.out, plainLay, put_below hbw2 (Nat.le_refl _)⟩
    match j, hj with
    | 0, _ => rw [rc0]; rfl
    | 1, _ => rw [rc1]; rfl
    | 2, _ => rw [rc2]; rfl
    | 3, _ => rw [rc3]; rfl
  | true =>
    have hR := HOK.out.1 rfl
    obtain ⟨rfl, hpi⟩ := HFM.out rfl
    by_cases h0 : ts.length = 0
    · have h00 : ((ts.length : Int) == 0) = true := by rw [beq_iff_eq]; omega
      have HA : Hid (UAns n ts (.mk 0 ⟨#[]⟩ [] []) false) := .inl ⟨rfl, rfl, .inl (List.eq_nil_of_length_eq_zero h0)⟩
      obtain ⟨⟨rc0, rc1, rc2, rc3⟩, rf⟩ := block4 hr2
      have rf0 := rf 0
      have rf1 := rf 1
      have rf2 := rf 2
      have rf3 := rf 3
      clear HOK HFM rf HBK hR hpi h0
      go_wp2_with fail
      refine ret_un rfl rfl (put4T fun j hj => ?_) ⟨.mk (.slice none 0 0) (.slice none 0 0) [], .mk 0 ⟨#[]⟩ [] [], false, rfl, HA.out, plainLay, put_below hbw2 (Nat.le_refl _)⟩
      match j, hj with
      | 0, _ => rw [rc0]; rfl
      | 1, _ => rw [rc1]; rfl
      | 2, _ => rw [rc2]; rfl
      | 3, _ => rw [rc3]; rfl
    · have h00 : ((ts.length : Int) == 0) = false := by rw [beq_eq_false_iff_ne]; omega
      have hne : ts ≠ [] := fun e => h0 (by rw [e]; rfl)
      have hpq : PartsAt w2 (InQ w2 w.heap.size (w.heap.size + 1) w2.heap.size n) (.slice a2 ts.length c2) ts := by
        have := parts_q hpi
        rw [show (w.alloc (.cells #[.int .i64 0, .string ⟨#[]⟩, .slice none 0 0, .slice none 0 0] 28)).heap.size = w.heap.size + 1 by simp] at this
        exact this
      have HU : Hid (type_of% (implUnionOf w.heap.size (w.heap.size + 1) w2.heap.size n a2 c2 ts w2 (by omega) (by omega) (Nat.le_refl _) hpq hR hne HBK.out)) := implUnionOf w.heap.size (w.heap.size + 1) w2.heap.size n a2 c2 ts w2 (by omega) (by omega) (Nat.le_refl _) hpq hR hne HBK.out
      have HUF : Hid (∀ t, UForm n ts t → Right (n + 1) t 13 ∧ Ty.bulk (n + 1) t ≤ 1048576 ∧ (Right (n + 1) t 12 → UAns n ts t true) ∧ (¬ Right (n + 1) t 12 → UAns n ts (.mk 0 ⟨#[]⟩ [] []) false)) := fun t h => uform_facts h hne hR HBK.out
      clear HOK HFM HBK hR hpi hpq h0 hne
      go_wp2_with fail
      refine HU.out.mono ?_
      rintro e w3 ⟨T, x, t, rfl, hf3', hu3, hb3⟩
      have hf3 := hf3'.at
      have hbw3 : Below w.heap.size w w3 := hbw2.trans (hb3.mono hbw2.size)
      have hr3 := (hb3.block w.heap.size lt2).trans hr2
      have lt3 : w.heap.size < w3.heap.size := Nat.lt_of_lt_of_le lt2 hb3.size
      obtain ⟨hR13, hbt, hyes, hno⟩ := HUF.out t hu3
      have hbb : Ty.bulk (n + 1) t = t.name.size + (t.names.length + Ty.textsBulk t.names) + (t.kids.length + (t.kids.map (Ty.bulk n)).sum) := rfl
      have hhg : Ty.hgt (n + 1) t = hgts n t.kids := rfl
      have hle := right_hgt_le hR13
      have h12 : Right (n + 1) t 12 ↔ (hgts n t.kids : Int) ≤ 12 := right_hgt hR13
      obtain ⟨T', x', ah, ch, e', hPh, hmh⟩ := form_height hf3
      simp only [Value.iface.injEq] at e'
      obtain ⟨rfl, rfl⟩ := e'
      have HH : Hid (type_of% (implHeight n ah ch t.kids w3 hPh (by unfold rowBulk; omega) (fun k hk => by
        have h9 := right_hgt_le (hR13.2.1 k hk)
        omega))) := implHeight n ah ch t.kids w3 hPh (by unfold rowBulk; omega) (fun k hk => by
        have h9 := right_hgt_le (hR13.2.1 k hk)
        omega)
      have HTO : Hid (∀ wx : World, Below w3.heap.size w3 wx → Calls Tryz.prog 15 #[.iface T x] wx fun e w' => ∃ (an : Option Addr) (ln cn : Nat) (ak : Option Addr) (lk ck : Nat), e = .returned (.agg #[.int .i64 t.kind, .string t.name, .slice an ln cn, .slice ak lk ck]) ∧ (∃ l, cellsK t l = [.int .i64 t.kind, .string t.name, .slice an ln cn, .slice ak lk ck] ∧ NewLay wx.heap.size w' (n + 1) l t) ∧ Below wx.heap.size wx w') := fun wx hx => (implTypeOf (n + 1)).told _ _ 13 wx (hf3.below hx) hR13 hbt
      have HY : Hid (type_of% hyes) := hyes
      have HN : Hid (type_of% hno) := hno
      have H12 : Hid (type_of% h12) := h12
      have hhb : hgts n t.kids ≤ 13 := by omega
      clear HU HUF hf3 hf3' hu3 hb3 hyes hno hbb hhg hle h12 hPh hR13 hbt
      generalize t.kids.length = lh at *
      go_wp2_with fail
      refine HH.out.mono ?_
      rintro e w4 ⟨rfl, hb4⟩
      have hbw4 : Below w.heap.size w w4 := hbw3.trans (hb4.mono hbw3.size)
      have hr4 := (hb4.block w.heap.size lt3).trans hr3
      have lt4 : w.heap.size < w4.heap.size := Nat.lt_of_lt_of_le lt3 hb4.size
      by_cases hgt : (12 : Int) < (hgts n t.kids : Int)
      · have HA : Hid (UAns n ts (.mk 0 ⟨#[]⟩ [] []) false) := HN.out fun h => by have := H12.out.1 h; omega
        obtain ⟨⟨rc0, rc1, rc2, rc3⟩, rf⟩ := block4 hr4
        have rf0 := rf 0
        have rf1 := rf 1
        have rf2 := rf 2
        have rf3 := rf 3
        clear HY HN H12 rf HH HTO
        generalize hgts n t.kids = hh at *
        go_wp2_with fail
        refine ret_un rfl rfl (put4T fun j hj => ?_) ⟨.mk (.slice none 0 0) (.slice none 0 0) [], .mk 0 ⟨#[]⟩ [] [], false, rfl, HA.out, plainLay, put_below hbw4 (Nat.le_refl _)⟩
        match j, hj with
        | 0, _ => rw [rc0]; rfl
        | 1, _ => rw [rc1]; rfl
        | 2, _ => rw [rc2]; rfl
        | 3, _ => rw [rc3]; rfl
      · have HA : Hid (UAns n ts t true) := HY.out (H12.out.2 (by omega))
        have HT1 : Hid (type_of% (HTO.out w4 hb4)) := HTO.out w4 hb4
        clear HY HN H12 HH HTO
        generalize hgts n t.kids = hh at *
        go_wp2_with fail
        refine HT1.out.mono ?_
        rintro e w5 ⟨an4, ln4, cn4, ak4, lk4, ck4, rfl, ⟨l, hcl, hnl⟩, hb5⟩
        have hbw5 : Below w.heap.size w w5 := hbw4.trans (hb5.mono (by omega))
        have hr5 := (hb5.block w.heap.size lt4).trans hr4
        obtain ⟨⟨rc0, rc1, rc2, rc3⟩, rf⟩ := block4 hr5
        have rf0 := rf 0
        have rf1 := rf 1
        have rf2 := rf 2
        have rf3 := rf 3
        have HCL2 : Hid (type_of% hcl) := hcl
        have HNL : Hid (type_of% hnl) := hnl
        clear hcl hnl rf HT1
        go_wp2_with fail
        refine ret_un rfl rfl (put4T fun j hj => ?_) ⟨l, t, true, by rw [HCL2.out], HA.out, HNL.out.putU lt4 (by omega), put_below hbw5 (Nat.le_refl _)⟩
        match j, hj with
        | 0, _ => rw [rc0]; rfl
        | 1, _ => rw [rc1]; rfl
        | 2, _ => rw [rc2]; rfl
        | 3, _ => rw [rc3]; rfl

end Go.Proofs.YthomlchbgcjcfaaGreatDoor
