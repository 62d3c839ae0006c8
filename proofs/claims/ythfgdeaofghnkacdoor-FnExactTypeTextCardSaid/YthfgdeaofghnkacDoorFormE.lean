/-
  The walk of impl.formOf.
-/
import Derived.Test.YthfgdeaofghnkacDoorFormR
import Derived.Lib.QuietBelow
namespace Go.Proofs.YthfgdeaofghnkacDoor
open Go.RowKit Go.Shelf Go.Sort

/-- what formOf leaves, at that depth -/
def FormPost (n : Nat) (t : Ty) (d : Int) (W w : World) (e : Ending) (w' : World) : Prop := ∃ (v : Value) (ok : Bool), e = .returned (.tuple #[v, .bool ok]) ∧ (ok = true ↔ Right n t d) ∧ (ok = true → FormIn w' W.heap.size n w.heap.size w'.heap.size v t) ∧ Below w.heap.size w w'

theorem form_no {n : Nat} {t : Ty} {d : Int} {W w w' : World} {v : Value} (h : ¬ Right n t d) (hb : Below w.heap.size w w') : FormPost n t d W w (.returned (.tuple #[v, .bool false])) w' := ⟨v, false, rfl, ⟨fun h => Bool.noConfusion h, fun q => absurd q h⟩, fun h => Bool.noConfusion h, hb⟩
theorem form_if {n : Nat} {t : Ty} {d : Int} {W w w' : World} {v : Value} {b : Bool} (h : b = true ↔ Right n t d) (hf : FormIn w' W.heap.size n w.heap.size w'.heap.size v t) (hb : Below w.heap.size w w') : FormPost n t d W w (.returned (.tuple #[v, .bool b])) w' := ⟨v, b, rfl, h, fun _ => hf, hb⟩

set_option maxHeartbeats 3200000 in
set_option maxRecDepth 100000 in
open Classical in
theorem implFormStep (n : Nat) (ih : FormOfAt n) (kd : Int) (nm : ByteArray) (nms : List ByteArray) (ks : List Ty) (an ak : Option Addr) (cn ck deep : Nat) (W w : World) (hT : Texts W (.slice an nms.length cn) nms) (hrow : RowAt W (TyAt W n) (.slice ak ks.length ck) ks) (hWw : Below W.heap.size W w) (hbk : rowBulk n ks ≤ 1048576) (hnm : nm.size ≤ 1048576) (hnl : nms.length ≤ 1048576) (hns : ∀ x ∈ nms, x.size ≤ 1048576) (hd : deep ≤ 14) (hc : ClsIs W) (hcl : 0 < W.heap.size) :
    Calls Tryd.prog 40 #[.agg #[.int .i64 kd, .string nm, .slice an nms.length cn, .slice ak ks.length ck], .int .i64 deep] w fun e w' => FormPost (n + 1) (.mk kd nm nms ks) (12 - (deep : Int)) W w e w' := by
  have hB1 : Below w.heap.size w (w.alloc (.cells #[.int .i64 kd, .string nm, .slice an nms.length cn, .slice ak ks.length ck] 36)) := (Below.refl _ _).alloc (Nat.le_refl _) _
  have hWz : W.heap.size ≤ w.heap.size := hWw.size
  by_cases hdd : 12 < deep
  · have HNR : Hid (¬ Right (n + 1) (.mk kd nm nms ks) (12 - (deep : Int))) := fun h => by have := h.1; omega
    clear hT hrow hc hcl ih hns hbk
    go_enter Tryd.func40, Tryd.ntmps40
    go_wp2_with fail
    go_ret2
    exact form_no HNR.out hB1
  have HBX : Hid (∀ wx : World, Below (w.heap.size + 1) (w.alloc (.cells #[.int .i64 kd, .string nm, .slice an nms.length cn, .slice ak ks.length ck] 36)) wx → (wx.cell? ⟨w.heap.size, 0, none⟩ = some (.int .i64 kd) ∧ wx.cell? ⟨w.heap.size, 1, none⟩ = some (.string nm) ∧ wx.cell? ⟨w.heap.size, 2, none⟩ = some (.slice an nms.length cn) ∧ wx.cell? ⟨w.heap.size, 3, none⟩ = some (.slice ak ks.length ck)) ∧ Below w.heap.size w wx ∧ w.heap.size + 1 ≤ wx.heap.size) := fun wx hx => boxedR hx
  have HOA0 := implOwnAlone kd nm an ak nms.length cn ks.length ck (w.alloc (.cells #[.int .i64 kd, .string nm, .slice an nms.length cn, .slice ak ks.length ck] 36))
  cases hoa : ownAlone kd nm nms.length ks.length with
  | false =>
    have HNR : Hid (¬ Right (n + 1) (.mk kd nm nms ks) (12 - (deep : Int))) := fun h => by
      have h2 : ownAlone kd nm nms.length ks.length = true := right_alone h.2.2
      rw [hoa] at h2
      cases h2
    rw [hoa] at HOA0
    have HOA : Hid (type_of% HOA0) := HOA0
    clear hT hrow hc hcl ih hns hbk hoa HOA0
    go_enter Tryd.func40, Tryd.ntmps40
    go_wp2_with fail
    refine HOA.out.mono ?_
    rintro e w2 ⟨rfl, hb2⟩
    go_wp2_with fail
    go_ret2
    exact form_no HNR.out (hB1.trans (hb2.mono (by simp)))
  | true =>
    rw [hoa] at HOA0
    have HOA : Hid (type_of% HOA0) := HOA0
    have HFS : Hid (∀ wx : World, Below W.heap.size W wx → Calls Tryd.prog 52 #[.slice ak ks.length ck, .int .i64 ((deep : Int) + 1)] wx fun e w' => ∃ (a : Option Addr) (l c : Nat) (ok : Bool), e = .returned (.tuple #[.slice a l c, .bool ok]) ∧ (ok = true ↔ ∀ q ∈ ks, Right n q (12 - (deep : Int) - 1)) ∧ (ok = true → l = ks.length ∧ PartsIn w' (FormIn w' W.heap.size n) wx.heap.size w'.heap.size (.slice a l c) ks) ∧ Below wx.heap.size wx w') := fun wx hx => by
      have := implForms n ih (.slice ak ks.length ck) ks (deep + 1) W wx hrow hx hbk (by omega) hc hcl
      have e : (12 - ((deep + 1 : Nat) : Int)) = 12 - (deep : Int) - 1 := by omega
      rw [e] at this
      exact this
    clear HOA0
    go_enter Tryd.func40, Tryd.ntmps40
    go_wp2_with fail
    refine HOA.out.mono ?_
    rintro e w2 ⟨rfl, hb2⟩
    have D2 : Below (w.heap.size + 1) (w.alloc (.cells #[.int .i64 kd, .string nm, .slice an nms.length cn, .slice ak ks.length ck] 36)) w2 := hb2.mono (by simp)
    obtain ⟨⟨b0, b1, b2, b3⟩, hbw2, hz2⟩ := HBX.out w2 D2
    have hWw2 : Below W.heap.size W w2 := hWw.trans (hbw2.mono hWz)
    clear HOA hb2
    go_wp2_with fail
    refine (HFS.out w2 hWw2).mono ?_
    rintro e w3 ⟨a, l, c, ok, rfl, hok, hpt, hb3⟩
    have D3 : Below (w.heap.size + 1) (w.alloc (.cells #[.int .i64 kd, .string nm, .slice an nms.length cn, .slice ak ks.length ck] 36)) w3 := D2.trans (hb3.mono hz2)
    have HOK : Hid (type_of% hok) := hok
    have HPT : Hid (type_of% hpt) := hpt
    clear b0 b1 b2 b3 HFS hok hpt D2
    obtain ⟨⟨b0, b1, b2, b3⟩, hbw3, hz3⟩ := HBX.out w3 D3
    cases ok with
    | false =>
      have HNR : Hid (¬ Right (n + 1) (.mk kd nm nms ks) (12 - (deep : Int))) := fun h => by
        have := HOK.out.2 h.2.1
        cases this
      clear hT hrow hc hcl ih hns hbk hoa HOK HPT
      go_wp2_with fail
      go_ret2
      exact form_no HNR.out hbw3
    | true =>
      obtain ⟨hl, hP3⟩ := HPT.out rfl
      subst hl
      have hz23 := hb3.size
      have hKR : ∀ q ∈ ks, Right n q (12 - (deep : Int) - 1) := HOK.out.1 rfl
      have HRI : Hid (Right (n + 1) (.mk kd nm nms ks) (12 - (deep : Int)) ↔ OwnRight n (.mk kd nm nms ks)) := ⟨fun h => h.2.2, fun h => ⟨by omega, hKR, h⟩⟩
      have hbw4 : Below w.heap.size w (w3.alloc (.cells #[.slice a ks.length c] 82)) := hbw3.alloc (by omega) _
      have hWw3 : Below W.heap.size W w3 := hWw.trans (hbw3.mono hWz)
      have c40 : (w3.alloc (.cells #[.slice a ks.length c] 82)).cell? ⟨w.heap.size, 0, none⟩ = some (.int .i64 kd) := (cellOld 0 (by omega)).trans b0
      have c41 : (w3.alloc (.cells #[.slice a ks.length c] 82)).cell? ⟨w.heap.size, 1, none⟩ = some (.string nm) := (cellOld 1 (by omega)).trans b1
      have c42 : (w3.alloc (.cells #[.slice a ks.length c] 82)).cell? ⟨w.heap.size, 2, none⟩ = some (.slice an nms.length cn) := (cellOld 2 (by omega)).trans b2
      have HFI : Hid (∀ wz : World, Below (w3.heap.size + 1) (w3.alloc (.cells #[.slice a ks.length c] 82)) wz → FormIn wz W.heap.size (n + 1) w.heap.size wz.heap.size (formV (.mk kd nm nms ks) (.slice a ks.length c) (.slice an nms.length cn)) (.mk kd nm nms ks) ∧ Below w.heap.size w wz) := fun wz hx => by
        have hx3 : Below w3.heap.size w3 wz := ((Below.refl w3.heap.size w3).alloc (Nat.le_refl _) _).trans (hx.mono (by omega))
        have hsz := hx3.size
        refine ⟨⟨_, _, rfl, fun w'' hs => hT.same fun b hb => (hs b hb).trans ((hx3.block b (by omega)).trans (hWw3.block b hb)), ?_⟩, hbw3.trans (hx3.mono (by omega))⟩
        exact hP3.step hx3 (by omega) (Nat.le_refl _) (by omega) hsz
      have HPA : Hid (PartsAt w3 (FormAt w3 n) (.slice a ks.length c) ks) := hP3.parts
      have HTN : Hid (∀ wx : World, Below w.heap.size w wx → Calls Tryd.prog 53 #[.string nm] wx fun e w' => e = .returned (.bool (dottedP nm)) ∧ Below wx.heap.size wx w') := fun wx hx => implTypeNameOk nm wx (by omega) (hc.below (hWw.trans (hx.mono hWz)) hcl) (by have := hx.size; omega)
      have HFO : Hid (∀ wx : World, Below w.heap.size w wx → Calls Tryd.prog 54 #[.slice an nms.length cn, .slice a ks.length c] wx fun e w' => e = .returned (.bool (decide (FieldsRight nms ks.length))) ∧ Below wx.heap.size wx w') := fun wx hx => implFieldsOk _ nms a ks.length c wx (hT.same fun b hb => (hWw.trans (hx.mono hWz)).block b hb) hnl hns (hc.below (hWw.trans (hx.mono hWz)) hcl) (by have := hx.size; omega)
      have HUK : Hid (∀ wx : World, Below w3.heap.size w3 wx → Calls Tryd.prog 55 #[.slice a ks.length c] wx fun e w' => e = .returned (.bool (decide (KidsRight n ks))) ∧ Below wx.heap.size wx w') := fun wx hx => implUnionKidsOk n _ ks _ wx (HPA.out.below hx fun u t _ h => h.below hx) hKR hbk
      have HOA : Hid (type_of% hoa) := hoa
      have hlen : ks.length ≤ 1048576 := by unfold rowBulk at hbk; omega
      clear hT hrow hc hcl ih hns hbk hoa HOK HPT hP3 hKR HPA hb3 D3 HBX
      by_cases k0 : kd = 0
      · subst k0
        have HY : Hid (Right (n + 1) (.mk 0 nm nms ks) (12 - (deep : Int))) := HRI.out.2 (own_plain (by omega) HOA.out)
        obtain ⟨f1, f2⟩ := HFI.out _ (Below.refl _ _)
        have HF : Hid (type_of% f1) := f1
        clear f1 HRI HFI HTN HFO HUK HOA
        go_wp2_with fail
        go_ret2
        exact form_if (iff_of_true rfl HY.out) HF.out f2
      by_cases k1 : kd = 1
      · subst k1
        have HY : Hid (Right (n + 1) (.mk 1 nm nms ks) (12 - (deep : Int))) := HRI.out.2 (own_plain (by omega) HOA.out)
        obtain ⟨f1, f2⟩ := HFI.out _ (Below.refl _ _)
        have HF : Hid (type_of% f1) := f1
        clear f1 HRI HFI HTN HFO HUK HOA
        go_wp2_with fail
        go_ret2
        exact form_if (iff_of_true rfl HY.out) HF.out f2
      by_cases k2 : kd = 2
      · subst k2
        have HY : Hid (Right (n + 1) (.mk 2 nm nms ks) (12 - (deep : Int))) := HRI.out.2 (own_plain (by omega) HOA.out)
        obtain ⟨f1, f2⟩ := HFI.out _ (Below.refl _ _)
        have HF : Hid (type_of% f1) := f1
        clear f1 HRI HFI HTN HFO HUK HOA
        go_wp2_with fail
        go_ret2
        exact form_if (iff_of_true rfl HY.out) HF.out f2
      by_cases k3 : kd = 3
      · subst k3
        have HY : Hid (Right (n + 1) (.mk 3 nm nms ks) (12 - (deep : Int))) := HRI.out.2 (own_plain (by omega) HOA.out)
        obtain ⟨f1, f2⟩ := HFI.out _ (Below.refl _ _)
        have HF : Hid (type_of% f1) := f1
        clear f1 HRI HFI HTN HFO HUK HOA
        go_wp2_with fail
        go_ret2
        exact form_if (iff_of_true rfl HY.out) HF.out f2
      have q0 : ∀ d os, (grow (redrawn (w3.alloc (.cells #[.slice a ks.length c] 82)) d) os).cell? ⟨w3.heap.size, 0, none⟩ = some (.slice a ks.length c) := fun d os => cell_regrown (cellNew 0 rfl) d os
      have q1 : ∀ d os, (grow (redrawn (w3.alloc (.cells #[.slice a ks.length c] 82)) d) os).cell? ⟨w.heap.size, 1, none⟩ = some (.string nm) := fun d os => cell_regrown ((cellOld 1 (by omega)).trans b1) d os
      have q2 : ∀ d os, (grow (redrawn (w3.alloc (.cells #[.slice a ks.length c] 82)) d) os).cell? ⟨w.heap.size, 2, none⟩ = some (.slice an nms.length cn) := fun d os => cell_regrown ((cellOld 2 (by omega)).trans b2) d os
      by_cases k4 : kd = 4
      · subst k4
        have HY : Hid (dottedP nm = true ↔ Right (n + 1) (.mk 4 nm nms ks) (12 - (deep : Int))) := by show _ ↔ _; rw [HRI.out, own_name HOA.out]
        have HCC : Hid (∀ d os, type_of% (HTN.out (grow (redrawn (w3.alloc (.cells #[.slice a ks.length c] 82)) d) os) (hbw4.trans ((below_regrown (w3.alloc (.cells #[.slice a ks.length c] 82)) d os).mono (by simp; omega))))) := fun d os => HTN.out (grow (redrawn (w3.alloc (.cells #[.slice a ks.length c] 82)) d) os) (hbw4.trans ((below_regrown (w3.alloc (.cells #[.slice a ks.length c] 82)) d os).mono (by simp; omega)))
        clear HRI HTN HFO HUK HOA
        go_wp2_with fail
        refine wp_region_quiet_below (by kernel_rfl) (by kernel_rfl) ?_
        repeat (go_big_quiet_step (exact Calls.regrown_of (HCC.out _ _)))
        refine wpQuiet_nil ?_
        intro _ hw'
        obtain ⟨⟨dq, osq⟩, hw''⟩ := hw'
        subst hw''
        obtain ⟨f1, f2⟩ := HFI.out _ ((below_regrown (w3.alloc (.cells #[.slice a ks.length c] 82)) dq osq).mono (by simp))
        have HF : Hid (type_of% f1) := f1
        clear f1 HFI q0 q1 q2
        generalize grow (redrawn (w3.alloc (.cells #[.slice a ks.length c] 82)) dq) osq = w5 at *
        go_wp2_with fail
        go_ret2
        exact form_if HY.out HF.out f2
      by_cases k5 : kd = 5
      · subst k5
        have HY : Hid (decide (FieldsRight nms ks.length) = true ↔ Right (n + 1) (.mk 5 nm nms ks) (12 - (deep : Int))) := by show _ ↔ _; rw [HRI.out, own_record HOA.out, decide_eq_true_eq]
        have HCC : Hid (∀ d os, type_of% (HFO.out (grow (redrawn (w3.alloc (.cells #[.slice a ks.length c] 82)) d) os) (hbw4.trans ((below_regrown (w3.alloc (.cells #[.slice a ks.length c] 82)) d os).mono (by simp; omega))))) := fun d os => HFO.out (grow (redrawn (w3.alloc (.cells #[.slice a ks.length c] 82)) d) os) (hbw4.trans ((below_regrown (w3.alloc (.cells #[.slice a ks.length c] 82)) d os).mono (by simp; omega)))
        clear HRI HTN HFO HUK HOA
        go_wp2_with fail
        refine wp_region_quiet_below (by kernel_rfl) (by kernel_rfl) ?_
        repeat (go_big_quiet_step (exact Calls.regrown_of (HCC.out _ _)))
        refine wpQuiet_nil ?_
        intro _ hw'
        obtain ⟨⟨dq, osq⟩, hw''⟩ := hw'
        subst hw''
        obtain ⟨f1, f2⟩ := HFI.out _ ((below_regrown (w3.alloc (.cells #[.slice a ks.length c] 82)) dq osq).mono (by simp))
        have HF : Hid (type_of% f1) := f1
        clear f1 HFI q0 q1 q2
        generalize grow (redrawn (w3.alloc (.cells #[.slice a ks.length c] 82)) dq) osq = w5 at *
        go_wp2_with fail
        go_ret2
        exact form_if HY.out HF.out f2
      by_cases k6 : kd = 6
      · subst k6
        have HY : Hid (decide (0 < ks.length) = true ↔ Right (n + 1) (.mk 6 nm nms ks) (12 - (deep : Int))) := by show _ ↔ _; rw [HRI.out, own_fn HOA.out, decide_eq_true_eq]
        obtain ⟨f1, f2⟩ := HFI.out _ (Below.refl _ _)
        have HF : Hid (type_of% f1) := f1
        clear f1 HRI HFI HTN HFO HUK HOA q0 q1 q2
        go_wp2_with fail
        go_ret2
        exact form_if (by simpa using HY.out) HF.out f2
      by_cases k7 : kd = 7
      · subst k7
        have HY : Hid (decide (KidsRight n ks) = true ↔ Right (n + 1) (.mk 7 nm nms ks) (12 - (deep : Int))) := by show _ ↔ _; rw [HRI.out, own_union HOA.out, decide_eq_true_eq]
        have HCC : Hid (∀ d os, type_of% (HUK.out (grow (redrawn (w3.alloc (.cells #[.slice a ks.length c] 82)) d) os) (((Below.refl w3.heap.size w3).alloc (Nat.le_refl _) _).trans ((below_regrown (w3.alloc (.cells #[.slice a ks.length c] 82)) d os).mono (by simp))))) := fun d os => HUK.out (grow (redrawn (w3.alloc (.cells #[.slice a ks.length c] 82)) d) os) (((Below.refl w3.heap.size w3).alloc (Nat.le_refl _) _).trans ((below_regrown (w3.alloc (.cells #[.slice a ks.length c] 82)) d os).mono (by simp)))
        clear HRI HTN HFO HUK HOA
        go_wp2_with fail
        refine wp_region_quiet_below (by kernel_rfl) (by kernel_rfl) ?_
        repeat (go_big_quiet_step (exact Calls.regrown_of (HCC.out _ _)))
        refine wpQuiet_nil ?_
        intro _ hw'
        obtain ⟨⟨dq, osq⟩, hw''⟩ := hw'
        subst hw''
        obtain ⟨f1, f2⟩ := HFI.out _ ((below_regrown (w3.alloc (.cells #[.slice a ks.length c] 82)) dq osq).mono (by simp))
        have HF : Hid (type_of% f1) := f1
        clear f1 HFI q0 q1 q2
        generalize grow (redrawn (w3.alloc (.cells #[.slice a ks.length c] 82)) dq) osq = w5 at *
        go_wp2_with fail
        go_ret2
        exact form_if HY.out HF.out f2
      have HNR : Hid (¬ Right (n + 1) (.mk kd nm nms ks) (12 - (deep : Int))) := fun h => own_other (by omega) (HRI.out.1 h)
      have e0 : (kd == 0) = false := by rw [beq_eq_false_iff_ne]; exact k0
      have e1 : (kd == 1) = false := by rw [beq_eq_false_iff_ne]; exact k1
      have e2 : (kd == 2) = false := by rw [beq_eq_false_iff_ne]; exact k2
      have e3 : (kd == 3) = false := by rw [beq_eq_false_iff_ne]; exact k3
      have e4 : (kd == 4) = false := by rw [beq_eq_false_iff_ne]; exact k4
      have e5 : (kd == 5) = false := by rw [beq_eq_false_iff_ne]; exact k5
      have e6 : (kd == 6) = false := by rw [beq_eq_false_iff_ne]; exact k6
      have e7 : (kd == 7) = false := by rw [beq_eq_false_iff_ne]; exact k7
      clear HRI HFI HTN HFO HUK HOA q0 q1 q2 k0 k1 k2 k3 k4 k5 k6 k7
      go_wp2_with fail
      go_ret2
      exact form_no HNR.out hbw4

theorem implFormOf (n : Nat) : FormOfAt n := by
  induction n with
  | zero => intro W cs t deep w h; exact h.elim
  | succ n ih =>
    intro W cs t deep w h hWw hb hd hc hcl
    obtain ⟨vn, vk, rfl, _, _, ⟨hT, _, _⟩, _, hrow⟩ := h
    cases t with
    | mk kd nm nms ks =>
      have hbe : Ty.bulk (n + 1) (.mk kd nm nms ks) = nm.size + (nms.length + Ty.textsBulk nms) + rowBulk n ks := rfl
      have hT' : Texts W vn nms := hT
      obtain ⟨an, cn, rfl⟩ : ∃ a cap, vn = .slice a nms.length cap := by
        rcases hT' with ⟨h, a, cap, e⟩ | ⟨b, off, cap, e, hc⟩
        · subst h; exact ⟨a, cap, e⟩
        · exact ⟨_, cap, e⟩
      obtain ⟨ak, ck, rfl, _⟩ := rowOpen hrow
      exact implFormStep n ih kd nm nms ks an ak cn ck deep W w hT' hrow hWw (by omega) (by omega) (by omega) (fun x hx => by have := textsBulk_mem nms x hx; omega) hd hc hcl

end Go.Proofs.YthfgdeaofghnkacDoor
