/-
 The walks of spec.l08Put and spec.PutType.
-/
import Derived.Test.YtbojmbeopnlmiaaGreatDoorPlain
import Derived.Test.YtbojmbeopnlmiaaGreatDoorSuP
namespace Go.Proofs.YtbojmbeopnlmiaaGreatDoor
open Go.RowKit
theorem conv_one {w : World} {b : Int} (h0 : 0 ≤ b) : (convert 51 9 (.slice (some ⟨w.heap.size, 0, none⟩) 1 1)).run Tryz.prog (w.alloc (.cells #[.int .u8 b] 5)) = .ok (.string (mkB [UInt8.ofNat b.toNat])) (w.alloc (.cells #[.int .u8 b] 5)) := by
 have h := run_convert_bytes_arg (P := Tryz.prog) (w.alloc (.cells #[.int .u8 b] 5)) 51 5 Tryz.underlying51 Tryz.underlying5 w.heap.size 0 1 1 [b] rfl (fun i hi => by
  match i, hi with
  | 0, _ => simp) 9 Tryz.underlying9
 have e : strOfNums [b] = mkB [UInt8.ofNat b.toNat] := by
  obtain ⟨k, rfl⟩ := Int.eq_ofNat_of_zero_le h0
  apply ByteArray.ext
  simp [strOfNums, mkB]
 rw [e] at h
 exact h
theorem conv_two {w : World} {cs : Array Value} {T : TypeId} {b : Int} (h0 : 0 ≤ b) : (convert 51 9 (.slice (some ⟨w.heap.size + 1, 0, none⟩) 1 1)).run Tryz.prog ((w.alloc (.cells cs T)).alloc (.cells #[.int .u8 b] 5)) = .ok (.string (mkB [UInt8.ofNat b.toNat])) ((w.alloc (.cells cs T)).alloc (.cells #[.int .u8 b] 5)) := by
 have h := conv_one (w := w.alloc (.cells cs T)) h0
 have e : (w.alloc (.cells cs T)).heap.size = w.heap.size + 1 := by simp
 rw [e] at h
 exact h
def SpecPutAt (n : Nat) : Prop := ∀ (cs : List Value) (t : Ty) (d : Int) (w : World), TyAt w n cs t → Right n t d → Ty.bulk n t ≤ 1048576 →
 Calls Tryz.prog 21 #[.agg cs.toArray] w fun e w' => e = .returned (.string (mkB (putTy n t))) ∧ Below w.heap.size w w'
set_option maxHeartbeats 1600000 in
set_option maxRecDepth 100000 in
theorem specPutFew (n : Nat) (kd : Int) (nm : ByteArray) (nms : List ByteArray) (ks : List Ty) (an ak : Option Addr) (ln cn lk ck : Nat) (w : World) (h0 : 0 ≤ kd) (h3 : kd ≤ 3) :
  Calls Tryz.prog 21 #[.agg #[.int .i64 kd, .string nm, .slice an ln cn, .slice ak lk ck]] w fun e w' => e = .returned (.string (mkB (putTy (n + 1) (.mk kd nm nms ks)))) ∧ Below w.heap.size w w' := by
 have hB1 : Below w.heap.size w (w.alloc (.cells #[.int .i64 kd, .string nm, .slice an ln cn, .slice ak lk ck] 30)) := (Below.refl _ _).alloc (Nat.le_refl _) _
 have hP : putTy (n + 1) (.mk kd nm nms ks) = [UInt8.ofNat kd.toNat] := by
  rw [putTy, if_pos (show kd ≤ 3 from h3)]
 rw [hP]
 have hcv := conv_two (w := w) (cs := #[.int .i64 kd, .string nm, .slice an ln cn, .slice ak lk ck]) (T := 30) h0
 have hB2 : Below w.heap.size w ((w.alloc (.cells #[.int .i64 kd, .string nm, .slice an ln cn, .slice ak lk ck] 30)).alloc (.cells #[.int .u8 kd] 5)) := hB1.alloc (by simp) _
 clear hP
 have hk : kd = 0 ∨ kd = 1 ∨ kd = 2 ∨ kd = 3 := by omega
 clear h3 h0
 rcases hk with rfl | rfl | rfl | rfl
 all_goals
  go_enter Tryz.func21, Tryz.ntmps21
  go_wp2_with fail
  go_ret
  exact ⟨rfl, hB2⟩
set_option maxHeartbeats 1600000 in
set_option maxRecDepth 100000 in
theorem specPutName (n : Nat) (nm : ByteArray) (nms : List ByteArray) (ks : List Ty) (an ak : Option Addr) (ln cn lk ck : Nat) (w : World) (hnm : nm.size ≤ 1048576) :
  Calls Tryz.prog 21 #[.agg #[.int .i64 4, .string nm, .slice an ln cn, .slice ak lk ck]] w fun e w' => e = .returned (.string (mkB (putTy (n + 1) (.mk 4 nm nms ks)))) ∧ Below w.heap.size w w' := by
 have hB1 : Below w.heap.size w (w.alloc (.cells #[.int .i64 4, .string nm, .slice an ln cn, .slice ak lk ck] 30)) := (Below.refl _ _).alloc (Nat.le_refl _) _
 have hP : putTy (n + 1) (.mk 4 nm nms ks) = [UInt8.ofNat (4 : Int).toNat] ++ bt (putT nm) := by
  rw [putTy, if_neg (show ¬ (4 : Int) ≤ 3 by omega), if_pos (show (4 : Int) = 4 from rfl)]
  rfl
 rw [hP, ← mkB_app]
 have hcv := conv_two (w := w) (cs := #[.int .i64 4, .string nm, .slice an ln cn, .slice ak lk ck]) (T := 30) (b := 4) (by omega)
 have hB2 : Below w.heap.size w ((w.alloc (.cells #[.int .i64 4, .string nm, .slice an ln cn, .slice ak lk ck] 30)).alloc (.cells #[.int .u8 4] 5)) := hB1.alloc (by simp) _
 have HPT : Hid (∀ wx : World, Calls Tryz.prog 31 #[.string nm] wx fun e w' => e = .returned (.string (putT nm)) ∧ Below wx.heap.size wx w') := fun wx => specPutText nm wx (by omega)
 have hs1 : (mkB [UInt8.ofNat (4 : Int).toNat]).size ≤ 1 := by rw [mkB_size]; simp
 have hs2 : (putT nm).size ≤ 5 + nm.size := putT_size nm
 clear hP
 generalize putT nm = PT at *
 generalize mkB [UInt8.ofNat (4 : Int).toNat] = V at *
 go_enter Tryz.func21, Tryz.ntmps21
 go_wp2_with (go_at_call 31; refine (HPT.out _).mono ?_; rintro e w2 ⟨rfl, hb2⟩)
 go_ret
 exact ⟨rfl, hB2.trans (hb2.mono hB2.size)⟩
set_option maxHeartbeats 1600000 in
set_option maxRecDepth 100000 in
theorem specPutMany (n : Nat) (ih : SpecPutAt n) (kd : Int) (nm : ByteArray) (nms : List ByteArray) (ks : List Ty) (an : Option Addr) (cn : Nat) (vk : Value) (d : Int) (w : World) (hnm : Texts w (.slice an nms.length cn) nms) (hrow : RowAt w (TyAt w n) vk ks) (hR : Right (n + 1) (.mk kd nm nms ks) d) (hb : Ty.bulk (n + 1) (.mk kd nm nms ks) ≤ 1048576) (h4 : 4 < kd) (h7 : kd ≤ 7) :
  Calls Tryz.prog 21 #[.agg #[.int .i64 kd, .string nm, .slice an nms.length cn, vk]] w fun e w' => e = .returned (.string (mkB (putTy (n + 1) (.mk kd nm nms ks)))) ∧ Below w.heap.size w w' := by
 obtain ⟨ak, ck, rfl, hel⟩ := rowOpen hrow
 have hall : putTo n (.mk kd nm nms ks) ks.length = putTy (n + 1) (.mk kd nm nms ks) := putTo_all n _ (by show (4 : Int) < kd; exact h4)
 rw [← hall]
 have hbe : Ty.bulk (n + 1) (.mk kd nm nms ks) = nm.size + (nms.length + Ty.textsBulk nms) + rowBulk n ks := rfl
 have hrb : ks.length + (ks.map (Ty.bulk n)).sum ≤ 1048576 := by unfold rowBulk at hbe; omega
 have hkl : ks.length ≤ 1048576 := by omega
 have hT5 : kd = 5 → ∀ j (h : j < ks.length), ∃ (h2 : j < nms.length) (b off : Nat), an = some ⟨b, off, none⟩ ∧ b < w.heap.size ∧ w.cell? ⟨b, off + j, none⟩ = some (.string nms[j]) := fun e j h => by
  have hf := hR.fine.1
  have hl : nms.length = ks.length := hf (by show kd = 5; exact e)
  rcases hnm with ⟨q, _⟩ | ⟨b, off, cap, q, hc⟩
  ·rw [q] at hl
   simp at hl
   omega
  ·simp only [Value.slice.injEq] at q
   refine ⟨by omega, b, off, q.1, World.block_lt_of_cell? w ⟨b, off + j, none⟩ (hc j (by omega)), hc j (by omega)⟩
 have HT5 : Hid (type_of% hT5) := hT5
 have HEL : Hid (type_of% hel) := hel
 have HIH : Hid (∀ k (hk : k < ks.length) (cs : List Value) (wx : World), TyAt wx n cs ks[k] → Calls Tryz.prog 21 #[.agg cs.toArray] wx fun e w' => e = .returned (.string (mkB (putTy n ks[k]))) ∧ Below wx.heap.size wx w') := fun k hk cs wx h => ih cs ks[k] (d - 1) wx h (hR.2.1 _ (List.getElem_mem hk)) (by have := kid_bulk n ks k hk; omega)
 have HPT : Hid (∀ (s : ByteArray) (wx : World), s.size ≤ 1048576 → Calls Tryz.prog 31 #[.string s] wx fun e w' => e = .returned (.string (putT s)) ∧ Below wx.heap.size wx w') := fun s wx hs => specPutText s wx (by omega)
 have HPN : Hid (∀ wx : World, Calls Tryz.prog 39 #[.int .i64 (ks.length : Int)] wx fun e w' => e = .returned (.string (numB ks.length)) ∧ Below wx.heap.size wx w') := fun wx => specPutNum_yes ks.length wx (by omega)
 have HMO : Hid (∀ k (h : k < ks.length), putTo n (.mk kd nm nms ks) (k + 1) = putTo n (.mk kd nm nms ks) k ++ ((if decide (kd = 5) = true then bt (putT (nms.getD k ⟨#[]⟩)) else []) ++ putTy n ks[k])) := fun k h => putTo_more n (.mk kd nm nms ks) k h
 have HZ : Hid (putTo n (.mk kd nm nms ks) 0 = [UInt8.ofNat kd.toNat] ++ bt (numB ks.length)) := by
  show _ = _
  have := putTo_zero n (.mk kd nm nms ks)
  simpa using this
 have HSZ : Hid (∀ k, (putTo n (.mk kd nm nms ks) k).length ≤ 12582918) := fun k => by
  have := putTo_size n (.mk kd nm nms ks) k
  omega
 have HKS : Hid (∀ k (h : k < ks.length), (putTy n ks[k]).length ≤ 12582918) := fun k h => by
  have := putTy_size n ks[k]
  have := kid_bulk n ks k h
  omega
 have HNS : Hid (∀ j (h : j < nms.length), nms[j].size ≤ 1048576) := fun j h => by
  have := textsBulk_mem nms nms[j] (List.getElem_mem h)
  omega
 have hB1 : Below w.heap.size w (w.alloc (.cells #[.int .i64 kd, .string nm, .slice an nms.length cn, .slice ak ks.length ck] 30)) := (Below.refl _ _).alloc (Nat.le_refl _) _
 have HBX : Hid (∀ wx : World, Below (w.heap.size + 1) (w.alloc (.cells #[.int .i64 kd, .string nm, .slice an nms.length cn, .slice ak ks.length ck] 30)) wx → (wx.cell? ⟨w.heap.size, 0, none⟩ = some (.int .i64 kd) ∧ wx.cell? ⟨w.heap.size, 1, none⟩ = some (.string nm) ∧ wx.cell? ⟨w.heap.size, 2, none⟩ = some (.slice an nms.length cn) ∧ wx.cell? ⟨w.heap.size, 3, none⟩ = some (.slice ak ks.length ck)) ∧ Below w.heap.size w wx ∧ w.heap.size + 1 ≤ wx.heap.size) := fun wx hx => boxedR hx
 have hcv := conv_two (w := w) (cs := #[.int .i64 kd, .string nm, .slice an nms.length cn, .slice ak ks.length ck]) (T := 30) (b := kd) (by omega)
 have hwr : IntKind.u8.wrap kd = kd := by
  obtain rfl | rfl | rfl : kd = 5 ∨ kd = 6 ∨ kd = 7 := by omega
  all_goals rfl
 have D0 : Below (w.heap.size + 1) (w.alloc (.cells #[.int .i64 kd, .string nm, .slice an nms.length cn, .slice ak ks.length ck] 30)) ((w.alloc (.cells #[.int .i64 kd, .string nm, .slice an nms.length cn, .slice ak ks.length ck] 30)).alloc (.cells #[.int .u8 kd] 5)) := (Below.refl _ _).alloc (by simp) _
 have k0 : (kd == 0) = false := by rw [beq_eq_false_iff_ne]; omega
 have k1 : (kd == 1) = false := by rw [beq_eq_false_iff_ne]; omega
 have k2 : (kd == 2) = false := by rw [beq_eq_false_iff_ne]; omega
 have k3 : (kd == 3) = false := by rw [beq_eq_false_iff_ne]; omega
 have k4 : (kd == 4) = false := by rw [beq_eq_false_iff_ne]; omega
 have K5 : Hid (kd = 5 ∨ kd ≠ 5) := by
  show _ ∨ _
  omega
 have hs1 : (mkB [UInt8.ofNat kd.toNat]).size ≤ 1 := by rw [mkB_size]; simp
 have hs2 : (numB ks.length).size ≤ 5 := numB_size _
 have HV : Hid (mkB [UInt8.ofNat kd.toNat] ++ numB ks.length = mkB (putTo n (.mk kd nm nms ks) 0)) := by
  show _ = _
  rw [HZ.out, mkB_app]
 clear hT5 hel hrow hnm hR hb hall hbe h4 h7 HZ hrb
 generalize hP : putTo n (.mk kd nm nms ks) = P at *
 generalize hNB : numB ks.length = NB at *
 clear hNB hP
 generalize mkB [UInt8.ofNat kd.toNat] = V at *
 go_enter Tryz.func21, Tryz.ntmps21
 go_wp2_with fail
 refine (HPN.out _).mono ?_
 rintro e w2 ⟨rfl, hb2⟩
 have D2 := D0.trans (hb2.mono (by simp))
 obtain ⟨⟨a0, a1, a2, a3⟩, hw2, hz2⟩ := HBX.out w2 D2
 clear hb2 HPN D0 hcv hwr
 go_wp2_with fail
 rw [HV.out]
 clear HV
 go_loopw [3, 4] (fun v i wr => ∃ k : Nat, k ≤ ks.length ∧ i = .int .i64 k ∧ v = .string (mkB (P k)) ∧ Below (w.heap.size + 1) (w.alloc (.cells #[.int .i64 kd, .string nm, .slice an nms.length cn, .slice ak ks.length ck] 30)) wr) (fun _ i _ => ks.length - (intOf i).toNat)
 case atStart => exact ⟨0, Nat.zero_le _, rfl, rfl, D2⟩
 case round =>
  obtain ⟨k, hk, rfl, rfl, Dr⟩ := hrel
  obtain ⟨wo, rfl⟩ : ∃ wo, wo = wr := ⟨_, rfl⟩
  clear a0 a1 a2 a3 hw2 hz2 D2
  obtain ⟨⟨a0, a1, a2, a3⟩, hwo, hzo⟩ := HBX.out wo Dr
  by_cases hlt : k < ks.length
  ·obtain ⟨bk, ok, x0, x1, x2, x3, rfl, hbk, hty, q0, q1, q2, q3⟩ := HEL.out k hlt
   have hk0i : (0 : Int) ≤ (k : Int) := by omega
   have hk1i : (k : Int) < (ks.length : Int) := by omega
   have hpk : (mkB (P k)).size ≤ 12582918 := by rw [mkB_size]; exact HSZ.out k
   have hkk : (mkB (putTy n ks[k])).size ≤ 12582918 := by rw [mkB_size]; exact HKS.out k hlt
   have HMK := HMO.out k hlt
   have HC : Hid (∀ wx : World, Below w.heap.size w wx → Calls Tryz.prog 21 #[.agg #[x0, x1, x2, x3]] wx fun e w' => e = .returned (.string (mkB (putTy n ks[k]))) ∧ Below wx.heap.size wx w') := fun wx hx => HIH.out k hlt [x0, x1, x2, x3] wx (hty.below hx)
   rcases K5.out with h5 | h5
   ·obtain ⟨hj2, b, off, rfl, hbl, hcn⟩ := HT5.out h5 k hlt
    have k5 : (kd == 5) = true := by rw [beq_iff_eq]; omega
    have hk2i : (k : Int) < (nms.length : Int) := by omega
    have hns := HNS.out k hj2
    have hps : (putT nms[k]).size ≤ 5 + nms[k].size := putT_size _
    have e1 : mkB (P (k + 1)) = mkB (P k) ++ putT nms[k] ++ mkB (putTy n ks[k]) := by
     rw [HMK, if_pos (decide_eq_true (by omega)), mkB_app, mkB_app, bt_mkB]
     congr 1
     rw [List.append_assoc]
     congr 2
     simp [List.getD, hj2]
    have HE1 : Hid (type_of% e1) := e1
    have c0 := (hwo.cell (p := ⟨b, off + k, none⟩) hbl).trans hcn
    have HPT2 : Hid (∀ wx : World, Calls Tryz.prog 31 #[.string nms[k]] wx fun e w' => e = .returned (.string (putT nms[k])) ∧ Below wx.heap.size wx w') := fun wx => HPT.out nms[k] wx hns
    clear HMK e1 HIH HT5 HEL HPT HMO HSZ HKS HNS hcn hty h5
    generalize putT nms[k] = PT at *
    generalize nms[k] = nmk at *
    generalize mkB (putTy n ks[k]) = KB at *
    generalize hPk : mkB (P k) = PK at *
    clear hPk
    go_wp2_with fail
    refine (HPT2.out _).mono ?_
    rintro e w3 ⟨rfl, hb3⟩
    have D3 := Dr.trans (hb3.mono hzo)
    clear a0 a1 a2 a3
    obtain ⟨⟨a0, a1, a2, a3⟩, hw3, hz3⟩ := HBX.out w3 D3
    have r0 := (hw3.cell (p := ⟨bk, ok + k * 4, none⟩) hbk).trans q0
    have r1 := (hw3.cell (p := ⟨bk, ok + k * 4 + 1, none⟩) hbk).trans q1
    have r2 := (hw3.cell (p := ⟨bk, ok + k * 4 + 2, none⟩) hbk).trans q2
    have r3 := (hw3.cell (p := ⟨bk, ok + k * 4 + 3, none⟩) hbk).trans q3
    have HC3 : Hid (type_of% (HC.out w3 hw3)) := HC.out w3 hw3
    clear HC hb3 c0 q0 q1 q2 q3
    have hsz4 : (PK ++ PT).size ≤ 14582918 := by rw [ByteArray.size_append]; omega
    go_wp2_with fail
    refine HC3.out.mono ?_
    rintro e w4 ⟨rfl, hb4⟩
    have D4 := D3.trans (hb4.mono hz3)
    clear HC3 hb4
    go_wp2_with fail
    go_roundw
    case rel => exact ⟨k + 1, by omega, by go_num, by rw [HE1.out], D4⟩
    case measure => simp [intOf]; omega
   ·have k5 : (kd == 5) = false := by rw [beq_eq_false_iff_ne]; omega
    have e1 : mkB (P (k + 1)) = mkB (P k) ++ mkB (putTy n ks[k]) := by
     rw [HMK, if_neg (by simp; omega), mkB_app, bt_mkB]
     rfl
    have HE1 : Hid (type_of% e1) := e1
    have r0 := (hwo.cell (p := ⟨bk, ok + k * 4, none⟩) hbk).trans q0
    have r1 := (hwo.cell (p := ⟨bk, ok + k * 4 + 1, none⟩) hbk).trans q1
    have r2 := (hwo.cell (p := ⟨bk, ok + k * 4 + 2, none⟩) hbk).trans q2
    have r3 := (hwo.cell (p := ⟨bk, ok + k * 4 + 3, none⟩) hbk).trans q3
    have HC3 : Hid (type_of% (HC.out wo hwo)) := HC.out wo hwo
    clear HMK e1 HIH HT5 HEL HPT HMO HSZ HKS HNS hty h5 HC q0 q1 q2 q3
    generalize mkB (putTy n ks[k]) = KB at *
    generalize hPk : mkB (P k) = PK at *
    clear hPk
    go_wp2_with fail
    refine HC3.out.mono ?_
    rintro e w4 ⟨rfl, hb4⟩
    have D4 := Dr.trans (hb4.mono hzo)
    clear HC3 hb4
    go_wp2_with fail
    go_roundw
    case rel => exact ⟨k + 1, by omega, by go_num, by rw [HE1.out], D4⟩
    case measure => simp [intOf]; omega
  ·obtain rfl : k = ks.length := by omega
   clear HIH HT5 HEL HPT HMO HSZ HKS HNS
   go_wp2_with fail
   go_ret
   exact ⟨rfl, hwo⟩
theorem specPutP (n : Nat) : SpecPutAt n := by
 induction n with
 | zero => intro cs t d w h; exact h.elim
 | succ n ih =>
  intro cs t d w h hR hb
  obtain ⟨vn, vk, rfl, _, _, ⟨hT, _, _⟩, _, hrow⟩ := h
  cases t with
  | mk kd nm nms ks =>
   have hk := right_kinds hR
   have hbe : Ty.bulk (n + 1) (.mk kd nm nms ks) = nm.size + (nms.length + Ty.textsBulk nms) + rowBulk n ks := rfl
   obtain ⟨an, cn, rfl⟩ : ∃ a cap, vn = .slice a nms.length cap := by
    rcases hT with ⟨h, a, cap, e⟩ | ⟨b, off, cap, e, hc⟩
    ·have h' : nms = [] := h
     subst h'; exact ⟨a, cap, e⟩
    ·exact ⟨_, cap, e⟩
   simp only at hk
   by_cases c3 : kd ≤ 3
   ·obtain ⟨ak, ck, rfl, _⟩ := rowOpen hrow
    exact specPutFew n kd nm nms ks an ak _ cn _ ck w (by omega) c3
   by_cases c4 : kd = 4
   ·subst c4
    obtain ⟨ak, ck, rfl, _⟩ := rowOpen hrow
    exact specPutName n nm nms ks an ak _ cn _ ck w (by omega)
   ·exact specPutMany n ih kd nm nms ks an cn vk d w hT hrow hR hb (by omega) (by omega)
def putA (b : Bool) (n : Nat) (t : Ty) : ByteArray := if b then mkB (putTy n t) else ⟨#[]⟩
set_option maxHeartbeats 800000 in
set_option maxRecDepth 100000 in
open Classical in
theorem specPutType (n : Nat) (cs : List Value) (t : Ty) (w : World) (h : TyAt w n cs t) (hb : Ty.bulk n t ≤ 1048576) :
  Calls Tryz.prog 7 #[.agg cs.toArray] w fun e w' => e = .returned (.string (putA (decide (Right n t 12)) n t)) ∧ Below w.heap.size w w' := by
 obtain ⟨x0, x1, x2, x3, rfl⟩ : ∃ x0 x1 x2 x3, cs = [x0, x1, x2, x3] := by
  have hl := h.len
  match cs, hl with
  | [x0, x1, x2, x3], _ => exact ⟨x0, x1, x2, x3, rfl⟩
 have hB1 : Below w.heap.size w (w.alloc (.cells #[x0, x1, x2, x3] 30)) := (Below.refl _ _).alloc (Nat.le_refl _) _
 have HC : Hid (Calls Tryz.prog 20 #[.agg #[x0, x1, x2, x3]] (w.alloc (.cells #[x0, x1, x2, x3] 30)) fun e w' => e = .returned (.bool (decide (Right n t 12))) ∧ Below (w.alloc (.cells #[x0, x1, x2, x3] 30)).heap.size (w.alloc (.cells #[x0, x1, x2, x3] 30)) w') := specTypeOk n _ t _ (h.below hB1) hb
 have HBX : Hid (∀ wx : World, Below (w.heap.size + 1) (w.alloc (.cells #[x0, x1, x2, x3] 30)) wx → (wx.cell? ⟨w.heap.size, 0, none⟩ = some x0 ∧ wx.cell? ⟨w.heap.size, 1, none⟩ = some x1 ∧ wx.cell? ⟨w.heap.size, 2, none⟩ = some x2 ∧ wx.cell? ⟨w.heap.size, 3, none⟩ = some x3) ∧ Below w.heap.size w wx ∧ w.heap.size + 1 ≤ wx.heap.size) := fun wx hx => boxedR hx
 by_cases hr : Right n t 12
 ·have HP : Hid (∀ wx : World, Below w.heap.size w wx → Calls Tryz.prog 21 #[.agg #[x0, x1, x2, x3]] wx fun e w' => e = .returned (.string (mkB (putTy n t))) ∧ Below wx.heap.size wx w') := fun wx hx => specPutP n _ t 12 wx (h.below hx) hr hb
  rw [decide_eq_true hr] at HC ⊢
  rw [show putA true n t = mkB (putTy n t) from rfl]
  clear h hb hr
  generalize mkB (putTy n t) = V at *
  go_enter Tryz.func7, Tryz.ntmps7
  go_wp2_with fail
  refine HC.out.mono ?_
  rintro e w2 ⟨rfl, hb2⟩
  obtain ⟨⟨a0, a1, a2, a3⟩, hw2, hz2⟩ := HBX.out w2 (hb2.mono (by simp))
  have HP2 : Hid (type_of% (HP.out w2 hw2)) := HP.out w2 hw2
  clear HP HC hb2
  go_wp2_with fail
  refine HP2.out.mono ?_
  rintro e w3 ⟨rfl, hb3⟩
  go_wp2_with fail
  go_ret
  exact ⟨rfl, hw2.trans (hb3.mono hw2.size)⟩
 ·rw [decide_eq_false hr] at HC ⊢
  rw [show putA false n t = ⟨#[]⟩ from rfl]
  clear h hb hr
  go_enter Tryz.func7, Tryz.ntmps7
  go_wp2_with fail
  refine HC.out.mono ?_
  rintro e w2 ⟨rfl, hb2⟩
  obtain ⟨_, hw2, _⟩ := HBX.out w2 (hb2.mono (by simp))
  go_wp2_with fail
  go_ret
  exact ⟨rfl, hw2⟩
end Go.Proofs.YtbojmbeopnlmiaaGreatDoor
namespace Go.Proofs.YtbojmbeopnlmiaaGreatDoor
open Go.RowKit Go.Sort
set_option maxHeartbeats 1600000 in
set_option maxRecDepth 100000 in
open Classical in
theorem specEnvPut (n : Nat) (v : Value) (es : List (ByteArray × Ty)) (w : World) (hE : EnvAt w n v es) (hb : envBulk n es ≤ 1048576) (hR : ∀ k (h : k < es.length), Right n es[k].2 12) :
  Calls Tryz.prog 32 #[v] w fun e w' => e = .returned (.string (mkB (envPut n es))) ∧ Below w.heap.size w w' := by
 obtain ⟨av, cv, rfl, hel⟩ := envOpen hE
 have hlen : es.length ≤ 1048576 := by unfold envBulk at hb; omega
 have HEL : Hid (type_of% hel) := hel
 have HB : Hid (type_of% hb) := hb
 have HR : Hid (type_of% hR) := hR
 have HN : Hid (Calls Tryz.prog 39 #[.int .i64 (es.length : Int)] w fun e w' => e = .returned (.string (mkB (bt (numB es.length)))) ∧ Below w.heap.size w w') := by
  rw [mkB_bt]
  exact specPutNum_yes es.length w (by omega)
 clear hel hE hb hR
 go_enter Tryz.func32, Tryz.ntmps32
 go_wp2_with fail
 refine HN.out.mono ?_
 rintro e w1 ⟨rfl, hb1⟩
 go_wp2_with fail
 go_loopw [3, 4] (fun o i wr => ∃ k : Nat, k ≤ es.length ∧ i = .int .i64 k ∧ o = .string (mkB (bt (numB es.length) ++ envTo n (es.take k))) ∧ Below w.heap.size w wr) (fun _ i _ => es.length - (intOf i).toNat)
 case atStart => exact ⟨0, Nat.zero_le _, rfl, by simp [envTo], hb1⟩
 case round =>
  obtain ⟨k, hk, rfl, rfl, hbe⟩ := hrel
  clear hb1
  by_cases hlt : k < es.length
  ·obtain ⟨b, off, x0, x1, x2, x3, rfl, hbl, hns, hty, q0, q1, q2, q3, q4⟩ := HEL.out k hlt
   have r0 : ∀ d os, (grow (redrawn wr d) os).cell? ⟨b, off + k * 5, none⟩ = _ := fun d os => cell_regrown ((hbe.cell (p := ⟨b, off + k * 5, none⟩) hbl).trans q0) d os
   have r1 : ∀ d os, (grow (redrawn wr d) os).cell? ⟨b, off + k * 5 + 1, none⟩ = _ := fun d os => cell_regrown ((hbe.cell (p := ⟨b, off + k * 5 + 1, none⟩) hbl).trans q1) d os
   have r2 : ∀ d os, (grow (redrawn wr d) os).cell? ⟨b, off + k * 5 + 2, none⟩ = _ := fun d os => cell_regrown ((hbe.cell (p := ⟨b, off + k * 5 + 2, none⟩) hbl).trans q2) d os
   have r3 : ∀ d os, (grow (redrawn wr d) os).cell? ⟨b, off + k * 5 + 3, none⟩ = _ := fun d os => cell_regrown ((hbe.cell (p := ⟨b, off + k * 5 + 3, none⟩) hbl).trans q3) d os
   have r4 : ∀ d os, (grow (redrawn wr d) os).cell? ⟨b, off + k * 5 + 4, none⟩ = _ := fun d os => cell_regrown ((hbe.cell (p := ⟨b, off + k * 5 + 4, none⟩) hbl).trans q4) d os
   have hbk := env_bulk n es k hlt
   have hB := HB.out
   have hr := HR.out k hlt
   have HT : Hid (∀ wx : World, Below wr.heap.size wr wx → Calls Tryz.prog 7 #[.agg #[x0, x1, x2, x3]] wx fun e w' => e = .returned (.string (mkB (putTy n es[k].2))) ∧ Below wx.heap.size wx w') := fun wx hx => by
    have := specPutType n [x0, x1, x2, x3] es[k].2 wx (hty.below (hbe.trans (hx.mono hbe.size))) (by omega)
    rw [decide_eq_true hr] at this
    exact this
   have HX : Hid (∀ wx : World, Calls Tryz.prog 31 #[.string es[k].1] wx fun e w' => e = .returned (.string (putT es[k].1)) ∧ Below wx.heap.size wx w') := fun wx => specPutText _ wx (by omega)
   have HF : Hid ((mkB (bt (numB es.length) ++ envTo n (es.take k)) ++ putT es[k].1) ++ mkB (putTy n es[k].2) = mkB (bt (numB es.length) ++ envTo n (es.take (k + 1)))) := by
    show _ = _
    rw [mkB_two, bt_mkB, envTo_more n es k hlt]
    simp [List.append_assoc]
   have hO : (mkB (bt (numB es.length) ++ envTo n (es.take k))).size ≤ 100000000 := by
    have h1 := envTo_take n es k
    have h2 : (bt (numB es.length)).length ≤ 5 := numB_size _
    rw [mkB_size, List.length_append]
    omega
   have hX : (putT es[k].1).size ≤ 100000000 := by
    have : (bt (putT es[k].1)).length ≤ 5 + es[k].1.size := putT_size _
    have h2 : (bt (putT es[k].1)).length = (putT es[k].1).size := rfl
    omega
   have hP : (mkB (putTy n es[k].2)).size ≤ 100000000 := by
    have := putTy_size n es[k].2
    rw [mkB_size]
    omega
   have hk0 : (0 : Int) ≤ k := by omega
   have hk1 : (k : Int) < es.length := by omega
   clear q0 q1 q2 q3 q4 hty hr HEL HR HB hB hbk hns
   generalize mkB (bt (numB es.length) ++ envTo n (es.take k)) = O at *
   generalize putT es[k].1 = X at *
   generalize mkB (putTy n es[k].2) = P at *
   generalize es[k].1 = x at *
   go_wp2_with fail
   refine wp_region_quiet_below (by kernel_rfl) (by kernel_rfl) ?_
   repeat (go_big_quiet_step (first | (with_reducible exact Calls.regrown_of (HX.out _)) | (with_reducible exact Calls.regrown_of (HT.out _ (below_regrown wr _ _)))))
   refine wpQuiet_nil ?_
   intro _ hw'
   obtain ⟨⟨dq, osq⟩, hw''⟩ := hw'
   subst hw''
   have D2 := hbe.trans ((below_regrown wr dq osq).mono hbe.size)
   clear r0 r1 r2 r3 r4 HT HX
   generalize grow (redrawn wr dq) osq = w2 at *
   go_wp2_with fail
   go_roundw
   case rel => exact ⟨k + 1, by omega, by go_num, by rw [HF.out], D2⟩
   case measure => simp [intOf]; omega
  ·have hke : es.take k = es := List.take_of_length_le (by omega)
   have HF : Hid (mkB (bt (numB es.length) ++ envTo n (es.take k)) = mkB (envPut n es)) := by
    show _ = _
    rw [hke]
    rfl
   clear hke HEL HR
   generalize mkB (bt (numB es.length) ++ envTo n (es.take k)) = O at *
   go_wp2_with fail
   go_ret
   exact ⟨by rw [← HF.out]; rfl, hbe⟩
def sumA (b : Bool) (n : Nat) (nm : ByteArray) (bad : Bool) (ts xs : List (ByteArray × Ty)) : ByteArray := if b then mkB (sumPut n nm bad ts xs) else ⟨#[]⟩
open Classical in
theorem sumRight_env {n : Nat} {nm : ByteArray} {bad : Bool} {ts xs : List (ByteArray × Ty)} (h : sumRight n nm bad ts xs = true) : (∀ k (h : k < ts.length), Right n ts[k].2 12) ∧ (∀ k (h : k < xs.length), Right n xs[k].2 12) ∧ ts.length ≤ 60 ∧ xs.length ≤ 60 := by
 unfold sumRight at h
 rw [Bool.and_eq_true] at h
 cases bad with
 | true =>
  have h2 := h.2
  simp only [if_true] at h2
  have h3 := of_decide_eq_true h2
  exact ⟨fun k hk => by omega, fun k hk => by omega, by omega, by omega⟩
 | false =>
  have h2 := h.2
  simp only [Bool.false_eq_true, if_false, Bool.and_eq_true] at h2
  have h3 := of_decide_eq_true h2.1.1.1.1
  have h4 := of_decide_eq_true h2.1.1.1.2
  exact ⟨fun k hk => (h3.1 k hk).2.1, fun k hk => (h4.1 k hk).2.1, h3.2, h4.2⟩
set_option maxHeartbeats 1600000 in
set_option maxRecDepth 100000 in
open Classical in
theorem specPutSummary (n : Nat) (nm : ByteArray) (bad : Bool) (vT vX : Value) (ts xs : List (ByteArray × Ty)) (w : World) (hT : EnvAt w n vT ts) (hX : EnvAt w n vX xs) (hns : nm.size ≤ 1048576) (hbk : envBulk n ts + envBulk n xs ≤ 1048576) :
  Calls Tryz.prog 12 #[.agg #[.string nm, .bool bad, vT, vX]] w fun e w' => e = .returned (.string (sumA (sumRight n nm bad ts xs) n nm bad ts xs)) ∧ Below w.heap.size w w' := by
 have HT0 : Hid (∀ wx : World, Below w.heap.size w wx → EnvAt wx n vT ts) := fun wx hx => hT.below hx
 have HX0 : Hid (∀ wx : World, Below w.heap.size w wx → EnvAt wx n vX xs) := fun wx hx => hX.below hx
 obtain ⟨aT, cT, rfl, _⟩ := envOpen hT
 obtain ⟨aX, cX, rfl, _⟩ := envOpen hX
 have hB1 : Below w.heap.size w (w.alloc (.cells #[.string nm, .bool bad, .slice aT ts.length cT, .slice aX xs.length cX] 41)) := (Below.refl _ _).alloc (Nat.le_refl _) _
 have HA : Hid (∀ wx : World, Below (w.heap.size + 1) (w.alloc (.cells #[.string nm, .bool bad, .slice aT ts.length cT, .slice aX xs.length cX] 41)) wx → (wx.cell? ⟨w.heap.size, 0, none⟩ = some (.string nm) ∧ wx.cell? ⟨w.heap.size, 1, none⟩ = some (.bool bad) ∧ wx.cell? ⟨w.heap.size, 2, none⟩ = some (.slice aT ts.length cT) ∧ wx.cell? ⟨w.heap.size, 3, none⟩ = some (.slice aX xs.length cX)) ∧ Below w.heap.size w wx) := fun wx hx => ⟨(block4R ((hx.block _ (by omega)).trans (MapKept.heap_alloc w _).1)).1, hB1.trans (hx.mono (by omega))⟩
 have HOK : Hid (type_of% (specSummaryOk n nm bad _ _ ts xs _ (HT0.out _ hB1) (HX0.out _ hB1) hns hbk)) := specSummaryOk n nm bad _ _ ts xs _ (HT0.out _ hB1) (HX0.out _ hB1) hns hbk
 clear hT hX
 cases hsr : sumRight n nm bad ts xs with
 | false =>
  rw [hsr] at HOK
  rw [show sumA false n nm bad ts xs = ⟨#[]⟩ from rfl]
  clear hsr HT0 HX0 HA
  go_enter Tryz.func12, Tryz.ntmps12
  go_wp2_with fail
  refine HOK.out.mono ?_
  rintro e w2 ⟨rfl, hb2⟩
  go_wp2_with fail
  go_ret
  exact ⟨rfl, hB1.trans (hb2.mono hB1.size)⟩
 | true =>
  rw [hsr] at HOK
  obtain ⟨hRT, hRX, _, _⟩ := sumRight_env hsr
  rw [show sumA true n nm bad ts xs = mkB (sumPut n nm bad ts xs) from rfl]
  have HPN : Hid (∀ wx : World, Calls Tryz.prog 31 #[.string nm] wx fun e w' => e = .returned (.string (putT nm)) ∧ Below wx.heap.size wx w') := fun wx => specPutText _ wx (by omega)
  have HPT : Hid (∀ wx : World, Below w.heap.size w wx → Calls Tryz.prog 32 #[.slice aT ts.length cT] wx fun e w' => e = .returned (.string (mkB (envPut n ts))) ∧ Below wx.heap.size wx w') := fun wx hx => specEnvPut n _ ts wx (HT0.out wx hx) (by omega) hRT
  have HPX : Hid (∀ wx : World, Below w.heap.size w wx → Calls Tryz.prog 32 #[.slice aX xs.length cX] wx fun e w' => e = .returned (.string (mkB (envPut n xs))) ∧ Below wx.heap.size wx w') := fun wx hx => specEnvPut n _ xs wx (HX0.out wx hx) (by omega) hRX
  have HF : Hid (((putT nm ++ mkB [if bad then 1 else 0]) ++ mkB (envPut n ts)) ++ mkB (envPut n xs) = mkB (sumPut n nm bad ts xs)) := sum_cat n nm bad ts xs
  have hO : (putT nm).size ≤ 100000000 := by
   have : (bt (putT nm)).length ≤ 5 + nm.size := putT_size _
   have h2 : (bt (putT nm)).length = (putT nm).size := rfl
   omega
  have hP : (mkB (envPut n ts)).size ≤ 100000000 := by
   have := envPut_size n ts
   rw [mkB_size]
   omega
  have hQ : (mkB (envPut n xs)).size ≤ 100000000 := by
   have := envPut_size n xs
   rw [mkB_size]
   omega
  clear hsr HT0 HX0 hRT hRX hbk
  generalize mkB (envPut n ts) = P at *
  generalize mkB (envPut n xs) = Q at *
  generalize putT nm = O at *
  generalize mkB (sumPut n nm bad ts xs) = RR at *
  cases bad
  all_goals
   go_enter Tryz.func12, Tryz.ntmps12
   go_wp2_with fail
   refine HOK.out.mono ?_
   rintro e w2 ⟨rfl, hb2⟩
   obtain ⟨⟨a0, a1, a2, a3⟩, hw2⟩ := HA.out w2 (hb2.mono (by simp))
   have r0 : ∀ d os, (grow (redrawn w2 d) os).cell? ⟨w.heap.size, 0, none⟩ = _ := fun d os => cell_regrown a0 d os
   have r2 : ∀ d os, (grow (redrawn w2 d) os).cell? ⟨w.heap.size, 2, none⟩ = _ := fun d os => cell_regrown a2 d os
   have r3 : ∀ d os, (grow (redrawn w2 d) os).cell? ⟨w.heap.size, 3, none⟩ = _ := fun d os => cell_regrown a3 d os
   have HPT2 : Hid (∀ wx : World, Below w2.heap.size w2 wx → Calls Tryz.prog 32 #[.slice aT ts.length cT] wx fun e w' => e = .returned (.string P) ∧ Below wx.heap.size wx w') := fun wx hx => HPT.out wx (hw2.trans (hx.mono hw2.size))
   have HPX2 : Hid (∀ wx : World, Below w2.heap.size w2 wx → Calls Tryz.prog 32 #[.slice aX xs.length cX] wx fun e w' => e = .returned (.string Q) ∧ Below wx.heap.size wx w') := fun wx hx => HPX.out wx (hw2.trans (hx.mono hw2.size))
   clear HOK hb2 HA HPT HPX
   go_wp2_with fail
   refine wp_region_quiet_below (by kernel_rfl) (by kernel_rfl) ?_
   repeat (go_big_quiet_step (first | (with_reducible exact Calls.regrown_of (HPN.out _)) | (with_reducible exact Calls.regrown_of (HPT2.out _ (below_regrown w2 _ _))) | (with_reducible exact Calls.regrown_of (HPX2.out _ (below_regrown w2 _ _)))))
   refine wpQuiet_nil ?_
   intro _ hw'
   obtain ⟨⟨dq, osq⟩, hw''⟩ := hw'
   subst hw''
   have D2 := hw2.trans ((below_regrown w2 dq osq).mono hw2.size)
   clear r0 r2 r3 HPT2 HPX2 HPN a0 a1 a2 a3
   generalize grow (redrawn w2 dq) osq = w3 at *
   go_wp2_with fail
   go_ret
   exact ⟨by rw [← HF.out]; rfl, D2⟩
end Go.Proofs.YtbojmbeopnlmiaaGreatDoor
