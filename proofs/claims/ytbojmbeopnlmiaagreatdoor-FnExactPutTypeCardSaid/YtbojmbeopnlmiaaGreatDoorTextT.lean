/-
  The walks of spec.l03Text at a union (and at whatever else), and at a function.
-/
import Derived.Test.YtbojmbeopnlmiaaGreatDoorTextS
namespace Go.Proofs.YtbojmbeopnlmiaaGreatDoor
open Go.RowKit

theorem empty_cat (s : ByteArray) : (⟨#[]⟩ : ByteArray) ++ s = s := by
  apply ByteArray.ext
  simp

theorem sizes_mem (l : List ByteArray) (x : ByteArray) (h : x ∈ l) : x.size ≤ sizes l := by
  induction l with
  | nil => simp at h
  | cons a r ih =>
    unfold sizes at ih ⊢
    simp only [List.map_cons, List.sum_cons]
    rcases List.mem_cons.1 h with e | m
    · rw [e]; omega
    · have := ih m; omega

/-- the cells of a type that was handed in, in every later world -/
theorem boxed {w wx : World} {x0 x1 x2 x3 : Value} (hx : Below (w.heap.size + 1) (w.alloc (.cells #[x0, x1, x2, x3] 30)) wx) :
    wx.cell? ⟨w.heap.size, 1, none⟩ = some x1 ∧ wx.cell? ⟨w.heap.size, 2, none⟩ = some x2 ∧ wx.cell? ⟨w.heap.size, 3, none⟩ = some x3 ∧ Below w.heap.size w wx ∧ w.heap.size + 1 ≤ wx.heap.size := by
  refine ⟨?_, ?_, ?_, ((Below.refl _ _).alloc (Nat.le_refl _) _).trans (hx.mono (by omega)), by have := hx.size; simpa using this⟩
  · rw [hx.cell (p := ⟨w.heap.size, 1, none⟩) (Nat.lt_succ_self _), cellT _ rfl]; rfl
  · rw [hx.cell (p := ⟨w.heap.size, 2, none⟩) (Nat.lt_succ_self _), cellT _ rfl]; rfl
  · rw [hx.cell (p := ⟨w.heap.size, 3, none⟩) (Nat.lt_succ_self _), cellT _ rfl]; rfl

set_option maxHeartbeats 1600000 in
set_option maxRecDepth 100000 in
theorem specTextUnion (n : Nat) (ih : TextAt n) (kd : Int) (nm : ByteArray) (ks : List Ty) (vn vk : Value) (w : World) (hrow : RowAt w (TyAt w n) vk ks) (hbk : rowBulk n ks ≤ 1048576) (hf : ∀ k ∈ ks, Ty.fine n k)
    (h0 : kd ≠ 0) (h1 : kd ≠ 1) (h2 : kd ≠ 2) (h3 : kd ≠ 3) (h4 : kd ≠ 4) (h5 : kd ≠ 5) (h6 : kd ≠ 6) :
    Calls Tryz.prog 64 #[.agg #[.int .i64 kd, .string nm, vn, vk]] w fun e w' => e = .returned (.string (joinP ⟨#[32, 124, 32]⟩ (ks.map fun k => roundP 6 k (Ty.text n k)))) ∧ Below w.heap.size w w' := by
  obtain ⟨av, capv, rfl, hel⟩ := rowOpen hrow
  have hlen : ks.length ≤ 1048576 := by unfold rowBulk at hbk; omega
  have hsum : sizes (ks.map fun k => roundP 6 k (Ty.text n k)) + 3 * ks.length ≤ 100000000 := by
    have a1 := kids_round (n := n) 6 ks
    have a2 := kids_text (text_size n) ks
    unfold rowBulk at hbk
    omega
  have HEL : Hid (type_of% hel) := hel
  have HRD : Hid (∀ k (hk : k < ks.length) (cs : List Value) (wx : World), TyAt wx n cs ks[k] → Calls Tryz.prog 93 #[.agg cs.toArray, .int .i64 6] wx fun e w' => e = .returned (.string (roundP 6 ks[k] (Ty.text n ks[k]))) ∧ Below wx.heap.size wx w') := fun k hk cs wx h => specRound n ih cs ks[k] 6 wx h (hf _ (List.getElem_mem hk)) (by have := kid_bulk n ks k hk; unfold rowBulk at hbk; omega)
  obtain ⟨F, hF⟩ : ∃ F, F = ks.map fun k => roundP 6 k (Ty.text n k) := ⟨_, rfl⟩
  have hFl : F.length = ks.length := by rw [hF, List.length_map]
  have HFK : Hid (∀ k (hk : k < ks.length) (hk' : k < F.length), F[k] = roundP 6 ks[k] (Ty.text n ks[k])) := fun k hk hk' => by subst hF; simp
  have HJ : Hid (∀ k (hk : k < F.length), (0 < k → joinP ⟨#[32, 124, 32]⟩ (F.take (k + 1)) = joinP ⟨#[32, 124, 32]⟩ (F.take k) ++ ⟨#[32, 124, 32]⟩ ++ F[k]) ∧ (k = 0 → joinP ⟨#[32, 124, 32]⟩ (F.take (k + 1)) = F[k]) ∧ F[k].size ≤ 100000000) := fun k hk => by
    refine ⟨fun h => joinP_more _ F k hk h, fun h => by subst h; exact joinP_one _ F hk, ?_⟩
    have a1 := joinP_take ⟨#[]⟩ F (k + 1)
    have a2 : F[k].size ≤ sizes F := sizes_mem F _ (List.getElem_mem hk)
    rw [← hF] at hsum
    omega
  have HS : Hid (∀ k, (joinP ⟨#[32, 124, 32]⟩ (F.take k)).size ≤ 100000000) := fun k => by
    have a1 := joinP_take ⟨#[32, 124, 32]⟩ F k
    have e1 : (⟨#[32, 124, 32]⟩ : ByteArray).size = 3 := rfl
    rw [e1, hFl] at a1
    rw [← hF] at hsum
    omega
  rw [← hF]
  have g0 : (kd == 0) = false := beq_eq_false_iff_ne.2 h0
  have g1 : (kd == 1) = false := beq_eq_false_iff_ne.2 h1
  have g2 : (kd == 2) = false := beq_eq_false_iff_ne.2 h2
  have g3 : (kd == 3) = false := beq_eq_false_iff_ne.2 h3
  have g4 : (kd == 4) = false := beq_eq_false_iff_ne.2 h4
  have g5 : (kd == 5) = false := beq_eq_false_iff_ne.2 h5
  have g6 : (kd == 6) = false := beq_eq_false_iff_ne.2 h6
  have HBX : Hid (∀ wx : World, Below (w.heap.size + 1) (w.alloc (.cells #[.int .i64 kd, .string nm, vn, .slice av ks.length capv] 30)) wx → wx.cell? ⟨w.heap.size, 3, none⟩ = some (.slice av ks.length capv) ∧ Below w.heap.size w wx ∧ w.heap.size + 1 ≤ wx.heap.size) := fun wx hx => by
    obtain ⟨_, _, b3, b4, b5⟩ := boxed hx
    exact ⟨b3, b4, b5⟩
  clear hF hsum hrow hel ih hf h0 h1 h2 h3 h4 h5 h6 hbk
  go_enter Tryz.func64, Tryz.ntmps64
  go_wp2_with fail
  go_loopw [3, 7] (fun o i wr => ∃ k : Nat, k ≤ ks.length ∧ i = .int .i64 k ∧ o = .string (joinP ⟨#[32, 124, 32]⟩ (F.take k)) ∧ Below (w.heap.size + 1) (w.alloc (.cells #[.int .i64 kd, .string nm, vn, .slice av ks.length capv] 30)) wr) (fun _ i _ => ks.length - (intOf i).toNat)
  case atStart => exact ⟨0, Nat.zero_le _, rfl, rfl, Below.refl _ _⟩
  case round =>
    obtain ⟨k, hk, rfl, rfl, D⟩ := hrel
    obtain ⟨b3, hbw, hz⟩ := HBX.out wr D
    by_cases hlt : k < ks.length
    · obtain ⟨b, off, x0, x1, x2, x3, rfl, hba, hta, a0, a1, a2, a3⟩ := HEL.out k hlt
      have A0 := (hbw.cell (p := ⟨b, off + k * 4, none⟩) hba).trans a0
      have A1 := (hbw.cell (p := ⟨b, off + k * 4 + 1, none⟩) hba).trans a1
      have A2 := (hbw.cell (p := ⟨b, off + k * 4 + 2, none⟩) hba).trans a2
      have A3 := (hbw.cell (p := ⟨b, off + k * 4 + 3, none⟩) hba).trans a3
      have HC0 := HRD.out k hlt [x0, x1, x2, x3] wr (hta.below hbw)
      rw [← HFK.out k hlt (by omega)] at HC0
      have HC : Hid (type_of% HC0) := HC0
      obtain ⟨j1, j2, j3⟩ := HJ.out k (by omega)
      have hO := HS.out k
      have hO2 := HS.out (k + 1)
      clear a0 a1 a2 a3 HC0 hta HEL HRD
      generalize F[k]'(by omega) = R at *
      by_cases hk0 : k = 0
      · have HJ1 : Hid (joinP ⟨#[32, 124, 32]⟩ (F.take (k + 1)) = joinP ⟨#[32, 124, 32]⟩ (F.take k) ++ R) := by
          show _ = _
          rw [j2 hk0, hk0]
          exact (empty_cat R).symm
        have hkp : ¬ (0 : Int) < (k : Int) := by omega
        clear j1 j2 hk0
        generalize hOe : joinP ⟨#[32, 124, 32]⟩ (F.take k) = O at *
        clear hOe
        go_wp2_with fail
        refine HC.out.mono ?_
        rintro e w2 ⟨rfl, hb2⟩
        go_wp2_with fail
        go_roundw
        case rel => exact ⟨k + 1, by omega, by go_num, by rw [HJ1.out], D.trans (hb2.mono hz)⟩
        case measure => simp [intOf]; omega
      · have HJ1 : Hid (joinP ⟨#[32, 124, 32]⟩ (F.take (k + 1)) = joinP ⟨#[32, 124, 32]⟩ (F.take k) ++ ⟨#[32, 124, 32]⟩ ++ R) := j1 (by omega)
        have hkp : (0 : Int) < (k : Int) := by omega
        clear j1 j2 hk0
        generalize hOe : joinP ⟨#[32, 124, 32]⟩ (F.take k) = O at *
        clear hOe
        go_wp2_with fail
        refine HC.out.mono ?_
        rintro e w2 ⟨rfl, hb2⟩
        go_wp2_with fail
        go_roundw
        case rel => exact ⟨k + 1, by omega, by go_num, by rw [HJ1.out], D.trans (hb2.mono hz)⟩
        case measure => simp [intOf]; omega
    · have hke : k = F.length := by omega
      rw [hke, List.take_of_length_le (Nat.le_refl _)]
      go_wp2_with fail
      go_ret
      exact ⟨rfl, hbw⟩

set_option maxHeartbeats 1600000 in
set_option maxRecDepth 100000 in
theorem specTextFn (n : Nat) (ih : TextAt n) (nm : ByteArray) (ks : List Ty) (vn vk : Value) (w : World) (hrow : RowAt w (TyAt w n) vk ks) (hbk : rowBulk n ks ≤ 1048576) (hf : ∀ k ∈ ks, Ty.fine n k) (hne : ks ≠ []) :
    Calls Tryz.prog 64 #[.agg #[.int .i64 6, .string nm, vn, vk]] w fun e w' => e = .returned (.string (⟨#[40]⟩ ++ joinP ⟨#[44, 32]⟩ (ks.dropLast.map (Ty.text n)) ++ ⟨#[41, 32, 45, 62, 32]⟩ ++ roundP 7 (lastTy ks) (Ty.text n (lastTy ks)))) ∧ Below w.heap.size w w' := by
  obtain ⟨av, capv, rfl, hel⟩ := rowOpen hrow
  have hlen : ks.length ≤ 1048576 := by unfold rowBulk at hbk; omega
  obtain ⟨m, hm⟩ : ∃ m, ks.length = m + 1 := by
    cases ks with
    | nil => exact absurd rfl hne
    | cons a r => exact ⟨r.length, rfl⟩
  have hlast : lastTy ks = ks[m]'(by omega) := by
    unfold lastTy
    have e : ks.length - 1 = m := by omega
    rw [List.getLastD_eq_getLast?, List.getLast?_eq_getElem?, e, List.getElem?_eq_getElem (by omega)]
    rfl
  obtain ⟨F, hF⟩ : ∃ F, F = ks.dropLast.map (Ty.text n) := ⟨_, rfl⟩
  have hFl : F.length = m := by rw [hF, List.length_map, List.length_dropLast, hm]; rfl
  have hsum : sizes F + 2 * m ≤ 100000000 := by
    have a2 := kids_text (text_size n) ks.dropLast
    have a3 : (ks.dropLast.map (Ty.bulk n)).sum ≤ (ks.map (Ty.bulk n)).sum := by
      have := sum_le n ks m
      rw [List.dropLast_eq_take, hm, Nat.add_sub_cancel]
      exact this
    rw [hF]
    rw [List.length_dropLast, hm, Nat.add_sub_cancel] at a2
    unfold rowBulk at hbk
    omega
  have HEL : Hid (type_of% hel) := hel
  have HTX : Hid (∀ k (hk : k < ks.length) (cs : List Value) (wx : World), TyAt wx n cs ks[k] → Calls Tryz.prog 64 #[.agg cs.toArray] wx fun e w' => e = .returned (.string (Ty.text n ks[k])) ∧ Below wx.heap.size wx w') := fun k hk cs wx h => ih cs ks[k] wx h (hf _ (List.getElem_mem hk)) (by have := kid_bulk n ks k hk; unfold rowBulk at hbk; omega)
  have HRD : Hid (∀ (hk : m < ks.length) (cs : List Value) (wx : World), TyAt wx n cs (ks[m]'hk) → Calls Tryz.prog 93 #[.agg cs.toArray, .int .i64 7] wx fun e w' => e = .returned (.string (roundP 7 (lastTy ks) (Ty.text n (lastTy ks)))) ∧ Below wx.heap.size wx w') := fun hk cs wx h => by
    rw [hlast]
    exact specRound n ih cs _ 7 wx h (hf _ (List.getElem_mem _)) (by have := kid_bulk n ks m (by omega); unfold rowBulk at hbk; omega)
  have hLS : (roundP 7 (lastTy ks) (Ty.text n (lastTy ks))).size ≤ 100000000 := by
    have a1 := roundP_size 7 (lastTy ks) (Ty.text n (lastTy ks))
    have a2 := text_size n (lastTy ks)
    rw [hlast] at a1 a2 ⊢
    have := kid_bulk n ks m (by omega)
    unfold rowBulk at hbk
    omega
  have HFK : Hid (∀ k (hk : k < ks.length) (hk' : k < F.length), F[k] = Ty.text n ks[k]) := fun k hk hk' => by subst hF; simp
  have HJ : Hid (∀ k (hk : k < F.length), (0 < k → joinP ⟨#[44, 32]⟩ (F.take (k + 1)) = joinP ⟨#[44, 32]⟩ (F.take k) ++ ⟨#[44, 32]⟩ ++ F[k]) ∧ (k = 0 → joinP ⟨#[44, 32]⟩ (F.take (k + 1)) = F[k]) ∧ F[k].size ≤ 100000000) := fun k hk => by
    refine ⟨fun h => joinP_more _ F k hk h, fun h => by subst h; exact joinP_one _ F hk, ?_⟩
    have a2 : F[k].size ≤ sizes F := sizes_mem F _ (List.getElem_mem hk)
    omega
  have HS : Hid (∀ k, (joinP ⟨#[44, 32]⟩ (F.take k)).size ≤ 100000000) := fun k => by
    have a1 := joinP_take ⟨#[44, 32]⟩ F k
    have e1 : (⟨#[44, 32]⟩ : ByteArray).size = 2 := rfl
    rw [e1, hFl] at a1
    omega
  rw [← hF]
  generalize roundP 7 (lastTy ks) (Ty.text n (lastTy ks)) = LT at *
  have HBX : Hid (∀ wx : World, Below (w.heap.size + 1) (w.alloc (.cells #[.int .i64 6, .string nm, vn, .slice av (m + 1) capv] 30)) wx → wx.cell? ⟨w.heap.size, 3, none⟩ = some (.slice av (m + 1) capv) ∧ Below w.heap.size w wx ∧ w.heap.size + 1 ≤ wx.heap.size) := fun wx hx => by
    obtain ⟨_, _, b3, b4, b5⟩ := boxed hx
    exact ⟨b3, b4, b5⟩
  have hm20 : m ≤ 1048576 := by omega
  have HM : Hid (ks.length = m + 1) := hm
  rw [hm]
  clear hF hsum hrow hel ih hf hbk hne hlast hm hlen
  go_enter Tryz.func64, Tryz.ntmps64
  go_wp2_with fail
  go_loopw [3, 6] (fun o i wr => ∃ k : Nat, k ≤ m ∧ i = .int .i64 k ∧ o = .string (joinP ⟨#[44, 32]⟩ (F.take k)) ∧ Below (w.heap.size + 1) (w.alloc (.cells #[.int .i64 6, .string nm, vn, .slice av (m + 1) capv] 30)) wr) (fun _ i _ => m - (intOf i).toNat)
  case atStart => exact ⟨0, Nat.zero_le _, rfl, rfl, Below.refl _ _⟩
  case round =>
    obtain ⟨k, hk, rfl, rfl, D⟩ := hrel
    obtain ⟨b3, hbw, hz⟩ := HBX.out wr D
    by_cases hlt : k < m
    · obtain ⟨b, off, x0, x1, x2, x3, rfl, hba, hta, a0, a1, a2, a3⟩ := HEL.out k (by have := HM.out; omega)
      have A0 := (hbw.cell (p := ⟨b, off + k * 4, none⟩) hba).trans a0
      have A1 := (hbw.cell (p := ⟨b, off + k * 4 + 1, none⟩) hba).trans a1
      have A2 := (hbw.cell (p := ⟨b, off + k * 4 + 2, none⟩) hba).trans a2
      have A3 := (hbw.cell (p := ⟨b, off + k * 4 + 3, none⟩) hba).trans a3
      have HC0 := HTX.out k (by have := HM.out; omega) [x0, x1, x2, x3] wr (hta.below hbw)
      rw [← HFK.out k (by have := HM.out; omega) (by omega)] at HC0
      have HC : Hid (type_of% HC0) := HC0
      obtain ⟨j1, j2, j3⟩ := HJ.out k (by omega)
      have hO := HS.out k
      have hO2 := HS.out (k + 1)
      clear a0 a1 a2 a3 HC0 hta HEL HRD HTX
      generalize F[k]'(by omega) = R at *
      by_cases hk0 : k = 0
      · have HJ1 : Hid (joinP ⟨#[44, 32]⟩ (F.take (k + 1)) = joinP ⟨#[44, 32]⟩ (F.take k) ++ R) := by
          show _ = _
          rw [j2 hk0, hk0]
          exact (empty_cat R).symm
        have hkp : ¬ (0 : Int) < (k : Int) := by omega
        clear j1 j2 hk0
        generalize hOe : joinP ⟨#[44, 32]⟩ (F.take k) = O at *
        clear hOe
        go_wp2_with fail
        refine HC.out.mono ?_
        rintro e w2 ⟨rfl, hb2⟩
        go_wp2_with fail
        go_roundw
        case rel => exact ⟨k + 1, by omega, by go_num, by rw [HJ1.out], D.trans (hb2.mono hz)⟩
        case measure => simp [intOf]; omega
      · have HJ1 : Hid (joinP ⟨#[44, 32]⟩ (F.take (k + 1)) = joinP ⟨#[44, 32]⟩ (F.take k) ++ ⟨#[44, 32]⟩ ++ R) := j1 (by omega)
        have hkp : (0 : Int) < (k : Int) := by omega
        clear j1 j2 hk0
        generalize hOe : joinP ⟨#[44, 32]⟩ (F.take k) = O at *
        clear hOe
        go_wp2_with fail
        refine HC.out.mono ?_
        rintro e w2 ⟨rfl, hb2⟩
        go_wp2_with fail
        go_roundw
        case rel => exact ⟨k + 1, by omega, by go_num, by rw [HJ1.out], D.trans (hb2.mono hz)⟩
        case measure => simp [intOf]; omega
    · have hke : k = m := by omega
      have hFe : F.take k = F := List.take_of_length_le (by omega)
      have hO := HS.out k
      rw [hFe] at hO ⊢
      subst hke
      obtain ⟨b, off, x0, x1, x2, x3, rfl, hba, hta, a0, a1, a2, a3⟩ := HEL.out k (by have := HM.out; omega)
      have A0 := (hbw.cell (p := ⟨b, off + k * 4, none⟩) hba).trans a0
      have A1 := (hbw.cell (p := ⟨b, off + k * 4 + 1, none⟩) hba).trans a1
      have A2 := (hbw.cell (p := ⟨b, off + k * 4 + 2, none⟩) hba).trans a2
      have A3 := (hbw.cell (p := ⟨b, off + k * 4 + 3, none⟩) hba).trans a3
      have HC0 := HRD.out (by have := HM.out; omega) [x0, x1, x2, x3] wr (hta.below hbw)
      have HC : Hid (type_of% HC0) := HC0
      clear a0 a1 a2 a3 HC0 hta HEL HRD HTX hFe
      generalize hOe : joinP ⟨#[44, 32]⟩ F = O at *
      have HOE : Hid (joinP ⟨#[44, 32]⟩ F = O) := hOe
      clear hOe
      go_wp2_with fail
      refine HC.out.mono ?_
      rintro e w2 ⟨rfl, hb2⟩
      go_wp2_with fail
      go_ret
      exact ⟨by rw [HOE.out]; rfl, hbw.trans (hb2.mono (by omega))⟩

end Go.Proofs.YtbojmbeopnlmiaaGreatDoor
