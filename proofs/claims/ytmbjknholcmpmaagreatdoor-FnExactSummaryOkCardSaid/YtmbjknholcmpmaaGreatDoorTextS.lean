/-
  The walks of spec.l03Text and spec.l03Round: a type's text, by recursion on its depth.
  The walks of spec.l03Text at a union (and at whatever else), and at a function.
-/
import Derived.Test.YtmbjknholcmpmaaGreatDoorEqTy
namespace Go.Proofs.YtmbjknholcmpmaaGreatDoor
open Go.RowKit

/-- a record has as many names as kids, a function has a kid: to a depth -/
def Ty.fine : Nat → Ty → Prop
  | 0, _ => True
  | n + 1, t => (t.kind = 5 → t.names.length = t.kids.length) ∧ (t.kind = 6 → t.kids ≠ []) ∧ ∀ k ∈ t.kids, Ty.fine n k

/-- what l03Text does at that depth -/
def TextAt (n : Nat) : Prop := ∀ (cs : List Value) (t : Ty) (w : World), TyAt w n cs t → Ty.fine n t → Ty.bulk n t ≤ 1048576 →
    Calls Tryz.prog 83 #[.agg cs.toArray] w fun e w' => e = .returned (.string (Ty.text n t)) ∧ Below w.heap.size w w'

theorem cellT {w : World} {cs : Array Value} {t : TypeId} {b : Nat} (i : Nat) (h : b = w.heap.size) : (w.alloc (.cells cs t)).cell? ⟨b, i, none⟩ = cs[i]? := by
  subst h
  simp

set_option maxHeartbeats 800000 in
set_option maxRecDepth 100000 in
theorem specRound (n : Nat) (ih : TextAt n) (cs : List Value) (t : Ty) (c : Int) (w : World) (h : TyAt w n cs t) (hf : Ty.fine n t) (hb : Ty.bulk n t ≤ 1048576) :
    Calls Tryz.prog 105 #[.agg cs.toArray, .int .i64 c] w fun e w' => e = .returned (.string (roundP c t (Ty.text n t))) ∧ Below w.heap.size w w' := by
  have hs := text_size n t
  have hB1 : Below w.heap.size w (w.alloc (.cells cs.toArray 40)) := (Below.refl _ _).alloc (Nat.le_refl _) _
  have HC := ih cs t _ (h.below hB1) hf hb
  obtain ⟨x2, x3, rfl⟩ : ∃ x2 x3, cs = [.int .i64 t.kind, .string t.name, x2, x3] := by
    cases n with
    | zero => exact h.elim
    | succ n => obtain ⟨vn, vk, e, _⟩ := h; exact ⟨vn, vk, e⟩
  have HC2 : Hid (type_of% HC) := HC
  by_cases hk : t.kind = c
  · have HR : Hid (roundP c t (Ty.text n t) = ⟨#[40]⟩ ++ Ty.text n t ++ ⟨#[41]⟩) := if_pos hk
    have hkb : (t.kind == c) = true := beq_iff_eq.2 hk
    clear HC h hf hk
    generalize Ty.text n t = T at *
    go_enter Tryz.func105, Tryz.ntmps105
    go_wp2_with fail
    refine HC2.out.mono ?_
    rintro e w1 ⟨rfl, hb1⟩
    go_wp2_with fail
    go_ret
    exact ⟨by rw [HR.out]; rfl, hB1.trans (hb1.mono (by simp))⟩
  · have HR : Hid (roundP c t (Ty.text n t) = Ty.text n t) := if_neg hk
    have hkb : (t.kind == c) = false := beq_eq_false_iff_ne.2 hk
    clear HC h hf hk
    generalize Ty.text n t = T at *
    go_enter Tryz.func105, Tryz.ntmps105
    go_wp2_with fail
    refine HC2.out.mono ?_
    rintro e w1 ⟨rfl, hb1⟩
    go_wp2_with fail
    go_ret
    exact ⟨by rw [HR.out]; rfl, hB1.trans (hb1.mono (by simp))⟩

set_option maxHeartbeats 1600000 in
set_option maxRecDepth 100000 in
theorem specTextPlain (n : Nat) (kd : Int) (nm : ByteArray) (nms : List ByteArray) (ks : List Ty) (vn vk : Value) (w : World) (hk : kd = 0 ∨ kd = 1 ∨ kd = 2 ∨ kd = 3 ∨ kd = 4) :
    Calls Tryz.prog 83 #[.agg #[.int .i64 kd, .string nm, vn, vk]] w fun e w' => e = .returned (.string (Ty.text (n + 1) (.mk kd nm nms ks))) ∧ Below w.heap.size w w' := by
  have hB1 : Below w.heap.size w (w.alloc (.cells #[.int .i64 kd, .string nm, vn, vk] 40)) := (Below.refl _ _).alloc (Nat.le_refl _) _
  rcases hk with rfl | rfl | rfl | rfl | rfl
  · go_enter Tryz.func83, Tryz.ntmps83
    go_wp2
    go_ret
    exact ⟨rfl, hB1.alloc (by simp) _⟩
  · go_enter Tryz.func83, Tryz.ntmps83
    go_wp2
    go_ret
    exact ⟨rfl, hB1.alloc (by simp) _⟩
  · go_enter Tryz.func83, Tryz.ntmps83
    go_wp2
    go_ret
    exact ⟨rfl, hB1.alloc (by simp) _⟩
  · go_enter Tryz.func83, Tryz.ntmps83
    go_wp2
    go_ret
    exact ⟨rfl, hB1.alloc (by simp) _⟩
  · go_enter Tryz.func83, Tryz.ntmps83
    go_wp2
    go_ret
    exact ⟨rfl, hB1⟩

end Go.Proofs.YtmbjknholcmpmaaGreatDoor

namespace Go.Proofs.YtmbjknholcmpmaaGreatDoor
open Go.RowKit

theorem empty_cat (s : ByteArray) : (⟨#[]⟩ : ByteArray) ++ s = s := by
  apply ByteArray.ext
  simp

theorem sizes_mem (l : List ByteArray) (x : ByteArray) (h : x ∈ l) : x.size ≤ sizes l := by
  induction l with
  | nil => simp at h
  | cons a r ih =>
    unfold sizes at ih ⊢
    simp only [List.map_cons, List.sum_cons]
    rcases List.mem_cons.1 h with e | m
    · rw [e]; omega
    · have := ih m; omega

/-- the cells of a type that was handed in, in every later world -/
theorem boxed {w wx : World} {x0 x1 x2 x3 : Value} (hx : Below (w.heap.size + 1) (w.alloc (.cells #[x0, x1, x2, x3] 40)) wx) :
    wx.cell? ⟨w.heap.size, 1, none⟩ = some x1 ∧ wx.cell? ⟨w.heap.size, 2, none⟩ = some x2 ∧ wx.cell? ⟨w.heap.size, 3, none⟩ = some x3 ∧ Below w.heap.size w wx ∧ w.heap.size + 1 ≤ wx.heap.size := by
  refine ⟨?_, ?_, ?_, ((Below.refl _ _).alloc (Nat.le_refl _) _).trans (hx.mono (by omega)), by have := hx.size; simpa using this⟩
  · rw [hx.cell (p := ⟨w.heap.size, 1, none⟩) (Nat.lt_succ_self _), cellT _ rfl]; rfl
  · rw [hx.cell (p := ⟨w.heap.size, 2, none⟩) (Nat.lt_succ_self _), cellT _ rfl]; rfl
  · rw [hx.cell (p := ⟨w.heap.size, 3, none⟩) (Nat.lt_succ_self _), cellT _ rfl]; rfl

set_option maxHeartbeats 1600000 in
set_option maxRecDepth 100000 in
theorem specTextUnion (n : Nat) (ih : TextAt n) (kd : Int) (nm : ByteArray) (ks : List Ty) (vn vk : Value) (w : World) (hrow : RowAt w (TyAt w n) vk ks) (hbk : rowBulk n ks ≤ 1048576) (hf : ∀ k ∈ ks, Ty.fine n k)
    (h0 : kd ≠ 0) (h1 : kd ≠ 1) (h2 : kd ≠ 2) (h3 : kd ≠ 3) (h4 : kd ≠ 4) (h5 : kd ≠ 5) (h6 : kd ≠ 6) :
    Calls Tryz.prog 83 #[.agg #[.int .i64 kd, .string nm, vn, vk]] w fun e w' => e = .returned (.string (joinP ⟨#[32, 124, 32]⟩ (ks.map fun k => roundP 6 k (Ty.text n k)))) ∧ Below w.heap.size w w' := by
  obtain ⟨av, capv, rfl, hel⟩ := rowOpen hrow
  have hlen : ks.length ≤ 1048576 := by unfold rowBulk at hbk; omega
  have hsum : sizes (ks.map fun k => roundP 6 k (Ty.text n k)) + 3 * ks.length ≤ 100000000 := by
    have a1 := kids_round (n := n) 6 ks
    have a2 := kids_text (text_size n) ks
    unfold rowBulk at hbk
    omega
  have HEL : Hid (type_of% hel) := hel
  have HRD : Hid (∀ k (hk : k < ks.length) (cs : List Value) (wx : World), TyAt wx n cs ks[k] → Calls Tryz.prog 105 #[.agg cs.toArray, .int .i64 6] wx fun e w' => e = .returned (.string (roundP 6 ks[k] (Ty.text n ks[k]))) ∧ Below wx.heap.size wx w') := fun k hk cs wx h => specRound n ih cs ks[k] 6 wx h (hf _ (List.getElem_mem hk)) (by have := kid_bulk n ks k hk; unfold rowBulk at hbk; omega)
  obtain ⟨F, hF⟩ : ∃ F, F = ks.map fun k => roundP 6 k (Ty.text n k) := ⟨_, rfl⟩
  have hFl : F.length = ks.length := by rw [hF, List.length_map]
  have HFK : Hid (∀ k (hk : k < ks.length) (hk' : k < F.length), F[k] = roundP 6 ks[k] (Ty.text n ks[k])) := fun k hk hk' => by subst hF; simp
  have HJ : Hid (∀ k (hk : k < F.length), (0 < k → joinP ⟨#[32, 124, 32]⟩ (F.take (k + 1)) = joinP ⟨#[32, 124, 32]⟩ (F.take k) ++ ⟨#[32, 124, 32]⟩ ++ F[k]) ∧ (k = 0 → joinP ⟨#[32, 124, 32]⟩ (F.take (k + 1)) = F[k]) ∧ F[k].size ≤ 100000000) := fun k hk => by
    refine ⟨fun h => joinP_more _ F k hk h, fun h => by subst h; exact joinP_one _ F hk, ?_⟩
    have a1 := joinP_take ⟨#[]⟩ F (k + 1)
    have a2 : F[k].size ≤ sizes F := sizes_mem F _ (List.getElem_mem hk)
    rw [← hF] at hsum
    omega
  have HS : Hid (∀ k, (joinP ⟨#[32, 124, 32]⟩ (F.take k)).size ≤ 100000000) := fun k => by
    have a1 := joinP_take ⟨#[32, 124, 32]⟩ F k
    have e1 : (⟨#[32, 124, 32]⟩ : ByteArray).size = 3 := rfl
    rw [e1, hFl] at a1
    rw [← hF] at hsum
    omega
  rw [← hF]
  have g0 : (kd == 0) = false := beq_eq_false_iff_ne.2 h0
  have g1 : (kd == 1) = false := beq_eq_false_iff_ne.2 h1
  have g2 : (kd == 2) = false := beq_eq_false_iff_ne.2 h2
  have g3 : (kd == 3) = false := beq_eq_false_iff_ne.2 h3
  have g4 : (kd == 4) = false := beq_eq_false_iff_ne.2 h4
  have g5 : (kd == 5) = false := beq_eq_false_iff_ne.2 h5
  have g6 : (kd == 6) = false := beq_eq_false_iff_ne.2 h6
  have HBX : Hid (∀ wx : World, Below (w.heap.size + 1) (w.alloc (.cells #[.int .i64 kd, .string nm, vn, .slice av ks.length capv] 40)) wx → wx.cell? ⟨w.heap.size, 3, none⟩ = some (.slice av ks.length capv) ∧ Below w.heap.size w wx ∧ w.heap.size + 1 ≤ wx.heap.size) := fun wx hx => by
    obtain ⟨_, _, b3, b4, b5⟩ := boxed hx
    exact ⟨b3, b4, b5⟩
  clear hF hsum hrow hel ih hf h0 h1 h2 h3 h4 h5 h6 hbk
  go_enter Tryz.func83, Tryz.ntmps83
  go_wp2_with fail
  go_loopw [3, 7] (fun o i wr => ∃ k : Nat, k ≤ ks.length ∧ i = .int .i64 k ∧ o = .string (joinP ⟨#[32, 124, 32]⟩ (F.take k)) ∧ Below (w.heap.size + 1) (w.alloc (.cells #[.int .i64 kd, .string nm, vn, .slice av ks.length capv] 40)) wr) (fun _ i _ => ks.length - (intOf i).toNat)
  case atStart => exact ⟨0, Nat.zero_le _, rfl, rfl, Below.refl _ _⟩
  case round =>
    obtain ⟨k, hk, rfl, rfl, D⟩ := hrel
    obtain ⟨b3, hbw, hz⟩ := HBX.out wr D
    by_cases hlt : k < ks.length
    · obtain ⟨b, off, x0, x1, x2, x3, rfl, hba, hta, a0, a1, a2, a3⟩ := HEL.out k hlt
      have A0 := (hbw.cell (p := ⟨b, off + k * 4, none⟩) hba).trans a0
      have A1 := (hbw.cell (p := ⟨b, off + k * 4 + 1, none⟩) hba).trans a1
      have A2 := (hbw.cell (p := ⟨b, off + k * 4 + 2, none⟩) hba).trans a2
      have A3 := (hbw.cell (p := ⟨b, off + k * 4 + 3, none⟩) hba).trans a3
      have HC0 := HRD.out k hlt [x0, x1, x2, x3] wr (hta.below hbw)
      rw [← HFK.out k hlt (by omega)] at HC0
      have HC : Hid (type_of% HC0) := HC0
      obtain ⟨j1, j2, j3⟩ := HJ.out k (by omega)
      have hO := HS.out k
      have hO2 := HS.out (k + 1)
      clear a0 a1 a2 a3 HC0 hta HEL HRD
      generalize F[k]'(by omega) = R at *
      by_cases hk0 : k = 0
      · have HJ1 : Hid (joinP ⟨#[32, 124, 32]⟩ (F.take (k + 1)) = joinP ⟨#[32, 124, 32]⟩ (F.take k) ++ R) := by
          show _ = _
          rw [j2 hk0, hk0]
          exact (empty_cat R).symm
        have hkp : ¬ (0 : Int) < (k : Int) := by omega
        clear j1 j2 hk0
        generalize hOe : joinP ⟨#[32, 124, 32]⟩ (F.take k) = O at *
        clear hOe
        go_wp2_with fail
        refine HC.out.mono ?_
        rintro e w2 ⟨rfl, hb2⟩
        go_wp2_with fail
        go_roundw
        case rel => exact ⟨k + 1, by omega, by go_num, by rw [HJ1.out], D.trans (hb2.mono hz)⟩
        case measure => simp [intOf]; omega
      · have HJ1 : Hid (joinP ⟨#[32, 124, 32]⟩ (F.take (k + 1)) = joinP ⟨#[32, 124, 32]⟩ (F.take k) ++ ⟨#[32, 124, 32]⟩ ++ R) := j1 (by omega)
        have hkp : (0 : Int) < (k : Int) := by omega
        clear j1 j2 hk0
        generalize hOe : joinP ⟨#[32, 124, 32]⟩ (F.take k) = O at *
        clear hOe
        go_wp2_with fail
        refine HC.out.mono ?_
        rintro e w2 ⟨rfl, hb2⟩
        go_wp2_with fail
        go_roundw
        case rel => exact ⟨k + 1, by omega, by go_num, by rw [HJ1.out], D.trans (hb2.mono hz)⟩
        case measure => simp [intOf]; omega
    · have hke : k = F.length := by omega
      rw [hke, List.take_of_length_le (Nat.le_refl _)]
      go_wp2_with fail
      go_ret
      exact ⟨rfl, hbw⟩

set_option maxHeartbeats 1600000 in
set_option maxRecDepth 100000 in
theorem specTextFn (n : Nat) (ih : TextAt n) (nm : ByteArray) (ks : List Ty) (vn vk : Value) (w : World) (hrow : RowAt w (TyAt w n) vk ks) (hbk : rowBulk n ks ≤ 1048576) (hf : ∀ k ∈ ks, Ty.fine n k) (hne : ks ≠ []) :
    Calls Tryz.prog 83 #[.agg #[.int .i64 6, .string nm, vn, vk]] w fun e w' => e = .returned (.string (⟨#[40]⟩ ++ joinP ⟨#[44, 32]⟩ (ks.dropLast.map (Ty.text n)) ++ ⟨#[41, 32, 45, 62, 32]⟩ ++ roundP 7 (lastTy ks) (Ty.text n (lastTy ks)))) ∧ Below w.heap.size w w' := by
  obtain ⟨av, capv, rfl, hel⟩ := rowOpen hrow
  have hlen : ks.length ≤ 1048576 := by unfold rowBulk at hbk; omega
  obtain ⟨m, hm⟩ : ∃ m, ks.length = m + 1 := by
    cases ks with
    | nil => exact absurd rfl hne
    | cons a r => exact ⟨r.length, rfl⟩
  have hlast : lastTy ks = ks[m]'(by omega) := by
    unfold lastTy
    have e : ks.length - 1 = m := by omega
    rw [List.getLastD_eq_getLast?, List.getLast?_eq_getElem?, e, List.getElem?_eq_getElem (by omega)]
    rfl
  obtain ⟨F, hF⟩ : ∃ F, F = ks.dropLast.map (Ty.text n) := ⟨_, rfl⟩
  have hFl : F.length = m := by rw [hF, List.length_map, List.length_dropLast, hm]; rfl
  have hsum : sizes F + 2 * m ≤ 100000000 := by
    have a2 := kids_text (text_size n) ks.dropLast
    have a3 : (ks.dropLast.map (Ty.bulk n)).sum ≤ (ks.map (Ty.bulk n)).sum := by
      have := sum_le n ks m
      rw [List.dropLast_eq_take, hm, Nat.add_sub_cancel]
      exact this
    rw [hF]
    rw [List.length_dropLast, hm, Nat.add_sub_cancel] at a2
    unfold rowBulk at hbk
    omega
  have HEL : Hid (type_of% hel) := hel
  have HTX : Hid (∀ k (hk : k < ks.length) (cs : List Value) (wx : World), TyAt wx n cs ks[k] → Calls Tryz.prog 83 #[.agg cs.toArray] wx fun e w' => e = .returned (.string (Ty.text n ks[k])) ∧ Below wx.heap.size wx w') := fun k hk cs wx h => ih cs ks[k] wx h (hf _ (List.getElem_mem hk)) (by have := kid_bulk n ks k hk; unfold rowBulk at hbk; omega)
  have HRD : Hid (∀ (hk : m < ks.length) (cs : List Value) (wx : World), TyAt wx n cs (ks[m]'hk) → Calls Tryz.prog 105 #[.agg cs.toArray, .int .i64 7] wx fun e w' => e = .returned (.string (roundP 7 (lastTy ks) (Ty.text n (lastTy ks)))) ∧ Below wx.heap.size wx w') := fun hk cs wx h => by
    rw [hlast]
    exact specRound n ih cs _ 7 wx h (hf _ (List.getElem_mem _)) (by have := kid_bulk n ks m (by omega); unfold rowBulk at hbk; omega)
  have hLS : (roundP 7 (lastTy ks) (Ty.text n (lastTy ks))).size ≤ 100000000 := by
    have a1 := roundP_size 7 (lastTy ks) (Ty.text n (lastTy ks))
    have a2 := text_size n (lastTy ks)
    rw [hlast] at a1 a2 ⊢
    have := kid_bulk n ks m (by omega)
    unfold rowBulk at hbk
    omega
  have HFK : Hid (∀ k (hk : k < ks.length) (hk' : k < F.length), F[k] = Ty.text n ks[k]) := fun k hk hk' => by subst hF; simp
  have HJ : Hid (∀ k (hk : k < F.length), (0 < k → joinP ⟨#[44, 32]⟩ (F.take (k + 1)) = joinP ⟨#[44, 32]⟩ (F.take k) ++ ⟨#[44, 32]⟩ ++ F[k]) ∧ (k = 0 → joinP ⟨#[44, 32]⟩ (F.take (k + 1)) = F[k]) ∧ F[k].size ≤ 100000000) := fun k hk => by
    refine ⟨fun h => joinP_more _ F k hk h, fun h => by subst h; exact joinP_one _ F hk, ?_⟩
    have a2 : F[k].size ≤ sizes F := sizes_mem F _ (List.getElem_mem hk)
    omega
  have HS : Hid (∀ k, (joinP ⟨#[44, 32]⟩ (F.take k)).size ≤ 100000000) := fun k => by
    have a1 := joinP_take ⟨#[44, 32]⟩ F k
    have e1 : (⟨#[44, 32]⟩ : ByteArray).size = 2 := rfl
    rw [e1, hFl] at a1
    omega
  rw [← hF]
  generalize roundP 7 (lastTy ks) (Ty.text n (lastTy ks)) = LT at *
  have HBX : Hid (∀ wx : World, Below (w.heap.size + 1) (w.alloc (.cells #[.int .i64 6, .string nm, vn, .slice av (m + 1) capv] 40)) wx → wx.cell? ⟨w.heap.size, 3, none⟩ = some (.slice av (m + 1) capv) ∧ Below w.heap.size w wx ∧ w.heap.size + 1 ≤ wx.heap.size) := fun wx hx => by
    obtain ⟨_, _, b3, b4, b5⟩ := boxed hx
    exact ⟨b3, b4, b5⟩
  have hm20 : m ≤ 1048576 := by omega
  have HM : Hid (ks.length = m + 1) := hm
  rw [hm]
  clear hF hsum hrow hel ih hf hbk hne hlast hm hlen
  go_enter Tryz.func83, Tryz.ntmps83
  go_wp2_with fail
  go_loopw [3, 6] (fun o i wr => ∃ k : Nat, k ≤ m ∧ i = .int .i64 k ∧ o = .string (joinP ⟨#[44, 32]⟩ (F.take k)) ∧ Below (w.heap.size + 1) (w.alloc (.cells #[.int .i64 6, .string nm, vn, .slice av (m + 1) capv] 40)) wr) (fun _ i _ => m - (intOf i).toNat)
  case atStart => exact ⟨0, Nat.zero_le _, rfl, rfl, Below.refl _ _⟩
  case round =>
    obtain ⟨k, hk, rfl, rfl, D⟩ := hrel
    obtain ⟨b3, hbw, hz⟩ := HBX.out wr D
    by_cases hlt : k < m
    · obtain ⟨b, off, x0, x1, x2, x3, rfl, hba, hta, a0, a1, a2, a3⟩ := HEL.out k (by have := HM.out; omega)
      have A0 := (hbw.cell (p := ⟨b, off + k * 4, none⟩) hba).trans a0
      have A1 := (hbw.cell (p := ⟨b, off + k * 4 + 1, none⟩) hba).trans a1
      have A2 := (hbw.cell (p := ⟨b, off + k * 4 + 2, none⟩) hba).trans a2
      have A3 := (hbw.cell (p := ⟨b, off + k * 4 + 3, none⟩) hba).trans a3
      have HC0 := HTX.out k (by have := HM.out; omega) [x0, x1, x2, x3] wr (hta.below hbw)
      rw [← HFK.out k (by have := HM.out; omega) (by omega)] at HC0
      have HC : Hid (type_of% HC0) := HC0
      obtain ⟨j1, j2, j3⟩ := HJ.out k (by omega)
      have hO := HS.out k
      have hO2 := HS.out (k + 1)
      clear a0 a1 a2 a3 HC0 hta HEL HRD HTX
      generalize F[k]'(by omega) = R at *
      by_cases hk0 : k = 0
      · have HJ1 : Hid (joinP ⟨#[44, 32]⟩ (F.take (k + 1)) = joinP ⟨#[44, 32]⟩ (F.take k) ++ R) := by
          show _ = _
          rw [j2 hk0, hk0]
          exact (empty_cat R).symm
        have hkp : ¬ (0 : Int) < (k : Int) := by omega
        clear j1 j2 hk0
        generalize hOe : joinP ⟨#[44, 32]⟩ (F.take k) = O at *
        clear hOe
        go_wp2_with fail
        refine HC.out.mono ?_
        rintro e w2 ⟨rfl, hb2⟩
        go_wp2_with fail
        go_roundw
        case rel => exact ⟨k + 1, by omega, by go_num, by rw [HJ1.out], D.trans (hb2.mono hz)⟩
        case measure => simp [intOf]; omega
      · have HJ1 : Hid (joinP ⟨#[44, 32]⟩ (F.take (k + 1)) = joinP ⟨#[44, 32]⟩ (F.take k) ++ ⟨#[44, 32]⟩ ++ R) := j1 (by omega)
        have hkp : (0 : Int) < (k : Int) := by omega
        clear j1 j2 hk0
        generalize hOe : joinP ⟨#[44, 32]⟩ (F.take k) = O at *
        clear hOe
        go_wp2_with fail
        refine HC.out.mono ?_
        rintro e w2 ⟨rfl, hb2⟩
        go_wp2_with fail
        go_roundw
        case rel => exact ⟨k + 1, by omega, by go_num, by rw [HJ1.out], D.trans (hb2.mono hz)⟩
        case measure => simp [intOf]; omega
    · have hke : k = m := by omega
      have hFe : F.take k = F := List.take_of_length_le (by omega)
      have hO := HS.out k
      rw [hFe] at hO ⊢
      subst hke
      obtain ⟨b, off, x0, x1, x2, x3, rfl, hba, hta, a0, a1, a2, a3⟩ := HEL.out k (by have := HM.out; omega)
      have A0 := (hbw.cell (p := ⟨b, off + k * 4, none⟩) hba).trans a0
      have A1 := (hbw.cell (p := ⟨b, off + k * 4 + 1, none⟩) hba).trans a1
      have A2 := (hbw.cell (p := ⟨b, off + k * 4 + 2, none⟩) hba).trans a2
      have A3 := (hbw.cell (p := ⟨b, off + k * 4 + 3, none⟩) hba).trans a3
      have HC0 := HRD.out (by have := HM.out; omega) [x0, x1, x2, x3] wr (hta.below hbw)
      have HC : Hid (type_of% HC0) := HC0
      clear a0 a1 a2 a3 HC0 hta HEL HRD HTX hFe
      generalize hOe : joinP ⟨#[44, 32]⟩ F = O at *
      have HOE : Hid (joinP ⟨#[44, 32]⟩ F = O) := hOe
      clear hOe
      go_wp2_with fail
      refine HC.out.mono ?_
      rintro e w2 ⟨rfl, hb2⟩
      go_wp2_with fail
      go_ret
      exact ⟨by rw [HOE.out]; rfl, hbw.trans (hb2.mono (by omega))⟩

end Go.Proofs.YtmbjknholcmpmaaGreatDoor
