/-
  The walk of the law FnLex.
-/
import Derived.Test.YtfmfihgmpefknaaDoorLexLaid
import Derived.Test.YtfmfihgmpefknaaDoorLexQ
import Derived.Test.YtfmfihgmpefknaaDoorDrawsD
import Derived.Test.YtfmfihgmpefknaaDoorSameTok
namespace Go.Proofs.YtfmfihgmpefknaaDoor
open Go.RowKit

theorem lawsBigL (a : Option Addr) (len cap : Nat) (w : World) :
    Calls Tryd.prog 6 #[.slice a len cap] w fun e w' => e = .returned (.bool (decide ((1048576 : Int) < len))) ∧ w = w' := by
  go_enter Tryd.func6, Tryd.ntmps6
  go_wp2
  go_ret
  exact ⟨rfl, rfl⟩

theorem name_no_word {n : ByteArray} (h : Lx.nameOkP n = true) : Lx.isWordP n = false := by
  unfold Lx.nameOkP at h
  cases hq : Lx.isWordP n
  · rfl
  · rw [hq] at h; simp at h

theorem tok_text (s : ByteArray) (i line : Nat) (t : Lx.Tok) (k : Nat) (h : Lx.tokP s i line = some (t, k)) : t.text.size ≤ s.size := by
  unfold Lx.tokP at h
  repeat' split at h
  all_goals first
    | (cases h; done)
    | (cases h; simp only [ByteArray.size_extract]; omega)
    | (cases h; exact Nat.zero_le _)
theorem lexP_text (s : ByteArray) (i line : Nat) (l : List Lx.Tok) (h : Lx.lexP s i line = .ok l) : ∀ t ∈ l, t.text.size ≤ s.size := by
  fun_induction Lx.lexP s i line generalizing l with
  | case1 i line hlt hb ih => exact ih l h
  | case2 i line hlt h1 hb ih => exact ih l h
  | case3 i line hlt h1 h2 hb hg ih => exact ih l h
  | case4 => cases h
  | case5 => cases h
  | case6 i line hlt h1 h2 h3 t k ht hg ih =>
    cases hq : Lx.lexP s k line with
    | error n => rw [hq] at h; cases h
    | ok r =>
      rw [hq] at h
      cases h
      intro u hu
      rcases List.mem_cons.1 hu with rfl | hu
      · exact tok_text s i line _ k ht
      · exact ih r hq u hu
  | case7 => cases h
  | case8 => cases h; intro t ht; simp at ht
theorem lexA_text (s : ByteArray) : ∀ t ∈ (Lx.lexA s).1, t.text.size ≤ s.size := by
  unfold Lx.lexA
  by_cases h : 3000 < s.size
  · rw [if_pos h]; intro t ht; simp at ht
  · rw [if_neg h]
    cases hq : Lx.lexP s 0 1 with
    | error n => intro t ht; simp at ht
    | ok r => exact lexP_text s 0 1 r hq

/-- the law's own loop over the words -/
def Told (ts : List Lx.Tok) : Prop := (∀ k (h : k < ts.length), ts[k].kind = 0 → Lx.nameOkP ts[k].text = true) ∧ ∀ k (h : k + 1 < ts.length), ts[k].line ≤ ts[k + 1].line

set_option maxHeartbeats 1600000 in
set_option maxRecDepth 100000 in
theorem lexLaw (a : Option Addr) (len cap : Nat) (w : World) (hA : CodeL w a len) (hc : ClsIs w) (hg : ErrIs w) :
    Calls Tryd.prog 5 #[.slice a len cap] w fun e w' => e = .returned (.bool true) ∧ Below w.heap.size w w' := by
  have HA : Hid (CodeL w a len) := hA
  have hsize := hA.size
  have hb0 : decide ((1048576 : Int) < len) = false := by simp; omega
  have HCL : Hid (∀ wx : World, Below w.heap.size w wx → ClsIs wx ∧ ErrIs wx) := fun wx hb => ⟨hc.below hb hc.lt, hg.below hb hg.lt⟩
  clear hA hc hg
  go_enter Tryd.func5, Tryd.ntmps5
  go_wp2_with fail
  refine (lawsBigL a len cap _).mono ?_
  rintro e w0 ⟨rfl, rfl⟩
  rw [hb0]
  clear hb0 hsize
  go_wp2_with fail
  refine (drawLex a len cap _ HA.out).mono ?_
  rintro e w1 ⟨s, rfl, hs, hb1⟩
  have hl := lexA_len s
  obtain ⟨hf1, hf2, hf3⟩ := lexA_fine s
  have HF1 : Hid ((Lx.lexA s).2 ≠ 0 → (Lx.lexA s).1 = [] ∧ 1 ≤ (Lx.lexA s).2) := hf1
  have HF2 : Hid (Told (Lx.lexA s).1) := ⟨fun k h => hf3 _ (List.getElem_mem h), fun k h => hf2.at k h⟩
  have HSZ : Hid (∀ k (h : k < (Lx.lexA s).1.length), (Lx.lexA s).1[k].text.size ≤ 140737488355328) := fun k h => Nat.le_trans (lexA_text s _ (List.getElem_mem h)) (by omega)
  have HW : Hid (s.size + 3 ≤ 3000 → (Lx.lexA s).2 = 0 → Lx.lexA (wide s) = Lx.lexA s) := fun h1 h2 => wide_same s h1 h2
  have HG : Hid (∀ wx : World, Below w.heap.size w wx → Calls Tryd.prog 35 #[.string s] wx fun e w' => ∃ v, e = .returned (.tuple #[v, .int .i64 ((Lx.lexA s).2 : Nat)]) ∧ w'.ownsRow wx.heap.size 47 4 v (Lx.lexA s).1.length (toksV (Lx.lexA s).1) ∧ Below wx.heap.size wx w') := fun wx hb => implLex s wx (by omega) (HCL.out wx hb).1 (HCL.out wx hb).2
  have HP : Hid (∀ wx : World, Calls Tryd.prog 36 #[.string s] wx fun e w' => ∃ v, e = .returned (.tuple #[v, .int .i64 ((Lx.lexA s).2 : Nat)]) ∧ w'.ownsRow wx.heap.size 47 4 v (Lx.lexA s).1.length (toksV (Lx.lexA s).1) ∧ Below wx.heap.size wx w') := fun wx => specLex s wx (by omega)
  clear hf1 hf2 hf3
  generalize hr : Lx.lexA s = r at *
  clear hr
  obtain ⟨ts, n⟩ := r
  simp only at hl HF1 HF2 HG HP HSZ HW
  go_wp2_with fail
  refine (HG.out _ hb1).mono ?_
  rintro e w2 ⟨vg, rfl, ho2, hb2⟩
  have T2 : Hid (Toks w2 vg ts) := toks_own ho2
  have B2 : Hid (Below w.heap.size w w2) := hb1.trans (hb2.mono hb1.size)
  clear ho2 hb1 hb2 HG
  go_wp2_with fail
  refine (HP.out _).mono ?_
  rintro e w3 ⟨vs, rfl, ho3, hb3⟩
  have T3 : Hid (Toks w3 vs ts) := toks_own ho3
  have T3g : Hid (Toks w3 vg ts) := T2.out.below hb3
  have B3 : Hid (Below w.heap.size w w3) := B2.out.trans (hb3.mono B2.out.size)
  clear ho3 hb3 T2 B2 HP
  go_wp2_with fail
  refine (drawIsWord a len cap _ (HA.out.below B3.out)).mono ?_
  rintro e w4 ⟨dw, rfl, hdw, hb4⟩
  have T4 : Hid (Toks w4 vs ts) := T3.out.below hb4
  have T4g : Hid (Toks w4 vg ts) := T3g.out.below hb4
  have B4 : Hid (Below w.heap.size w w4) := B3.out.trans (hb4.mono B3.out.size)
  clear hb4 T3 T3g B3
  go_wp2_with fail
  refine (drawNameOk a len cap _ (HA.out.below B4.out)).mono ?_
  rintro e w5 ⟨dn, rfl, hdn, hb5⟩
  have T5 : Hid (Toks w5 vs ts) := T4.out.below hb5
  have T5g : Hid (Toks w5 vg ts) := T4g.out.below hb5
  have B5 : Hid (Below w.heap.size w w5) := B4.out.trans (hb5.mono B4.out.size)
  clear hb5 T4 T4g B4
  go_wp2_with fail
  refine (lawsSameToks vg vs ts _ T5g.out T5.out (by omega)).mono ?_
  rintro e w6 ⟨rfl, hb6⟩
  have T6g : Hid (Toks w6 vg ts) := T5g.out.below hb6
  have B6 : Hid (Below w.heap.size w w6) := B5.out.trans (hb6.mono B5.out.size)
  clear hb6 T5 T5g B5
  go_wp2_with fail
  refine (implIsWord dw _).mono ?_
  rintro e w7 ⟨rfl, rfl⟩
  go_wp2_with fail
  refine (specIsWord dw _).mono ?_
  rintro e w7 ⟨rfl, hb7⟩
  have T7g : Hid (Toks w7 vg ts) := T6g.out.below hb7
  have B7 : Hid (Below w.heap.size w w7) := B6.out.trans (hb7.mono B6.out.size)
  clear hb7 T6g B6
  generalize Lx.isWordP dw = rw1 at *
  have hrw : (rw1 != rw1) = false := by cases rw1 <;> rfl
  go_wp2_with fail
  refine (implNameOk dn _ (by omega) (HCL.out _ B7.out).1).mono ?_
  rintro e w8 ⟨rfl, rfl⟩
  go_wp2_with fail
  refine (specNameOk dn _ (by omega)).mono ?_
  rintro e w8 ⟨rfl, hb8⟩
  have T8g : Hid (Toks w8 vg ts) := T7g.out.below hb8
  have B8 : Hid (Below w.heap.size w w8) := B7.out.trans (hb8.mono B7.out.size)
  clear hb8 T7g B7
  have HNO : Hid (∀ wx : World, Below w.heap.size w wx → Calls Tryd.prog 42 #[.string dn] wx fun e w' => e = .returned (.bool (Lx.nameOkP dn)) ∧ wx = w') := fun wx hb => implNameOk dn wx (by omega) (HCL.out wx hb).1
  have HNW : Hid (∀ wx : World, Calls Tryd.prog 40 #[.string dn] wx fun e w' => e = .returned (.bool (Lx.isWordP dn)) ∧ wx = w') := fun wx => implIsWord dn wx
  have HNN : Hid (Lx.nameOkP dn = true → Lx.isWordP dn = false) := name_no_word
  generalize Lx.nameOkP dn = r2 at *
  generalize Lx.isWordP dn = r3 at *
  obtain ⟨av, capv, rfl⟩ : ∃ av capv, vg = .slice av ts.length capv := by
    rcases T8g.out with ⟨h, av, capv, e⟩ | ⟨g, capv, e, _⟩
    · exact ⟨av, capv, by rw [h]; exact e⟩
    · exact ⟨_, capv, e⟩
  have HV : Hid (0 < ts.length → ∃ g, av = some ⟨g, 0, none⟩ ∧ ∀ k (h : k < ts.length), w8.cell? ⟨g, k * 4, none⟩ = some (.int .i64 (ts[k].kind : Nat)) ∧ w8.cell? ⟨g, k * 4 + 1, none⟩ = some (.string ts[k].text) ∧ w8.cell? ⟨g, k * 4 + 2, none⟩ = some (.int .i64 (ts[k].n : Nat)) ∧ w8.cell? ⟨g, k * 4 + 3, none⟩ = some (.int .i64 (ts[k].line : Nat))) := fun hp => by
    rcases T8g.out with ⟨h, _⟩ | ⟨g, capv', e, hcs⟩
    · rw [h] at hp; simp at hp
    · cases e
      exact ⟨g, rfl, hcs⟩
  have hr2 : (r2 != r2) = false := by cases r2 <;> rfl
  cases r2 with
  | true =>
    have h3 := HNN.out rfl
    subst h3
    clear HNN
    go_wp2_with fail
    refine (HNO.out _ B8.out).mono ?_
    rintro e w9 ⟨rfl, rfl⟩
    go_wp2_with fail
    refine (HNW.out _).mono ?_
    rintro e w9 ⟨rfl, rfl⟩
    by_cases hn0 : n = 0
    · subst hn0
      clear HF1
      go_wp2
      go_loopw [10] (fun i wr => ∃ k : Nat, k ≤ ts.length ∧ i = .int .i64 k ∧ Below w8.heap.size w8 wr) (fun i _ => ts.length - (intOf i).toNat)
      case atStart => exact ⟨0, Nat.zero_le _, rfl, Below.refl _ _⟩
      case round =>
        obtain ⟨k, hk, rfl, hbr⟩ := hrel
        have hcw : Hid (ClsIs wr) := (HCL.out wr (B8.out.trans (hbr.mono B8.out.size))).1
        by_cases hlt : k < ts.length
        · obtain ⟨g, rfl, hcells⟩ := HV.out (by omega)
          have hgl : g < w8.heap.size := World.block_lt_of_cell? w8 ⟨g, k * 4, none⟩ (hcells k hlt).1
          have c0 := (hbr.cell (p := ⟨g, k * 4, none⟩) hgl).trans (hcells k hlt).1
          have c1 := (hbr.cell (p := ⟨g, k * 4 + 1, none⟩) hgl).trans (hcells k hlt).2.1
          have c3 := (hbr.cell (p := ⟨g, k * 4 + 3, none⟩) hgl).trans (hcells k hlt).2.2.2
          have htold := HF2.out.1 k hlt
          have hk0 : (0 : Int) ≤ k := by omega
          have hk1 : (k : Int) < ts.length := by omega
          have htx : ts[k].text.size ≤ 140737488355328 := HSZ.out k hlt
          have HNM : Hid (ts[k].kind = 0 → ∀ q : Nat, Calls Tryd.prog 42 #[.string ts[k].text] (wr.drewN q) fun e w' => e = .returned (.bool true) ∧ w' = wr.drewN q) := fun h0 q => by
            have := implNameOk ts[k].text (wr.drewN q) htx (fun i hi => hcw.out i hi)
            rw [htold h0] at this
            exact this.mono fun e w' h => ⟨h.1, h.2.symm⟩
          clear htold htx
          by_cases hkz : k = 0
          · subst hkz
            simp only [Nat.zero_mul, Nat.zero_add] at c0 c1 c3
            generalize ts[0] = t at *
            clear hcells HV
            by_cases hkd : t.kind = 0
            · have HN1 := HNM.out hkd
              have HN2 : Hid (type_of% HN1) := HN1
              have gk : ((t.kind : Int) == 0) = true := by simp [hkd]
              clear HN1 HNM hkd
              go_wp2
              go_quiet ((go_at_call 42; exact Calls.quiet_of_same (HN2.out _)))
              go_wp2
              go_roundw
              case rel => exact ⟨1, by omega, by go_num, below_drewN hbr _⟩
              case measure => simp [intOf]; omega
            · have gk : ((t.kind : Int) == 0) = false := by simp; omega
              clear HNM hkd
              go_wp2
              go_quiet (fail)
              go_wp2
              go_roundw
              case rel => exact ⟨1, by omega, by go_num, below_drewN hbr _⟩
              case measure => simp [intOf]; omega
          · obtain ⟨j, rfl⟩ : ∃ j, k = j + 1 := ⟨k - 1, by omega⟩
            have d3 := (hbr.cell (p := ⟨g, j * 4 + 3, none⟩) hgl).trans (hcells j (by omega)).2.2.2
            have hle := HF2.out.2 j hlt
            have hsub : IntKind.i64.wrap (((j + 1 : Nat) : Int) - 1) = (j : Int) := by
              rw [show ((j + 1 : Nat) : Int) - 1 = (j : Int) from by omega]
              exact IntWalk.i64_in _ ⟨by omega, by omega⟩
            have hj0 : (0 : Int) ≤ j := by omega
            have hj1 : (j : Int) < ts.length := by omega
            have gl : ¬ (ts[j + 1].line : Int) < (ts[j]'(by omega)).line := by omega
            have gl2 : decide ((ts[j + 1].line : Int) < (ts[j]'(by omega)).line) = false := by simp; omega
            have gp : (0 : Int) < ((j + 1 : Nat) : Int) := by omega
            generalize ts[j + 1] = t at *
            generalize ts[j]'(by omega) = u at *
            clear hcells HV hle hkz
            by_cases hkd : t.kind = 0
            · have HN1 := HNM.out hkd
              have HN2 : Hid (type_of% HN1) := HN1
              have gk : ((t.kind : Int) == 0) = true := by simp [hkd]
              clear HN1 HNM hkd
              go_wp2
              go_quiet ((go_at_call 42; exact Calls.quiet_of_same (HN2.out _)))
              go_wp2
              go_roundw
              case rel => exact ⟨j + 1 + 1, by omega, by go_num, below_drewN hbr _⟩
              case measure => simp [intOf]; omega
            · have gk : ((t.kind : Int) == 0) = false := by simp; omega
              clear HNM hkd
              go_wp2
              go_quiet (fail)
              go_wp2
              go_roundw
              case rel => exact ⟨j + 1 + 1, by omega, by go_num, below_drewN hbr _⟩
              case measure => simp [intOf]; omega
        · by_cases hbg : s.size + 3 ≤ 3000
          · have hbg1 : ¬ (3000 : Int) < (s.size : Int) + 3 := by omega
            have hwz := wide_size s
            have e1 := HW.out hbg (by simp)
            have HX : Hid (∀ wx : World, Below w.heap.size w wx → Calls Tryd.prog 35 #[.string ((⟨#[32]⟩ : ByteArray) ++ s ++ ⟨#[10, 32]⟩)] wx fun e w' => ∃ v, e = .returned (.tuple #[v, .int .i64 0]) ∧ w'.ownsRow wx.heap.size 47 4 v ts.length (toksV ts) ∧ Below wx.heap.size wx w') := fun wx hb => by
              have := implLex (wide s) wx (by omega) (HCL.out wx hb).1 (HCL.out wx hb).2
              unfold LexAns at this
              rw [e1] at this
              exact this
            have BR : Hid (Below w.heap.size w wr) := B8.out.trans (hbr.mono B8.out.size)
            have TR : Hid (Toks wr (.slice av ts.length capv) ts) := T8g.out.below hbr
            have h1s : ((⟨#[32]⟩ : ByteArray) ++ s).size ≤ 3001 := by rw [ByteArray.size_append]; have : (⟨#[32]⟩ : ByteArray).size = 1 := rfl; omega
            clear e1 HW hbr
            go_wp2_with fail
            refine (HX.out _ BR.out).mono ?_
            rintro e w9 ⟨vm, rfl, ho9, hb9⟩
            have T9 : Hid (Toks w9 vm ts) := toks_own ho9
            have T9g : Hid (Toks w9 (.slice av ts.length capv) ts) := TR.out.below hb9
            have B9 : Hid (Below w.heap.size w w9) := BR.out.trans (hb9.mono BR.out.size)
            clear ho9 hb9 TR BR HX
            go_wp2_with fail
            refine (lawsSameToks vm _ ts _ T9.out T9g.out (by omega)).mono ?_
            rintro e w10 ⟨rfl, hb10⟩
            have B10 : Hid (Below w.heap.size w w10) := B9.out.trans (hb10.mono B9.out.size)
            clear hb10 T9 T9g B9
            go_wp2
            go_ret
            exact ⟨rfl, B10.out⟩
          · have hbg1 : (3000 : Int) < (s.size : Int) + 3 := by omega
            have BR : Hid (Below w.heap.size w wr) := B8.out.trans (hbr.mono B8.out.size)
            clear hbr
            go_wp2
            go_ret
            exact ⟨rfl, BR.out⟩
    · obtain ⟨hts, hn1⟩ := HF1.out hn0
      subst hts
      have g0 : ((n : Int) != 0) = true := by simp; omega
      have g1 : (1 : Int) ≤ n := by omega
      simp only [List.length_nil] at HV ⊢
      clear HF2 HW HV hn0 HF1
      go_wp2
      go_ret
      exact ⟨rfl, B8.out⟩
  | false =>
    clear HNN
    go_wp2_with fail
    refine (HNO.out _ B8.out).mono ?_
    rintro e w9 ⟨rfl, rfl⟩
    by_cases hn0 : n = 0
    · subst hn0
      clear HF1
      go_wp2
      go_loopw [10] (fun i wr => ∃ k : Nat, k ≤ ts.length ∧ i = .int .i64 k ∧ Below w8.heap.size w8 wr) (fun i _ => ts.length - (intOf i).toNat)
      case atStart => exact ⟨0, Nat.zero_le _, rfl, Below.refl _ _⟩
      case round =>
        obtain ⟨k, hk, rfl, hbr⟩ := hrel
        have hcw : Hid (ClsIs wr) := (HCL.out wr (B8.out.trans (hbr.mono B8.out.size))).1
        by_cases hlt : k < ts.length
        · obtain ⟨g, rfl, hcells⟩ := HV.out (by omega)
          have hgl : g < w8.heap.size := World.block_lt_of_cell? w8 ⟨g, k * 4, none⟩ (hcells k hlt).1
          have c0 := (hbr.cell (p := ⟨g, k * 4, none⟩) hgl).trans (hcells k hlt).1
          have c1 := (hbr.cell (p := ⟨g, k * 4 + 1, none⟩) hgl).trans (hcells k hlt).2.1
          have c3 := (hbr.cell (p := ⟨g, k * 4 + 3, none⟩) hgl).trans (hcells k hlt).2.2.2
          have htold := HF2.out.1 k hlt
          have hk0 : (0 : Int) ≤ k := by omega
          have hk1 : (k : Int) < ts.length := by omega
          have htx : ts[k].text.size ≤ 140737488355328 := HSZ.out k hlt
          have HNM : Hid (ts[k].kind = 0 → ∀ q : Nat, Calls Tryd.prog 42 #[.string ts[k].text] (wr.drewN q) fun e w' => e = .returned (.bool true) ∧ w' = wr.drewN q) := fun h0 q => by
            have := implNameOk ts[k].text (wr.drewN q) htx (fun i hi => hcw.out i hi)
            rw [htold h0] at this
            exact this.mono fun e w' h => ⟨h.1, h.2.symm⟩
          clear htold htx
          by_cases hkz : k = 0
          · subst hkz
            simp only [Nat.zero_mul, Nat.zero_add] at c0 c1 c3
            generalize ts[0] = t at *
            clear hcells HV
            by_cases hkd : t.kind = 0
            · have HN1 := HNM.out hkd
              have HN2 : Hid (type_of% HN1) := HN1
              have gk : ((t.kind : Int) == 0) = true := by simp [hkd]
              clear HN1 HNM hkd
              go_wp2
              go_quiet ((go_at_call 42; exact Calls.quiet_of_same (HN2.out _)))
              go_wp2
              go_roundw
              case rel => exact ⟨1, by omega, by go_num, below_drewN hbr _⟩
              case measure => simp [intOf]; omega
            · have gk : ((t.kind : Int) == 0) = false := by simp; omega
              clear HNM hkd
              go_wp2
              go_quiet (fail)
              go_wp2
              go_roundw
              case rel => exact ⟨1, by omega, by go_num, below_drewN hbr _⟩
              case measure => simp [intOf]; omega
          · obtain ⟨j, rfl⟩ : ∃ j, k = j + 1 := ⟨k - 1, by omega⟩
            have d3 := (hbr.cell (p := ⟨g, j * 4 + 3, none⟩) hgl).trans (hcells j (by omega)).2.2.2
            have hle := HF2.out.2 j hlt
            have hsub : IntKind.i64.wrap (((j + 1 : Nat) : Int) - 1) = (j : Int) := by
              rw [show ((j + 1 : Nat) : Int) - 1 = (j : Int) from by omega]
              exact IntWalk.i64_in _ ⟨by omega, by omega⟩
            have hj0 : (0 : Int) ≤ j := by omega
            have hj1 : (j : Int) < ts.length := by omega
            have gl : ¬ (ts[j + 1].line : Int) < (ts[j]'(by omega)).line := by omega
            have gl2 : decide ((ts[j + 1].line : Int) < (ts[j]'(by omega)).line) = false := by simp; omega
            have gp : (0 : Int) < ((j + 1 : Nat) : Int) := by omega
            generalize ts[j + 1] = t at *
            generalize ts[j]'(by omega) = u at *
            clear hcells HV hle hkz
            by_cases hkd : t.kind = 0
            · have HN1 := HNM.out hkd
              have HN2 : Hid (type_of% HN1) := HN1
              have gk : ((t.kind : Int) == 0) = true := by simp [hkd]
              clear HN1 HNM hkd
              go_wp2
              go_quiet ((go_at_call 42; exact Calls.quiet_of_same (HN2.out _)))
              go_wp2
              go_roundw
              case rel => exact ⟨j + 1 + 1, by omega, by go_num, below_drewN hbr _⟩
              case measure => simp [intOf]; omega
            · have gk : ((t.kind : Int) == 0) = false := by simp; omega
              clear HNM hkd
              go_wp2
              go_quiet (fail)
              go_wp2
              go_roundw
              case rel => exact ⟨j + 1 + 1, by omega, by go_num, below_drewN hbr _⟩
              case measure => simp [intOf]; omega
        · by_cases hbg : s.size + 3 ≤ 3000
          · have hbg1 : ¬ (3000 : Int) < (s.size : Int) + 3 := by omega
            have hwz := wide_size s
            have e1 := HW.out hbg (by simp)
            have HX : Hid (∀ wx : World, Below w.heap.size w wx → Calls Tryd.prog 35 #[.string ((⟨#[32]⟩ : ByteArray) ++ s ++ ⟨#[10, 32]⟩)] wx fun e w' => ∃ v, e = .returned (.tuple #[v, .int .i64 0]) ∧ w'.ownsRow wx.heap.size 47 4 v ts.length (toksV ts) ∧ Below wx.heap.size wx w') := fun wx hb => by
              have := implLex (wide s) wx (by omega) (HCL.out wx hb).1 (HCL.out wx hb).2
              unfold LexAns at this
              rw [e1] at this
              exact this
            have BR : Hid (Below w.heap.size w wr) := B8.out.trans (hbr.mono B8.out.size)
            have TR : Hid (Toks wr (.slice av ts.length capv) ts) := T8g.out.below hbr
            have h1s : ((⟨#[32]⟩ : ByteArray) ++ s).size ≤ 3001 := by rw [ByteArray.size_append]; have : (⟨#[32]⟩ : ByteArray).size = 1 := rfl; omega
            clear e1 HW hbr
            go_wp2_with fail
            refine (HX.out _ BR.out).mono ?_
            rintro e w9 ⟨vm, rfl, ho9, hb9⟩
            have T9 : Hid (Toks w9 vm ts) := toks_own ho9
            have T9g : Hid (Toks w9 (.slice av ts.length capv) ts) := TR.out.below hb9
            have B9 : Hid (Below w.heap.size w w9) := BR.out.trans (hb9.mono BR.out.size)
            clear ho9 hb9 TR BR HX
            go_wp2_with fail
            refine (lawsSameToks vm _ ts _ T9.out T9g.out (by omega)).mono ?_
            rintro e w10 ⟨rfl, hb10⟩
            have B10 : Hid (Below w.heap.size w w10) := B9.out.trans (hb10.mono B9.out.size)
            clear hb10 T9 T9g B9
            go_wp2
            go_ret
            exact ⟨rfl, B10.out⟩
          · have hbg1 : (3000 : Int) < (s.size : Int) + 3 := by omega
            have BR : Hid (Below w.heap.size w wr) := B8.out.trans (hbr.mono B8.out.size)
            clear hbr
            go_wp2
            go_ret
            exact ⟨rfl, BR.out⟩
    · obtain ⟨hts, hn1⟩ := HF1.out hn0
      subst hts
      have g0 : ((n : Int) != 0) = true := by simp; omega
      have g1 : (1 : Int) ≤ n := by omega
      simp only [List.length_nil] at HV ⊢
      clear HF2 HW HV hn0 HF1
      go_wp2
      go_ret
      exact ⟨rfl, B8.out⟩

end Go.Proofs.YtfmfihgmpefknaaDoor
