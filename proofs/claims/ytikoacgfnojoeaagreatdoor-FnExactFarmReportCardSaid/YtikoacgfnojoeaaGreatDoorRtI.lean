/-
  The walks of impl.resultText and impl.ResultText: they answer the result's text.
-/
import Derived.Test.YtikoacgfnojoeaaGreatDoorRtP
import Derived.Test.YtikoacgfnojoeaaGreatDoorRsR
import Derived.Test.YtikoacgfnojoeaaGreatDoorDecTextI
import Derived.Test.YtikoacgfnojoeaaGreatDoorStepA
import Derived.Deep.RegionHeld3
import Derived.Deep.AppendLies
namespace Go.Proofs.YtikoacgfnojoeaaGreatDoor
open Go.RowKit

theorem strV_append2 (a b : List ByteArray) : strV (a ++ b) = strV a ++ strV b := by simp [strV]
theorem lens_more (ps : List ByteArray) (k : Nat) (h : k < ps.length) : ((ps.take (k + 1)).map ByteArray.size).sum = ((ps.take k).map ByteArray.size).sum + ps[k].size := by
  rw [List.take_succ_eq_append_getElem h, List.map_append, List.sum_append]
  simp
theorem lens_le (ps : List ByteArray) (k : Nat) : ((ps.take k).map ByteArray.size).sum ≤ (catL ps).length := by
  have h1 : ∀ l : List ByteArray, (l.map ByteArray.size).sum = (catL l).length := fun l => by
    induction l with
    | nil => rfl
    | cons a r ih => simp only [catL, List.length_append, size_list, List.map_cons, List.sum_cons, ih]
  rw [h1]
  exact catL_take_le ps k

set_option maxHeartbeats 3200000 in
set_option maxRecDepth 100000 in
theorem implResultTextIn (rn : ByteArray) (vD x2 x3 x4 x5 : Value) (ds : List Dg) (room : Int) (w : World) (hD : DiAt w vD ds) (hrn : rn.size ≤ 1048576) (hbk : dgsBulk ds ≤ 1048576) (hln : ∀ e ∈ ds, -9223372036854775808 ≤ e.1 ∧ e.1 ≤ 9223372036854775807) (hroom : 100000000 ≤ room) (hroom2 : room ≤ 9000000000000) (htab : Lib.TabIs Tryz.prog w "internal/strconv.uint64pow10" .u64 Lib.pow10Tab) :
    Calls Tryz.prog 45 #[.agg #[.string rn, vD, x2, x3, x4, x5], .int .i64 room] w fun e w' => e = .returned (.string (rtText rn ds)) ∧ Below w.heap.size w w' := by
  obtain ⟨i0, hi, hz0, hz1, hz2⟩ := info_parts Tryz.infoString
  obtain ⟨aD, cD, rfl, hel⟩ := diOpen hD
  have hld : ds.length ≤ 1048576 := by unfold dgsBulk at hbk; omega
  have hsm : (ds.map fun e => e.2.size).sum ≤ 1048576 := by unfold dgsBulk at hbk; omega
  have hB1 : Below w.heap.size w (w.alloc (.cells #[.string rn, .slice aD ds.length cD, x2, x3, x4, x5] 63)) := (Below.refl _ _).alloc (Nat.le_refl _) _
  obtain ⟨W1, hW1⟩ : ∃ W1, W1 = (w.alloc (.cells #[.string rn, .slice aD ds.length cD, x2, x3, x4, x5] 63)) := ⟨_, rfl⟩
  have HA : Hid (∀ wx : World, Below (w.heap.size + 1) W1 wx → SixR wx w.heap.size (.string rn) (.slice aD ds.length cD) x2 x3 x4 x5 ∧ Below w.heap.size w wx) := fun wx hx => ⟨sixR_new rfl (by rw [← hW1]; exact hx), (hW1 ▸ hB1).trans (hx.mono (by omega))⟩
  have HTAB : Hid (∀ wx : World, Below w.heap.size w wx → Lib.TabIs Tryz.prog wx "internal/strconv.uint64pow10" .u64 Lib.pow10Tab) := fun wx hx => Lib.tabBelow_of_tabIs htab wx hx
  have HEL : Hid (type_of% hel) := hel
  have HLN : Hid (type_of% hln) := hln
  have HBK : Hid (type_of% hbk) := hbk
  have HSM : Hid (type_of% hsm) := hsm
  clear hel hln hD hbk hsm htab
  have HW1 : Hid (W1 = (w.alloc (.cells #[.string rn, .slice aD ds.length cD, x2, x3, x4, x5] 63))) := hW1
  have hz1 : W1.heap.size = w.heap.size + 1 := by rw [hW1]; simp
  have HZ1 : Hid (type_of% hz1) := hz1
  clear hW1 hB1 hz1
  go_enter Tryz.func45, Tryz.ntmps45
  go_wp2_with fail
  go_loopw [5, 16] (fun o i wr => ∃ k : Nat, k ≤ ds.length ∧ i = .int .i64 k ∧ wr.ownsRow (w.heap.size + 1) 9 1 o (rtHead rn (ds.take k)).length (strV (rtHead rn (ds.take k))) ∧ Below (w.heap.size + 1) W1 wr) (fun _ i _ => ds.length - (intOf i).toNat)
  case atStart => exact ⟨0, Nat.zero_le _, rfl, by rw [← HW1.out]; have h := World.ownsRow_lit (base := w.heap.size + 1) (e := 9) (size := 1) W1 #[.string rn, .string ⟨#[58]⟩] 2 (by rw [HZ1.out]; exact Nat.le_refl _) (by decide) rfl; rw [HZ1.out] at h; exact h, by rw [← HW1.out]; exact (Below.refl _ _).alloc (by rw [HZ1.out]; exact Nat.le_refl _) _⟩
  case round =>
    obtain ⟨k, hk, rfl, hown, hbe⟩ := hrel
    clear HW1
    obtain ⟨⟨⟨_, a1, _⟩, _⟩, hw⟩ := HA.out wr hbe
    by_cases hlt : k < ds.length
    · obtain ⟨b, off, rfl, hbl, q0, q1⟩ := HEL.out k hlt
      have c0 := (hw.cell (p := ⟨b, off + k * 2, none⟩) hbl).trans q0
      have c1 := (hw.cell (p := ⟨b, off + k * 2 + 1, none⟩) hbl).trans q1
      have HM : Hid (rtHead rn (ds.take (k + 1)) = rtHead rn (ds.take k) ++ [⟨#[32]⟩, itoaB ds[k].1, ⟨#[58]⟩, ds[k].2]) := rtHead_more rn ds k hlt
      have hln := HLN.out ds[k] (List.getElem_mem hlt)
      have hrl : (rtHead rn (ds.take k)).length ≤ 10000000 := by
        rw [rtHead_length]
        simp
        omega
      have hszr : w.heap.size + 1 ≤ wr.heap.size := by have := hbe.size; rw [HZ1.out] at this; exact this
      have HQ : Hid (∀ wx : World, Below w.heap.size w wx → Calls Tryz.prog 61 #[.int .i64 ds[k].1] wx fun e w' => e = .returned (.string (itoaB ds[k].1)) ∧ Below wx.heap.size wx w') := fun wx hx => implDecText _ wx hln.1 hln.2 (HTAB.out wx hx)
      clear q0 q1 HEL HLN hln HBK HSM HTAB a1
      generalize itoaB ds[k].1 = I at *
      generalize ds[k].1 = ln at *
      generalize ds[k].2 = C at *
      have hk0 : (0 : Int) ≤ k := by omega
      have hk1 : (k : Int) < ds.length := by omega
      have hW0 : Below (w.heap.size + 1) W1 (wr.alloc (.cells #[.int .i64 ln, .string C] 100)) := hbe.alloc hszr _
      have hwW0 := (HA.out _ hW0).2
      have hown0 := hown.alloc (.cells #[.int .i64 ln, .string C] 100)
      have hz0' : (wr.alloc (.cells #[.int .i64 ln, .string C] 100)).heap.size = wr.heap.size + 1 := by simp
      have d0 : (wr.alloc (.cells #[.int .i64 ln, .string C] 100)).cell? ⟨wr.heap.size, 0, none⟩ = some (.int .i64 ln) := by simp
      have d1 : (wr.alloc (.cells #[.int .i64 ln, .string C] 100)).cell? ⟨wr.heap.size, 1, none⟩ = some (.string C) := by simp
      go_wp2_with fail
      generalize (wr.alloc (.cells #[.int .i64 ln, .string C] 100)) = W0 at *
      have HZ : Hid (W0.heap.size = wr.heap.size + 1) := hz0'
      have HNE := fun h => (Nat.lt_irrefl _ (hown.lt wr.heap.size h).2 : False)
      have hle0 : w.heap.size + 1 ≤ W0.heap.size := by omega
      have hlt0 : wr.heap.size < W0.heap.size := by omega
      have HBX : Hid (∀ wx : World, Below W0.heap.size W0 wx → wx.cell? ⟨wr.heap.size, 0, none⟩ = some (.int .i64 ln) ∧ wx.cell? ⟨wr.heap.size, 1, none⟩ = some (.string C)) := fun wx hx => ⟨(hx.cell (p := ⟨wr.heap.size, 0, none⟩) hlt0).trans d0, (hx.cell (p := ⟨wr.heap.size, 1, none⟩) hlt0).trans d1⟩
      have HQ2 : Hid (∀ wx : World, Below W0.heap.size W0 wx → Calls Tryz.prog 61 #[.int .i64 ln] wx fun e w' => e = .returned (.string I) ∧ Below wx.heap.size wx w') := fun wx hx => HQ.out wx (hwW0.trans (hx.mono (by omega)))
      clear HQ hz0' hown hbe hw c0 c1 hwW0
      go_region_held3 (fun w' => w'.cell? ⟨wr.heap.size, 0, none⟩ = some (.int .i64 ln) ∧ w'.cell? ⟨wr.heap.size, 1, none⟩ = some (.string C))
        (first
          | exact HBX.out _ (by assumption)
          | exact HBX.out _ (Below.refl _ _)
          | exact HBX.out _ ((Below.refl _ _).drew)
          | (revert hb2; intro hb2; exact HBX.out _ (hb2.alloc hb2.size _))
          | (revert hS3; intro hS3; exact hS3))
        (first
          | (go_at_call 61; refine (HQ2.out _ (by first | exact (Below.refl _ _).drew | exact Below.refl _ _)).mono ?_; rintro e w2 ⟨rfl, hb2'⟩; have hb2 : Below W0.heap.size W0 w2 := (by first | exact hb2' | exact ((Below.refl W0.heap.size W0).drew).trans hb2'))
          | (revert hb2; intro hb2; refine step_append_own rfl (.tmp 20) (.tmp 26) 111 rfl (w.heap.size + 1) 9 i0 (.string ⟨#[]⟩) 1 16 Tryz.underlying111 hi hz0 hz1 hz2 rfl (by decide) _ _ _ rfl ((dgKept hown0 hb2).alloc _) ⟨w2.heap.size, 0, none⟩ 4 4 [.string ⟨#[32]⟩, .string I, .string ⟨#[58]⟩, .string C] rfl rfl (World.news_of_block (cs := #[.string ⟨#[32]⟩, .string I, .string ⟨#[58]⟩, .string C]) (t := 9) (fr := (0, 0)) (MapKept.heap_alloc w2 _).1) (by simp [Value.oneCell']) (by unfold maxLen; omega) (by omega) (by have := hb2.size; simp; omega) ?_; intro v3 w3 o3 g3 n3; have hb3 : Below (w.heap.size + 1) W1 w3 := ((hW0.trans (hb2.mono hle0)).alloc (by have := hb2.size; omega) _).grown g3 (by have := hb2.size; simp; omega) (fun j hj => (hown0.lt j hj).1); obtain ⟨e0, e1⟩ := HBX.out w2 hb2; have hS3 : w3.cell? ⟨wr.heap.size, 0, none⟩ = some (.int .i64 ln) ∧ w3.cell? ⟨wr.heap.size, 1, none⟩ = some (.string C) := ⟨g3.cell ((dgOld 0 (Nat.lt_of_lt_of_le hlt0 hb2.size)).trans e0) (fun h => HNE h.symm), g3.cell ((dgOld 1 (Nat.lt_of_lt_of_le hlt0 hb2.size)).trans e1) (fun h => HNE h.symm)⟩))
      all_goals
        have R1 : w3.ownsRow (w.heap.size + 1) 9 1 v3 (rtHead rn (ds.take (k + 1))).length (strV (rtHead rn (ds.take (k + 1)))) := by
          rw [HM.out, strV_append2, List.length_append]
          exact o3
        clear o3 g3 n3 hb2 hS3 e0 e1 hown0 HBX HQ2 hW0 d0 d1
        go_wp2_with fail
        go_roundw
        case rel => exact ⟨k + 1, by omega, by go_num, R1, hb3⟩
        case measure => simp [intOf]; omega
    · have hke : k = ds.length := by omega
      subst hke
      rw [List.take_of_length_le (Nat.le_refl _)] at hown
      have hrl : (rtHead rn ds).length ≤ 10000000 := by
        rw [rtHead_length]
        omega
      by_cases h0 : ds.length = 0
      · have HL : Hid ((rtHead rn ds ++ [⟨#[32, 111, 107]⟩]) ++ [⟨#[10]⟩] = rtParts rn ds) := by
          show _ = _
          unfold rtParts rtEnd
          rw [if_pos h0]
          simp
        have hrl2 : (rtHead rn ds ++ [(⟨#[32, 111, 107]⟩ : ByteArray)]).length ≤ 10000001 := by simp; omega
        go_wp2_with (at_builtin; refine wpList_append_own _ rfl _ _ 111 rfl (w.heap.size + 1) 9 i0 (.string ⟨#[]⟩) 1 16 Tryz.underlying111 hi hz0 hz1 hz2 rfl (by decide) _ _ _ rfl (hown.alloc _) ⟨wr.heap.size, 0, none⟩ 1 1 [.string ⟨#[32, 111, 107]⟩] rfl rfl ?c1 ?c2 ?c3 ?c4 ?c5 ?_)
        case c1 =>
          intro j u hj
          match j, hj with
          | 0, hj => simp at hj; subst hj; simp [Addr.add]
        case c2 => intro u hu; simp at hu; subst hu; rfl
        case c3 => unfold maxLen; omega
        case c4 => omega
        case c5 => have := hbe.size; rw [HZ1.out] at this; simp; omega
        intro v1 w5 hown1 hgrow1 _
        have hszr : w.heap.size + 1 ≤ wr.heap.size := by have := hbe.size; rw [HZ1.out] at this; exact this
        have hb5 : Below (w.heap.size + 1) W1 w5 := (hbe.alloc hszr _).grown hgrow1 (by simp; omega) (fun j hj => (hown.lt j hj).1)
        have o5 : w5.ownsRow (w.heap.size + 1) 9 1 v1 (rtHead rn ds ++ [(⟨#[32, 111, 107]⟩ : ByteArray)]).length (strV (rtHead rn ds ++ [⟨#[32, 111, 107]⟩])) := by
          rw [strV_append2, List.length_append]
          exact hown1
        clear hown1 hgrow1 hown hbe hszr hw a1
        obtain ⟨⟨⟨_, a1, _⟩, _⟩, hw⟩ := HA.out w5 hb5
        go_wp2_with (at_builtin; refine wpList_append_own _ rfl _ _ 111 rfl (w.heap.size + 1) 9 i0 (.string ⟨#[]⟩) 1 16 Tryz.underlying111 hi hz0 hz1 hz2 rfl (by decide) _ _ _ rfl (o5.alloc _) ⟨w5.heap.size, 0, none⟩ 1 1 [.string ⟨#[10]⟩] rfl rfl ?c1 ?c2 ?c3 ?c4 ?c5 ?_)
        case c1 =>
          intro j u hj
          match j, hj with
          | 0, hj => simp at hj; subst hj; simp [Addr.add]
        case c2 => intro u hu; simp at hu; subst hu; rfl
        case c3 => unfold maxLen; omega
        case c4 => omega
        case c5 => have := hb5.size; rw [HZ1.out] at this; simp; omega
        intro v' w3 hown' hgrow _
        have hsz3 : w.heap.size + 1 ≤ w5.heap.size := by have := hb5.size; rw [HZ1.out] at this; exact this
        have R2 : Below (w.heap.size + 1) W1 w3 := (hb5.alloc hsz3 _).grown hgrow (by simp; omega) (fun j hj => (o5.lt j hj).1)
        have R1 : w3.ownsRow (w.heap.size + 1) 9 1 v' (rtParts rn ds).length (strV (rtParts rn ds)) := by
          rw [← HL.out, strV_append2]
          simp only [List.length_append, List.length_cons, List.length_nil, Nat.zero_add]
          exact hown'
        obtain ⟨hw3, hpos⟩ : Below w.heap.size w w3 ∧ (rtParts rn ds).length ≠ 0 := ⟨(HA.out w3 R2).2, by rw [← HL.out]; simp⟩
        clear hown' hgrow o5 hb5 hsz3 R2 HL
        have HPL : Hid ((rtParts rn ds).length ≤ 100000000) := Nat.le_trans (rtParts_length rn ds) (by omega)
        have HCL : Hid ((catL (rtParts rn ds)).length ≤ 100000000) := by
          have h1 := catL_rtParts rn ds HLN.out
          have h2 := HSM.out
          show _ ≤ _
          omega
        obtain ⟨P, hP⟩ : ∃ P, P = rtParts rn ds := ⟨_, rfl⟩
        rw [← hP] at R1 hpos HPL HCL
        have HPP : Hid (⟨(catL P).toArray⟩ = rtText rn ds) := by rw [hP]; rfl
        have hpl := HPL.out
        have hcl := HCL.out
        obtain ⟨g, cap', rfl⟩ : ∃ g cap', v' = .slice (some ⟨g, 0, none⟩) P.length cap' := by
          rcases R1.2 with ⟨_, h⟩ | ⟨g, cap', cur, e, _⟩
          · exact absurd h hpos
          · exact ⟨g, cap', e⟩
        have hcs : ∀ j (h : j < P.length), w3.cell? ⟨g, 0 + j, none⟩ = some (.string P[j]) := fun j hj => by
          rw [Nat.zero_add, R1.cellAt j (by omega)]
          exact strV_get P j hj
        have HJ : Hid (Calls Tryz.prog 46 #[.slice (some ⟨g, 0, none⟩) P.length cap'] w3 fun e w' => e = .returned (.string ⟨(catL P).toArray⟩) ∧ Below w3.heap.size w3 w') := implJoin g 0 cap' P w3 hcs (by omega) (by omega)
        have HC : Hid (type_of% hcs) := hcs
        clear hcs R1 hP HLN HSM HA HEL HBK HTAB HPL HCL hpos
        go_wp2_with fail
        go_loop [1, 41] (fun z i => ∃ k : Nat, k ≤ P.length ∧ i = .int .i64 k ∧ z = .int .i64 (room - (((P.take k).map ByteArray.size).sum : Nat))) (fun _ i => P.length - (intOf i).toNat)
        case atStart => exact ⟨0, Nat.zero_le _, rfl, by simp⟩
        case round =>
          obtain ⟨k, hk, rfl, rfl⟩ := hrel
          have hle := lens_le P k
          by_cases hlt : k < P.length
          · have hcell := HC.out k hlt
            rw [Nat.zero_add] at hcell
            have HM : Hid (((P.take (k + 1)).map ByteArray.size).sum = ((P.take k).map ByteArray.size).sum + P[k].size) := lens_more P k hlt
            have hle2 := lens_le P (k + 1)
            rw [HM.out] at hle2
            generalize hS : ((P.take k).map ByteArray.size).sum = S at *
            generalize hp : P[k] = p at *
            clear hS hp HC
            go_wp2_with fail
            go_round
            case rel => exact ⟨k + 1, by omega, by go_num, by rw [HM.out]; congr 1; omega⟩
            case measure => simp [intOf]; omega
          · have hke : k = P.length := by omega
            subst hke
            rw [List.take_of_length_le (Nat.le_refl _)] at hle ⊢
            generalize (P.map ByteArray.size).sum = S at *
            have hnn : ¬ room - (S : Int) < 0 := by omega
            clear HC
            generalize P.length = pl at *
            go_wp2_with (go_at_call 46; refine HJ.out.mono ?_; rintro e w4 ⟨rfl, hb4⟩)
            go_ret
            exact ⟨by rw [HPP.out]; rfl, hw3.trans (hb4.mono hw3.size)⟩
      · have HL : Hid (rtHead rn ds ++ [⟨#[10]⟩] = rtParts rn ds) := by
          show _ = _
          unfold rtParts rtEnd
          rw [if_neg h0]
        have h0' : ((ds.length : Int) == 0) = false := by rw [beq_eq_false_iff_ne]; omega
        go_wp2_with (at_builtin; refine wpList_append_own _ rfl _ _ 111 rfl (w.heap.size + 1) 9 i0 (.string ⟨#[]⟩) 1 16 Tryz.underlying111 hi hz0 hz1 hz2 rfl (by decide) _ _ _ rfl (hown.alloc _) ⟨wr.heap.size, 0, none⟩ 1 1 [.string ⟨#[10]⟩] rfl rfl ?c1 ?c2 ?c3 ?c4 ?c5 ?_)
        case c1 =>
          intro j u hj
          match j, hj with
          | 0, hj => simp at hj; subst hj; simp [Addr.add]
        case c2 => intro u hu; simp at hu; subst hu; rfl
        case c3 => unfold maxLen; omega
        case c4 => omega
        case c5 => have := hbe.size; rw [HZ1.out] at this; simp; omega
        intro v' w3 hown' hgrow _
        have hsz3 : w.heap.size + 1 ≤ wr.heap.size := by have := hbe.size; rw [HZ1.out] at this; exact this
        have R2 : Below (w.heap.size + 1) W1 w3 := (hbe.alloc hsz3 _).grown hgrow (by simp; omega) (fun j hj => (hown.lt j hj).1)
        have R1 : w3.ownsRow (w.heap.size + 1) 9 1 v' (rtParts rn ds).length (strV (rtParts rn ds)) := by
          rw [← HL.out, strV_append2]
          simp only [List.length_append, List.length_cons, List.length_nil, Nat.zero_add]
          exact hown'
        obtain ⟨hw3, hpos⟩ : Below w.heap.size w w3 ∧ (rtParts rn ds).length ≠ 0 := ⟨(HA.out w3 R2).2, by rw [← HL.out]; simp⟩
        clear hown' hgrow hown hbe hsz3 R2 HL
        have HPL : Hid ((rtParts rn ds).length ≤ 100000000) := Nat.le_trans (rtParts_length rn ds) (by omega)
        have HCL : Hid ((catL (rtParts rn ds)).length ≤ 100000000) := by
          have h1 := catL_rtParts rn ds HLN.out
          have h2 := HSM.out
          show _ ≤ _
          omega
        obtain ⟨P, hP⟩ : ∃ P, P = rtParts rn ds := ⟨_, rfl⟩
        rw [← hP] at R1 hpos HPL HCL
        have HPP : Hid (⟨(catL P).toArray⟩ = rtText rn ds) := by rw [hP]; rfl
        have hpl := HPL.out
        have hcl := HCL.out
        obtain ⟨g, cap', rfl⟩ : ∃ g cap', v' = .slice (some ⟨g, 0, none⟩) P.length cap' := by
          rcases R1.2 with ⟨_, h⟩ | ⟨g, cap', cur, e, _⟩
          · exact absurd h hpos
          · exact ⟨g, cap', e⟩
        have hcs : ∀ j (h : j < P.length), w3.cell? ⟨g, 0 + j, none⟩ = some (.string P[j]) := fun j hj => by
          rw [Nat.zero_add, R1.cellAt j (by omega)]
          exact strV_get P j hj
        have HJ : Hid (Calls Tryz.prog 46 #[.slice (some ⟨g, 0, none⟩) P.length cap'] w3 fun e w' => e = .returned (.string ⟨(catL P).toArray⟩) ∧ Below w3.heap.size w3 w') := implJoin g 0 cap' P w3 hcs (by omega) (by omega)
        have HC : Hid (type_of% hcs) := hcs
        clear hcs R1 hP HLN HSM HA HEL HBK HTAB HPL HCL hpos
        go_wp2_with fail
        go_loop [1, 41] (fun z i => ∃ k : Nat, k ≤ P.length ∧ i = .int .i64 k ∧ z = .int .i64 (room - (((P.take k).map ByteArray.size).sum : Nat))) (fun _ i => P.length - (intOf i).toNat)
        case atStart => exact ⟨0, Nat.zero_le _, rfl, by simp⟩
        case round =>
          obtain ⟨k, hk, rfl, rfl⟩ := hrel
          have hle := lens_le P k
          by_cases hlt : k < P.length
          · have hcell := HC.out k hlt
            rw [Nat.zero_add] at hcell
            have HM : Hid (((P.take (k + 1)).map ByteArray.size).sum = ((P.take k).map ByteArray.size).sum + P[k].size) := lens_more P k hlt
            have hle2 := lens_le P (k + 1)
            rw [HM.out] at hle2
            generalize hS : ((P.take k).map ByteArray.size).sum = S at *
            generalize hp : P[k] = p at *
            clear hS hp HC
            go_wp2_with fail
            go_round
            case rel => exact ⟨k + 1, by omega, by go_num, by rw [HM.out]; congr 1; omega⟩
            case measure => simp [intOf]; omega
          · have hke : k = P.length := by omega
            subst hke
            rw [List.take_of_length_le (Nat.le_refl _)] at hle ⊢
            generalize (P.map ByteArray.size).sum = S at *
            have hnn : ¬ room - (S : Int) < 0 := by omega
            clear HC
            generalize P.length = pl at *
            go_wp2_with (go_at_call 46; refine HJ.out.mono ?_; rintro e w4 ⟨rfl, hb4⟩)
            go_ret
            exact ⟨by rw [HPP.out]; rfl, hw3.trans (hb4.mono hw3.size)⟩

end Go.Proofs.YtikoacgfnojoeaaGreatDoor
