/-
 The walk of impl.putSummary.
-/
import Derived.Test.YtbojmbeopnlmiaaGreatDoorPyI
import Derived.Test.YtbojmbeopnlmiaaGreatDoorTyF
import Derived.Test.YtbojmbeopnlmiaaGreatDoorWtO
import Derived.Test.YtbojmbeopnlmiaaGreatDoorPyS
namespace Go.Proofs.YtbojmbeopnlmiaaGreatDoor
open Go.RowKit Go.Shelf Go.Sort
def FourL (w : World) (b : Nat) (x0 x1 x2 x3 : Value) : Prop := w.cell? ⟨b, 0, none⟩ = some x0 ∧ w.cell? ⟨b, 1, none⟩ = some x1 ∧ w.cell? ⟨b, 2, none⟩ = some x2 ∧ w.cell? ⟨b, 3, none⟩ = some x3
theorem fourL_of {w : World} {b : Nat} {x0 x1 x2 x3 : Value} {t : TypeId} (h : w.heap[b]? = some (.cells #[x0, x1, x2, x3] t (0, 0))) : FourL w b x0 x1 x2 x3 := by
 refine ⟨?_, ?_, ?_, ?_⟩ <;> rw [cell_of_row _ _ _ _ _ _ h] <;> rfl
theorem two_new (w : World) (x0 x1 : Value) (t : TypeId) : (w.alloc (.cells #[x0, x1] t)).cell? ⟨w.heap.size, 0, none⟩ = some x0 ∧ (w.alloc (.cells #[x0, x1] t)).cell? ⟨w.heap.size, 1, none⟩ = some x1 := by
 refine ⟨?_, ?_⟩ <;> rw [cell_of_row _ _ _ _ _ _ (MapKept.heap_alloc w _).1] <;> rfl
theorem one_newL (w : World) (x : Value) (t : TypeId) : (w.alloc (.cells #[x] t)).cell? ⟨w.heap.size, 0, none⟩ = some x := by
 rw [cell_of_row _ _ _ _ _ _ (MapKept.heap_alloc w _).1]; rfl
theorem flat_fits {A : Nat → Prop} {w : World} {n B : Nat} {v : Value} {zs : List Value} {ts : List Ty} {m : Nat} (h : FlatR A w n zs ts) (ho : w.ownsRow B 30 4 v m zs) (hm : m = ts.length) (hA : ∀ b, A b → b < w.heap.size) : ∃ A', (∀ b, A' b → b < w.heap.size) ∧ LE.fits A' w ⟨v, ts, n⟩ := by
 obtain ⟨g, cap, hv, _, hg, hrow⟩ := h.row ho hm
 by_cases he : ts = []
 ·subst he
  refine ⟨fun _ => False, fun b hb => hb.elim, .inl ⟨rfl, ?_⟩⟩
  rcases hv with hv | ⟨_, hv⟩
  ·exact ⟨_, _, hv⟩
  ·exact ⟨_, _, hv⟩
 ·refine ⟨fun b => A b ∨ b = g, fun b hb => ?_, hrow⟩
  rcases hg with hg | hg
  ·rcases hb with hb | hb
   ·exact hA b hb
   ·omega
  ·exact absurd hg he
def sumWtOf (n : Nat) (ts xs : List (ByteArray × Ty)) : Nat := rowWt n (ts.map (·.2) ++ xs.map (·.2))
theorem implPutSizeF (n : Nat) (A : Nat → Prop) (B m : Nat) (v : Value) (zs : List Value) (ts : List Ty) (w : World) (hA : ∀ b, A b → b < w.heap.size) (h : FlatR A w n zs ts) (ho : w.ownsRow B 30 4 v m zs) (hm : m = ts.length) (hw : rowWt n ts ≤ 1000000000) (hc : 3 * (1 + ndRow n ts) ≤ 1000000000) :
  Calls Tryz.prog 25 #[v] w fun e w' => e = .returned (.int .i64 ((rowWt n ts : Nat) : Int)) ∧ Below w.heap.size w w' := by
 obtain ⟨A', hA', hf⟩ := flat_fits h ho hm hA
 exact implPutSize0 A' ⟨v, ts, n⟩ w hA' hf hw hc
set_option maxHeartbeats 3200000 in
set_option maxRecDepth 100000 in
theorem implPutSumIn (n : Nat) (A : Nat → Prop) (nm : ByteArray) (bad r : Bool) (aT aX : Option Addr) (cT cX : Nat) (ts xs : List (ByteArray × Ty)) (room : Nat) (w : World) (hA : ∀ b, A b → b < w.heap.size) (hT : EnvR A w n aT ts) (hX : EnvR A w n aX xs) (hns : nm.size ≤ 1048576) (hbk : envBulk n ts + envBulk n xs ≤ 1048576) (hw : sumWtOf n ts xs ≤ 1000000000) (hnd : 3 * (1 + ndRow n (ts.map (·.2) ++ xs.map (·.2))) ≤ 1000000000)
  (hOK : ∀ wx : World, Below w.heap.size w wx → Calls Tryz.prog 52 #[.agg #[.string nm, .bool bad, .slice aT ts.length cT, .slice aX xs.length cX]] wx fun e w' => e = .returned (.bool r) ∧ Below wx.heap.size wx w')
  (hr : r = true → (∀ k (h : k < ts.length), Right n ts[k].2 12) ∧ (∀ k (h : k < xs.length), Right n xs[k].2 12) ∧ ts.length ≤ 60 ∧ xs.length ≤ 60) :
  Calls Tryz.prog 34 #[.agg #[.string nm, .bool bad, .slice aT ts.length cT, .slice aX xs.length cX], .int .i64 (room : Int)] w fun e w' => e = .returned (.string (if r && decide (sumWtOf n ts xs ≤ room) then mkB (sumPut n nm bad ts xs) else ⟨#[]⟩)) ∧ Below w.heap.size w w' := by
 have HB1 : Hid (Below w.heap.size w (w.alloc (.cells #[.string nm, .bool bad, .slice aT ts.length cT, .slice aX xs.length cX] 41))) := (Below.refl _ _).alloc (Nat.le_refl _) _
 have HBX : Hid (∀ wx : World, Below (w.heap.size + 1) (w.alloc (.cells #[.string nm, .bool bad, .slice aT ts.length cT, .slice aX xs.length cX] 41)) wx → FourL wx w.heap.size (.string nm) (.bool bad) (.slice aT ts.length cT) (.slice aX xs.length cX)) := fun wx hx => fourL_of ((hx.block _ (by omega)).trans (MapKept.heap_alloc w _).1)
 have HOK : Hid (type_of% hOK) := hOK
 have hz1 : w.heap.size + 1 ≤ (w.alloc (.cells #[.string nm, .bool bad, .slice aT ts.length cT, .slice aX xs.length cX] 41)).heap.size := by simp
 have hlT : ts.length ≤ 1048576 := by
  have : ts.length ≤ envBulk n ts := by unfold envBulk; omega
  omega
 have hlX : xs.length ≤ 1048576 := by
  have : xs.length ≤ envBulk n xs := by unfold envBulk; omega
  omega
 clear hOK
 cases r with
 | false =>
  clear hr hT hX hA hbk hw hnd
  rw [show (if (false && decide (sumWtOf n ts xs ≤ room)) = true then mkB (sumPut n nm bad ts xs) else (⟨#[]⟩ : ByteArray)) = ⟨#[]⟩ from rfl]
  go_enter Tryz.func34, Tryz.ntmps34
  go_wp2_with fail
  have hB1 := HB1.out
  generalize w.alloc (.cells #[.string nm, .bool bad, .slice aT ts.length cT, .slice aX xs.length cX] 41) = WN at *
  obtain ⟨a0, a1, a2, a3⟩ := HBX.out WN (Below.refl _ _)
  have r0 : ∀ d os, (grow (redrawn WN d) os).cell? ⟨w.heap.size, 0, none⟩ = _ := fun d os => cell_regrown a0 d os
  have r1 : ∀ d os, (grow (redrawn WN d) os).cell? ⟨w.heap.size, 1, none⟩ = _ := fun d os => cell_regrown a1 d os
  have r2 : ∀ d os, (grow (redrawn WN d) os).cell? ⟨w.heap.size, 2, none⟩ = _ := fun d os => cell_regrown a2 d os
  have r3 : ∀ d os, (grow (redrawn WN d) os).cell? ⟨w.heap.size, 3, none⟩ = _ := fun d os => cell_regrown a3 d os
  have HOK2 : Hid (∀ wx : World, Below WN.heap.size WN wx → Calls Tryz.prog 52 #[.agg #[.string nm, .bool bad, .slice aT ts.length cT, .slice aX xs.length cX]] wx fun e w' => e = .returned (.bool false) ∧ Below wx.heap.size wx w') := fun wx hx => HOK.out wx (hB1.trans (hx.mono (by omega)))
  clear HOK HBX
  refine wp_region_quiet_below (by kernel_rfl) (by kernel_rfl) ?_
  repeat (go_big_quiet_step (first | (with_reducible exact Calls.regrown_of (HOK2.out _ (below_regrown WN _ _)))))
  refine wpQuiet_nil ?_
  intro _ hw'
  obtain ⟨⟨dq, osq⟩, hw''⟩ := hw'
  subst hw''
  have HF : Hid (Below w.heap.size w (grow (redrawn WN dq) osq)) := hB1.trans ((below_regrown WN dq osq).mono (by omega))
  clear r0 r1 r2 r3 HOK2 a0 a1 a2 a3
  generalize grow (redrawn WN dq) osq = w3 at *
  go_wp2_with fail
  go_ret
  exact ⟨rfl, HF.out⟩
 | true =>
  obtain ⟨hRT, hRX, h60, h61⟩ := hr rfl
  have HT : Hid (∀ wx : World, Below w.heap.size w wx → Calls Tryz.prog 54 #[.slice aT ts.length cT] wx fun e w' => ∃ v xs, e = .returned v ∧ w'.ownsRow wx.heap.size 30 4 v ts.length xs ∧ FlatR A w n xs (ts.map (·.2)) ∧ Below wx.heap.size wx w') := fun wx hx => by
   have hs : SameOn A w wx := fun b hb => hx.block b (hA b hb)
   have hs2 : SameOn A wx w := fun b hb => (hx.block b (hA b hb)).symm
   refine (implTypesOfF n A aT cT ts wx (hT.same hs) (fun b hb => Nat.lt_of_lt_of_le (hA b hb) hx.size) hlT).mono ?_
   rintro e w' ⟨v, xs, rfl, h1, h2, h3⟩
   exact ⟨v, xs, rfl, h1, h2.same hs2, h3⟩
  have HX : Hid (∀ wx : World, Below w.heap.size w wx → Calls Tryz.prog 54 #[.slice aX xs.length cX] wx fun e w' => ∃ v zs, e = .returned v ∧ w'.ownsRow wx.heap.size 30 4 v xs.length zs ∧ FlatR A w n zs (xs.map (·.2)) ∧ Below wx.heap.size wx w') := fun wx hx => by
   have hs : SameOn A w wx := fun b hb => hx.block b (hA b hb)
   have hs2 : SameOn A wx w := fun b hb => (hx.block b (hA b hb)).symm
   refine (implTypesOfF n A aX cX xs wx (hX.same hs) (fun b hb => Nat.lt_of_lt_of_le (hA b hb) hx.size) hlX).mono ?_
   rintro e w' ⟨v, zs, rfl, h1, h2, h3⟩
   exact ⟨v, zs, rfl, h1, h2.same hs2, h3⟩
  have HPS : Hid (∀ (B m : Nat) (v : Value) (zs : List Value) (wx : World), Below w.heap.size w wx → FlatR A w n zs (ts.map (·.2) ++ xs.map (·.2)) → wx.ownsRow B 30 4 v (ts.length + xs.length) zs → Calls Tryz.prog 25 #[v] wx fun e w' => e = .returned (.int .i64 ((sumWtOf n ts xs : Nat) : Int)) ∧ Below wx.heap.size wx w') := fun B m v zs wx hx h ho =>
   implPutSizeF n A B _ v zs _ wx (fun b hb => Nat.lt_of_lt_of_le (hA b hb) hx.size) (h.same fun b hb => hx.block b (hA b hb)) ho (by simp) hw hnd
  have HPN : Hid (∀ wx : World, Calls Tryz.prog 45 #[.string nm] wx fun e w' => e = .returned (.string (putT nm)) ∧ Below wx.heap.size wx w') := fun wx => implPutText nm wx (by omega)
  have HNT : Hid (∀ (B : Nat) (v : Value) (l : List UInt8) (wx : World), Below w.heap.size w wx → w.heap.size ≤ B → B ≤ wx.heap.size → OwnT wx B 5 1 v l.length (Lib.byteCells l) → l.length ≤ 40000000 → Calls Tryz.prog 55 #[v, .slice aT ts.length cT] wx (PutPostT B wx (l ++ envPut n ts))) := fun B v l wx hx h1 h2 ho hl =>
   implPutNamedT n A B v l aT cT ts wx (hT.same fun b hb => hx.block b (hA b hb)) (fun b hb => Nat.lt_of_lt_of_le (hA b hb) h1) hRT (by omega) h2 ho hl
  have HNX : Hid (∀ (B : Nat) (v : Value) (l : List UInt8) (wx : World), Below w.heap.size w wx → w.heap.size ≤ B → B ≤ wx.heap.size → OwnT wx B 5 1 v l.length (Lib.byteCells l) → l.length ≤ 40000000 → Calls Tryz.prog 55 #[v, .slice aX xs.length cX] wx (PutPostT B wx (l ++ envPut n xs))) := fun B v l wx hx h1 h2 ho hl =>
   implPutNamedT n A B v l aX cX xs wx (hX.same fun b hb => hx.block b (hA b hb)) (fun b hb => Nat.lt_of_lt_of_le (hA b hb) h1) hRX (by omega) h2 ho hl
  have hpt : (putT nm).size ≤ 5 + nm.size := putT_size nm
  have HPE : Hid ((envPut n ts).length ≤ 12 * envBulk n ts + 5) := envPut_size n ts
  have HPX : Hid ((envPut n xs).length ≤ 12 * envBulk n xs + 5) := envPut_size n xs
  have HSP : Hid (sumPut n nm bad ts xs = ((bt (putT nm) ++ [UInt8.ofNat (if bad then 1 else 0 : Int).toNat]) ++ envPut n ts) ++ envPut n xs) := by
   show _ = _
   cases bad <;> simp [sumPut]
  clear hr hT hX hA hnd hRT hRX
  generalize sumPut n nm bad ts xs = SP at *
  generalize hWT : sumWtOf n ts xs = WT at *
  clear hWT
  obtain ⟨FI, hFI⟩ : ∃ FI : Int, FI = if bad then 1 else 0 := ⟨_, rfl⟩
  rw [← hFI] at HSP
  obtain ⟨X, hX⟩ : ∃ X, X = putT nm := ⟨_, rfl⟩
  rw [← hX] at HSP hpt HPN
  have HXS : Hid (X.size ≤ 1048581) := by show _ ≤ _; omega
  have HCV : Hid (∀ wx : World, (convert 9 51 (.string X)).run Tryz.prog wx = .ok (.slice (some ⟨wx.heap.size, 0, none⟩) X.size (grownCap wx X.size 0 5)) (Lib.bytesWorld wx 5 X)) := fun wx => Lib.run_convert_string_bytes wx 9 51 5 X Tryz.underlying9 Tryz.underlying51 Tryz.underlying5
  obtain ⟨i0, hi0, hz0, hzz1, hzz2⟩ := info_parts Tryz.infoByte
  obtain ⟨R, hR⟩ : ∃ R, R = (if (true && decide (WT ≤ room)) = true then mkB SP else (⟨#[]⟩ : ByteArray)) := ⟨_, rfl⟩
  rw [← hR]
  have HRY : Hid (WT ≤ room → R = mkB SP) := fun h => by rw [hR]; simp [h]
  have HRN : Hid (¬ WT ≤ room → R = ⟨#[]⟩) := fun h => by rw [hR]; simp [h]
  clear hX hR
  go_enter Tryz.func34, Tryz.ntmps34
  go_wp2_with fail
  have hB1 := HB1.out
  generalize w.alloc (.cells #[.string nm, .bool bad, .slice aT ts.length cT, .slice aX xs.length cX] 41) = WN at *
  go_region_held3 (fun wx => wx.cell? ⟨w.heap.size, 0, none⟩ = some (.string nm) ∧ wx.cell? ⟨w.heap.size, 1, none⟩ = some (.bool bad) ∧ wx.cell? ⟨w.heap.size, 2, none⟩ = some (.slice aT ts.length cT) ∧ wx.cell? ⟨w.heap.size, 3, none⟩ = some (.slice aX xs.length cX))
   (first
    | exact HBX.out _ (by assumption)
    | exact HBX.out _ (Below.refl _ _)
    | exact HBX.out _ (Below.refl _ _).drew
    | exact HBX.out _ (Below.drew (by assumption))
    | exact HBX.out _ (Below.alloc (by assumption) (by assumption) _))
   (first
    | (revert hz5; intro hz5; go_at_call 25; refine (HPS.out _ 0 _ _ _ E5 (hf3.app hf4) ho5).mono ?_; rintro e w6 ⟨rfl, hb6⟩; have D6 : Below (w.heap.size + 1) WN w6 := D5.trans (hb6.mono hz5))
    | (revert hz4; intro hz4; go_at_call 53; refine (implConcat2 w4.heap.size ts.length xs.length c3 c4 w2.heap.size w3.heap.size a3 a4 x3 x4 _ (two_new w4 _ _ _).1 (two_new w4 _ _ _).2 (ho3b.alloc _) (ho4.alloc _) hf3.cell hf4.cell (by omega) (by omega)).mono ?_; rintro e w5 ⟨v5, rfl, ho5, hb5⟩; have D5 : Below (w.heap.size + 1) WN w5 := (D4.alloc hz4 _).trans (hb5.mono (by simp; omega)); have E5 : Below w.heap.size w w5 := hB1.trans (D5.mono (by omega)); have hz5 : w.heap.size + 1 ≤ w5.heap.size := Nat.le_trans hz1 D5.size)
    | (revert hz3; intro hz3; go_at_call 54; refine (HX.out _ E3).mono ?_; rintro e w4 ⟨v4, x4, rfl, ho4, hf4, hb4⟩; have D4 : Below (w.heap.size + 1) WN w4 := D3.trans (hb4.mono hz3); have ho3b := kept_belowT ho3 hb4; obtain ⟨a4, c4, rfl⟩ := slice_own4 ho4; have hz4 : w.heap.size + 1 ≤ w4.heap.size := Nat.le_trans hz1 D4.size)
    | (revert hz2; intro hz2; go_at_call 54; refine (HT.out _ E2).mono ?_; rintro e w3 ⟨v3, x3, rfl, ho3, hf3, hb3⟩; have D3 : Below (w.heap.size + 1) WN w3 := D2.trans (hb3.mono hz2); obtain ⟨a3, c3, rfl⟩ := slice_own4 ho3; have E3 : Below w.heap.size w w3 := hB1.trans (D3.mono (by omega)); have hz3 : w.heap.size + 1 ≤ w3.heap.size := Nat.le_trans hz1 D3.size)
    | (go_at_call 52; refine (HOK.out _ (by first | exact hB1 | exact hB1.drew)).mono ?_; rintro e w2 ⟨rfl, hb2⟩; have D2 : Below (w.heap.size + 1) WN w2 := (by first | exact hb2.mono hz1 | exact (Below.refl _ _).drew.trans (hb2.mono hz1)); have E2 : Below w.heap.size w w2 := hB1.trans (D2.mono (by omega)); have hz2 : w.heap.size + 1 ≤ w2.heap.size := Nat.le_trans hz1 D2.size))
  all_goals
   have HF6 : Hid (Below w.heap.size w w6) := E5.trans (hb6.mono (by omega))
   have HD6 : Hid (type_of% D6) := D6
   have hz6 : w.heap.size + 1 ≤ w6.heap.size := Nat.le_trans hz1 D6.size
   clear ho3 ho3b ho4 ho5 hf3 hf4 hb2 hb3 hb4 hb5 hb6 D2 D3 D4 D5 E2 E3 E5 HOK HT HX HPS HB1
   by_cases hwr : WT ≤ room
   ·have HR : Hid (R = mkB SP) := HRY.out hwr
    have hwi : ¬ (room : Int) < (WT : Int) := by omega
    have hwn : decide (room < WT) = false := decide_eq_false (by omega)
    obtain ⟨a0, a1, a2, a3⟩ := HBX.out w6 HD6.out
    clear D6 hwr h60 h61 hlT hlX hns HRY HRN
    cases bad
    all_goals
     simp only [Bool.false_eq_true, if_false, if_true] at hFI
     go_wp2_with fail
     clear hwi hwn
     refine (HPN.out _).mono ?_
     rintro e w7 ⟨rfl, hb7⟩
     have D7 : Below (w.heap.size + 1) WN w7 := HD6.out.trans (hb7.mono hz6)
     have hz7 : w.heap.size + 1 ≤ w7.heap.size := Nat.le_trans hz6 hb7.size
     have hcv := HCV.out w7
     have hxs := HXS.out
     have hbl : (bt X).length = X.size := rfl
     have hzb : (Lib.bytesWorld w7 5 X).heap.size = w7.heap.size + 1 := Lib.bytesWorld_size _ _ _
     have HO7 : Hid (type_of% (conv_ownT w7 X (by omega))) := conv_ownT w7 X (by omega)
     have HB7 : Hid (type_of% (conv_below w7 X)) := conv_below w7 X
     clear a0 a1 a2 a3 HD6 HPN hb7
     go_wp2_with (at_builtin; refine wpList_append_ownT _ rfl _ _ 51 rfl w7.heap.size 5 i0 (.int .u8 0) 1 1 Tryz.underlying51 hi0 hz0 hzz1 hzz2 rfl (by decide) _ _ _ rfl (HO7.out.alloc _) ⟨w7.heap.size + 1, 0, none⟩ 1 1 [.int .u8 FI] rfl rfl ?c1 ?c2 ?c3 ?c4 ?c5 ?_)
     case c1 => exact one_cellK (by rw [← hzb, hFI]; exact one_newL _ _ _)
     case c2 => intro u hu; simp at hu; subst hu; rfl
     case c3 => rw [hbl]; unfold maxLen; omega
     case c4 => rw [hbl]; omega
     case c5 => simp; omega
     intro v8 w8 hown8 hgrow8
     have hR8 : OwnT w8 w7.heap.size 5 1 v8 (bt X ++ [UInt8.ofNat FI.toNat]).length (Lib.byteCells (bt X ++ [UInt8.ofNat FI.toNat])) := row_oneT (n := (bt X).length) (k := FI) (by rw [hFI]; exact hown8) rfl (by omega) (by omega)
     have hB8 : Below w7.heap.size w7 w8 := (HB7.out.alloc (by omega) _).grown hgrow8 (by simp; omega) (fun k hk => (HO7.out.lt k hk).1)
     have D8 : Below (w.heap.size + 1) WN w8 := D7.trans (hB8.mono hz7)
     have hz8 := hB8.size
     have hL8 : (bt X ++ [UInt8.ofNat FI.toNat]).length = X.size + 1 := by rw [List.length_append, hbl]; rfl
     have HP8 : Hid (type_of% (HNT.out w7.heap.size v8 _ w8 (hB1.trans (D8.mono (by omega))) (by omega) hz8 hR8 (by omega))) := HNT.out w7.heap.size v8 _ w8 (hB1.trans (D8.mono (by omega))) (by omega) hz8 hR8 (by omega)
     obtain ⟨a0, a1, a2, a3⟩ := HBX.out w8 D8
     clear hown8 hgrow8 HO7 HB7 hcv HCV hR8 HNT hB8
     go_wp2_with fail
     refine HP8.out.mono ?_
     rintro e w9 ⟨v9, rfl, hR9, hF9⟩
     have D9 : Below (w.heap.size + 1) WN w9 := D8.trans (hF9.below.mono hz7)
     have hz9 : w7.heap.size ≤ w9.heap.size := Nat.le_trans hz8 hF9.below.size
     have HP9 : Hid (type_of% (HNX.out w7.heap.size v9 _ w9 (hB1.trans (D9.mono (by omega))) (by omega) hz9 hR9 (by have := HPE.out; rw [List.length_append]; omega))) := HNX.out w7.heap.size v9 _ w9 (hB1.trans (D9.mono (by omega))) (by omega) hz9 hR9 (by have := HPE.out; rw [List.length_append]; omega)
     clear a0 a1 a2 a3 HP8 hR9 hF9 HNX
     obtain ⟨a0, a1, a2, a3⟩ := HBX.out w9 D9
     go_wp2_with fail
     refine HP9.out.mono ?_
     rintro e w10 ⟨v10, rfl, hR10, hF10⟩
     rw [← HSP.out] at hR10
     have hps : 0 < SP.length := by rw [HSP.out, List.length_append, List.length_append, hL8]; omega
     have HF10 : Hid (Below w.heap.size w w10) := hB1.trans ((D9.trans (hF10.below.mono hz7)).mono (by omega))
     obtain ⟨g10, c10, rfl⟩ := hR10.pos hps
     have hcb := back_T hR10
     clear HP9 hF10 hR10 D7 D8 D9 a0 a1 a2 a3 HBX HSP HPE HPX
     go_wp2_with fail
     go_ret
     exact ⟨by rw [HR.out]; rfl, HF10.out⟩
   ·have HR : Hid (R = ⟨#[]⟩) := HRN.out hwr
    have hwi : (room : Int) < (WT : Int) := by omega
    have hwn : decide (room < WT) = true := decide_eq_true (by omega)
    clear D6 h60 h61 hlT hlX hns HRY HRN HNT HNX HPN HSP HPE HPX hpt hbk HCV HBX HD6
    go_wp2_with fail
    go_ret
    exact ⟨by rw [HR.out]; rfl, HF6.out⟩
end Go.Proofs.YtbojmbeopnlmiaaGreatDoor
namespace Go.Proofs.YtbojmbeopnlmiaaGreatDoor
open Go.RowKit
theorem EnvR.subP {A A' : Nat → Prop} {w : World} {n : Nat} {av : Option Addr} {es : List (ByteArray × Ty)} (h : EnvR A w n av es) (hs : ∀ b, A b → A' b) : EnvR A' w n av es := fun j hj => by
 obtain ⟨b, off, x0, x1, x2, x3, e, ha, h1, h2, hc⟩ := h j hj
 exact ⟨b, off, x0, x1, x2, x3, e, hs b ha, h1, h2.sub hs, hc⟩
theorem rowWt_env (n : Nat) (es : List (ByteArray × Ty)) : rowWt n (es.map (·.2)) ≤ 100 * envBulk n es := by
 have : rowWt n (es.map (·.2)) ≤ 100 * (es.map (nmBulk n)).sum + 72 * es.length := by
  induction es with
  | nil => simp [rowWt]
  | cons e r ih =>
   have h1 := wt_le n e.2
   rw [List.map_cons, rowWt_cons]
   simp only [List.map_cons, List.sum_cons, List.length_cons, nmBulk]
   omega
 unfold envBulk
 omega
theorem ndRow_env (n : Nat) (es : List (ByteArray × Ty)) : ndRow n (es.map (·.2)) ≤ envBulk n es := by
 have : ndRow n (es.map (·.2)) ≤ (es.map (nmBulk n)).sum + es.length := by
  induction es with
  | nil => simp [ndRow]
  | cons e r ih =>
   have h1 := nodes_len n e.2
   unfold ndRow at ih ⊢
   simp only [List.map_cons, List.sum_cons, List.length_cons, nmBulk]
   omega
 unfold envBulk
 omega
theorem rowWt_two (n : Nat) (a b : List Ty) : rowWt n (a ++ b) = rowWt n a + rowWt n b := by simp [rowWt]
theorem ndRow_two (n : Nat) (a b : List Ty) : ndRow n (a ++ b) = ndRow n a + ndRow n b := by simp [ndRow]
set_option maxHeartbeats 800000 in
open Classical in
theorem implPutSumAt (n loT hiT loX hiX room : Nat) (nm : ByteArray) (bad : Bool) (vT vX : Value) (ts xs : List (ByteArray × Ty)) (w : World) (hT : EnvIn w n loT hiT vT ts) (hhT : hiT ≤ w.heap.size) (hX : EnvIn w n loX hiX vX xs) (hhX : hiX ≤ w.heap.size) (hns : nm.size ≤ 1048576) (hb2 : envBulk n ts + envBulk n xs ≤ 1048576) (hbk : envBulk (n + 1) ts + Ty.bulk (n + 1) (fnOf xs) ≤ 1048576) (hc : ClsIs w) (hp : Lib.TabIs Tryz.prog w "internal/strconv.uint64pow10" .u64 Lib.pow10Tab) :
  Calls Tryz.prog 34 #[.agg #[.string nm, .bool bad, vT, vX], .int .i64 (room : Int)] w fun e w' => e = .returned (.string (sumA (sumRight n nm bad ts xs && decide (sumWtOf n ts xs ≤ room)) n nm bad ts xs)) ∧ Below w.heap.size w w' := by
 have hOK : ∀ wx : World, Below w.heap.size w wx → Calls Tryz.prog 52 #[.agg #[.string nm, .bool bad, vT, vX]] wx fun e w' => e = .returned (.bool (sumRight n nm bad ts xs)) ∧ Below wx.heap.size wx w' := fun wx hx =>
  implSummaryOk n loT hiT loX hiX nm bad vT vX ts xs wx (EnvIn.belowS hT hx) (Nat.le_trans hhT hx.size) (EnvIn.belowS hX hx) (Nat.le_trans hhX hx.size) hns (by omega) (by omega) hbk (hc.below hx hc.lt) (Lib.tabBelow_of_tabIs hp wx hx)
 obtain ⟨aT, cT, rfl, hRT⟩ := hT.reads
 obtain ⟨aX, cX, rfl, hRX⟩ := hX.reads
 have h1 := rowWt_env n ts
 have h2 := rowWt_env n xs
 have h3 := ndRow_env n ts
 have h4 := ndRow_env n xs
 have h5 : sumWtOf n ts xs = rowWt n (ts.map (·.2)) + rowWt n (xs.map (·.2)) := rowWt_two n _ _
 have h6 := ndRow_two n (ts.map (·.2)) (xs.map (·.2))
 have hr : sumRight n nm bad ts xs = true → (∀ k (h : k < ts.length), Right n ts[k].2 12) ∧ (∀ k (h : k < xs.length), Right n xs[k].2 12) ∧ ts.length ≤ 60 ∧ xs.length ≤ 60 := fun h => sumRight_env h
 exact implPutSumIn n (fun b => (loT ≤ b ∧ b < hiT) ∨ (loX ≤ b ∧ b < hiX)) nm bad _ aT aX cT cX ts xs room w (fun b hb => by omega) (hRT.subP fun b hb => .inl hb) (hRX.subP fun b hb => .inr hb) hns hb2 (by omega) (by omega) hOK hr
set_option maxHeartbeats 800000 in
open Classical in
theorem implPutSummary (n loT hiT loX hiX : Nat) (nm : ByteArray) (bad : Bool) (vT vX : Value) (ts xs : List (ByteArray × Ty)) (w : World) (hT : EnvIn w n loT hiT vT ts) (hhT : hiT ≤ w.heap.size) (hX : EnvIn w n loX hiX vX xs) (hhX : hiX ≤ w.heap.size) (hns : nm.size ≤ 1048576) (hb2 : envBulk n ts + envBulk n xs ≤ 1048576) (hbk : envBulk (n + 1) ts + Ty.bulk (n + 1) (fnOf xs) ≤ 1048576) (hc : ClsIs w) (hp : Lib.TabIs Tryz.prog w "internal/strconv.uint64pow10" .u64 Lib.pow10Tab) :
  Calls Tryz.prog 14 #[.agg #[.string nm, .bool bad, vT, vX]] w fun e w' => e = .returned (.string (sumA (sumRight n nm bad ts xs) n nm bad ts xs)) ∧ Below w.heap.size w w' := by
 obtain ⟨aT, cT, rfl, _⟩ := hT.reads
 obtain ⟨aX, cX, rfl, _⟩ := hX.reads
 have hB1 : Below w.heap.size w (w.alloc (.cells #[.string nm, .bool bad, .slice aT ts.length cT, .slice aX xs.length cX] 41)) := (Below.refl _ _).alloc (Nat.le_refl _) _
 have HP0 := implPutSumAt n loT hiT loX hiX 8589934592 nm bad _ _ ts xs _ (EnvIn.belowS hT hB1) (Nat.le_trans hhT hB1.size) (EnvIn.belowS hX hB1) (Nat.le_trans hhX hB1.size) hns hb2 hbk (hc.below hB1 hc.lt) (Lib.tabBelow_of_tabIs hp _ hB1)
 have h1 := rowWt_env n ts
 have h2 := rowWt_env n xs
 have h5 : sumWtOf n ts xs = rowWt n (ts.map (·.2)) + rowWt n (xs.map (·.2)) := rowWt_two n _ _
 rw [decide_eq_true (show sumWtOf n ts xs ≤ 8589934592 by omega), Bool.and_true, show ((8589934592 : Nat) : Int) = 8589934592 from rfl] at HP0
 have HP : Hid (type_of% HP0) := HP0
 have HB1 : Hid (type_of% hB1) := hB1
 clear HP0 hT hX h1 h2 h5 hbk hb2 hc hp hns hB1
 generalize sumA (sumRight n nm bad ts xs) n nm bad ts xs = R at *
 go_enter Tryz.func14, Tryz.ntmps14
 go_wp2_with fail
 refine HP.out.mono ?_
 rintro e w2 ⟨rfl, hb2⟩
 go_wp2_with fail
 go_ret
 exact ⟨rfl, HB1.out.trans (hb2.mono HB1.out.size)⟩
end Go.Proofs.YtbojmbeopnlmiaaGreatDoor
