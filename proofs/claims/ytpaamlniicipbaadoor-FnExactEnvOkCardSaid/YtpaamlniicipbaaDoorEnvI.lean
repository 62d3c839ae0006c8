/-
  The walk of impl.EnvOk.
-/
import Derived.Test.YtpaamlniicipbaaDoorEnvS
import Derived.Test.YtpaamlniicipbaaDoorFormY
import Derived.Test.YtpaamlniicipbaaDoorToTy
namespace Go.Proofs.YtpaamlniicipbaaDoor
open Go.RowKit

theorem five_new {w wx : World} {b : Nat} {x0 x1 x2 x3 x4 : Value} {ty : TypeId} (e : b = w.heap.size) (hb : Below (b + 1) (w.alloc (.cells #[x0, x1, x2, x3, x4] ty)) wx) : wx.cell? ⟨b, 0, none⟩ = some x0 ∧ wx.cell? ⟨b, 1, none⟩ = some x1 ∧ wx.cell? ⟨b, 2, none⟩ = some x2 ∧ wx.cell? ⟨b, 3, none⟩ = some x3 ∧ wx.cell? ⟨b, 4, none⟩ = some x4 := by
  refine ⟨?_, ?_, ?_, ?_, ?_⟩
  · rw [hb.cell (p := ⟨b, 0, none⟩) (Nat.lt_succ_self _), cellNew _ e]; rfl
  · rw [hb.cell (p := ⟨b, 1, none⟩) (Nat.lt_succ_self _), cellNew _ e]; rfl
  · rw [hb.cell (p := ⟨b, 2, none⟩) (Nat.lt_succ_self _), cellNew _ e]; rfl
  · rw [hb.cell (p := ⟨b, 3, none⟩) (Nat.lt_succ_self _), cellNew _ e]; rfl
  · rw [hb.cell (p := ⟨b, 4, none⟩) (Nat.lt_succ_self _), cellNew _ e]; rfl

set_option maxHeartbeats 1600000 in
set_option maxRecDepth 100000 in
open Classical in
theorem implEnvOk (n : Nat) (v : Value) (es : List (ByteArray × Ty)) (w : World) (hrow : EnvAt w n v es) (hb : envBulk n es ≤ 1048576) (hc : ClsIs w) :
    Calls Tryd.prog 8 #[v] w fun e w' => e = .returned (.bool (decide (EnvRight n es))) ∧ Below w.heap.size w w' := by
  obtain ⟨i0, hi0, hz0, hz1, hz2⟩ := info_parts Tryd.infoString
  obtain ⟨av, capv, rfl, hel⟩ := envOpen hrow
  have hlen : es.length ≤ 1048576 := by unfold envBulk at hb; omega
  obtain ⟨RR, hRR⟩ : ∃ RR, RR = decide (EnvRight n es) := ⟨_, rfl⟩
  rw [← hRR]
  have HNO : Hid (¬ EnvRight n es → RR = false) := fun h => by rw [hRR]; exact decide_eq_false h
  have HYES : Hid (EnvRight n es → RR = true) := fun h => by rw [hRR]; exact decide_eq_true h
  have HEL : Hid (type_of% hel) := hel
  have HB : Hid (type_of% hb) := hb
  have HCL : Hid (∀ wx : World, Below w.heap.size w wx → ClsIs wx) := fun wx hx => hc.below hx hc.lt
  clear hRR hel hrow hb hc
  by_cases h60 : es.length ≤ 60
  · have h60i : ¬ (60 : Int) < (es.length : Int) := by omega
    go_enter Tryd.func8, Tryd.ntmps8
    go_wp2_with fail
    go_loopw [3, 11] (fun v i wr => ∃ (k : Nat) (zs : List ByteArray), k ≤ es.length ∧ i = .int .i64 k ∧ zs.length = k ∧ zs = (es.take k).map (·.1) ∧ (∀ j (h : j < es.length), j < k → dottedP es[j].1 = true ∧ Right n es[j].2 12) ∧ wr.ownsRow w.heap.size 9 1 v zs.length (strV zs) ∧ Below w.heap.size w wr) (fun _ i _ => es.length - (intOf i).toNat)
    case atStart => exact ⟨0, [], Nat.zero_le _, rfl, rfl, rfl, fun j _ h => absurd h (by omega), World.ownsRow_nil _ _ _ _, Below.refl _ _⟩
    case round =>
      obtain ⟨k, zs, hk, rfl, hzl, hzs, hall, how, hbe⟩ := hrel
      have HZ : Hid (zs = (es.take k).map (·.1)) := hzs
      have HZL : Hid (zs.length = k) := hzl
      have HALL : Hid (type_of% hall) := hall
      have hzk : zs.length ≤ k := by omega
      have hzw : w.heap.size ≤ wr.heap.size := hbe.size
      clear hzs hzl hall
      obtain ⟨az, capz, hv⟩ := slice_ownF how
      subst hv
      by_cases hlt : k < es.length
      · obtain ⟨b, off, x0, x1, x2, x3, rfl, hbl, hsz, hty, q0, q1, q2, q3, q4⟩ := HEL.out k hlt
        obtain ⟨an2, ln2, cn2, ak2, lk2, ck2, ee⟩ := hty.shape
        simp only [List.cons.injEq, and_true] at ee
        obtain ⟨rfl, rfl, rfl, rfl⟩ := ee
        have c0 := (hbe.cell (p := ⟨b, off + k * 5, none⟩) hbl).trans q0
        have c1 := (hbe.cell (p := ⟨b, off + k * 5 + 1, none⟩) hbl).trans q1
        have c2 := (hbe.cell (p := ⟨b, off + k * 5 + 2, none⟩) hbl).trans q2
        have c3 := (hbe.cell (p := ⟨b, off + k * 5 + 3, none⟩) hbl).trans q3
        have c4 := (hbe.cell (p := ⟨b, off + k * 5 + 4, none⟩) hbl).trans q4
        have hbk := env_bulk n es k hlt
        have hB := HB.out
        have HND : Hid (∀ wx : World, Below w.heap.size w wx → Calls Tryd.prog 20 #[.string es[k].1] wx fun e w' => e = .returned (.bool (dottedP es[k].1)) ∧ Below wx.heap.size wx w') := fun wx hx => implTypeNameOk _ wx (by omega) (HCL.out wx hx) (HCL.out wx hx).lt
        have HTO : Hid (∀ wx : World, Below w.heap.size w wx → Calls Tryd.prog 21 #[.agg #[.int .i64 es[k].2.kind, .string es[k].2.name, .slice an2 ln2 cn2, .slice ak2 lk2 ck2]] wx fun e w' => e = .returned (.bool (decide (Right n es[k].2 12))) ∧ Below wx.heap.size wx w') := fun wx hx => implTypeOk n _ _ wx (hty.below hx) (by omega) (HCL.out wx hx)
        have hB1 : Below w.heap.size w (wr.alloc (.cells #[.string es[k].1, .int .i64 es[k].2.kind, .string es[k].2.name, .slice an2 ln2 cn2, .slice ak2 lk2 ck2] 47)) := hbe.alloc hbe.size _
        have HBX : Hid (∀ wx : World, Below (wr.heap.size + 1) (wr.alloc (.cells #[.string es[k].1, .int .i64 es[k].2.kind, .string es[k].2.name, .slice an2 ln2 cn2, .slice ak2 lk2 ck2] 47)) wx → (wx.cell? ⟨wr.heap.size, 0, none⟩ = some (.string es[k].1) ∧ wx.cell? ⟨wr.heap.size, 1, none⟩ = some (.int .i64 es[k].2.kind) ∧ wx.cell? ⟨wr.heap.size, 2, none⟩ = some (.string es[k].2.name) ∧ wx.cell? ⟨wr.heap.size, 3, none⟩ = some (.slice an2 ln2 cn2) ∧ wx.cell? ⟨wr.heap.size, 4, none⟩ = some (.slice ak2 lk2 ck2)) ∧ Below w.heap.size w wx ∧ Below wr.heap.size wr wx) := fun wx hx => ⟨five_new rfl hx, hB1.trans (hx.mono (by have := hbe.size; omega)), ((Below.refl _ _).alloc (Nat.le_refl _) _).trans (hx.mono (by omega))⟩
        have hk0i : (0 : Int) ≤ (k : Int) := by omega
        have hk1i : (k : Int) < (es.length : Int) := by omega
        clear q0 q1 q2 q3 q4 hty hsz hbk hB
        cases hd : dottedP es[k].1 with
        | false =>
          have HR : Hid (RR = false) := HNO.out fun h => by
            have := (h.1 k hlt).1
            rw [hd] at this
            cases this
          rw [hd] at HND
          clear hd HNO HYES HALL HEL HB HTO HCL HZ
          generalize es[k].1 = x at *
          generalize es[k].2.kind = kd at *
          generalize es[k].2.name = tn at *
          go_wp2_with fail
          refine (HND.out _ hB1).mono ?_
          rintro e w2 ⟨rfl, hb2⟩
          go_wp2_with fail
          go_ret
          exact ⟨by rw [HR.out]; rfl, hB1.trans (hb2.mono hB1.size)⟩
        | true =>
          rw [hd] at HND
          by_cases hr : Right n es[k].2 12
          · rw [decide_eq_true hr] at HTO
            have HA2 : Hid (∀ j (h : j < es.length), j < k + 1 → dottedP es[j].1 = true ∧ Right n es[j].2 12) := fun j hj hjk => by
              by_cases c : j = k
              · subst c; exact ⟨hd, hr⟩
              · exact HALL.out j hj (by omega)
            have HZ2 : Hid (zs ++ [es[k].1] = (es.take (k + 1)).map (·.1)) := by
              show _ = _
              rw [List.take_succ_eq_append_getElem hlt, List.map_append, HZ.out]; rfl
            clear hd hr HNO HYES HALL HEL HB HCL HZ
            generalize es[k].1 = x at *
            generalize es[k].2.kind = kd at *
            generalize es[k].2.name = tn at *
            go_wp2_with fail
            refine (HND.out _ hB1).mono ?_
            rintro e w2 ⟨rfl, hb2⟩
            have D2 : Below (wr.heap.size + 1) (wr.alloc (.cells #[.string x, .int .i64 kd, .string tn, .slice an2 ln2 cn2, .slice ak2 lk2 ck2] 47)) w2 := hb2.mono (by simp)
            have hs2 : wr.heap.size + 1 ≤ w2.heap.size := by have := hb2.size; simpa using this
            obtain ⟨⟨a0, a1, a2, a3, a4⟩, hw2, _⟩ := HBX.out w2 D2
            clear hb2
            go_wp2_with fail
            refine (HTO.out _ hw2).mono ?_
            rintro e w3 ⟨rfl, hb3⟩
            have D3 := D2.trans (hb3.mono hs2)
            clear a0 a1 a2 a3 a4 hb3 D2
            obtain ⟨⟨a0, a1, a2, a3, a4⟩, hw3, hr3⟩ := HBX.out w3 D3
            have how3 := kept_belowT how hr3
            have hz3w : w.heap.size ≤ w3.heap.size := hw3.size
            clear how hr3 HTO HND
            go_wp2_with (at_builtin; refine wpList_append_own _ rfl _ _ 29 rfl w.heap.size 9 i0 (.string ⟨#[]⟩) 1 16 Tryd.underlying29 hi0 hz0 hz1 hz2 rfl (by decide) _ _ _ rfl (how3.alloc _) ⟨w3.heap.size, 0, none⟩ 1 1 [.string x] rfl rfl ?c1 ?c2 ?c3 ?c4 ?c5 ?_)
            case c1 => exact one_cellJ (cellNew 0 rfl)
            case c2 => intro u hu; simp at hu; subst hu; rfl
            case c3 => unfold maxLen; omega
            case c4 => omega
            case c5 => simp; omega
            intro v' w4 hown' hgrow _
            have R1 : w4.ownsRow w.heap.size 9 1 v' (zs ++ [x]).length (strV (zs ++ [x])) := by simpa [strV] using hown'
            have R2 : Below w.heap.size w w4 := (hw3.alloc hz3w _).grown hgrow (by simp; omega) (fun j hj => (how3.lt j hj).1)
            have HZL2 : Hid ((zs ++ [x]).length = k + 1) := by show _ = _; rw [List.length_append, List.length_singleton, HZL.out]
            clear hown' hgrow how3 hw3 a0 a1 a2 a3 a4
            go_wp2_with fail
            go_roundw
            case rel => exact ⟨k + 1, zs ++ [x], by omega, by go_num, HZL2.out, HZ2.out, HA2.out, R1, R2⟩
            case measure => simp [intOf]; omega
          · rw [decide_eq_false hr] at HTO
            have HR : Hid (RR = false) := HNO.out fun h => hr (h.1 k hlt).2.1
            clear hd hr HNO HYES HALL HEL HB HCL HZ
            generalize es[k].1 = x at *
            generalize es[k].2.kind = kd at *
            generalize es[k].2.name = tn at *
            go_wp2_with fail
            refine (HND.out _ hB1).mono ?_
            rintro e w2 ⟨rfl, hb2⟩
            have D2 : Below (wr.heap.size + 1) (wr.alloc (.cells #[.string x, .int .i64 kd, .string tn, .slice an2 ln2 cn2, .slice ak2 lk2 ck2] 47)) w2 := hb2.mono (by simp)
            obtain ⟨⟨a0, a1, a2, a3, a4⟩, hw2, _⟩ := HBX.out w2 D2
            clear hb2
            go_wp2_with fail
            refine (HTO.out _ hw2).mono ?_
            rintro e w3 ⟨rfl, hb3⟩
            go_wp2_with fail
            go_ret
            exact ⟨by rw [HR.out]; rfl, hw2.trans (hb3.mono hw2.size)⟩
      · have hke : k = es.length := by omega
        have hzE : zs = es.map (·.1) := by rw [HZ.out, hke, List.take_of_length_le (Nat.le_refl _)]
        have HAS := implAscends _ zs wr (NamesIn.texts (lo := w.heap.size) (hi := wr.heap.size) ⟨how, fun g hg => (how.lt g hg).2⟩) (by omega)
        have HR : Hid (decide (Ascend zs) = RR) := by
          show _ = _
          by_cases ha : Ascend zs
          · rw [decide_eq_true ha, HYES.out]
            refine ⟨fun j h => ⟨(HALL.out j h (by omega)).1, (HALL.out j h (by omega)).2, fun h0 => ?_⟩, h60⟩
            have hj : j < zs.length := by rw [hzE, List.length_map]; exact h
            have := ha j hj h0
            simpa [hzE] using this
          · rw [decide_eq_false ha, HNO.out]
            intro hE
            refine ha fun i hi h0 => ?_
            have hi2 : i < es.length := by rw [hzE, List.length_map] at hi; exact hi
            have := (hE.1 i hi2).2.2 h0
            simpa [hzE] using this
        rw [HR.out] at HAS
        have HAS2 : Hid (type_of% HAS) := HAS
        clear HNO HYES HALL HEL HB HCL HZ HAS hzE how
        go_wp2_with fail
        refine HAS2.out.mono ?_
        rintro e w2 ⟨rfl, hb2⟩
        go_wp2_with fail
        go_ret
        exact ⟨rfl, hbe.trans (hb2.mono hbe.size)⟩
  · have HR : Hid (RR = false) := HNO.out fun h => h60 h.2
    have h60i : (60 : Int) < (es.length : Int) := by omega
    clear HNO HYES HEL HB HCL
    go_enter Tryd.func8, Tryd.ntmps8
    go_wp2_with fail
    go_ret
    exact ⟨by rw [HR.out]; rfl, Below.refl _ _⟩

end Go.Proofs.YtpaamlniicipbaaDoor
