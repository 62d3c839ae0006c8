/-
  The walk of impl.unionKidsOk.
-/
import Derived.Test.YthfgdeaofghnkacDoorTextO
namespace Go.Proofs.YthfgdeaofghnkacDoor
open Go.RowKit Go.Shelf

/-- whether these are right as a union's -/
def KidsRight (n : Nat) (ks : List Ty) : Prop := 2 ≤ ks.length ∧ (∀ q ∈ ks, q.kind ≠ 3 ∧ q.kind ≠ 7) ∧ Ascend (textsP n ks)

set_option maxHeartbeats 1600000 in
set_option maxRecDepth 100000 in
open Classical in
theorem implUnionKidsOk (n : Nat) (vp : Value) (ks : List Ty) (d : Int) (w : World) (hp : PartsAt w (FormAt w n) vp ks) (hr : ∀ q ∈ ks, Right n q d) (hbk : rowBulk n ks ≤ 1048576) :
    Calls Tryd.prog 55 #[vp] w fun e w' => e = .returned (.bool (decide (KidsRight n ks))) ∧ Below w.heap.size w w' := by
  obtain ⟨av, capv, rfl, hel⟩ := partsOpen hp
  have hlen : ks.length ≤ 1048576 := by unfold rowBulk at hbk; omega
  have HTX : Hid (∀ wx : World, Below w.heap.size w wx → Calls Tryd.prog 74 #[.slice av ks.length capv] wx fun e w' => ∃ (a : Option Addr) (c : Nat), e = .returned (.slice a ks.length c) ∧ w'.ownsRow wx.heap.size 9 1 (.slice a ks.length c) ks.length (strV (textsP n ks)) ∧ Below wx.heap.size wx w') := fun wx hx => implTexts n (implTextOf n) _ ks d wx (hp.below hx fun u t _ h => h.below hx) hr hbk
  have HEL : Hid (∀ k (hk : k < ks.length), ∃ b off T x, av = some ⟨b, off, none⟩ ∧ b < w.heap.size ∧ w.cell? ⟨b, off + k, none⟩ = some (.iface T x) ∧ (∃ a l c, ∀ wx : World, (Instr.typeAssert (.iface T x) 61 87 true).run Tryd.prog wx = .ok (.tuple #[.agg #[.slice a l c], .bool (decide (ks[k].kind = 3))]) wx) ∧ (∃ a l c, ∀ wx : World, (Instr.typeAssert (.iface T x) 61 94 true).run Tryd.prog wx = .ok (.tuple #[.agg #[.slice a l c], .bool (decide (ks[k].kind = 7))]) wx)) := fun k hk => by
    obtain ⟨b, off, u, h1, h2, h3⟩ := hel k hk
    obtain ⟨T, x, rfl⟩ := form_iface h3
    exact ⟨b, off, T, x, h1, World.block_lt_of_cell? w ⟨b, off + k, none⟩ h2, h2, assertAny h3, assertUnion h3 (right_kind (hr _ (List.getElem_mem hk)))⟩
  obtain ⟨RR, hRR⟩ : ∃ RR, RR = decide (KidsRight n ks) := ⟨_, rfl⟩
  rw [← hRR]
  have HNO : Hid (¬ KidsRight n ks → RR = false) := fun h => by rw [hRR]; exact decide_eq_false h
  have HYES : Hid (KidsRight n ks → RR = true) := fun h => by rw [hRR]; exact decide_eq_true h
  have HTL : Hid ((textsP n ks).length = ks.length) := textsP_len n ks
  clear hRR hp hr hbk hel
  by_cases h2 : ks.length < 2
  · have HR : Hid (RR = false) := HNO.out fun h => by have := h.1; omega
    clear HTX HEL HNO HYES HTL
    go_enter Tryd.func55, Tryd.ntmps55
    go_wp2_with fail
    go_ret
    exact ⟨by rw [HR.out]; rfl, Below.refl _ _⟩
  · go_enter Tryd.func55, Tryd.ntmps55
    go_wp2_with fail
    go_loopw [10] (fun i wr => ∃ (k : Nat), k ≤ ks.length ∧ i = .int .i64 k ∧ (∀ j (hj : j < ks.length), j < k → ks[j].kind ≠ 3 ∧ ks[j].kind ≠ 7) ∧ Below w.heap.size w wr) (fun i _ => ks.length - (intOf i).toNat)
    case atStart => exact ⟨0, Nat.zero_le _, rfl, fun j _ h => absurd h (by omega), Below.refl _ _⟩
    case round =>
      obtain ⟨k, hk, rfl, hall, hbe⟩ := hrel
      have HALL : Hid (type_of% hall) := hall
      have hzw : w.heap.size ≤ wr.heap.size := hbe.size
      clear hall
      by_cases hlt : k < ks.length
      · obtain ⟨b, off, T, x, rfl, hb, c0, ⟨a1, l1, c1, hA1⟩, ⟨a2, l2, c2, hA2⟩⟩ := HEL.out k hlt
        have C0 := (hbe.cell (p := ⟨b, off + k, none⟩) hb).trans c0
        by_cases h3 : ks[k].kind = 3
        · have HR : Hid (RR = false) := HNO.out fun h => (h.2.1 _ (List.getElem_mem hlt)).1 h3
          rw [decide_eq_true h3] at hA1
          rw [decide_eq_false (by omega)] at hA2
          clear c0 HTX HEL HNO HYES HTL HALL h3
          go_wp2_with fail
          go_ret
          exact ⟨by rw [HR.out]; rfl, hbe⟩
        · rw [decide_eq_false h3] at hA1
          by_cases h7 : ks[k].kind = 7
          · have HR : Hid (RR = false) := HNO.out fun h => (h.2.1 _ (List.getElem_mem hlt)).2 h7
            rw [decide_eq_true h7] at hA2
            clear c0 HTX HEL HNO HYES HTL HALL h7 h3
            go_wp2_with fail
            go_ret
            exact ⟨by rw [HR.out]; rfl, hbe⟩
          · rw [decide_eq_false h7] at hA2
            have HA2 : Hid (∀ j (hj : j < ks.length), j < k + 1 → ks[j].kind ≠ 3 ∧ ks[j].kind ≠ 7) := fun j hj hjk => by
              by_cases c : j = k
              · subst c; exact ⟨h3, h7⟩
              · exact HALL.out j hj (by omega)
            clear c0 HTX HEL HNO HYES HTL HALL h7 h3
            go_wp2_with fail
            go_roundw
            case rel => exact ⟨k + 1, by omega, by go_num, HA2.out, hbe⟩
            case measure => simp [intOf]; omega
      · have HAQ : Hid (∀ q ∈ ks, q.kind ≠ 3 ∧ q.kind ≠ 7) := fun q hq => by
          obtain ⟨j, hj, rfl⟩ := List.getElem_of_mem hq
          exact HALL.out j hj (by omega)
        have HRA : Hid (decide (Ascend (textsP n ks)) = RR) := by
          show _ = _
          by_cases hA : Ascend (textsP n ks)
          · rw [decide_eq_true hA]; exact (HYES.out ⟨by omega, HAQ.out, hA⟩).symm
          · rw [decide_eq_false hA]; exact (HNO.out fun h => hA h.2.2).symm
        have HT2 := HTX.out wr hbe
        have HT : Hid (type_of% HT2) := HT2
        clear HT2 HTX HEL HNO HYES HALL HAQ
        go_wp2_with fail
        refine HT.out.mono ?_
        rintro e w2 ⟨a, c, rfl, ho, hb2⟩
        have hb02 : Below w.heap.size w w2 := hbe.trans (hb2.mono hzw)
        have hTx : Texts w2 (.slice a ks.length c) (textsP n ks) := by
          rcases ho.2 with ⟨hv, h0⟩ | ⟨g, cap, cur, hv, _⟩
          · omega
          · simp only [Value.slice.injEq, true_and] at hv
            obtain ⟨rfl, rfl⟩ := hv
            have ho' := ho
            rw [← HTL.out] at ho' ⊢
            exact Texts.own ho'
        have HA0 := implAscends _ _ w2 hTx (by rw [HTL.out]; omega)
        rw [HRA.out] at HA0
        have HA : Hid (type_of% HA0) := HA0
        clear HA0 hTx ho hb2 HT HRA HTL
        go_wp2_with fail
        refine HA.out.mono ?_
        rintro e w3 ⟨rfl, hb3⟩
        go_wp2_with fail
        go_ret
        exact ⟨rfl, hb02.trans (hb3.mono hb02.size)⟩

end Go.Proofs.YthfgdeaofghnkacDoor
