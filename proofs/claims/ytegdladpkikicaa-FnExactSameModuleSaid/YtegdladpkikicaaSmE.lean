/-
  The walk of slices.Equal at texts.
-/
import Derived.Test.YtegdladpkikicaaSmS
namespace Go.Proofs.Ytegdladpkikicaa
open Go.RowKit

set_option maxHeartbeats 800000 in
set_option maxRecDepth 100000 in
open Classical in
theorem implEqualT (va vb : Value) (ts us : List ByteArray) (w : World) (hA : Texts w va ts) (hB : Texts w vb us) (hl : ts.length ≤ 1048576) :
    Calls Try.prog 16 #[va, vb] w fun e w' => e = .returned (.bool (decide (ts = us))) ∧ Below w.heap.size w w' := by
  obtain ⟨a, ca, rfl, ha⟩ := textsOpenS hA
  obtain ⟨b, cb, rfl, hb⟩ := textsOpenS hB
  have HA : Hid (type_of% ha) := ha
  have HB : Hid (type_of% hb) := hb
  clear hA hB ha hb
  by_cases hn : ts.length = us.length
  · have HN : Hid (type_of% hn) := hn
    rw [← hn]
    clear hn
    go_enter Try.func16, Try.ntmps16
    go_wp2_with fail
    go_loopw [13] (fun i wr => ∃ k : Nat, k ≤ ts.length ∧ i = .int .i64 k ∧ (∀ j (h : j < ts.length) (h' : j < us.length), j < k → ts[j] = us[j]) ∧ Below w.heap.size w wr) (fun i _ => ts.length - (intOf i).toNat)
    case atStart => exact ⟨0, Nat.zero_le _, rfl, fun j _ _ h => absurd h (by omega), Below.refl _ _⟩
    case round =>
      obtain ⟨k, hk, rfl, heq, hbe⟩ := hrel
      by_cases hlt : k < ts.length
      · have hlt2 : k < us.length := by rw [← HN.out]; exact hlt
        obtain ⟨b1, o1, rfl, h1⟩ := HA.out k hlt
        obtain ⟨b2, o2, rfl, h2⟩ := HB.out k hlt2
        have c1 := (hbe.cell (p := ⟨b1, o1 + k, none⟩) (World.block_lt_of_cell? w ⟨b1, o1 + k, none⟩ h1)).trans h1
        have c2 := (hbe.cell (p := ⟨b2, o2 + k, none⟩) (World.block_lt_of_cell? w ⟨b2, o2 + k, none⟩ h2)).trans h2
        have HEQ : Hid (type_of% heq) := heq
        have HKE : Hid (ts[k] = us[k] → ∀ j (h : j < ts.length) (h' : j < us.length), j < k + 1 → ts[j] = us[j]) := fun e j h h' hj => by
          by_cases c : j < k
          · exact heq j h h' c
          · obtain rfl : j = k := by omega
            exact e
        have HNE : Hid (ts[k] ≠ us[k] → ts ≠ us) := fun e e2 => by
          subst e2
          exact e rfl
        have hk0 : (0 : Int) ≤ k := by omega
        have hk1 : (k : Int) < ts.length := by omega
        clear h1 h2 HA HB heq HEQ
        generalize ts[k] = x at *
        generalize us[k] = y at *
        by_cases hxy : x = y
        · have HK2 : Hid (type_of% (HKE.out hxy)) := HKE.out hxy
          clear HKE HNE
          subst hxy
          have hxl : (x.toList == x.toList) = true := beq_self_eq_true _
          go_wp2_with fail
          go_region
          all_goals
            go_wp2_with fail
            go_roundw
            case rel => exact ⟨k + 1, by omega, by go_num, HK2.out, hbe.drew⟩
            case measure => simp [intOf]; omega
        · have HR : Hid (decide (ts = us) = false) := decide_eq_false (HNE.out hxy)
          have hxl := text_otherS hxy
          go_wp2_with fail
          go_region
          all_goals
            go_wp2_with fail
            go_ret
            exact ⟨by rw [HR.out]; rfl, hbe.drew⟩
      · have HR : Hid (decide (ts = us) = true) := decide_eq_true (List.ext_getElem HN.out fun j h1 h2 => heq j h1 h2 (by omega))
        clear HA HB heq
        go_wp2_with fail
        go_ret
        exact ⟨by rw [HR.out]; rfl, hbe⟩
  · have HR : Hid (decide (ts = us) = false) := decide_eq_false fun e => hn (by rw [e])
    have hni : ¬ (ts.length : Int) = (us.length : Int) := by omega
    clear HA HB hn
    go_enter Try.func16, Try.ntmps16
    go_wp2_with fail
    go_ret
    exact ⟨by rw [HR.out]; rfl, Below.refl _ _⟩

end Go.Proofs.Ytegdladpkikicaa
