/-
  The walk of spec.HasAny: whether any is in a type, by recursion on its depth.
-/
import Derived.Test.YtfmfihgmpefknacTyD
namespace Go.Proofs.Ytfmfihgmpefknac
open Go.RowKit

theorem any_more {n : Nat} {ks : List Ty} {k : Nat} (h : ∀ j (hj : j < ks.length), j < k → Ty.hasAny n ks[j] = false) (hk : k < ks.length) (e : Ty.hasAny n ks[k] = false) : ∀ j (hj : j < ks.length), j < k + 1 → Ty.hasAny n ks[j] = false := fun j hj hlt => by
  by_cases c : j = k
  · subst c; exact e
  · exact h j hj (by omega)
theorem any_none {n : Nat} {t : Ty} (h : ∀ j (hj : j < t.kids.length), Ty.hasAny n t.kids[j] = false) : Ty.hasAny (n + 1) t = decide (t.kind = 3) := by
  have : t.kids.any (Ty.hasAny n) = false := by
    rw [List.any_eq_false]
    intro x hx
    obtain ⟨j, hj, rfl⟩ := List.getElem_of_mem hx
    rw [h j hj]
    simp
  rw [Ty.hasAny, this, Bool.false_or]
theorem any_yes {n : Nat} {t : Ty} {k : Nat} (hk : k < t.kids.length) (e : Ty.hasAny n t.kids[k] = true) : Ty.hasAny (n + 1) t = true := by
  have : t.kids.any (Ty.hasAny n) = true := List.any_eq_true.2 ⟨_, List.getElem_mem hk, e⟩
  rw [Ty.hasAny, this, Bool.true_or]

set_option maxHeartbeats 800000 in
set_option maxRecDepth 100000 in
theorem specHasAny (n : Nat) : ∀ (cs : List Value) (t : Ty) (w : World), TyAt w n cs t →
    Calls Try.prog 6 #[.agg cs.toArray] w fun e w' => e = .returned (.bool (Ty.hasAny n t)) ∧ Below w.heap.size w w' := by
  induction n with
  | zero => intro cs t w h; exact h.elim
  | succ n ih =>
    intro cs t w h
    obtain ⟨vn, vk, rfl, hkd, _, _, hkl, hrow⟩ := h
    unfold maxLen at hkl
    obtain ⟨av, capv, rfl, hel⟩ : ∃ av capv, vk = .slice av t.kids.length capv ∧ ∀ j (h : j < t.kids.length), ∃ b off cs', av = some ⟨b, off, none⟩ ∧ TyAt w n cs' t.kids[j] ∧ ∀ c u, cs'[c]? = some u → w.cell? ⟨b, off + j * 4 + c, none⟩ = some u := by
      rcases hrow with ⟨h, a, cap, e⟩ | ⟨b, off, cap, e, hc⟩
      · exact ⟨a, cap, by rw [h]; exact e, fun j hj => by rw [h] at hj; simp at hj⟩
      · exact ⟨_, cap, e, fun j hj => by obtain ⟨cs', h1, h2⟩ := hc j hj; exact ⟨b, off, cs', rfl, h1, h2⟩⟩
    have HEL : Hid (∀ j (h : j < t.kids.length), ∃ b off cs', av = some ⟨b, off, none⟩ ∧ TyAt w n cs' t.kids[j] ∧ ∀ c u, cs'[c]? = some u → w.cell? ⟨b, off + j * 4 + c, none⟩ = some u) := hel
    have IH : Hid (∀ (cs : List Value) (t : Ty) (w : World), TyAt w n cs t → Calls Try.prog 6 #[.agg cs.toArray] w fun e w' => e = .returned (.bool (Ty.hasAny n t)) ∧ Below w.heap.size w w') := ih
    clear hrow hel ih
    have hkd1 := hkd.1
    have hkd2 := hkd.2
    clear hkd
    go_enter Try.func6, Try.ntmps6
    go_wp2_with fail
    go_loopw [3] (fun i wr => ∃ k : Nat, k ≤ t.kids.length ∧ i = .int .i64 k ∧ (∀ j (hj : j < t.kids.length), j < k → Ty.hasAny n t.kids[j] = false) ∧ Below (w.heap.size + 1) (w.alloc (.cells #[.int .i64 t.kind, .string t.name, vn, .slice av t.kids.length capv] 30)) wr) (fun i _ => t.kids.length - (intOf i).toNat)
    case atStart => exact ⟨0, Nat.zero_le _, rfl, fun j _ h => absurd h (by omega), Below.refl _ _⟩
    case round =>
      obtain ⟨k, hk, rfl, hno, hbe⟩ := hrel
      have HN : Hid (∀ j (hj : j < t.kids.length), j < k → Ty.hasAny n t.kids[j] = false) := hno
      clear hno
      have hb3 : wr.cell? ⟨w.heap.size, 3, none⟩ = some (.slice av t.kids.length capv) := by
        rw [hbe.cell (p := ⟨w.heap.size, 3, none⟩) (by simp)]
        simp
      have hb0 : wr.cell? ⟨w.heap.size, 0, none⟩ = some (.int .i64 t.kind) := by
        rw [hbe.cell (p := ⟨w.heap.size, 0, none⟩) (by simp)]
        simp
      have hsz : w.heap.size + 1 ≤ wr.heap.size := by have := hbe.size; simpa using this
      have hbw : Below w.heap.size w wr := ((Below.refl _ _).alloc (Nat.le_refl _) _).trans (hbe.mono (by omega))
      by_cases hlt : k < t.kids.length
      · obtain ⟨b, off, cs', rfl, hty, hcell⟩ := HEL.out k hlt
        have hty2 : TyAt wr n cs' t.kids[k] := hty.below hbw
        have hlen := hty.len
        match cs', hlen with
        | [x0, x1, x2, x3], _ =>
          have hbl : b < w.heap.size := World.block_lt_of_cell? w ⟨b, off + k * 4 + 0, none⟩ (hcell 0 x0 rfl)
          have c0 : wr.cell? ⟨b, off + k * 4, none⟩ = some x0 := (hbw.cell (p := ⟨b, off + k * 4 + 0, none⟩) hbl).trans (hcell 0 x0 rfl)
          have c1 : wr.cell? ⟨b, off + k * 4 + 1, none⟩ = some x1 := (hbw.cell (p := ⟨b, off + k * 4 + 1, none⟩) hbl).trans (hcell 1 x1 rfl)
          have c2 : wr.cell? ⟨b, off + k * 4 + 2, none⟩ = some x2 := (hbw.cell (p := ⟨b, off + k * 4 + 2, none⟩) hbl).trans (hcell 2 x2 rfl)
          have c3 : wr.cell? ⟨b, off + k * 4 + 3, none⟩ = some x3 := (hbw.cell (p := ⟨b, off + k * 4 + 3, none⟩) hbl).trans (hcell 3 x3 rfl)
          have HC : Hid (Calls Try.prog 6 #[.agg #[x0, x1, x2, x3]] wr fun e w' => e = .returned (.bool (Ty.hasAny n t.kids[k])) ∧ Below wr.heap.size wr w') := IH.out _ _ wr hty2
          have HM : Hid (Ty.hasAny n t.kids[k] = false → ∀ j (hj : j < t.kids.length), j < k + 1 → Ty.hasAny n t.kids[j] = false) := any_more HN.out hlt
          have HY : Hid (Ty.hasAny n t.kids[k] = true → Ty.hasAny (n + 1) t = true) := any_yes hlt
          clear hty hty2 hcell hlen HEL IH HN
          generalize Ty.hasAny n t.kids[k] = r at *
          go_wp2_with fail
          refine HC.out.mono ?_
          rintro e w2 ⟨rfl, hb2⟩
          have hbe2 := hbe.trans (hb2.mono hsz)
          have hbw2 : Below w.heap.size w w2 := hbw.trans (hb2.mono (by omega))
          cases r with
          | true =>
            have HX : Hid (Ty.hasAny (n + 1) t = true) := HY.out rfl
            clear HY HM HC
            go_wp2_with fail
            go_ret
            exact ⟨by rw [HX.out]; rfl, hbw2⟩
          | false =>
            have HX := HM.out rfl
            have HX2 : Hid (type_of% HX) := HX
            clear HX HY HM HC
            go_wp2_with fail
            go_roundw
            case rel => exact ⟨k + 1, by omega, by go_num, HX2.out, hbe2⟩
            case measure => simp [intOf]; omega
      · have HX : Hid (Ty.hasAny (n + 1) t = decide (t.kind = 3)) := any_none fun j hj => HN.out j hj (by omega)
        clear HN HEL IH
        go_wp2_with fail
        go_ret
        exact ⟨by rw [HX.out]; rfl, hbw⟩

end Go.Proofs.Ytfmfihgmpefknac
