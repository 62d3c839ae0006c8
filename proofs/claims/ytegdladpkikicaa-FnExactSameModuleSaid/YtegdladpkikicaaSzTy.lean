/-
  The walks of the laws' own helpers szType and szTypeS: how much a type holds, or -1 where it is more than is left.
-/
import Derived.Test.YtegdladpkikicaaTyD
import Derived.Test.YtegdladpkikicaaTextsW
namespace Go.Proofs.Ytegdladpkikicaa
open Go.RowKit

theorem bulk_texts (l : List ByteArray) : Ty.textsBulk l = sumS l := by
  induction l with
  | nil => rfl
  | cons t r ih => rw [Ty.textsBulk, sumS, ih]

/-- what is left behind so much -/
def leftOf (b : Nat) (left : Int) : Int := if (b : Int) ≤ left then left - b else -1
def rowBulk (n : Nat) (ks : List Ty) : Nat := ks.length + (ks.map (Ty.bulk n)).sum

theorem sum_more (n : Nat) (ks : List Ty) (k : Nat) (h : k < ks.length) : ((ks.take (k + 1)).map (Ty.bulk n)).sum = ((ks.take k).map (Ty.bulk n)).sum + Ty.bulk n ks[k] := by
  rw [List.take_succ_eq_append_getElem h, List.map_append, List.sum_append]
  simp
theorem sum_le (n : Nat) (ks : List Ty) (k : Nat) : ((ks.take k).map (Ty.bulk n)).sum ≤ (ks.map (Ty.bulk n)).sum := by
  have : ks.map (Ty.bulk n) = (ks.take k).map (Ty.bulk n) ++ (ks.drop k).map (Ty.bulk n) := by rw [← List.map_append, List.take_append_drop]
  rw [this, List.sum_append]
  omega

set_option maxHeartbeats 800000 in
set_option maxRecDepth 100000 in
theorem lawsSzRow (n : Nat) (ih : ∀ (cs : List Value) (t : Ty) (left : Int) (w : World), TyAt w n cs t → 0 ≤ left → left ≤ 1048576 →
      Calls Try.prog 27 #[.agg cs.toArray, .int .i64 left] w fun e w' => e = .returned (.int .i64 (leftOf (Ty.bulk n t) left)) ∧ Below w.heap.size w w')
    (v : Value) (ks : List Ty) (left : Int) (w : World) (hrow : RowAt w (TyAt w n) v ks) (hkl : ks.length ≤ maxLen) (h0 : 0 ≤ left) (h1 : left ≤ 1048576) :
    Calls Try.prog 26 #[v, .int .i64 left] w fun e w' => e = .returned (.int .i64 (leftOf (rowBulk n ks) left)) ∧ Below w.heap.size w w' := by
  unfold maxLen at hkl
  obtain ⟨av, capv, rfl, hel⟩ : ∃ av capv, v = .slice av ks.length capv ∧ ∀ j (h : j < ks.length), ∃ b off cs', av = some ⟨b, off, none⟩ ∧ TyAt w n cs' ks[j] ∧ ∀ c u, cs'[c]? = some u → w.cell? ⟨b, off + j * 4 + c, none⟩ = some u := by
    rcases hrow with ⟨h, a, cap, e⟩ | ⟨b, off, cap, e, hc⟩
    · exact ⟨a, cap, by rw [h]; exact e, fun j hj => by rw [h] at hj; simp at hj⟩
    · exact ⟨_, cap, e, fun j hj => by obtain ⟨cs', h1, h2⟩ := hc j hj; exact ⟨b, off, cs', rfl, h1, h2⟩⟩
  have HEL : Hid (∀ j (h : j < ks.length), ∃ b off cs', av = some ⟨b, off, none⟩ ∧ TyAt w n cs' ks[j] ∧ ∀ c u, cs'[c]? = some u → w.cell? ⟨b, off + j * 4 + c, none⟩ = some u) := hel
  have IH : Hid (∀ (cs : List Value) (t : Ty) (left : Int) (w : World), TyAt w n cs t → 0 ≤ left → left ≤ 1048576 → Calls Try.prog 27 #[.agg cs.toArray, .int .i64 left] w fun e w' => e = .returned (.int .i64 (leftOf (Ty.bulk n t) left)) ∧ Below w.heap.size w w') := ih
  clear hrow hel ih
  by_cases hneg : left - (ks.length : Int) < 0
  · have HR : Hid (leftOf (rowBulk n ks) left = -1) := if_neg (by unfold rowBulk; omega)
    clear HEL IH
    go_enter Try.func26, Try.ntmps26
    go_wp2_with fail
    go_ret
    exact ⟨by rw [HR.out]; rfl, Below.refl _ _⟩
  · go_enter Try.func26, Try.ntmps26
    go_wp2_with fail
    go_loopw [1, 5] (fun l i wr => ∃ k : Nat, k ≤ ks.length ∧ i = .int .i64 k ∧ l = .int .i64 (left - ks.length - (((ks.take k).map (Ty.bulk n)).sum : Nat)) ∧ ((((ks.take k).map (Ty.bulk n)).sum : Nat) : Int) ≤ left - ks.length ∧ Below w.heap.size w wr) (fun _ i _ => ks.length - (intOf i).toNat)
    case atStart => exact ⟨0, Nat.zero_le _, rfl, by simp, by simp; omega, Below.refl _ _⟩
    case round =>
      obtain ⟨k, hk, rfl, rfl, hle, hbe⟩ := hrel
      by_cases hlt : k < ks.length
      · obtain ⟨b, off, cs', rfl, hty, hcell⟩ := HEL.out k hlt
        have hty2 : TyAt wr n cs' ks[k] := hty.below hbe
        have hlen := hty.len
        have HM : Hid (((ks.take (k + 1)).map (Ty.bulk n)).sum = ((ks.take k).map (Ty.bulk n)).sum + Ty.bulk n ks[k]) := sum_more n ks k hlt
        have HL : Hid (((ks.take (k + 1)).map (Ty.bulk n)).sum ≤ (ks.map (Ty.bulk n)).sum) := sum_le n ks (k + 1)
        match cs', hlen with
        | [x0, x1, x2, x3], _ =>
          have hbl : b < w.heap.size := World.block_lt_of_cell? w ⟨b, off + k * 4 + 0, none⟩ (hcell 0 x0 rfl)
          have c0 : wr.cell? ⟨b, off + k * 4, none⟩ = some x0 := (hbe.cell (p := ⟨b, off + k * 4 + 0, none⟩) hbl).trans (hcell 0 x0 rfl)
          have c1 : wr.cell? ⟨b, off + k * 4 + 1, none⟩ = some x1 := (hbe.cell (p := ⟨b, off + k * 4 + 1, none⟩) hbl).trans (hcell 1 x1 rfl)
          have c2 : wr.cell? ⟨b, off + k * 4 + 2, none⟩ = some x2 := (hbe.cell (p := ⟨b, off + k * 4 + 2, none⟩) hbl).trans (hcell 2 x2 rfl)
          have c3 : wr.cell? ⟨b, off + k * 4 + 3, none⟩ = some x3 := (hbe.cell (p := ⟨b, off + k * 4 + 3, none⟩) hbl).trans (hcell 3 x3 rfl)
          generalize hS : ((ks.take k).map (Ty.bulk n)).sum = S at *
          have HC : Hid (Calls Try.prog 27 #[.agg #[x0, x1, x2, x3], .int .i64 (left - ks.length - (S : Nat))] wr fun e w' => e = .returned (.int .i64 (leftOf (Ty.bulk n ks[k]) (left - ks.length - (S : Nat)))) ∧ Below wr.heap.size wr w') := IH.out _ _ _ wr hty2 (by omega) (by omega)
          clear hS hty hty2 hcell hlen HEL IH
          generalize Ty.bulk n ks[k] = bk at *
          by_cases hbk : ((S + bk : Nat) : Int) ≤ left - ks.length
          · have e1 : leftOf bk (left - ks.length - (S : Nat)) = left - ks.length - ((S + bk : Nat) : Int) := by
              unfold leftOf
              rw [if_pos (by omega)]
              omega
            rw [e1] at HC
            have hnn : ¬ left - (ks.length : Int) - ((S + bk : Nat) : Int) < 0 := by omega
            clear e1
            generalize hq : S + bk = Q at *
            have HQ : Hid (((ks.take (k + 1)).map (Ty.bulk n)).sum = Q) := HM.out.trans rfl
            clear hq HM HL
            go_wp2_with fail
            refine HC.out.mono ?_
            rintro e w2 ⟨rfl, hb2⟩
            have hbe2 : Below w.heap.size w w2 := hbe.trans (hb2.mono hbe.size)
            go_wp2_with fail
            go_roundw
            case rel => exact ⟨k + 1, by omega, by go_num, by rw [HQ.out], by rw [HQ.out]; exact hbk, hbe2⟩
            case measure => simp [intOf]; omega
          · have e1 : leftOf bk (left - ks.length - (S : Nat)) = -1 := if_neg (by omega)
            rw [e1] at HC
            have HR : Hid (leftOf (rowBulk n ks) left = -1) := if_neg (by
              have h1 := HM.out
              have h2 := HL.out
              unfold rowBulk
              omega)
            clear e1 HM HL
            go_wp2_with fail
            refine HC.out.mono ?_
            rintro e w2 ⟨rfl, hb2⟩
            have hbe2 : Below w.heap.size w w2 := hbe.trans (hb2.mono hbe.size)
            go_wp2_with fail
            go_ret
            exact ⟨by rw [HR.out]; rfl, hbe2⟩
      · have hke : k = ks.length := by omega
        subst hke
        rw [List.take_of_length_le (Nat.le_refl _)] at hle ⊢
        have HR : Hid (leftOf (rowBulk n ks) left = left - ks.length - ((ks.map (Ty.bulk n)).sum : Nat)) := by
          show _ = _
          unfold leftOf rowBulk
          rw [if_pos (by omega)]
          omega
        generalize (ks.map (Ty.bulk n)).sum = S at *
        clear HEL IH
        go_wp2_with fail
        go_ret
        exact ⟨by rw [HR.out]; rfl, hbe⟩

set_option maxHeartbeats 800000 in
set_option maxRecDepth 100000 in
theorem lawsSzTy (n : Nat) : ∀ (cs : List Value) (t : Ty) (left : Int) (w : World), TyAt w n cs t → 0 ≤ left → left ≤ 1048576 →
    Calls Try.prog 27 #[.agg cs.toArray, .int .i64 left] w fun e w' => e = .returned (.int .i64 (leftOf (Ty.bulk n t) left)) ∧ Below w.heap.size w w' := by
  induction n with
  | zero => intro cs t left w h; exact h.elim
  | succ n ih =>
    intro cs t left w h h0 h1
    obtain ⟨vn, vk, rfl, hkd, hnm, ⟨hT, hTl, hTs⟩, hkl, hrow⟩ := h
    have hB1 : Below w.heap.size w (w.alloc (.cells #[.int .i64 t.kind, .string t.name, vn, vk] 54)) := (Below.refl _ _).alloc (Nat.le_refl _) _
    have HT : Hid (∀ l : Int, -1 ≤ l → l ≤ 1048576 → Calls Try.prog 9 #[vn, .int .i64 l] (w.alloc (.cells #[.int .i64 t.kind, .string t.name, vn, vk] 54)) fun e w' => e = .returned (.int .i64 (szS t.names l)) ∧ (w.alloc (.cells #[.int .i64 t.kind, .string t.name, vn, vk] 54)) = w') := fun l a b => lawsSz vn t.names l _ (hT.below hB1) hTl hTs a b
    have hrow1 : RowAt (w.alloc (.cells #[.int .i64 t.kind, .string t.name, vn, vk] 54)) (TyAt (w.alloc (.cells #[.int .i64 t.kind, .string t.name, vn, vk] 54)) n) vk t.kids := hrow.below hB1 fun cs t _ h => h.below hB1
    have HK : Hid (∀ l : Int, 0 ≤ l → l ≤ 1048576 → Calls Try.prog 26 #[vk, .int .i64 l] (w.alloc (.cells #[.int .i64 t.kind, .string t.name, vn, vk] 54)) fun e w' => e = .returned (.int .i64 (leftOf (rowBulk n t.kids) l)) ∧ Below (w.alloc (.cells #[.int .i64 t.kind, .string t.name, vn, vk] 54)).heap.size (w.alloc (.cells #[.int .i64 t.kind, .string t.name, vn, vk] 54)) w') := fun l a b => lawsSzRow n ih vk t.kids l _ hrow1 hkl a b
    have hbk : Ty.bulk (n + 1) t = t.name.size + (t.names.length + sumS t.names) + rowBulk n t.kids := by
      rw [Ty.bulk, bulk_texts]
      rfl
    unfold maxLen at hnm
    clear hrow hrow1 hT hTl hTs hkl ih hkd
    rw [hbk]
    have hszS : ∀ l : Int, szS t.names l = leftOf (t.names.length + sumS t.names) l := fun l => by
      unfold szS leftOf
      by_cases c : (t.names.length : Int) + sumS t.names ≤ l
      · rw [if_pos c, if_pos (by omega)]; omega
      · rw [if_neg c, if_neg (by omega)]
    have HT2 : Hid (∀ l : Int, -1 ≤ l → l ≤ 1048576 → Calls Try.prog 9 #[vn, .int .i64 l] (w.alloc (.cells #[.int .i64 t.kind, .string t.name, vn, vk] 54)) fun e w' => e = .returned (.int .i64 (leftOf (t.names.length + sumS t.names) l)) ∧ (w.alloc (.cells #[.int .i64 t.kind, .string t.name, vn, vk] 54)) = w') := fun l a b => by
      rw [← hszS]
      exact HT.out l a b
    clear hszS HT hbk
    generalize t.names.length + sumS t.names = A at *
    generalize rowBulk n t.kids = K at *
    by_cases d1 : left - (t.name.size : Int) < 0
    · have HR : Hid (leftOf (t.name.size + A + K) left = -1) := if_neg (by omega)
      clear HT2 HK
      go_enter Try.func27, Try.ntmps27
      go_wp2_with fail
      go_ret
      exact ⟨by rw [HR.out]; rfl, hB1⟩
    · have HT3 := HT2.out (left - t.name.size) (by omega) (by omega)
      by_cases d2 : ((t.name.size + A : Nat) : Int) ≤ left
      · have e2 : leftOf A (left - t.name.size) = left - t.name.size - A := if_pos (by omega)
        rw [e2] at HT3
        have HT4 : Hid (type_of% HT3) := HT3
        have HK3 := HK.out (left - t.name.size - A) (by omega) (by omega)
        have d2n : ¬ left - (t.name.size : Int) - A < 0 := by omega
        clear HT3 HT2 HK e2
        by_cases d3 : ((t.name.size + A + K : Nat) : Int) ≤ left
        · have e3 : leftOf K (left - t.name.size - A) = left - t.name.size - A - K := if_pos (by omega)
          rw [e3] at HK3
          have HK4 : Hid (type_of% HK3) := HK3
          have HR : Hid (leftOf (t.name.size + A + K) left = left - t.name.size - A - K) := by
            show _ = _
            unfold leftOf
            rw [if_pos d3]
            omega
          have d3n : ¬ left - (t.name.size : Int) - A - K < 0 := by omega
          clear HK3 e3 d2 d3
          go_enter Try.func27, Try.ntmps27
          go_wp2_with fail
          refine HT4.out.mono ?_
          rintro e w2 ⟨rfl, rfl⟩
          go_wp2_with fail
          refine HK4.out.mono ?_
          rintro e w3 ⟨rfl, hb3⟩
          go_wp2_with fail
          go_ret
          exact ⟨by rw [HR.out]; rfl, hB1.trans (hb3.mono (by simp))⟩
        · have e3 : leftOf K (left - t.name.size - A) = -1 := if_neg (by omega)
          rw [e3] at HK3
          have HK4 : Hid (type_of% HK3) := HK3
          have HR : Hid (leftOf (t.name.size + A + K) left = -1) := if_neg d3
          clear HK3 e3 d2 d3
          go_enter Try.func27, Try.ntmps27
          go_wp2_with fail
          refine HT4.out.mono ?_
          rintro e w2 ⟨rfl, rfl⟩
          go_wp2_with fail
          refine HK4.out.mono ?_
          rintro e w3 ⟨rfl, hb3⟩
          go_wp2_with fail
          go_ret
          exact ⟨by rw [HR.out]; rfl, hB1.trans (hb3.mono (by simp))⟩
      · have e2 : leftOf A (left - t.name.size) = -1 := if_neg (by omega)
        rw [e2] at HT3
        have HT4 : Hid (type_of% HT3) := HT3
        have HR : Hid (leftOf (t.name.size + A + K) left = -1) := if_neg (by omega)
        clear HT3 HT2 HK e2 d2
        go_enter Try.func27, Try.ntmps27
        go_wp2_with fail
        refine HT4.out.mono ?_
        rintro e w2 ⟨rfl, rfl⟩
        go_wp2_with fail
        go_ret
        exact ⟨by rw [HR.out]; rfl, hB1⟩

end Go.Proofs.Ytegdladpkikicaa
