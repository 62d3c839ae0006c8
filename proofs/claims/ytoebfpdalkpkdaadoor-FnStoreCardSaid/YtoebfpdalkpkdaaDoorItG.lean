/-
  The walk of spec.StoreDrop.
-/
import Derived.Test.YtoebfpdalkpkdaaDoorItE
import Derived.Test.YtoebfpdalkpkdaaDoorItS
import Derived.Test.YtoebfpdalkpkdaaDoorItF
namespace Go.Proofs.YtoebfpdalkpkdaaDoor
open Go.RowKit

theorem ret_specDrop {R : Ending → World → Prop} {W : World} {tmps : Array Value} {b : Nat} {x0 x1 : Value} (hp : tmps[4]?.getD undef = .pointer (some ⟨b, 0, none⟩))
    (h : W.cell? ⟨b, 0, none⟩ = some x0 ∧ W.cell? ⟨b, 1, none⟩ = some x1) (hR : R (.returned (.agg #[x0, x1])) W) :
    bodyPost Tryd.prog Tryd.f19 R .ret { tmps := tmps, defers := [] } W := by
  obtain ⟨h0, h1⟩ := h
  refine bodyPost_ret (v := .agg #[x0, x1]) ?_ rfl hR
  simp [results, Tryd.results19, go_sem, hp, h0, h1]

set_option maxHeartbeats 1600000 in
set_option maxRecDepth 100000 in
open Classical in
theorem specStoreDrop (room n : Int) (av : Option Addr) (cap : Nat) (es : List Itm) (w : World) (hav : av = none → cap = 0) (hrow : ItAt w (.slice av es.length cap) es) (hb : itsBulk es ≤ 4194304) (k : Nat) (hk : DropIs room es n k) :
    Calls Tryd.prog 19 #[.agg #[.int .i64 room, .slice av es.length cap], .int .i64 n] w fun e w' => ∃ a c, e = .returned (.agg #[.int .i64 room, .slice a k c]) ∧ w'.ownsRow w.heap.size 50 3 (.slice a k c) k (itV (es.take k)) ∧ Below w.heap.size w w' := by
  obtain ⟨i0, hi0, hz0, hz1, hz2⟩ := info_parts Tryd.infoItem
  have hlen : es.length ≤ 4194304 := by unfold itsBulk at hb; omega
  have hB2 : Below w.heap.size w ((w.alloc (.cells #[.int .i64 room, .slice av es.length cap] 29)).alloc (.cells #[.int .i64 0, .slice none 0 0] 29)) := ((Below.refl _ _).alloc (Nat.le_refl _) _).alloc (by simp) _
  have hzW : ((w.alloc (.cells #[.int .i64 room, .slice av es.length cap] 29)).alloc (.cells #[.int .i64 0, .slice none 0 0] 29)).heap.size = w.heap.size + 1 + 1 := by simp
  have a0 : ((w.alloc (.cells #[.int .i64 room, .slice av es.length cap] 29)).alloc (.cells #[.int .i64 0, .slice none 0 0] 29)).cell? ⟨w.heap.size, 0, none⟩ = some (.int .i64 room) := by rw [itOld _ (by simp), itNew _ rfl]; rfl
  have a1 : ((w.alloc (.cells #[.int .i64 room, .slice av es.length cap] 29)).alloc (.cells #[.int .i64 0, .slice none 0 0] 29)).cell? ⟨w.heap.size, 1, none⟩ = some (.slice av es.length cap) := by rw [itOld _ (by simp), itNew _ rfl]; rfl
  have r0 : ((w.alloc (.cells #[.int .i64 room, .slice av es.length cap] 29)).alloc (.cells #[.int .i64 0, .slice none 0 0] 29)).heap[w.heap.size + 1]? = some (.cells #[.int .i64 0, .slice none 0 0] 29 (0, 0)) := by
    have := (MapKept.heap_alloc (w.alloc (.cells #[.int .i64 room, .slice av es.length cap] 29)) (.cells #[.int .i64 0, .slice none 0 0] 29)).1
    rwa [show (w.alloc (.cells #[.int .i64 room, .slice av es.length cap] 29)).heap.size = w.heap.size + 1 from by simp] at this
  have HCP : Hid (type_of% (specCopyStore room av cap es _ hav (hrow.below hB2) hlen)) := specCopyStore room av cap es _ hav (hrow.below hB2) hlen
  have HSO : Hid (∀ X, Below w.heap.size w X → Calls Tryd.prog 9 #[.agg #[.int .i64 room, .slice av es.length cap]] X fun e w' => e = .returned (.bool (decide (StoreRight room es))) ∧ Below X.heap.size X w') := fun X hX => specStoreOk room _ es X (hrow.below hX) hb
  have HKK : Hid (type_of% hk) := hk
  clear hrow hb hk
  go_enter Tryd.func19, Tryd.ntmps19
  go_wp2_with fail
  generalize ((w.alloc (.cells #[.int .i64 room, .slice av es.length cap] 29)).alloc (.cells #[.int .i64 0, .slice none 0 0] 29)) = W2 at *
  have hs0 : w.heap.size < W2.heap.size := by omega
  have hs1 : w.heap.size + 1 < W2.heap.size := by omega
  clear hzW
  refine HCP.out.mono ?_
  rintro e w3 ⟨g, c, rfl, ho3, hb3⟩
  have bX : Below w3.heap.size w3 (w3.alloc (.cells #[.int .i64 room, .slice (some ⟨g, 0, none⟩) es.length c] 29)) := (Below.refl _ _).alloc (Nat.le_refl _) _
  have hX : (w3.alloc (.cells #[.int .i64 room, .slice (some ⟨g, 0, none⟩) es.length c] 29)).heap[w3.heap.size]? = some (.cells #[.int .i64 room, .slice (some ⟨g, 0, none⟩) es.length c] 29 (0, 0)) := (MapKept.heap_alloc w3 _).1
  have hzX : w3.heap.size < (w3.alloc (.cells #[.int .i64 room, .slice (some ⟨g, 0, none⟩) es.length c] 29)).heap.size := by simp
  have hz3 := hb3.size
  have HA : Hid (∀ Y : World, Below (w3.alloc (.cells #[.int .i64 room, .slice (some ⟨g, 0, none⟩) es.length c] 29)).heap.size (w3.alloc (.cells #[.int .i64 room, .slice (some ⟨g, 0, none⟩) es.length c] 29)) Y → (Y.cell? ⟨w.heap.size, 0, none⟩ = some (.int .i64 room) ∧ Y.cell? ⟨w.heap.size, 1, none⟩ = some (.slice av es.length cap)) ∧ Y.heap[w3.heap.size]? = some (.cells #[.int .i64 room, .slice (some ⟨g, 0, none⟩) es.length c] 29 (0, 0)) ∧ Y.ownsRow W2.heap.size 50 3 (.slice (some ⟨g, 0, none⟩) es.length c) es.length (itV es) ∧ Below W2.heap.size W2 Y ∧ Below w.heap.size w Y) := fun Y hY => by
    have h23 : Below W2.heap.size W2 Y := hb3.trans ((bX.trans (hY.mono bX.size)).mono hz3)
    exact ⟨⟨(h23.cell (p := ⟨w.heap.size, 0, none⟩) hs0).trans a0, (h23.cell (p := ⟨w.heap.size, 1, none⟩) hs0).trans a1⟩, (hY.block _ hzX).trans hX, itKept ho3 (bX.trans (hY.mono bX.size)), h23, hB2.trans (h23.mono (by omega))⟩
  obtain ⟨⟨p0, p1⟩, _, _, _, hbX⟩ := HA.out _ (Below.refl _ _)
  have HS1 : Hid (type_of% (HSO.out _ hbX)) := HSO.out _ hbX
  clear HCP HSO a0 a1 ho3 hb3 hbX hX
  go_wp2_with fail
  generalize (w3.alloc (.cells #[.int .i64 room, .slice (some ⟨g, 0, none⟩) es.length c] 29)) = X at *
  refine HS1.out.mono ?_
  rintro e w4 ⟨rfl, hb4⟩
  obtain ⟨_, hx4, ho4, h24, hw4⟩ := HA.out w4 hb4
  have hg4 : g < w4.heap.size ∧ W2.heap.size ≤ g := by
    have := ho4.lt g rfl
    exact ⟨this.2, this.1⟩
  have o0 : w4.cell? ⟨w3.heap.size, 0, none⟩ = some (.int .i64 room) := by rw [cell_of_row _ _ 0 _ _ (0, 0) hx4]; rfl
  have o1 : w4.cell? ⟨w3.heap.size, 1, none⟩ = some (.slice (some ⟨g, 0, none⟩) es.length c) := by rw [cell_of_row _ _ 1 _ _ (0, 0) hx4]; rfl
  have of1 := frozen_of_row w4 w3.heap.size 1 _ _ hx4
  have HIN : Hid (∀ wx, Calls Tryd.prog 28 #[.int .i64 n, .int .i64 0, .int .i64 100] wx fun e w' => e = .returned (.bool (decide (0 ≤ n) && decide (n ≤ 100))) ∧ w' = wx) := fun wx => specIn n 0 100 wx
  clear HS1 HA p0 p1 bX
  by_cases hgo : StoreRight room es ∧ 0 ≤ n ∧ n ≤ 100
  · have HD : Hid (k = es.length - n.toNat) := HKK.out.1 hgo
    obtain ⟨hyes, hn0, hn1⟩ := hgo
    rw [decide_eq_true hn0, decide_eq_true hn1] at HIN
    rw [decide_eq_true hyes]
    clear hyes HKK
    have hkl : k ≤ es.length := by have := HD.out; omega
    have hcap : es.length ≤ c := by
      rcases ho4.2 with ⟨e, _⟩ | ⟨g', cap', cur, e, _, _, h1, _⟩
      · cases e
      · simp only [Value.slice.injEq, true_and] at e
        rw [e.2]
        exact h1
    have hlk : (es.take k).length = k := by simp; omega
    have HFI : Hid (w4.ownsRow W2.heap.size 50 3 (.slice (some ⟨g, 0, none⟩) k c) k (itV (es.take k))) := by
      by_cases h0 : es.length = 0
      · have hk0 : k = 0 := by omega
        rw [h0, List.length_eq_zero_iff.1 h0] at ho4
        rw [hk0, List.length_eq_zero_iff.1 h0]
        exact ho4
      · exact own_firstI ho4 rfl hkl (by omega)
    have hgl : g < w4.heap.size := hg4.1
    have bE : Below w4.heap.size w4 (w4.alloc (.cells #[] 50)) := (Below.refl _ _).alloc (Nat.le_refl _) _
    have hE : (w4.alloc (.cells #[] 50)).ownsRow w4.heap.size 50 3 (.slice (some ⟨w4.heap.size, 0, none⟩) 0 0) 0 [] := own_emptyI (MapKept.heap_alloc w4 _).1 (Nat.le_refl _)
    obtain ⟨L, hL⟩ : ∃ L, L = es.take k := ⟨_, rfl⟩
    have HLL : Hid (type_of% hL) := hL
    have HCE : Hid (∀ j u, (itV L)[j]? = some u → (w4.alloc (.cells #[] 50)).cell? ((⟨g, 0, none⟩ : Addr).add j) = some u) := by
      rw [hL]
      have hat : ItAt w4 (.slice (some ⟨g, 0, none⟩) (es.take k).length c) (es.take k) := by
        rw [hlk]
        exact itRow (es := es.take k) (by rw [hlk]; exact HFI.out)
      exact itCellsAd hat _ bE
    have hx5 : w3.heap.size < w4.heap.size := (Array.getElem?_eq_some_iff.1 hx4).1
    have HEND : Hid (∀ (w5 : World) (v5 : Value), w5.ownsRow w4.heap.size 50 3 v5 k (itV L) → (w4.alloc (.cells #[] 50)).grownBy w5 (some w4.heap.size) → ¬ v5 = .slice none 0 0 → ∃ g5 c5, v5 = .slice (some ⟨g5, 0, none⟩) k c5 ∧ w5.cell? ⟨w3.heap.size, 0, none⟩ = some (.int .i64 room) ∧ w5.cell? ⟨w3.heap.size, 1, none⟩ = some (.slice (some ⟨g, 0, none⟩) es.length c) ∧ w5.frozen? ⟨w3.heap.size, 1, none⟩ = false ∧ Hid ((w5.setCell ⟨w3.heap.size, 1, none⟩ v5).ownsRow W2.heap.size 50 3 v5 k (itV L) ∧ Below W2.heap.size W2 (w5.setCell ⟨w3.heap.size, 1, none⟩ v5))) := fun w5 v5 ho' hg hiff => by
      have b5 : Below w4.heap.size w4 w5 := bE.grown hg (by simp) (fun k hk => by simp only [Option.some.injEq] at hk; omega)
      obtain ⟨g5, c5, hv⟩ := own_someI ho' hiff
      have hx6 := (b5.block _ hx5).trans hx4
      refine ⟨g5, c5, hv, ?_, ?_, frozen_of_row w5 _ 1 _ _ hx6, ?_, ?_⟩
      · rw [cell_of_row _ _ 0 _ _ (0, 0) hx6]; rfl
      · rw [cell_of_row _ _ 1 _ _ (0, 0) hx6]; rfl
      · refine itLow ho' h24.size fun g' hg' => ?_
        have hgl' := (ho'.lt g' hg').1
        rw [Below.heap_setCell _ _ _ _ (by simp; omega)]
      · exact (h24.trans (b5.mono h24.size)).setCell (by simpa using hz3) _
    have HBX : Hid (∀ (w6 : World) (a : Option Addr) (c m : Nat) (L : List Itm), w6.ownsRow W2.heap.size 50 3 (.slice a m c) m (itV L) → Below W2.heap.size W2 w6 → _) := fun w6 a c m L h1 h2 => boxEnd (room := room) hB2 hs1 r0 h1 h2
    have HLk : Hid (L.length * 3 = k * 3) := by
      show _ = _
      rw [hL, hlk]
    clear r0 hB2 hx4 ho4 h24 hw4 HFI hlk hL
    by_cases hbig : (es.length : Int) < n
    · have hk0 : k = 0 := by have := HD.out; omega
      clear HD
      subst hk0
      have hc0 : (0 : Int) ≤ (c : Int) := by omega
      go_wp2_with (first | (go_at_call 28; refine (HIN.out _).mono ?_; rintro e wi ⟨rfl, hwi⟩; rw [hwi]; clear hwi wi) | (at_builtin; refine wpList_append_own _ rfl _ _ 27 rfl w4.heap.size 50 i0 (.agg #[.string ⟨#[]⟩, .string ⟨#[]⟩, .string ⟨#[]⟩]) 3 48 Tryd.underlying27 hi0 hz0 hz1 hz2 rfl (by decide) _ _ _ rfl hE ⟨g, 0, none⟩ 0 c (itV L) rfl (by rw [itV_length, HLk.out]) HCE.out (itV_one _) (by unfold maxLen; omega) (by omega) (by simp) ?_))
      intro v5 w5 o5 g5 n5
      obtain ⟨g6, c6, rfl, p0, p1, pf, HR⟩ := HEND.out w5 v5 o5 g5 n5
      obtain ⟨d0, d1, f0, f1, HF⟩ := HBX.out _ _ _ _ _ HR.out.1 HR.out.2
      clear HEND HBX HR o5 g5 n5 hE bE HCE HIN o0 o1 of1
      go_wp2_with fail
      obtain ⟨q0, q1, q2, q3⟩ := HF.out
      refine ret_specDrop (b := w.heap.size + 1) rfl ⟨q0, q1⟩ ⟨some ⟨g6, 0, none⟩, c6, rfl, ?_, q3⟩
      rw [← HLL.out]
      exact q2
    · have hkn : ((es.length : Int) - n).toNat = k := by have := HD.out; omega
      have hkn2 : (es.length : Int) - n = (k : Int) := by have := HD.out; omega
      clear HD
      have hkc : (k : Int) ≤ (c : Int) := by omega
      have hk0 : (0 : Int) ≤ (k : Int) := by omega
      go_wp2_with (first | (go_at_call 28; refine (HIN.out _).mono ?_; rintro e wi ⟨rfl, hwi⟩; rw [hwi]; clear hwi wi) | (at_builtin; refine wpList_append_own _ rfl _ _ 27 rfl w4.heap.size 50 i0 (.agg #[.string ⟨#[]⟩, .string ⟨#[]⟩, .string ⟨#[]⟩]) 3 48 Tryd.underlying27 hi0 hz0 hz1 hz2 rfl (by decide) _ _ _ rfl hE ⟨g, 0, none⟩ k c (itV L) rfl (by rw [itV_length, HLk.out]) HCE.out (itV_one _) (by unfold maxLen; omega) (by omega) (by simp) ?_))
      intro v5 w5 o5 g5 n5
      obtain ⟨g6, c6, rfl, p0, p1, pf, HR⟩ := HEND.out w5 v5 o5 g5 n5
      obtain ⟨d0, d1, f0, f1, HF⟩ := HBX.out _ _ _ _ _ HR.out.1 HR.out.2
      clear HEND HBX HR o5 g5 n5 hE bE HCE HIN o0 o1 of1
      go_wp2_with fail
      obtain ⟨q0, q1, q2, q3⟩ := HF.out
      refine ret_specDrop (b := w.heap.size + 1) rfl ⟨q0, q1⟩ ⟨some ⟨g6, 0, none⟩, c6, rfl, ?_, q3⟩
      rw [← HLL.out]
      exact q2
  · have HD : Hid (k = es.length) := HKK.out.2 hgo
    have HTK : Hid (es.take es.length = es) := List.take_of_length_le (Nat.le_refl _)
    obtain ⟨d0, d1, f0, f1, HF⟩ := boxEnd (room := room) hB2 hs1 r0 ho4 h24
    clear r0 hB2 ho4 h24 hw4 hx4 HKK
    by_cases hyes : StoreRight room es
    · have hin : (decide (0 ≤ n) && decide (n ≤ 100)) = false := by
        by_cases q0 : 0 ≤ n
        · by_cases q1 : n ≤ 100
          · exact absurd ⟨hyes, q0, q1⟩ hgo
          · rw [decide_eq_false q1, Bool.and_false]
        · rw [decide_eq_false q0, Bool.false_and]
      rw [hin] at HIN
      rw [decide_eq_true hyes]
      clear hin hgo hyes
      go_wp2_with (go_at_call 28; refine (HIN.out _).mono ?_; rintro e w5 ⟨rfl, rfl⟩)
      obtain ⟨q0, q1, q2, q3⟩ := HF.out
      refine ret_specDrop (b := w.heap.size + 1) rfl ⟨q0, q1⟩ ⟨some ⟨g, 0, none⟩, c, ?_⟩
      rw [HD.out, HTK.out]
      exact ⟨rfl, q2, q3⟩
    · rw [decide_eq_false hyes]
      clear hgo hyes HIN
      go_wp2_with fail
      obtain ⟨q0, q1, q2, q3⟩ := HF.out
      refine ret_specDrop (b := w.heap.size + 1) rfl ⟨q0, q1⟩ ⟨some ⟨g, 0, none⟩, c, ?_⟩
      rw [HD.out, HTK.out]
      exact ⟨rfl, q2, q3⟩

end Go.Proofs.YtoebfpdalkpkdaaDoor
