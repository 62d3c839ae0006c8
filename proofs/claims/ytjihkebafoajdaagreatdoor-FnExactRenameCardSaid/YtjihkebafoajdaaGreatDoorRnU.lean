/-
  The walk of spec.Rename.
-/
import Derived.Test.YtjihkebafoajdaaGreatDoorRnS
import Derived.Test.YtjihkebafoajdaaGreatDoorRightV
namespace Go.Proofs.YtjihkebafoajdaaGreatDoor
open Go.RowKit

theorem ret_rnS {R : Ending → World → Prop} {W : World} {tmps : Array Value} {b : Nat} {x0 x1 x2 x3 : Value} (hp : tmps[4]?.getD undef = .pointer (some ⟨b, 0, none⟩))
    (h : W.cell? ⟨b, 0, none⟩ = some x0 ∧ W.cell? ⟨b, 1, none⟩ = some x1 ∧ W.cell? ⟨b, 2, none⟩ = some x2 ∧ W.cell? ⟨b, 3, none⟩ = some x3) (hR : R (.returned (.agg #[x0, x1, x2, x3])) W) :
    bodyPost Tryz.prog Tryz.f15 R .ret { tmps := tmps, defers := [] } W := by
  obtain ⟨h0, h1, h2, h3⟩ := h
  refine bodyPost_ret (v := .agg #[x0, x1, x2, x3]) ?_ rfl hR
  simp [results, Tryz.results15, go_sem, hp, h0, h1, h2, h3]

/-- what spec.Rename answers -/
def RnAnsS (n : Nat) (mod : ByteArray) (t t' : Ty) : Prop := (¬ (Right n t 12 ∧ Lx.nameOkP mod = true) ∧ t' = t) ∨ ((Right n t 12 ∧ Lx.nameOkP mod = true) ∧ Ren mod n t t')

set_option maxHeartbeats 3200000 in
set_option maxRecDepth 100000 in
open Classical in
theorem specRename (n : Nat) (cs : List Value) (t : Ty) (mod : ByteArray) (w : World) (h : TyAt w n cs t) (hb : Ty.bulk n t ≤ 1048576) (hms : mod.size ≤ 1048576) :
    Calls Tryz.prog 15 #[.agg cs.toArray, .string mod] w fun e w' => ∃ (l : Lay) (t' : Ty), e = .returned (.agg (cellsK t' l).toArray) ∧ RnAnsS n mod t t' ∧ LayAt w' n l t' ∧ Below w.heap.size w w' := by
  obtain ⟨an, ln, cn, ak, lk, ck, rfl⟩ := h.shape
  have hB0 : Below w.heap.size w ((w.alloc (.cells #[.int .i64 t.kind, .string t.name, .slice an ln cn, .slice ak lk ck] 27)).alloc (.cells #[.int .i64 0, .string ⟨#[]⟩, .slice none 0 0, .slice none 0 0] 27)) := ((Below.refl _ _).alloc (Nat.le_refl _) _).alloc (by simp) _
  have hx1 : ((w.alloc (.cells #[.int .i64 t.kind, .string t.name, .slice an ln cn, .slice ak lk ck] 27)).alloc (.cells #[.int .i64 0, .string ⟨#[]⟩, .slice none 0 0, .slice none 0 0] 27)).heap[w.heap.size]? = some (.cells #[.int .i64 t.kind, .string t.name, .slice an ln cn, .slice ak lk ck] 27 (0, 0)) := heap_first w _ _
  have hx2 : ((w.alloc (.cells #[.int .i64 t.kind, .string t.name, .slice an ln cn, .slice ak lk ck] 27)).alloc (.cells #[.int .i64 0, .string ⟨#[]⟩, .slice none 0 0, .slice none 0 0] 27)).heap[w.heap.size + 1]? = some (.cells #[.int .i64 0, .string ⟨#[]⟩, .slice none 0 0, .slice none 0 0] 27 (0, 0)) := heap_second w _ _
  have HTK : Hid (∀ wx : World, Below w.heap.size w wx → Calls Tryz.prog 18 #[.agg #[.int .i64 t.kind, .string t.name, .slice an ln cn, .slice ak lk ck]] wx fun e w' => e = .returned (.bool (decide (Right n t 12))) ∧ Below wx.heap.size wx w') := fun wx hx => specTypeOk n _ t wx (h.below hx) (by omega)
  have HNM : Hid (∀ wx : World, Calls Tryz.prog 29 #[.string mod] wx fun e w' => e = .returned (.bool (Lx.nameOkP mod)) ∧ Below wx.heap.size wx w') := fun wx => specNameOk mod wx (by omega)
  have HCO : Hid (∀ wx : World, Below w.heap.size w wx → Calls Tryz.prog 30 #[.agg #[.int .i64 t.kind, .string t.name, .slice an ln cn, .slice ak lk ck]] wx fun e w' => ∃ (an : Option Addr) (ln cn : Nat) (ak : Option Addr) (lk ck : Nat), e = .returned (.agg #[.int .i64 t.kind, .string t.name, .slice an ln cn, .slice ak lk ck]) ∧ (∃ l, cellsK t l = [.int .i64 t.kind, .string t.name, .slice an ln cn, .slice ak lk ck] ∧ NewLay wx.heap.size w' n l t) ∧ Below wx.heap.size wx w') := fun wx hx => (specCopy n).told _ t wx (h.below hx) (by omega)
  have HRN : Hid (Right n t 12 → Lx.nameOkP mod = true → ∀ wx : World, Below w.heap.size w wx → Calls Tryz.prog 31 #[.agg #[.int .i64 t.kind, .string t.name, .slice an ln cn, .slice ak lk ck], .string mod] wx fun e w' => ∃ (kd : Int) (nm : ByteArray) (an : Option Addr) (ln cn : Nat) (ak : Option Addr) (lk ck : Nat), e = .returned (.agg #[.int .i64 kd, .string nm, .slice an ln cn, .slice ak lk ck]) ∧ (∃ l t', cellsK t' l = [.int .i64 kd, .string nm, .slice an ln cn, .slice ak lk ck] ∧ Ren mod n t t' ∧ LayAt w' n l t' ∧ (∀ b ∈ Lay.blocks n l, wx.heap.size ≤ b)) ∧ Below wx.heap.size wx w') := fun hr hm wx hx => (specRen mod hm hms n).told _ t 12 wx (h.below hx) hr (by omega) (by omega)
  clear h hb
  go_enter Tryz.func15, Tryz.ntmps15
  obtain ⟨⟨b0, b1, b2, b3⟩, _⟩ := block4 hx1
  go_wp2_with fail
  refine (HTK.out _ hB0).mono ?_
  rintro e w2 ⟨rfl, hb2⟩
  have lt0 : w.heap.size + 1 < ((w.alloc (.cells #[.int .i64 t.kind, .string t.name, .slice an ln cn, .slice ak lk ck] 27)).alloc (.cells #[.int .i64 0, .string ⟨#[]⟩, .slice none 0 0, .slice none 0 0] 27)).heap.size := by simp
  have hbw2 : Below w.heap.size w w2 := hB0.trans (hb2.mono (by omega))
  have hy1 := (hb2.block w.heap.size (by omega)).trans hx1
  have hy2 := (hb2.block (w.heap.size + 1) lt0).trans hx2
  have lt2 : w.heap.size + 1 < w2.heap.size := (Array.getElem?_eq_some_iff.1 hy2).1
  clear b0 b1 b2 b3 hx1 hx2 hB0 hb2 lt0 HTK
  have hend : ∀ w5 : World, Below w2.heap.size w2 w5 → w5.heap[w.heap.size]? = some (.cells #[.int .i64 t.kind, .string t.name, .slice an ln cn, .slice ak lk ck] 27 (0, 0)) ∧ w5.heap[w.heap.size + 1]? = some (.cells #[.int .i64 0, .string ⟨#[]⟩, .slice none 0 0, .slice none 0 0] 27 (0, 0)) ∧ Below w.heap.size w w5 := fun w5 h5 => ⟨(h5.block _ (by omega)).trans hy1, (h5.block _ lt2).trans hy2, hbw2.trans (h5.mono hbw2.size)⟩
  have HEND : Hid (type_of% hend) := hend
  clear hend hy1 hy2
  by_cases hgo : Right n t 12
  · rw [decide_eq_true hgo]
    go_wp2_with fail
    refine (HNM.out _).mono ?_
    rintro e w3 ⟨rfl, hb3⟩
    obtain ⟨hy1, hy2, hbw3⟩ := HEND.out w3 hb3
    obtain ⟨⟨b0, b1, b2, b3⟩, _⟩ := block4 hy1
    have lt3 : w.heap.size + 1 < w3.heap.size := (Array.getElem?_eq_some_iff.1 hy2).1
    cases hmn : Lx.nameOkP mod with
    | true =>
      have HT : Hid (type_of% (HRN.out hgo hmn w3 hbw3)) := HRN.out hgo hmn w3 hbw3
      have HA : Hid (∀ t', Ren mod n t t' → RnAnsS n mod t t') := fun t' h => .inr ⟨⟨hgo, hmn⟩, h⟩
      clear hgo hmn HRN HCO HNM
      go_wp2_with fail
      refine HT.out.mono ?_
      rintro e w5 ⟨kd5, nm5, a1, l1, c1, a2, l2, c2, rfl, ⟨l, t', hcl, hren, hll, hge⟩, hb5⟩
      obtain ⟨_, hr5, hbw5⟩ := HEND.out w5 (hb3.trans (hb5.mono hb3.size))
      obtain ⟨⟨rc0, rc1, rc2, rc3⟩, rf⟩ := block4 hr5
      have rf0 := rf 0
      have rf1 := rf 1
      have rf2 := rf 2
      have rf3 := rf 3
      have HCL2 : Hid (type_of% hcl) := hcl
      have HNL : Hid (type_of% hll) := hll
      have HAN : Hid (type_of% (HA.out t' hren)) := HA.out t' hren
      have hfree : ∀ b ∈ Lay.blocks n l, b ≠ w.heap.size + 1 := fun b hb => by have := hge b hb; omega
      have HFR : Hid (type_of% hfree) := hfree
      clear hcl hll rf HT hr5 hb5 HEND b0 b1 b2 b3 hfree HA hren
      go_wp2_with fail
      refine ret_rnS rfl (put4T fun j hj => ?_) ⟨l, t', by rw [HCL2.out], HAN.out, HNL.out.same fun b hb => put_other (HFR.out b hb), put_below hbw5 (by omega)⟩
      match j, hj with
      | 0, _ => rw [rc0]; rfl
      | 1, _ => rw [rc1]; rfl
      | 2, _ => rw [rc2]; rfl
      | 3, _ => rw [rc3]; rfl
    | false =>
      have HT : Hid (type_of% (HCO.out w3 hbw3)) := HCO.out w3 hbw3
      have HA : Hid (RnAnsS n mod t t) := .inl ⟨fun q => by rw [hmn] at q; exact absurd q.2 (by decide), rfl⟩
      clear hgo hmn HRN HCO HNM
      go_wp2_with fail
      refine HT.out.mono ?_
      rintro e w5 ⟨a1, l1, c1, a2, l2, c2, rfl, ⟨l, hcl, hnl⟩, hb5⟩
      obtain ⟨_, hr5, hbw5⟩ := HEND.out w5 (hb3.trans (hb5.mono hb3.size))
      obtain ⟨⟨rc0, rc1, rc2, rc3⟩, rf⟩ := block4 hr5
      have rf0 := rf 0
      have rf1 := rf 1
      have rf2 := rf 2
      have rf3 := rf 3
      have HCL2 : Hid (type_of% hcl) := hcl
      have HNL : Hid (type_of% hnl) := hnl
      clear hcl hnl rf HT hr5 hb5 HEND b0 b1 b2 b3
      go_wp2_with fail
      refine ret_rnS rfl (put4T fun j hj => ?_) ⟨l, t, by rw [HCL2.out], HA.out, HNL.out.1.same fun b hb => put_other (by have := HNL.out.2.2 b hb; omega), put_below hbw5 (by omega)⟩
      match j, hj with
      | 0, _ => rw [rc0]; rfl
      | 1, _ => rw [rc1]; rfl
      | 2, _ => rw [rc2]; rfl
      | 3, _ => rw [rc3]; rfl
  · rw [decide_eq_false hgo]
    obtain ⟨hy1, hy2, _⟩ := HEND.out w2 (Below.refl _ _)
    obtain ⟨⟨b0, b1, b2, b3⟩, _⟩ := block4 hy1
    have HT : Hid (type_of% (HCO.out w2 hbw2)) := HCO.out w2 hbw2
    have HA : Hid (RnAnsS n mod t t) := .inl ⟨fun q => hgo q.1, rfl⟩
    clear hgo HRN HCO HNM
    go_wp2_with fail
    refine HT.out.mono ?_
    rintro e w5 ⟨a1, l1, c1, a2, l2, c2, rfl, ⟨l, hcl, hnl⟩, hb5⟩
    obtain ⟨_, hr5, hbw5⟩ := HEND.out w5 hb5
    obtain ⟨⟨rc0, rc1, rc2, rc3⟩, rf⟩ := block4 hr5
    have rf0 := rf 0
    have rf1 := rf 1
    have rf2 := rf 2
    have rf3 := rf 3
    have HCL2 : Hid (type_of% hcl) := hcl
    have HNL : Hid (type_of% hnl) := hnl
    clear hcl hnl rf HT hr5 hb5 HEND b0 b1 b2 b3
    go_wp2_with fail
    refine ret_rnS rfl (put4T fun j hj => ?_) ⟨l, t, by rw [HCL2.out], HA.out, HNL.out.1.same fun b hb => put_other (by have := HNL.out.2.2 b hb; omega), put_below hbw5 (by omega)⟩
    match j, hj with
    | 0, _ => rw [rc0]; rfl
    | 1, _ => rw [rc1]; rfl
    | 2, _ => rw [rc2]; rfl
    | 3, _ => rw [rc3]; rfl

end Go.Proofs.YtjihkebafoajdaaGreatDoor
