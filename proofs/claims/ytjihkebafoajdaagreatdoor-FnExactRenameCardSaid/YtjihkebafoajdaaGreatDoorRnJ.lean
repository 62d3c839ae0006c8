/-
  The walk of impl.Rename.
-/
import Derived.Test.YtjihkebafoajdaaGreatDoorRnP
import Derived.Test.YtjihkebafoajdaaGreatDoorCpK
namespace Go.Proofs.YtjihkebafoajdaaGreatDoor
open Go.RowKit

/-- what Rename answers -/
def RnAns (n : Nat) (mod : ByteArray) (t t' : Ty) : Prop := (¬ (Right n t 12 ∧ Lx.nameOkP mod = true) ∧ t' = t) ∨ ((Right n t 12 ∧ Lx.nameOkP mod = true) ∧ Ren mod n t t')
theorem RnAns.one {n : Nat} {mod : ByteArray} {t u v : Ty} (h : RnAns n mod t u) (h' : RnAns n mod t v) : u = v := by
  rcases h with ⟨a, rfl⟩ | ⟨a, h⟩
  · rcases h' with ⟨_, rfl⟩ | ⟨b, _⟩
    · rfl
    · exact absurd b a
  · rcases h' with ⟨b, _⟩ | ⟨_, h'⟩
    · exact absurd a b
    · exact h.one h'
theorem ret_rn {R : Ending → World → Prop} {W : World} {tmps : Array Value} {b : Nat} {x0 x1 x2 x3 : Value} (hp : tmps[4]?.getD undef = .pointer (some ⟨b, 0, none⟩))
    (h : W.cell? ⟨b, 0, none⟩ = some x0 ∧ W.cell? ⟨b, 1, none⟩ = some x1 ∧ W.cell? ⟨b, 2, none⟩ = some x2 ∧ W.cell? ⟨b, 3, none⟩ = some x3) (hR : R (.returned (.agg #[x0, x1, x2, x3])) W) :
    bodyPost Tryz.prog Tryz.f17 R .ret { tmps := tmps, defers := [] } W := by
  obtain ⟨h0, h1, h2, h3⟩ := h
  refine bodyPost_ret (v := .agg #[x0, x1, x2, x3]) ?_ rfl hR
  simp [results, Tryz.results17, go_sem, hp, h0, h1, h2, h3]
theorem told_cells {w : World} {n : Nat} {l : Lay} {t : Ty} (h : LayAt w n l t) : ∃ an cn ak ck, cellsK t l = [.int .i64 t.kind, .string t.name, .slice an t.names.length cn, .slice ak t.kids.length ck] := by
  cases n with
  | zero => exact h.elim
  | succ n =>
    obtain ⟨an, cn, e1⟩ := h.1.slice
    obtain ⟨ak, ck, e2⟩ := h.2.2.1.slice
    exact ⟨an, cn, ak, ck, by unfold cellsK; rw [e1, e2]⟩

/-- what impl.Rename leaves -/
def RnPost (n : Nat) (mod : ByteArray) (t : Ty) (w : World) (e : Ending) (w' : World) : Prop := ∃ (l : Lay) (t' : Ty), e = .returned (.agg (cellsK t' l).toArray) ∧ RnAns n mod t t' ∧ NewLay w.heap.size w' n l t' ∧ Below w.heap.size w w'

set_option maxHeartbeats 3200000 in
set_option maxRecDepth 100000 in
theorem implRename (n lo hi : Nat) (cs : List Value) (t : Ty) (mod : ByteArray) (w : World) (h : TyIn w n lo hi cs t) (hhi : hi ≤ w.heap.size) (hb : Ty.bulk n t ≤ 1048576) (hms : mod.size ≤ 1048576) (hc : ClsIs w) :
    Calls Tryz.prog 17 #[.agg cs.toArray, .string mod] w (RnPost n mod t w) := by
  obtain ⟨an, ln, cn, ak, lk, ck, rfl⟩ := h.at.shape
  have hB0 : Below w.heap.size w ((w.alloc (.cells #[.int .i64 t.kind, .string t.name, .slice an ln cn, .slice ak lk ck] 27)).alloc (.cells #[.int .i64 0, .string ⟨#[]⟩, .slice none 0 0, .slice none 0 0] 27)) := ((Below.refl _ _).alloc (Nat.le_refl _) _).alloc (by simp) _
  have hx1 : ((w.alloc (.cells #[.int .i64 t.kind, .string t.name, .slice an ln cn, .slice ak lk ck] 27)).alloc (.cells #[.int .i64 0, .string ⟨#[]⟩, .slice none 0 0, .slice none 0 0] 27)).heap[w.heap.size]? = some (.cells #[.int .i64 t.kind, .string t.name, .slice an ln cn, .slice ak lk ck] 27 (0, 0)) := heap_first w _ _
  have hx2 : ((w.alloc (.cells #[.int .i64 t.kind, .string t.name, .slice an ln cn, .slice ak lk ck] 27)).alloc (.cells #[.int .i64 0, .string ⟨#[]⟩, .slice none 0 0, .slice none 0 0] 27)).heap[w.heap.size + 1]? = some (.cells #[.int .i64 0, .string ⟨#[]⟩, .slice none 0 0, .slice none 0 0] 27 (0, 0)) := heap_second w _ _
  have HF0 := implFormOf n w _ t 0 _ h.at hB0 (by omega) (by omega) hc hc.lt
  have HF : Hid (type_of% HF0) := HF0
  have HCO : Hid (∀ wx : World, Below w.heap.size w wx → Calls Tryz.prog 35 #[.agg #[.int .i64 t.kind, .string t.name, .slice an ln cn, .slice ak lk ck]] wx fun e w' => ∃ (a1 : Option Addr) (c1 : Nat) (a2 : Option Addr) (c2 : Nat), e = .returned (.agg #[.int .i64 t.kind, .string t.name, .slice a1 t.names.length c1, .slice a2 t.kids.length c2]) ∧ (∃ l, cellsK t l = [.int .i64 t.kind, .string t.name, .slice a1 t.names.length c1, .slice a2 t.kids.length c2] ∧ NewLay wx.heap.size w' n l t) ∧ Below wx.heap.size wx w') := fun wx hx => (implCopyOf n lo hi _ t wx (h.below hx) (by have := hx.size; omega) hb).mono fun e w' ⟨l, he, hl, hb'⟩ => by
    obtain ⟨a1, c1, a2, c2, ec⟩ := told_cells hl.1
    exact ⟨a1, c1, a2, c2, by rw [he, ec], ⟨l, ec, hl⟩, hb'⟩
  have HNM : Hid (∀ wx : World, Below w.heap.size w wx → Calls Tryz.prog 34 #[.string mod] wx fun e w' => e = .returned (.bool (Lx.nameOkP mod)) ∧ wx = w') := fun wx hx => implNameOk mod wx (by omega) (hc.below hx hc.lt)
  have HBK : Hid (type_of% hb) := hb
  clear h HF0 hc hb
  go_enter Tryz.func17, Tryz.ntmps17
  obtain ⟨⟨b0, b1, b2, b3⟩, _⟩ := block4 hx1
  go_wp2_with fail
  refine HF.out.mono ?_
  rintro e w2 ⟨v, ok, rfl, hok, hfm, hb2⟩
  clear b0 b1 b2 b3
  have lt0 : w.heap.size + 1 < ((w.alloc (.cells #[.int .i64 t.kind, .string t.name, .slice an ln cn, .slice ak lk ck] 27)).alloc (.cells #[.int .i64 0, .string ⟨#[]⟩, .slice none 0 0, .slice none 0 0] 27)).heap.size := by simp
  have hbw2 : Below w.heap.size w w2 := hB0.trans (hb2.mono (by omega))
  have hy1 := (hb2.block w.heap.size (by omega)).trans hx1
  have hy2 := (hb2.block (w.heap.size + 1) lt0).trans hx2
  have lt2 : w.heap.size + 1 < w2.heap.size := (Array.getElem?_eq_some_iff.1 hy2).1
  have HOK : Hid (ok = true ↔ Right n t 12) := by
    show _ ↔ _
    rw [hok]
    simp
  have HFM : Hid (ok = true → FormAt w2 n v t) := fun q => (hfm q).at
  clear hok hfm HF hx1 hx2 hB0 hb2 lt0
  have hend : ∀ w5 : World, Below w2.heap.size w2 w5 → w5.heap[w.heap.size]? = some (.cells #[.int .i64 t.kind, .string t.name, .slice an ln cn, .slice ak lk ck] 27 (0, 0)) ∧ w5.heap[w.heap.size + 1]? = some (.cells #[.int .i64 0, .string ⟨#[]⟩, .slice none 0 0, .slice none 0 0] 27 (0, 0)) ∧ Below w.heap.size w w5 := fun w5 h5 => ⟨(h5.block _ (by omega)).trans hy1, (h5.block _ lt2).trans hy2, hbw2.trans (h5.mono hbw2.size)⟩
  have HEND : Hid (type_of% hend) := hend
  have HCP : Hid (type_of% (HCO.out w2 hbw2)) := HCO.out w2 hbw2
  obtain ⟨⟨b0, b1, b2, b3⟩, _⟩ := block4 hy1
  clear hend hy1 hy2 HCO
  by_cases hgo : ok = true ∧ Lx.nameOkP mod = true
  · obtain ⟨rfl, hmn⟩ := hgo
    have hR := HOK.out.1 rfl
    have hfv := HFM.out rfl
    obtain ⟨T, x, rfl⟩ := form_iface hfv
    have HN2 := HNM.out w2 hbw2
    rw [hmn] at HN2
    have HN : Hid (type_of% HN2) := HN2
    have HRN : Hid (type_of% (implRenamed n mod _ t 12 w2 w2 hmn hfv (Below.refl _ _) hR (by omega) (by have := HBK.out; omega))) := implRenamed n mod _ t 12 w2 w2 hmn hfv (Below.refl _ _) hR (by omega) (by have := HBK.out; omega)
    have HTO : Hid (∀ (T : Nat) (x : Value) (t' : Ty) (wx : World), FormAt wx n (.iface T x) t' → Ren mod n t t' → Calls Tryz.prog 22 #[.iface T x] wx fun e w' => ∃ (an : Option Addr) (ln cn : Nat) (ak : Option Addr) (lk ck : Nat), e = .returned (.agg #[.int .i64 t'.kind, .string t'.name, .slice an ln cn, .slice ak lk ck]) ∧ (∃ l, cellsK t' l = [.int .i64 t'.kind, .string t'.name, .slice an ln cn, .slice ak lk ck] ∧ NewLay wx.heap.size w' n l t') ∧ Below wx.heap.size wx w') := fun T x t' wx h1 h2 => (implTypeOf n).told _ _ 12 wx h1 (Ren.right hmn hR h2).1 (by have := (Ren.right hmn hR h2).2.2; have := HBK.out; omega)
    have HA : Hid (∀ t', Ren mod n t t' → RnAns n mod t t') := fun t' h => .inr ⟨⟨hR, hmn⟩, h⟩
    clear HN2 hfv hR hmn HCP HOK HFM HNM b0 b1 b2 b3
    go_wp2_with fail
    refine HN.out.mono ?_
    rintro e w3 ⟨rfl, rfl⟩
    go_wp2_with fail
    refine HRN.out.mono ?_
    rintro e w4 ⟨T4, x4, t4, rfl, hren, hf4, hb4⟩
    have HT : Hid (type_of% (HTO.out T4 x4 t4 w4 hf4.at hren)) := HTO.out T4 x4 t4 w4 hf4.at hren
    have HAN : Hid (type_of% (HA.out t4 hren)) := HA.out t4 hren
    clear HTO HA hren hf4 HRN HN
    go_wp2_with fail
    refine HT.out.mono ?_
    rintro e w5 ⟨a1, l1, c1, a2, l2, c2, rfl, ⟨l, hcl, hnl⟩, hb5⟩
    obtain ⟨_, hr5, hbw5⟩ := HEND.out w5 (hb4.trans (hb5.mono hb4.size))
    obtain ⟨⟨rc0, rc1, rc2, rc3⟩, rf⟩ := block4 hr5
    have rf0 := rf 0
    have rf1 := rf 1
    have rf2 := rf 2
    have rf3 := rf 3
    have hz4 := hb4.size
    have HCL2 : Hid (type_of% hcl) := hcl
    have HNL : Hid (type_of% hnl) := hnl
    clear hcl hnl rf HT hr5 hb5 HEND
    go_wp2_with fail
    refine ret_rn rfl (put4T fun j hj => ?_) ⟨l, t4, by rw [HCL2.out], HAN.out, HNL.out.putU (by omega) (by omega), put_below hbw5 (by omega)⟩
    match j, hj with
    | 0, _ => rw [rc0]; rfl
    | 1, _ => rw [rc1]; rfl
    | 2, _ => rw [rc2]; rfl
    | 3, _ => rw [rc3]; rfl
  · have HA : Hid (RnAns n mod t t) := .inl ⟨fun q => hgo ⟨HOK.out.2 q.1, q.2⟩, rfl⟩
    cases ok with
    | false =>
      clear hgo HOK HFM HNM
      go_wp2_with fail
      refine HCP.out.mono ?_
      rintro e w5 ⟨a1, c1, a2, c2, rfl, ⟨l, hcl, hnl⟩, hb5⟩
      obtain ⟨_, hr5, hbw5⟩ := HEND.out w5 hb5
      obtain ⟨⟨rc0, rc1, rc2, rc3⟩, rf⟩ := block4 hr5
      have rf0 := rf 0
      have rf1 := rf 1
      have rf2 := rf 2
      have rf3 := rf 3
      have HCL2 : Hid (type_of% hcl) := hcl
      have HNL : Hid (type_of% hnl) := hnl
      clear hcl hnl rf HCP hr5 hb5 HEND b0 b1 b2 b3
      go_wp2_with fail
      refine ret_rn rfl (put4T fun j hj => ?_) ⟨l, t, by rw [HCL2.out], HA.out, HNL.out.putU (by omega) (by omega), put_below hbw5 (by omega)⟩
      match j, hj with
      | 0, _ => rw [rc0]; rfl
      | 1, _ => rw [rc1]; rfl
      | 2, _ => rw [rc2]; rfl
      | 3, _ => rw [rc3]; rfl
    | true =>
      have hmn : Lx.nameOkP mod = false := by
        cases q : Lx.nameOkP mod with
        | false => rfl
        | true => exact absurd ⟨rfl, q⟩ hgo
      have HN2 := HNM.out w2 hbw2
      rw [hmn] at HN2
      have HN : Hid (type_of% HN2) := HN2
      clear hgo HOK HFM HNM HN2 hmn
      go_wp2_with fail
      refine HN.out.mono ?_
      rintro e w3 ⟨rfl, rfl⟩
      go_wp2_with fail
      refine HCP.out.mono ?_
      rintro e w5 ⟨a1, c1, a2, c2, rfl, ⟨l, hcl, hnl⟩, hb5⟩
      obtain ⟨_, hr5, hbw5⟩ := HEND.out w5 hb5
      obtain ⟨⟨rc0, rc1, rc2, rc3⟩, rf⟩ := block4 hr5
      have rf0 := rf 0
      have rf1 := rf 1
      have rf2 := rf 2
      have rf3 := rf 3
      have HCL2 : Hid (type_of% hcl) := hcl
      have HNL : Hid (type_of% hnl) := hnl
      clear hcl hnl rf HCP hr5 hb5 HEND b0 b1 b2 b3
      go_wp2_with fail
      refine ret_rn rfl (put4T fun j hj => ?_) ⟨l, t, by rw [HCL2.out], HA.out, HNL.out.putU (by omega) (by omega), put_below hbw5 (by omega)⟩
      match j, hj with
      | 0, _ => rw [rc0]; rfl
      | 1, _ => rw [rc1]; rfl
      | 2, _ => rw [rc2]; rfl
      | 3, _ => rw [rc3]; rfl

end Go.Proofs.YtjihkebafoajdaaGreatDoor
