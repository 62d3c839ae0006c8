/-
  The walk of impl.Union.
-/
import Derived.Test.YtjihkebafoajdaaGreatDoorUnU
import Derived.Test.YtjihkebafoajdaaGreatDoorFormU
import Derived.Test.YtjihkebafoajdaaGreatDoorTypeJ
namespace Go.Proofs.YtjihkebafoajdaaGreatDoor
open Go.RowKit

/-- what such a union is -/
theorem uform_facts {n : Nat} {ts : List Ty} {t : Ty} (h : UForm n ts t) (h0 : ts ≠ []) (hr : ∀ q ∈ ts, Right n q 12) (hbk : rowBulk n ts ≤ 274877906944) :
    Right (n + 1) t 13 ∧ Ty.bulk (n + 1) t ≤ 274877906944 ∧ (Right (n + 1) t 12 → UAns n ts t true) ∧ (¬ Right (n + 1) t 12 → UAns n ts (.mk 0 ⟨#[]⟩ [] []) false) := by
  have wide : ∀ {m : Nat} {q : Ty} {d : Int}, Right m q 12 → d = 13 → Right m q d := fun hq e => (right_hgt hq).2 (by have := right_hgt_le hq; omega)
  rcases h with ⟨⟨q, hq, h3⟩, e⟩ | ⟨hn, S, hS, h⟩
  · have e2 := any_of (hr q hq) h3
    have hR := right_up (hr q hq)
    rw [e2] at hR
    subst e
    refine ⟨wide hR rfl, ?_, fun _ => .inr ⟨⟨h0, hr⟩, .inl ⟨⟨q, hq, h3⟩, rfl, rfl⟩⟩, fun h => absurd hR h⟩
    have : Ty.bulk (n + 1) (.mk 3 ⟨#[]⟩ [] []) = 0 := rfl
    omega
  · have hb := hS.bulk hr
    unfold rowBulk at hbk
    rcases h with e | ⟨hl, e⟩
    · subst e
      have hx := (atom_right hr ((hS.1 t).1 (by simp))).1
      refine ⟨wide (right_up hx) rfl, ?_, fun _ => .inr ⟨⟨h0, hr⟩, .inr ⟨hn, _, hS, .inl ⟨rfl, rfl, rfl⟩⟩⟩, fun h => absurd (right_up hx) h⟩
      rw [bulk_up hx]
      simp at hb
      omega
    · subst e
      have hiff := union_right hS hr hn hl
      have h13 : Right (n + 1) (.mk 7 ⟨#[]⟩ [] S) 13 := by
        refine ⟨by omega, fun s hs => ?_, .inr (.inr (.inr (.inr ⟨rfl, fun i hi => ⟨?_, fun h0 => ?_⟩, rfl, rfl, hl⟩)))⟩
        · exact (right_hgt (atom_right hr ((hS.1 s).1 hs)).1).2 (right_hgt_le (atom_right hr ((hS.1 s).1 hs)).1)
        · have hx := (hS.1 _).1 (List.getElem_mem hi)
          exact ⟨(atom_right hr hx).2, atom_any hr hn hx⟩
        · exact List.pairwise_iff_getElem.1 hS.2 (i - 1) i _ hi (by omega)
      refine ⟨h13, ?_, fun h => .inr ⟨⟨h0, hr⟩, .inr ⟨hn, S, hS, .inr (.inl ⟨hl, hiff.1 h, rfl, rfl⟩)⟩⟩, fun h => .inr ⟨⟨h0, hr⟩, .inr ⟨hn, S, hS, .inr (.inr ⟨hl, fun q => h (hiff.2 q), rfl, rfl⟩)⟩⟩⟩
      have : Ty.bulk (n + 1) (.mk 7 ⟨#[]⟩ [] S) = 0 + (0 + 0) + (S.length + (S.map (Ty.bulk n)).sum) := rfl
      omega

theorem parts_q {w : World} {B n lo hi : Nat} {v : Value} {ks : List Ty} (h : PartsIn w (FormIn w B n) lo hi v ks) : PartsAt w (InQ w B lo hi n) v ks := by
  rcases h with h | ⟨b, cap, e, g0, g1, g2, g3⟩
  · exact .inl h
  · refine .inr ⟨b, 0, cap, e, g0, fun j hj => ?_⟩
    obtain ⟨l', h', u, q1, q2, q3, q4⟩ := g3 j hj
    exact ⟨u, by rw [Nat.zero_add]; exact q3, l', h', q1, q2, q4⟩
theorem NewLay.putU {B B' R : Nat} {w : World} {n : Nat} {l : Lay} {t : Ty} {x0 x1 x2 x3 : Value} (h : NewLay B w n l t) (hR : R < B) (hB : B' ≤ B) : NewLay B' ((((w.setCell ⟨R, 0, none⟩ x0).setCell ⟨R, 1, none⟩ x1).setCell ⟨R, 2, none⟩ x2).setCell ⟨R, 3, none⟩ x3) n l t :=
  ⟨h.1.same fun b hb => put_other (by have := h.2.2 b hb; omega), h.2.1, fun b hb => Nat.le_trans hB (h.2.2 b hb)⟩
theorem ret_un {R : Ending → World → Prop} {W : World} {tmps : Array Value} {b : Nat} {x0 x1 x2 x3 : Value} {ok : Bool} (hp : tmps[2]?.getD undef = .pointer (some ⟨b, 0, none⟩)) (hq : tmps[3]?.getD undef = .bool ok)
    (h : W.cell? ⟨b, 0, none⟩ = some x0 ∧ W.cell? ⟨b, 1, none⟩ = some x1 ∧ W.cell? ⟨b, 2, none⟩ = some x2 ∧ W.cell? ⟨b, 3, none⟩ = some x3) (hR : R (.returned (.tuple #[.agg #[x0, x1, x2, x3], .bool ok])) W) :
    bodyPost Tryz.prog Tryz.f8 R .ret { tmps := tmps, defers := [] } W := by
  obtain ⟨h0, h1, h2, h3⟩ := h
  refine bodyPost_ret (v := .tuple #[.agg #[x0, x1, x2, x3], .bool ok]) ?_ rfl hR
  simp [results, Tryz.results8, go_sem, hp, hq, h0, h1, h2, h3]

set_option maxHeartbeats 3200000 in
set_option maxRecDepth 100000 in
theorem implUnion (n : Nat) (vk : Value) (ts : List Ty) (w : World) (hrow : RowAt w (TyAt w n) vk ts) (hbk : rowBulk n ts ≤ 274877906944) (hc : ClsIs w) :
    Calls Tryz.prog 8 #[vk] w fun e w' => ∃ (l : Lay) (t : Ty) (ok : Bool), e = .returned (.tuple #[.agg (cellsK t l).toArray, .bool ok]) ∧ UAns n ts t ok ∧ NewLay w.heap.size w' (n + 1) l t ∧ Below w.heap.size w w' := by
  have hbx : Below w.heap.size w (w.alloc (.cells #[.int .i64 0, .string ⟨#[]⟩, .slice none 0 0, .slice none 0 0] 27)) := (Below.refl _ _).alloc (Nat.le_refl _) _
  have HF0 := implForms n (implFormOf n) vk ts 0 w (w.alloc (.cells #[.int .i64 0, .string ⟨#[]⟩, .slice none 0 0, .slice none 0 0] 27)) hrow hbx hbk (by omega) hc hc.lt
  have hr0 : (w.alloc (.cells #[.int .i64 0, .string ⟨#[]⟩, .slice none 0 0, .slice none 0 0] 27)).heap[w.heap.size]? = some (.cells #[.int .i64 0, .string ⟨#[]⟩, .slice none 0 0, .slice none 0 0] 27 (0, 0)) := heap_alloc_new w _
  have hz0 : (w.alloc (.cells #[.int .i64 0, .string ⟨#[]⟩, .slice none 0 0, .slice none 0 0] 27)).heap.size = w.heap.size + 1 := by simp
  have HF : Hid (type_of% HF0) := HF0
  have HBK : Hid (type_of% hbk) := hbk
  obtain ⟨ak, ck, rfl, _⟩ := rowOpen hrow
  clear HF0 hrow hbk hc
  go_enter Tryz.func8, Tryz.ntmps8
  go_wp2_with fail
  refine HF.out.mono ?_
  rintro e w2 ⟨a2, l2, c2, ok, rfl, hok, hfm, hb2⟩
  have hbw2 : Below w.heap.size w w2 := hbx.trans (hb2.mono (by omega))
  have hr2 := (hb2.block w.heap.size (by omega)).trans hr0
  have lt2 : w.heap.size < w2.heap.size := by have := hb2.size; omega
  have HOK : Hid (ok = true ↔ ∀ q ∈ ts, Right n q 12) := by
    show _ ↔ _
    rw [hok]
    simp
  have HFM : Hid (type_of% hfm) := hfm
  clear hok hfm HF hr0 hz0 hbx hb2
  cases ok with
  | false =>
    have HA : Hid (UAns n ts (.mk 0 ⟨#[]⟩ [] []) false) := .inl ⟨rfl, rfl, .inr fun h => by have := HOK.out.2 h; cases this⟩
    obtain ⟨⟨rc0, rc1, rc2, rc3⟩, rf⟩ := block4 hr2
    have rf0 := rf 0
    have rf1 := rf 1
    have rf2 := rf 2
    have rf3 := rf 3
    clear HOK HFM rf HBK
    go_wp2_with fail
    refine ret_un rfl rfl (put4T fun j hj => ?_) ⟨.mk (.slice none 0 0) (.slice none 0 0) [], .mk 0 ⟨#[]⟩ [] [], false, rfl, HA.out, plainLay, put_below hbw2 (Nat.le_refl _)⟩
    match j, hj with
    | 0, _ => rw [rc0]; rfl
    | 1, _ => rw [rc1]; rfl
    | 2, _ => rw [rc2]; rfl
    | 3, _ => rw [rc3]; rfl
  | true =>
    have hR := HOK.out.1 rfl
    obtain ⟨rfl, hpi⟩ := HFM.out rfl
    by_cases h0 : ts.length = 0
    · have h00 : ((ts.length : Int) == 0) = true := by rw [beq_iff_eq]; omega
      have HA : Hid (UAns n ts (.mk 0 ⟨#[]⟩ [] []) false) := .inl ⟨rfl, rfl, .inl (List.eq_nil_of_length_eq_zero h0)⟩
      obtain ⟨⟨rc0, rc1, rc2, rc3⟩, rf⟩ := block4 hr2
      have rf0 := rf 0
      have rf1 := rf 1
      have rf2 := rf 2
      have rf3 := rf 3
      clear HOK HFM rf HBK hR hpi h0
      go_wp2_with fail
      refine ret_un rfl rfl (put4T fun j hj => ?_) ⟨.mk (.slice none 0 0) (.slice none 0 0) [], .mk 0 ⟨#[]⟩ [] [], false, rfl, HA.out, plainLay, put_below hbw2 (Nat.le_refl _)⟩
      match j, hj with
      | 0, _ => rw [rc0]; rfl
      | 1, _ => rw [rc1]; rfl
      | 2, _ => rw [rc2]; rfl
      | 3, _ => rw [rc3]; rfl
    · have h00 : ((ts.length : Int) == 0) = false := by rw [beq_eq_false_iff_ne]; omega
      have hne : ts ≠ [] := fun e => h0 (by rw [e]; rfl)
      have hpq : PartsAt w2 (InQ w2 w.heap.size (w.heap.size + 1) w2.heap.size n) (.slice a2 ts.length c2) ts := by
        have := parts_q hpi
        rw [show (w.alloc (.cells #[.int .i64 0, .string ⟨#[]⟩, .slice none 0 0, .slice none 0 0] 27)).heap.size = w.heap.size + 1 by simp] at this
        exact this
      have HU : Hid (type_of% (implUnionOf w.heap.size (w.heap.size + 1) w2.heap.size n a2 c2 ts w2 (by omega) (by omega) (Nat.le_refl _) hpq hR hne HBK.out)) := implUnionOf w.heap.size (w.heap.size + 1) w2.heap.size n a2 c2 ts w2 (by omega) (by omega) (Nat.le_refl _) hpq hR hne HBK.out
      have HUF : Hid (∀ t, UForm n ts t → Right (n + 1) t 13 ∧ Ty.bulk (n + 1) t ≤ 274877906944 ∧ (Right (n + 1) t 12 → UAns n ts t true) ∧ (¬ Right (n + 1) t 12 → UAns n ts (.mk 0 ⟨#[]⟩ [] []) false)) := fun t h => uform_facts h hne hR HBK.out
      clear HOK HFM HBK hR hpi hpq h0 hne
      go_wp2_with fail
      refine HU.out.mono ?_
      rintro e w3 ⟨T, x, t, rfl, hf3', hu3, hb3⟩
      have hf3 := hf3'.at
      have hbw3 : Below w.heap.size w w3 := hbw2.trans (hb3.mono hbw2.size)
      have hr3 := (hb3.block w.heap.size lt2).trans hr2
      have lt3 : w.heap.size < w3.heap.size := Nat.lt_of_lt_of_le lt2 hb3.size
      obtain ⟨hR13, hbt, hyes, hno⟩ := HUF.out t hu3
      have hbb : Ty.bulk (n + 1) t = t.name.size + (t.names.length + Ty.textsBulk t.names) + (t.kids.length + (t.kids.map (Ty.bulk n)).sum) := rfl
      have hhg : Ty.hgt (n + 1) t = hgts n t.kids := rfl
      have hle := right_hgt_le hR13
      have h12 : Right (n + 1) t 12 ↔ (hgts n t.kids : Int) ≤ 12 := right_hgt hR13
      obtain ⟨T', x', ah, ch, e', hPh, hmh⟩ := form_height hf3
      simp only [Value.iface.injEq] at e'
      obtain ⟨rfl, rfl⟩ := e'
      have HH : Hid (type_of% (implHeight n ah ch t.kids w3 hPh (by unfold rowBulk; omega) (fun k hk => by
        have h9 := right_hgt_le (hR13.2.1 k hk)
        omega))) := implHeight n ah ch t.kids w3 hPh (by unfold rowBulk; omega) (fun k hk => by
        have h9 := right_hgt_le (hR13.2.1 k hk)
        omega)
      have HTO : Hid (∀ wx : World, Below w3.heap.size w3 wx → Calls Tryz.prog 22 #[.iface T x] wx fun e w' => ∃ (an : Option Addr) (ln cn : Nat) (ak : Option Addr) (lk ck : Nat), e = .returned (.agg #[.int .i64 t.kind, .string t.name, .slice an ln cn, .slice ak lk ck]) ∧ (∃ l, cellsK t l = [.int .i64 t.kind, .string t.name, .slice an ln cn, .slice ak lk ck] ∧ NewLay wx.heap.size w' (n + 1) l t) ∧ Below wx.heap.size wx w') := fun wx hx => (implTypeOf (n + 1)).told _ _ 13 wx (hf3.below hx) hR13 hbt
      have HY : Hid (type_of% hyes) := hyes
      have HN : Hid (type_of% hno) := hno
      have H12 : Hid (type_of% h12) := h12
      have hhb : hgts n t.kids ≤ 13 := by omega
      clear HU HUF hf3 hf3' hu3 hb3 hyes hno hbb hhg hle h12 hPh hR13 hbt
      generalize t.kids.length = lh at *
      go_wp2_with fail
      refine HH.out.mono ?_
      rintro e w4 ⟨rfl, hb4⟩
      have hbw4 : Below w.heap.size w w4 := hbw3.trans (hb4.mono hbw3.size)
      have hr4 := (hb4.block w.heap.size lt3).trans hr3
      have lt4 : w.heap.size < w4.heap.size := Nat.lt_of_lt_of_le lt3 hb4.size
      by_cases hgt : (12 : Int) < (hgts n t.kids : Int)
      · have HA : Hid (UAns n ts (.mk 0 ⟨#[]⟩ [] []) false) := HN.out fun h => by have := H12.out.1 h; omega
        obtain ⟨⟨rc0, rc1, rc2, rc3⟩, rf⟩ := block4 hr4
        have rf0 := rf 0
        have rf1 := rf 1
        have rf2 := rf 2
        have rf3 := rf 3
        clear HY HN H12 rf HH HTO
        generalize hgts n t.kids = hh at *
        go_wp2_with fail
        refine ret_un rfl rfl (put4T fun j hj => ?_) ⟨.mk (.slice none 0 0) (.slice none 0 0) [], .mk 0 ⟨#[]⟩ [] [], false, rfl, HA.out, plainLay, put_below hbw4 (Nat.le_refl _)⟩
        match j, hj with
        | 0, _ => rw [rc0]; rfl
        | 1, _ => rw [rc1]; rfl
        | 2, _ => rw [rc2]; rfl
        | 3, _ => rw [rc3]; rfl
      · have HA : Hid (UAns n ts t true) := HY.out (H12.out.2 (by omega))
        have HT1 : Hid (type_of% (HTO.out w4 hb4)) := HTO.out w4 hb4
        clear HY HN H12 HH HTO
        generalize hgts n t.kids = hh at *
        go_wp2_with fail
        refine HT1.out.mono ?_
        rintro e w5 ⟨an4, ln4, cn4, ak4, lk4, ck4, rfl, ⟨l, hcl, hnl⟩, hb5⟩
        have hbw5 : Below w.heap.size w w5 := hbw4.trans (hb5.mono (by omega))
        have hr5 := (hb5.block w.heap.size lt4).trans hr4
        obtain ⟨⟨rc0, rc1, rc2, rc3⟩, rf⟩ := block4 hr5
        have rf0 := rf 0
        have rf1 := rf 1
        have rf2 := rf 2
        have rf3 := rf 3
        have HCL2 : Hid (type_of% hcl) := hcl
        have HNL : Hid (type_of% hnl) := hnl
        clear hcl hnl rf HT1
        go_wp2_with fail
        refine ret_un rfl rfl (put4T fun j hj => ?_) ⟨l, t, true, by rw [HCL2.out], HA.out, HNL.out.putU lt4 (by omega), put_below hbw5 (Nat.le_refl _)⟩
        match j, hj with
        | 0, _ => rw [rc0]; rfl
        | 1, _ => rw [rc1]; rfl
        | 2, _ => rw [rc2]; rfl
        | 3, _ => rw [rc3]; rfl

end Go.Proofs.YtjihkebafoajdaaGreatDoor
