/-
  The body of the law of Rename: the walk.
  At every type and every text impl.Rename answers as the specification does, in memory of its own (the law itself passes types that hold more than 1048576, and texts that are longer, by), and nothing that was there has turned. Its condition: impl's listed table of classes holds what the program's text lays into it, which the card ties to that text.
-/
import Derived.Test.YtjihkebafoajdaaGreatDoorRnP
import Derived.Test.YtjihkebafoajdaaGreatDoorRnS
import Derived.Test.YtjihkebafoajdaaGreatDoorUnL
import Derived.Test.YtjihkebafoajdaaGreatDoorCards
import Derived.Test.YtjihkebafoajdaaGreatDoorTie
import Derived.Test.YtjihkebafoajdaaGreatDoorTyO
import Derived.Lib.LaidTab
import Derived.ProofKit
import Derived.OpenShut
import Derived.ShutString
import Derived.ChangeOld
import Derived.Deep.DeepHandedRow
import Derived.OpenVars
import Derived.ChangeVars
namespace Go.Proofs.YtjihkebafoajdaaGreatDoor
open Go.RowKit

/-- the types of an answer are of sizes that memory can have -/
theorem rn_sized {n : Nat} {mod : ByteArray} {t t' : Ty} (h : RnAns n mod t t') (hs : Ty.sized n t) (hb : Ty.bulk n t ≤ 1048576) : Ty.sized n t' ∧ Ty.bulk n t' ≤ 16777216 := by
  rcases h with ⟨_, rfl⟩ | ⟨⟨hr, hm⟩, h⟩
  · exact ⟨hs, by omega⟩
  · obtain ⟨q1, _, q3⟩ := Ren.right hm hr h
    have q4 : Ty.bulk n t' ≤ 16777216 := by omega
    exact ⟨right_sizedR n t' 12 q1 (by omega), q4⟩
theorem told_arr {w : World} {n : Nat} {l : Lay} {t : Ty} (h : LayAt w n l t) : ∃ an cn ak ck, (cellsK t l).toArray = #[.int .i64 t.kind, .string t.name, .slice an t.names.length cn, .slice ak t.kids.length ck] := by
  obtain ⟨an, cn, ak, ck, e⟩ := told_cellsS h
  exact ⟨an, cn, ak, ck, by rw [e]⟩
theorem four_law {W : World} {b : Nat} {x0 x1 x2 x3 : Value} (h : W.heap[b]? = some (.cells #[x0, x1, x2, x3] 37 (0, 0))) : W.cell? ⟨b, 0, none⟩ = some x0 ∧ W.cell? ⟨b, 1, none⟩ = some x1 ∧ W.cell? ⟨b, 2, none⟩ = some x2 ∧ W.cell? ⟨b, 3, none⟩ = some x3 := by
  refine ⟨?_, ?_, ?_, ?_⟩ <;> simp [World.cell?, h]

set_option maxHeartbeats 6400000 in
set_option maxRecDepth 100000 in
theorem walkRn (n : Nat) (cs : List Value) (t : Ty) (mod : ByteArray) (w : World) (h : TyAt w n cs t) (hml : mod.size ≤ maxLen) (hcls : ClsIs w) :
    Calls Tryz.prog 4 #[.agg cs.toArray, .string mod] w fun e w' => e = .returned (.bool true) ∧ Below w.heap.size w w' := by
  obtain ⟨x0, x1, x2, x3, rfl⟩ : ∃ x0 x1 x2 x3, cs = [x0, x1, x2, x3] := by
    have hl := h.len
    match cs, hl with
    | [x0, x1, x2, x3], _ => exact ⟨x0, x1, x2, x3, rfl⟩
  unfold maxLen at hml
  have hB1 : Below w.heap.size w (w.alloc (.cells #[x0, x1, x2, x3] 37)) := (Below.refl _ _).alloc (Nat.le_refl _) _
  have hbx : (w.alloc (.cells #[x0, x1, x2, x3] 37)).heap[w.heap.size]? = some (.cells #[x0, x1, x2, x3] 37 (0, 0)) := heap_alloc_new w _
  have hsz : (w.alloc (.cells #[x0, x1, x2, x3] 37)).heap.size = w.heap.size + 1 := by simp
  have h1 := h.below hB1
  have hc1 := hcls.below hB1 hcls.lt
  by_cases hmz : mod.size ≤ 1048576
  · have hmn : ¬ ((mod.size : Int) > 1048576) := by omega
    have HZ : Hid (Calls Tryz.prog 14 #[.agg #[x0, x1, x2, x3], .int .i64 1048576] (w.alloc (.cells #[x0, x1, x2, x3] 37)) fun e w' => e = .returned (.int .i64 (leftOf (Ty.bulk n t) 1048576)) ∧ Below (w.alloc (.cells #[x0, x1, x2, x3] 37)).heap.size (w.alloc (.cells #[x0, x1, x2, x3] 37)) w') := lawsSzTy n _ t 1048576 _ h1 (by omega) (by omega)
    clear h hcls
    go_enter Tryz.func4, Tryz.ntmps4
    go_upto_region 4 with fail
    generalize (w.alloc (.cells #[x0, x1, x2, x3] 37)) = W1 at *
    have HFO : Hid (∀ wx : World, Below W1.heap.size W1 wx → wx.cell? ⟨w.heap.size, 0, none⟩ = some x0 ∧ wx.cell? ⟨w.heap.size, 1, none⟩ = some x1 ∧ wx.cell? ⟨w.heap.size, 2, none⟩ = some x2 ∧ wx.cell? ⟨w.heap.size, 3, none⟩ = some x3) := fun wx hx => four_law ((hx.block _ (by omega)).trans hbx)
    obtain ⟨a0, a1, a2, a3⟩ := HFO.out W1 (Below.refl _ _)
    have HDN : Hid (∀ wx : World, Below W1.heap.size W1 wx → Below w.heap.size w wx) := fun wx hx => hB1.trans (hx.mono (by omega))
    by_cases hbk : Ty.bulk n t ≤ 1048576
    · have hz1 : leftOf (Ty.bulk n t) 1048576 = 1048576 - (Ty.bulk n t : Nat) := if_pos (by omega)
      rw [hz1] at HZ
      have hsd := h1.sized
      have HToT : Hid (∀ wx : World, Below W1.heap.size W1 wx → Calls Tryz.prog 16 #[.agg #[x0, x1, x2, x3]] wx fun e w' => ∃ an ln cn ak lk ck, e = .returned (.agg #[.int .i64 t.kind, .string t.name, .slice an ln cn, .slice ak lk ck]) ∧ NewTy wx.heap.size w'.heap.size w' n [.int .i64 t.kind, .string t.name, .slice an ln cn, .slice ak lk ck] t ∧ Below wx.heap.size wx w') := fun wx hx => lawsToTy n _ t wx (h1.below hx) hbk
      have HSp : Hid (∀ (cs : List Value) (wx : World), TyAt wx n cs t → Calls Tryz.prog 15 #[.agg cs.toArray, .string mod] wx fun e w' => ∃ (l : Lay) (t' : Ty), e = .returned (.agg (cellsK t' l).toArray) ∧ RnAns n mod t t' ∧ LayAt w' n l t' ∧ Below wx.heap.size wx w') := fun cs wx hx => specRename n cs t mod wx hx hbk hmz
      have HIm : Hid (∀ (lo hi : Nat) (cs : List Value) (wx : World), Below W1.heap.size W1 wx → TyIn wx n lo hi cs t → hi ≤ wx.heap.size → Calls Tryz.prog 17 #[.agg cs.toArray, .string mod] wx (RnPost n mod t wx)) := fun lo hi cs wx hx hq hh => implRename n lo hi cs t mod wx hq hh hbk hmz (hc1.below hx hc1.lt)
      have HEr : Hid (∀ (ca cb : List Value) (wx : World), TyAt wx n ca t → TyAt wx n cb t → Calls Tryz.prog 9 #[.agg ca.toArray, .agg cb.toArray] wx fun e w' => e = .returned (.bool true) ∧ Below wx.heap.size wx w') := fun ca cb wx ha hb => lawsEqTy n ca cb t wx ha hb (by omega)
      have HEt : Hid (∀ (wx : World) (t' : Ty) (l l' : Lay), RnAns n mod t t' → LayAt wx n l t' → LayAt wx n l' t' → Calls Tryz.prog 9 #[.agg (cellsK t' l).toArray, .agg (cellsK t' l').toArray] wx fun e w' => e = .returned (.bool true) ∧ Below wx.heap.size wx w') := fun wx t' l l' hr q1 q2 => lawsEqTy n _ _ t' wx (q1.at (rn_sized hr hsd hbk).1) (q2.at (rn_sized hr hsd hbk).1) (by have := (rn_sized hr hsd hbk).2; omega)
      have HUS : Hid (∀ t', RnAns n mod t t' → Ty.bulk n t' ≤ 16777216) := fun t' hr => (rn_sized hr hsd hbk).2
      have HMk : Hid (∀ (lo hi : Nat) (cs : List Value) (wx : World), TyIn wx n lo hi cs t → hi ≤ wx.heap.size → Calls Tryz.prog 12 #[.agg cs.toArray, .int .i64 1] wx fun e w' => ∃ k : Nat, e = .returned (.int .i64 k) ∧ 1 ≤ k ∧ k ≤ 200000000 ∧ Only lo hi wx w') := fun lo hi cs wx hq hh => lawsMarkTy n cs t lo hi 1 wx hq hh (by omega) (by omega) (by omega)
      have hneg : ¬ (1048576 - (Ty.bulk n t : Int) < 0) := by omega
      clear h1 hc1 hz1 hsd hB1 hbx
      generalize hBu : Ty.bulk n t = Bu at *
      clear hBu
      go_wp2_with fail
      refine HZ.out.mono ?_
      rintro e w2 ⟨rfl, hw2⟩
      clear HZ a0 a1 a2 a3
      obtain ⟨a0, a1, a2, a3⟩ := HFO.out w2 hw2
      go_wp2_with fail
      refine (HToT.out _ hw2).mono ?_
      rintro e w3 ⟨an3, ln3, cn3, ak3, lk3, ck3, rfl, hn3, hb3⟩
      have hw3 := hw2.trans (hb3.mono hw2.size)
      have HS3 : Hid (type_of% (HSp.out _ w3 hn3.at)) := HSp.out _ w3 hn3.at
      clear hn3 hb3 hw2 HSp a0 a1 a2 a3
      go_wp2_with fail
      refine HS3.out.mono ?_
      rintro e w4 ⟨l0, t', rfl, hans, hl0, hb4⟩
      have hw4 := hw3.trans (hb4.mono hw3.size)
      obtain ⟨p1, pc1, p2, pc2, ecs⟩ := told_arr hl0
      rw [ecs]
      clear HS3 hb4 hw3
      have hw5 := hw4.alloc hw4.size (.cells #[.int .i64 t'.kind, .string t'.name, .slice p1 t'.names.length pc1, .slice p2 t'.kids.length pc2] 27)
      go_upto_region 8 with fail
      obtain ⟨W5, hW5⟩ : ∃ W5, W5 = w4.alloc (.cells #[.int .i64 t'.kind, .string t'.name, .slice p1 t'.names.length pc1, .slice p2 t'.kids.length pc2] 27) := ⟨_, rfl⟩
      have hb6 : W5.heap[w4.heap.size]? = some (.cells #[.int .i64 t'.kind, .string t'.name, .slice p1 t'.names.length pc1, .slice p2 t'.kids.length pc2] 27) := by rw [hW5]; exact (MapKept.heap_alloc w4 _).1
      have hl5 : LayAt W5 n l0 t' := by rw [hW5]; exact hl0.below ((Below.refl _ _).alloc (Nat.le_refl _) _)
      have hl0t : ∀ b ∈ Lay.blocks n l0, b < w4.heap.size := fun b hb => hl0.lt hb
      have hs5 : w4.heap.size < W5.heap.size := by rw [hW5]; simp
      have hs4 := hw4.size
      rw [← hW5] at hw5 ⊢
      clear hW5 hl0 hw4
      obtain ⟨a0, a1, a2, a3⟩ := HFO.out W5 hw5
      go_wp2_with fail
      refine (HToT.out _ hw5).mono ?_
      rintro e w6 ⟨bn, ln6, cn6, bk, lk6, ck6, rfl, hn6, h56⟩
      have hw6 := hw5.trans (h56.mono hw5.size)
      have hs6 := h56.size
      clear a0 a1 a2 a3
      have h67 : Below w6.heap.size w6 (w6.alloc (.cells #[.int .i64 t.kind, .string t.name, .slice bn ln6 cn6, .slice bk lk6 ck6] 27)) := (Below.refl _ _).alloc (Nat.le_refl _) _
      have hb7x : (w6.alloc (.cells #[.int .i64 t.kind, .string t.name, .slice bn ln6 cn6, .slice bk lk6 ck6] 27)).heap[w6.heap.size]? = some (.cells #[.int .i64 t.kind, .string t.name, .slice bn ln6 cn6, .slice bk lk6 ck6] 27 (0, 0)) := heap_alloc_new w6 _
      go_upto_region 9 with fail
      obtain ⟨W7, hW7⟩ : ∃ W7, W7 = w6.alloc (.cells #[.int .i64 t.kind, .string t.name, .slice bn ln6 cn6, .slice bk lk6 ck6] 27) := ⟨_, rfl⟩
      have hs7 : w6.heap.size < W7.heap.size := by rw [hW7]; simp
      rw [← hW7] at h67 hb7x ⊢
      clear hW7
      have hw7 := hw6.trans (h67.mono hw6.size)
      have hn7 := hn6.step (Above.of_below (h67.mono (Nat.le_refl _)) : Above W5.heap.size w6 W7)
      obtain ⟨⟨b0, b1, b2, b3⟩, _⟩ := block4 hb7x
      have HI7 : Hid (type_of% (HIm.out W5.heap.size w6.heap.size _ W7 hw7 hn7.own (by omega))) := HIm.out W5.heap.size w6.heap.size _ W7 hw7 hn7.own (by omega)
      go_wp2_with fail
      refine HI7.out.mono ?_
      rintro e w8 ⟨lg, t'', rfl, hans', hg8, hb8⟩
      obtain rfl := hans.one hans'
      have hw8 := hw7.trans (hb8.mono hw7.size)
      obtain ⟨d1, f1, d2, f2, gcs⟩ := told_arr hg8.1
      rw [gcs]
      have hs8 := hb8.size
      have hgb : ∀ b ∈ Lay.blocks n lg, W7.heap.size ≤ b ∧ b < w8.heap.size := fun b hb => ⟨hg8.2.2 b hb, hg8.1.lt hb⟩
      clear b0 b1 b2 b3
      go_upto_region 10 with fail
      obtain ⟨W9, hW9⟩ : ∃ W9, W9 = w8.alloc (.cells #[.int .i64 t'.kind, .string t'.name, .slice d1 t'.names.length f1, .slice d2 t'.kids.length f2] 27) := ⟨_, rfl⟩
      have h89 : Below w8.heap.size w8 W9 := by rw [hW9]; exact (Below.refl _ _).alloc (Nat.le_refl _) _
      have hb10 : W9.heap[w8.heap.size]? = some (.cells #[.int .i64 t'.kind, .string t'.name, .slice d1 t'.names.length f1, .slice d2 t'.kids.length f2] 27) := by rw [hW9]; exact (MapKept.heap_alloc w8 _).1
      have hs9 : w8.heap.size < W9.heap.size := by rw [hW9]; simp
      rw [← hW9]
      have hw9 : Below W1.heap.size W1 W9 := hw8.trans (h89.mono hw8.size)
      have h79 : Below W7.heap.size W7 W9 := hb8.trans (h89.mono hs8)
      have h69 : Below w6.heap.size w6 W9 := h67.trans (h79.mono (by omega))
      have h59 : Below W5.heap.size W5 W9 := h56.trans (h69.mono hs6)
      have hb69 := (h59.block w4.heap.size hs5).trans hb6
      have hb79 := (h79.block w6.heap.size hs7).trans hb7x
      have hl9 : LayAt W9 n l0 t' := hl5.below h59
      have hg9 : LayAt W9 n lg t' := hg8.1.below h89
      have hn9 := hn7.step (Above.of_below (h79.mono (Nat.le_refl _)) : Above W5.heap.size W7 W9)
      have hgn := hg8.2.1
      have hle5 := hw5.size
      clear hW9 hb6 hl5 h56 h67 hg8 hb8 hn6 hn7 HI7 hans' h59 h69 h79 hw5 hw6 hw7 hw8 hb7x h89
      have HG : Hid (∀ (ex : Nat → Prop) (wx : World), KeepB ex W9 wx → (∀ b, ex b → (W5.heap.size ≤ b ∧ b < w6.heap.size) ∨ b ∈ Lay.blocks n lg) → LayAt wx n l0 t' ∧ wx.heap[w4.heap.size]? = some (.cells #[.int .i64 t'.kind, .string t'.name, .slice p1 t'.names.length pc1, .slice p2 t'.kids.length pc2] 27) ∧ wx.heap[w8.heap.size]? = some (.cells #[.int .i64 t'.kind, .string t'.name, .slice d1 t'.names.length f1, .slice d2 t'.kids.length f2] 27) ∧ wx.heap[w6.heap.size]? = some (.cells #[.int .i64 t.kind, .string t.name, .slice bn ln6 cn6, .slice bk lk6 ck6] 27)) := fun ex wx hk he => by
        have no : ∀ b, (b < W5.heap.size ∨ b = w8.heap.size ∨ b = w6.heap.size) → ¬ ex b := fun b hb hx => by
          rcases he b hx with q | q
          · omega
          · have := hgb b q; omega
        refine ⟨hl9.same fun b hb => hk.2 b (by have := hl0t b hb; omega) (no b (.inl (by have := hl0t b hb; omega))), ?_, ?_, ?_⟩
        · rw [hk.2 _ (by omega) (no _ (.inl hs5))]; exact hb69
        · rw [hk.2 _ hs9 (no _ (.inr (.inl rfl)))]; exact hb10
        · rw [hk.2 _ (by omega) (no _ (.inr (.inr rfl)))]; exact hb79
      have HG1 : Hid (∀ (ex : Nat → Prop) (wx : World), KeepB ex W9 wx → (∀ b, ex b → W5.heap.size ≤ b ∧ b < w6.heap.size) → LayAt wx n lg t') := fun ex wx hk he => hg9.same fun b hb => hk.2 b (by have := hgb b hb; omega) fun hx => by have := he b hx; have := hgb b hb; omega
      have HEQ : Hid (∀ wx : World, LayAt wx n lg t' → LayAt wx n l0 t' → Calls Tryz.prog 9 #[.agg #[.int .i64 t'.kind, .string t'.name, .slice d1 t'.names.length f1, .slice d2 t'.kids.length f2], .agg #[.int .i64 t'.kind, .string t'.name, .slice p1 t'.names.length pc1, .slice p2 t'.kids.length pc2]] wx fun e w' => e = .returned (.bool true) ∧ Below wx.heap.size wx w') := fun wx q1 q2 => by
        have := HEt.out wx t' lg l0 hans q1 q2
        rw [gcs, ecs] at this
        exact this
      have K9 : KeepB (fun _ => False) W9 W9 := ⟨Nat.le_refl _, fun _ _ _ => rfl⟩
      obtain ⟨⟨c0, c1, c2, c3⟩, _⟩ := block4 hb69
      obtain ⟨⟨g0, g1, g2, g3⟩, _⟩ := block4 hb10
      go_wp2_with fail
      refine (HEQ.out _ hg9 hl9).mono ?_
      rintro e w10 ⟨rfl, hb10'⟩
      have hw10 := hw9.trans (hb10'.mono hw9.size)
      have hn10 := hn9.step (Above.of_below (hb10'.mono (Nat.le_refl _)) : Above W5.heap.size W9 w10)
      have K10 := K9.below hb10'
      clear hw9 hn9 hb10' K9 c0 c1 c2 c3 g0 g1 g2 g3
      obtain ⟨a0, a1, a2, a3⟩ := HFO.out w10 hw10
      obtain ⟨_, _, _, y7⟩ := HG.out _ w10 K10 (fun b h => h.elim)
      obtain ⟨⟨b0, b1, b2, b3⟩, _⟩ := block4 y7
      go_upto_region 12 with fail
      go_cut [38] from 34 to 38 (fun c wx => c = .bool false ∧ Below w10.heap.size w10 wx)
      case first =>
        go_region_with (first | (go_at_call 16; refine (HToT.out _ hw10.drew).mono ?_; rintro e w12 ⟨dn, ln12, cn12, dk, lk12, ck12, rfl, hn12, hb12⟩; have hw12 := hw10.drew.trans (hb12.mono hw10.size); obtain ⟨_, _, _, y12⟩ := HG.out _ w12 (K10.below (((Below.refl _ w10).drew).trans hb12)) (fun b h => h.elim); obtain ⟨⟨c0, c1, c2, c3⟩, _⟩ := block4 y12) | (go_at_call 9; refine (HEr.out _ _ _ ((hn10.step (Above.of_below ((((Below.refl _ w10).drew).trans hb12).mono (Nat.le_refl _)) : Above W5.heap.size w10 w12)).at) hn12.at).mono ?_; rintro e w13 ⟨rfl, hb13⟩))
        all_goals
          go_wp2_with fail
          go_meet
          exact ⟨rfl, ((Below.refl _ w10).drew.trans hb12).trans (hb13.mono (((Below.refl _ w10).drew.trans hb12).size))⟩
      case rest =>
        obtain ⟨rfl, hb14⟩ := hcut
        obtain ⟨w14, rfl⟩ : ∃ w14, w14 = wc := ⟨_, rfl⟩
        have hw14 := hw10.trans (hb14.mono hw10.size)
        have hn14 := hn10.step (Above.of_below (hb14.mono (Nat.le_refl _)) : Above W5.heap.size w10 w14)
        have K14 := (K10.below hb14).mono (ex' := fun b => W5.heap.size ≤ b ∧ b < w6.heap.size) (fun b h => h.elim)
        clear hw10 hn10 hb14 K10 a0 a1 a2 a3 b0 b1 b2 b3 y7 HEr
        obtain ⟨_, _, _, y7⟩ := HG.out _ w14 K14 (fun b h => .inl h)
        obtain ⟨⟨b0, b1, b2, b3⟩, _⟩ := block4 y7
        have HM : Hid (type_of% (HMk.out _ _ _ w14 hn14.own hn14.1)) := HMk.out _ _ _ w14 hn14.own hn14.1
        clear y7
        go_wp2_with fail
        refine HM.out.mono ?_
        rintro e w16 ⟨k1, rfl, _, _, on16⟩
        have hw16 := hw14.trans (on16.below (by omega : W1.heap.size ≤ W5.heap.size) hw14.size)
        have K16 := K14.only on16 (fun b h1 h2 => ⟨h1, h2⟩)
        clear hw14 hn14 on16 K14 HM b0 b1 b2 b3 HMk
        have lg16 := HG1.out _ w16 K16 (fun b h => h)
        obtain ⟨l16, x6, x10, _⟩ := HG.out _ w16 K16 (fun b h => .inl h)
        obtain ⟨⟨q0, q1, q2, q3⟩, _⟩ := block4 x6
        obtain ⟨⟨r0, r1, r2, r3⟩, _⟩ := block4 x10
        have HE16 : Hid (type_of% (HEQ.out _ lg16 l16)) := HEQ.out _ lg16 l16
        clear lg16 l16 x6 x10
        have hk0 : ¬ ((k1 : Int) < 0) := by omega
        go_wp2_with fail
        refine HE16.out.mono ?_
        rintro e w17 ⟨rfl, hb17⟩
        have hw17 := hw16.trans (hb17.mono hw16.size)
        have K17 := K16.below hb17
        clear hw16 K16 q0 q1 q2 q3 r0 r1 r2 r3 HE16 hb17
        have lg17 := HG1.out _ w17 K17 (fun b h => h)
        obtain ⟨_, _, x10, _⟩ := HG.out _ w17 K17 (fun b h => .inl h)
        obtain ⟨⟨r0, r1, r2, r3⟩, _⟩ := block4 x10
        have hbt := HUS.out t' hans
        obtain ⟨M, hM0, HMT, HHT⟩ : ∃ M : Int, 0 ≤ M ∧ Hid (∀ wx : World, LayAt wx n lg t' → Calls Tryz.prog 12 #[.agg #[.int .i64 t'.kind, .string t'.name, .slice d1 t'.names.length f1, .slice d2 t'.kids.length f2], .int .i64 1] wx fun e w' => e = .returned (.int .i64 M) ∧ LayAt w' n lg (markTop n 1 t') ∧ OnlyL (Lay.blocks n lg) wx w') ∧ Hid (∀ wx : World, LayAt wx n lg (markTop n 1 t') → Calls Tryz.prog 13 #[.agg #[.int .i64 t'.kind, .string t'.name, .slice d1 t'.names.length f1, .slice d2 t'.kids.length f2], .int .i64 1] wx fun e w' => e = .returned (.int .i64 M) ∧ Below wx.heap.size wx w') := by
          refine ⟨((1 + cntT n t' : Nat) : Int), by omega, fun wx hx => ?_, fun wx hx => ?_⟩
          · have := lawsMarkTyL n lg t' 1 wx hx hgn (by omega) (by omega) (by omega)
            rw [gcs] at this
            exact this
          · have := lawsHeldTyL n lg t' 1 wx hx (by omega) (by omega) (by omega)
            rw [gcs] at this
            exact this
        have hM1 : ¬ M < 0 := by omega
        clear hbt x10 HG1 hk0
        go_wp2_with fail
        refine (HMT.out _ lg17).mono ?_
        rintro e w18 ⟨rfl, hm18, on18⟩
        have hw18 := hw17.trans (on18.below (fun x hx => by have := hgb x hx; omega) hw17.size)
        have K18 := (K17.mono (ex' := fun b => (W5.heap.size ≤ b ∧ b < w6.heap.size) ∨ b ∈ Lay.blocks n lg) (fun b h => .inl h)).onlyL on18 (fun b h => .inr h)
        clear r0 r1 r2 r3 lg17 on18 hw17 K17 HMT
        obtain ⟨_, _, x10, _⟩ := HG.out _ w18 K18 (fun b h => h)
        obtain ⟨⟨r0, r1, r2, r3⟩, _⟩ := block4 x10
        clear x10
        go_wp2_with fail
        refine (HHT.out _ hm18).mono ?_
        rintro e w19 ⟨rfl, hb19⟩
        have hw19 := hw18.trans (hb19.mono hw18.size)
        have hm19 := hm18.below hb19
        have K19 := K18.below hb19
        clear r0 r1 r2 r3 hw18 hm18 K18 hb19
        obtain ⟨a0, a1, a2, a3⟩ := HFO.out w19 hw19
        go_wp2_with fail
        refine (HToT.out _ hw19).mono ?_
        rintro e w21 ⟨cn2, ln21, cc21, ck2, lk21, ckc21, rfl, hn21, hb21⟩
        have hw21 := hw19.trans (hb21.mono hw19.size)
        have hm21 := hm19.below hb21
        have K21 := K19.below hb21
        have HI21 : Hid (type_of% (HIm.out w19.heap.size w21.heap.size _ w21 hw21 hn21.own (Nat.le_refl _))) := HIm.out w19.heap.size w21.heap.size _ w21 hw21 hn21.own (Nat.le_refl _)
        clear hw19 hm19 K19 hb21 hn21 a0 a1 a2 a3
        go_wp2_with fail
        refine HI21.out.mono ?_
        rintro e w22 ⟨lh, t2, rfl, hans2, hh22, hb22⟩
        obtain rfl := hans.one hans2
        have hw22 := hw21.trans (hb22.mono hw21.size)
        have hm22 := hm21.below hb22
        have K22 := K21.below hb22
        obtain ⟨e1, u1, e2, u2, hcs⟩ := told_arr hh22.1
        rw [hcs]
        have hB23 : Below w22.heap.size w22 (w22.alloc (.cells #[.int .i64 t'.kind, .string t'.name, .slice e1 t'.names.length u1, .slice e2 t'.kids.length u2] 27)) := (Below.refl _ _).alloc (Nat.le_refl _) _
        have hw23 := hw22.trans (hB23.mono hw22.size)
        have hm23 := hm22.below hB23
        have K23 := K22.below hB23
        have hh23 := hh22.1.below hB23
        obtain ⟨l23, x6, _, _⟩ := HG.out _ _ K23 (fun b h => h)
        obtain ⟨⟨q0, q1, q2, q3⟩, _⟩ := block4 x6
        have HE23 := HEt.out _ t' lh l0 hans hh23 l23
        rw [hcs, ecs] at HE23
        have HE : Hid (type_of% HE23) := HE23
        clear HE23 hw21 hm21 K21 hb22 hB23 hw22 hm22 K22 x6 l23 hh23 hh22 HI21 hans2
        go_wp2_with fail
        clear q0 q1 q2 q3
        generalize (w22.alloc (.cells #[.int .i64 t'.kind, .string t'.name, .slice e1 t'.names.length u1, .slice e2 t'.kids.length u2] 27)) = W23 at *
        refine HE.out.mono ?_
        rintro e w24 ⟨rfl, hb24⟩
        have hw24 := hw23.trans (hb24.mono hw23.size)
        have hm24 := hm23.below hb24
        have K24 := K23.below hb24
        clear hw23 hm23 K23 hb24 HE
        obtain ⟨_, _, x10, _⟩ := HG.out _ w24 K24 (fun b h => h)
        obtain ⟨⟨r0, r1, r2, r3⟩, _⟩ := block4 x10
        clear x10
        go_wp2_with fail
        refine (HHT.out _ hm24).mono ?_
        rintro e w25 ⟨rfl, hb25⟩
        have hw25 := hw24.trans (hb25.mono hw24.size)
        clear hw24 hm24 K24 hb25 HHT
        go_wp2_with fail
        go_ret
        exact ⟨rfl, HDN.out _ hw25⟩
    · have hz1 : leftOf (Ty.bulk n t) 1048576 = -1 := if_neg (by omega)
      rw [hz1] at HZ
      clear h1 hc1 hz1 hbk
      go_wp2_with fail
      refine HZ.out.mono ?_
      rintro e w2 ⟨rfl, hb2⟩
      go_wp2_with fail
      go_ret
      exact ⟨rfl, HDN.out _ hb2⟩
  · have hmn : (mod.size : Int) > 1048576 := by omega
    clear h hcls h1 hc1
    go_enter Tryz.func4, Tryz.ntmps4
    go_wp2_with fail
    go_ret
    exact ⟨rfl, hB1⟩

end Go.Proofs.YtjihkebafoajdaaGreatDoor

namespace Go.Proofs.YtjihkebafoajdaaGreatDoor.exactRename
open Go.ChangeShapes Go.WideShapes Go.ChangeAt Go.RowKit
open Go.ChangeMaps (open_string shut_string)

theorem own : ownKnob Tryz.prog.godebug = none := by kernel_rfl
theorem gTab : Tryz.prog.globalNamed "loop.example/g00276/impl.classes" = some 0 := by kernel_rfl
theorem gTabType : (Tryz.prog.globals[0]?).map (·.type) = some 111 := by kernel_rfl
def clsTab : List Int := (List.range 128).map fun i => (Lx.cls i : Int)
theorem tabDatum : (Rows.laid_loop_example_g00276_impl_classes : DataW Unit) = Lib.tabData .u8 clsTab := by kernel_rfl
theorem clsIs {W : World} (h : Lib.TabIs Tryz.prog W "loop.example/g00276/impl.classes" .u8 clsTab) : ClsIs W := fun i hi => by
  have := h.cell gTab i (by simp [clsTab]; exact hi)
  rw [this]
  simp [clsTab, List.getD, hi]

theorem table {W : World} (h : laidMetH Tryz.prog Rows.fnExactRenameRow.laid W) : ClsIs W := by
  have h2 : laidMet Tryz.prog [("loop.example/g00276/impl.classes", Rows.laid_loop_example_g00276_impl_classes)] W := h
  rw [tabDatum] at h2
  exact clsIs (Lib.tabIs_of_head gTab gTabType Tryz.underlying111 Tryz.underlying5 (by kernel_rfl) (by kernel_rfl) h2)

theorem laidOut : laidOutB Tryz.prog = true := by kernel_rfl

set_option maxRecDepth 100000 in
theorem contract (H : Type) (enc : TypeId × Value → H) (W : World) (base : Nat) (args : Array Value) (ds gs : List (DataW H)) (before : List MemPlace)
    (hval : ∀ (j : Nat) t v, Tryz.f4.params[j]? = some t → args[j]? = some v → Value.okWide Tryz.prog W .any base t v)
    (hW : DataW.Whole enc Tryz.prog Tryz.f4.params.toList Rows.fnExactRenameSpec.vars false W args.toList ds gs before) (hL : laidMetH Tryz.prog Rows.fnExactRenameRow.laid W) :
    Calls Tryz.prog 4 args W fun e W' => ∃ v, e = .returned v ∧ Rows.fnExactRenameSpec.post enc Tryz.prog Tryz.f4 false true false false W args v W' := by
  have hW' := hW
  obtain ⟨p, q, hA0, hV, rfl, hfz, hnd⟩ := hW
  have hA : DataW.TrodAll enc Tryz.prog W 0 (fun _ => true) true Tryz.f4.params.toList args.toList ds p := hA0
  rw [Tryz.params4] at hA hval
  obtain ⟨v0, vs0, d0, ds0, p0, q0, hargs, rfl, rfl, h0, r0⟩ := trodAll_cons hA
  obtain ⟨v1, vs1, d1, ds1, p1, q1, rfl, rfl, rfl, h1, r1⟩ := trodAll_cons r0
  obtain ⟨rfl, rfl, rfl⟩ := trodAll_nil r1
  obtain rfl : args = #[v0, v1] := by cases args; simp_all
  have hV0 := hV
  obtain ⟨g0, t0, cs0, fu0, dv, pv, rfl, _, _, _, _, _⟩ := trodVars_one hV
  obtain ⟨cs, rfl, hcs⟩ := okWide_struct Tryz.underlying37 (hval 0 37 v0 rfl rfl)
  obtain ⟨s, rfl, rfl, rfl, hs⟩ := open_string Tryz.underlying9 (hval 1 9 v1 rfl rfl) h1
  have k0 := h0
  have lt0 : ∀ x ∈ p0, x.block < W.heap.size := by obtain ⟨m, hm⟩ := k0; exact DataW.trod_lt m _ _ _ hm
  obtain ⟨fuel, hf⟩ := h0
  obtain ⟨t, ht⟩ := opened_ty fuel _ _ hf
  clear hA0
  refine (walkRn fuel _ t s W ht hs (table hL)).mono fun e W' ⟨he, bel⟩ => ?_
  subst he
  exact ⟨_, rfl, _, _, _, [], _, _, hW', trodAll_mk1 (shut_bool Tryz.underlying4 _), (trodAll_cons_mk (Below.trod laidOut (by kernel_rfl) (of_decide_eq_true (by kernel_rfl)) k0 bel lt0) (trodAll_cons_mk (shut_string Tryz.underlying9 hs) trodAll_mk0)), Below.trodVars laidOut bel (by kernel_rfl) hV0, bel.frame _, fun h => by cases h⟩

def fill (cs : Array Value) : Obj → Obj
  | .cells _ t frozen => .cells cs t frozen
  | o => o
def laidWorld (P : Program) (os : Os) : World :=
  { World.holding P os ⟨#[], #[], []⟩ with heap := (World.holding P os ⟨#[], #[], []⟩).heap.modify 0 (fill (clsTab.map fun z => Value.int .u8 z).toArray) }
theorem laid_met (os : Os) : laidMet Tryz.prog Rows.fnExactRenameRow.laid ((laidWorld Tryz.prog os).forCall (fun _ _ => 0) ⟨#[], #[.agg #[.int .i64 0, .string ⟨#[]⟩, .slice none 0 0, .slice none 0 0], .string ⟨#[]⟩], []⟩).memory :=
  laidMet_of_run' 8 (by kernel_rfl) (by kernel_rfl)
theorem reads (os : Os) {H : Type} (enc : TypeId × Value → H) : ∃ places, DataW.whole enc Tryz.prog ((laidWorld Tryz.prog os).forCall (fun _ _ => 0) ⟨#[], #[.agg #[.int .i64 0, .string ⟨#[]⟩, .slice none 0 0, .slice none 0 0], .string ⟨#[]⟩], []⟩).memory Tryz.f4.params.toList Rows.fnExactRenameSpec.vars false #[Value.agg #[.int .i64 0, .string ⟨#[]⟩, .slice none 0 0, .slice none 0 0], .string ⟨#[]⟩].toList 8 = some ([.agg [.lit (.int .i64 0), .lit (.string []), .nil, .nil], .lit (.string [])], [Rows.laid_loop_example_g00276_impl_classes], places) :=
  ⟨MemPlace.row ⟨0, 0, none⟩ 128, by kernel_rfl⟩

set_option maxRecDepth 100000 in
theorem lifted (os : Os) (started : os.Started) (H : Type) (enc : TypeId × Value → H) (F : Stop.Interp) :
    ReturnsInHanded {} Tryz.checked os 4 .any ((OpenSpec.ofChange Rows.fnExactRenameSpec).preRow enc Tryz.prog Tryz.f4 Rows.fnExactRenameRow.domain false Rows.fnExactRenameRow.laid) (((OpenSpec.ofChange Rows.fnExactRenameSpec).at F).post enc Tryz.prog Tryz.f4 false true false false) := by
  obtain ⟨places, hx⟩ := reads os enc
  refine returnsInHanded_of_row (C := Tryz.checked) (s := OpenSpec.ofChange Rows.fnExactRenameSpec) own started (by kernel_rfl) Tryz.func4
    (witness_row_at (enc := enc) (C := Tryz.checked) false (laidWorld Tryz.prog os) #[.agg #[.int .i64 0, .string ⟨#[]⟩, .slice none 0 0, .slice none 0 0], .string ⟨#[]⟩] rfl (by kernel_rfl) (by kernel_rfl) (by kernel_rfl)
      (OpenSpec.preRow_of_cond 8 hx (by kernel_rfl) (fun k hk => by cases hk) (by kernel_rfl) (laid_met os))) ?_
  intro W base args ds gs before hval hW _ _ _ hL _ _
  exact contract H enc W base args ds gs before hval hW hL

theorem said : Rows.FnExactRenameSaid :=
  OpenClaim.holds_of_cond 4 Tryz.f4 rfl rfl rfl rfl rfl rfl rfl ⟨rfl, rfl, rfl, rfl, rfl⟩ rfl rfl rfl rfl rfl (by kernel_rfl) Tryz.func4 (by kernel_rfl)
    (of_decide_eq_true (by kernel_rfl)) (by unfold Func.isWrapper; first | (rw [if_pos (by decide +kernel)]; kernel_rfl) | (rw [if_neg (by decide +kernel)]; exact ⟨rfl, rfl⟩))
    (fun os started H enc _ F => by rw [OpenClaim.pre_eq_preRow]; exact lifted os started H enc F)

theorem plain (f : FuncId) (fn : Func) (hf : Tryz.pinned.checked.prog.funcNamed "loop.example/g00276/laws.FnExactRename" = some f) (hfn : Tryz.pinned.checked.prog.funcs[f]? = some fn) :
    Rows.fnExactRenameCard.stood.looks = Tryz.pinned.checked.prog.looks [] ∧ ∀ (j : Nat) t, fn.params[j]? = some t → Tryz.pinned.checked.prog.wantsStandIn t = false := by
  obtain rfl : f = 4 := Option.some.inj ((show Tryz.prog.funcNamed "loop.example/g00276/laws.FnExactRename" = some 4 by kernel_rfl).symm.trans hf) |>.symm
  obtain rfl : fn = Tryz.f4 := (Option.some.inj (Tryz.func4.symm.trans hfn)).symm
  refine ⟨by kernel_rfl, fun j t ht => ?_⟩
  rw [Tryz.params4] at ht
  have hm : t = 37 ∨ t = 9 := by simpa using Array.mem_of_getElem? ht
  rcases hm with rfl | rfl
  · exact (show Tryz.prog.wantsStandIn 37 = false by kernel_rfl)
  · exact (show Tryz.prog.wantsStandIn 9 = false by kernel_rfl)

end Go.Proofs.YtjihkebafoajdaaGreatDoor.exactRename

namespace Go.Proofs.YtjihkebafoajdaaGreatDoor

theorem exactRename_holds : Rows.FnExactRenameCardSaid :=
  Claim7.holds_tied_plain_at .later [] _ _ _ _ exactRename.said (fun _ h => by cases h) (by kernel_rfl) (fun _ h => by cases h) fnExactRename_row_tie rfl ⟨rfl, rfl⟩ (by kernel_rfl) rfl exactRename.plain (by kernel_rfl)

end Go.Proofs.YtjihkebafoajdaaGreatDoor
