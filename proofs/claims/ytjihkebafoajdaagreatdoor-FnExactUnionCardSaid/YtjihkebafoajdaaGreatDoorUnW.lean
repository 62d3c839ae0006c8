/-
  The body of the law of Union: the walk.
  At every list of types impl.Union answers as the specification does, in memory of its own (the law itself passes lists that hold more than 1048576 by), and nothing that was there has turned. Its condition: impl's listed table of classes holds what the program's text lays into it, which the card ties to that text.
-/
import Derived.Test.YtjihkebafoajdaaGreatDoorUnL
import Derived.Test.YtjihkebafoajdaaGreatDoorCards
import Derived.Test.YtjihkebafoajdaaGreatDoorTie
import Derived.Test.YtjihkebafoajdaaGreatDoorTyO
import Derived.Lib.LaidTab
import Derived.ProofKit
import Derived.OpenShut
import Derived.ShutString
import Derived.ChangeOld
import Derived.Deep.DeepHandedRow
import Derived.OpenVars
import Derived.ChangeVars
namespace Go.Proofs.YtjihkebafoajdaaGreatDoor
open Go.RowKit

set_option maxHeartbeats 6400000 in
set_option maxRecDepth 100000 in
theorem walkUn (n : Nat) (vk : Value) (ks : List Ty) (w : World) (hrow : RowAt w (TyAt w n) vk ks) (hkl : ks.length ≤ maxLen) (hcls : ClsIs w) :
    Calls Tryz.prog 3 #[vk] w fun e w' => e = .returned (.bool true) ∧ Below w.heap.size w w' := by
  have HZR : Hid (Calls Tryz.prog 5 #[vk, .int .i64 1048576] w fun e w' => e = .returned (.int .i64 (leftOf (rowBulk n ks) 1048576)) ∧ Below w.heap.size w w') := lawsSzRow n (lawsSzTy n) vk ks 1048576 w hrow hkl (by omega) (by omega)
  obtain ⟨ak0, ck0, rfl, _⟩ := rowOpen hrow
  by_cases hzk : (rowBulk n ks : Int) ≤ 1048576
  · have hz2 : leftOf (rowBulk n ks) 1048576 = 1048576 - rowBulk n ks := if_pos hzk
    rw [hz2] at HZR
    have hrb : rowBulk n ks ≤ 1048576 := by omega
    have hksz : ∀ q ∈ ks, Ty.sized n q := row_sized hrow
    have HToR : Hid (∀ wx : World, Below w.heap.size w wx → Calls Tryz.prog 7 #[.slice ak0 ks.length ck0] wx fun e w' => e = .returned (.slice (some ⟨wx.heap.size, 0, none⟩) ks.length ks.length) ∧ NewRow wx.heap.size w'.heap.size w' n (.slice (some ⟨wx.heap.size, 0, none⟩) ks.length ks.length) ks ∧ Below wx.heap.size wx w') := fun wx hx => lawsToRow n (lawsToTy n) _ ks wx (hrow.below hx fun cs t _ h => h.below hx) hrb
    have HSp : Hid (∀ (wx : World) (vb : Value), RowAt wx (TyAt wx n) vb ks → Calls Tryz.prog 6 #[vb] wx (UPost n ks wx)) := fun wx vb h2 => specUnion n vb ks wx h2 (by omega)
    have HIm : Hid (∀ (wx : World) (vb : Value), Below w.heap.size w wx → RowAt wx (TyAt wx n) vb ks → Calls Tryz.prog 8 #[vb] wx fun e w' => ∃ (l : Lay) (t : Ty) (ok : Bool), e = .returned (.tuple #[.agg (cellsK t l).toArray, .bool ok]) ∧ UAns n ks t ok ∧ NewLay wx.heap.size w' (n + 1) l t ∧ Below wx.heap.size wx w') := fun wx vb hx h2 => implUnion n vb ks wx h2 (by omega) (hcls.below hx hcls.lt)
    have HEr : Hid (∀ (wx : World) (va vb : Value), RowAt wx (TyAt wx n) va ks → RowAt wx (TyAt wx n) vb ks → Calls Tryz.prog 10 #[va, vb] wx fun e w' => e = .returned (.bool true) ∧ Below wx.heap.size wx w') := fun wx va vb h1 h2 => lawsEqRow n (lawsEqTy n) va vb ks wx h1 h2 (by omega)
    have HEt : Hid (∀ (wx : World) (t : Ty) (ok : Bool) (l l' : Lay), UAns n ks t ok → LayAt wx (n + 1) l t → LayAt wx (n + 1) l' t → Calls Tryz.prog 9 #[.agg (cellsK t l).toArray, .agg (cellsK t l').toArray] wx fun e w' => e = .returned (.bool true) ∧ Below wx.heap.size wx w') := fun wx t ok l l' hr h1 h2 => lawsEqTy (n + 1) _ _ t wx (h1.at (un_sized hr hksz hrb).1) (h2.at (un_sized hr hksz hrb).1) (by have := (un_sized hr hksz hrb).2; omega)
    have HUS : Hid (∀ t ok, UAns n ks t ok → Ty.bulk (n + 1) t ≤ 1048576) := fun t ok h => (un_sized h hksz hrb).2
    have hneg2 : ¬ (1048576 - (rowBulk n ks : Int) < 0) := by omega
    clear hrow hcls hkl hz2 hksz hzk
    go_enter Tryz.func3, Tryz.ntmps3
    go_wp2_with fail
    refine HZR.out.mono ?_
    rintro e w2 ⟨rfl, hw2⟩
    clear HZR
    go_wp2_with fail
    refine (HToR.out _ hw2).mono ?_
    rintro e w3 ⟨rfl, hn3, hb3⟩
    have hw3 := hw2.trans (hb3.mono hw2.size)
    have hR3 : RowAt w3 (TyAt w3 n) (.slice (some ⟨w2.heap.size, 0, none⟩) ks.length ks.length) ks := (hn3.2 w3 (Above.refl _ _)).row fun lo hi cs t h => h.at
    clear hn3 hb3 hw2
    have HS3 : Hid (type_of% (HSp.out w3 _ hR3)) := HSp.out w3 _ hR3
    clear hR3 HSp
    go_wp2_with fail
    refine HS3.out.mono ?_
    rintro e w4 ⟨l0, t, ok, rfl, hans, ⟨hl0, hl0b⟩, hb4⟩
    have hw4 := hw3.trans (hb4.mono hw3.size)
    obtain ⟨a1, c1, a2, c2, ev1, ev2, ecs⟩ := lay_cells hl0
    rw [ecs]
    clear HS3 hb4 hw3
    have hw5 := hw4.alloc hw4.size (.cells #[.int .i64 t.kind, .string t.name, .slice a1 t.names.length c1, .slice a2 t.kids.length c2] 27)
    go_wp2_with fail
    obtain ⟨W5, hW5⟩ : ∃ W5, W5 = w4.alloc (.cells #[.int .i64 t.kind, .string t.name, .slice a1 t.names.length c1, .slice a2 t.kids.length c2] 27) := ⟨_, rfl⟩
    have hb6 : W5.heap[w4.heap.size]? = some (.cells #[.int .i64 t.kind, .string t.name, .slice a1 t.names.length c1, .slice a2 t.kids.length c2] 27) := by rw [hW5]; exact (MapKept.heap_alloc w4 _).1
    have hl5 : LayAt W5 (n + 1) l0 t := by rw [hW5]; exact hl0.below ((Below.refl _ _).alloc (Nat.le_refl _) _)
    have hl0t : ∀ b ∈ Lay.blocks (n + 1) l0, b < w4.heap.size := fun b hb => hl0.lt hb
    have hs5 : w4.heap.size < W5.heap.size := by rw [hW5]; simp
    rw [← hW5] at hw5 ⊢
    clear hW5
    refine (HToR.out _ hw5).mono ?_
    rintro e w7 ⟨rfl, hn7, h57⟩
    have hw7 := hw5.trans (h57.mono hw5.size)
    have hR7 : RowAt w7 (TyAt w7 n) (.slice (some ⟨W5.heap.size, 0, none⟩) ks.length ks.length) ks := (hn7.2 w7 (Above.refl _ _)).row fun lo hi cs t h => h.at
    have HI7 : Hid (type_of% (HIm.out w7 _ hw7 hR7)) := HIm.out w7 _ hw7 hR7
    have hs7 := h57.size
    clear hR7
    go_wp2_with fail
    refine HI7.out.mono ?_
    rintro e w8 ⟨lg, t', ok', rfl, hans', hg8, hb8⟩
    obtain ⟨rfl, rfl⟩ := hans.one hans'
    have hw8 := hw7.trans (hb8.mono hw7.size)
    obtain ⟨d1, f1, d2, f2, gv1, gv2, gcs⟩ := lay_cells hg8.1
    rw [gcs]
    have hs8 := hb8.size
    have hgb : ∀ b ∈ Lay.blocks (n + 1) lg, w7.heap.size ≤ b ∧ b < w8.heap.size := fun b hb => ⟨hg8.2.2 b hb, hg8.1.lt hb⟩
    have hb68 : (w8.alloc (.cells #[.int .i64 t.kind, .string t.name, .slice d1 t.names.length f1, .slice d2 t.kids.length f2] 27)).heap[w4.heap.size]? = some (.cells #[.int .i64 t.kind, .string t.name, .slice a1 t.names.length c1, .slice a2 t.kids.length c2] 27) := (((h57.trans (hb8.mono (by omega))).trans (((Below.refl _ w8).alloc (Nat.le_refl _) _).mono (by omega))).block w4.heap.size hs5).trans hb6
    obtain ⟨⟨p0, p1, p2, p3⟩, _⟩ := block4 hb68
    clear hb68
    go_wp2_with fail
    clear p0 p1 p2 p3
    obtain ⟨W9, hW9⟩ : ∃ W9, W9 = w8.alloc (.cells #[.int .i64 t.kind, .string t.name, .slice d1 t.names.length f1, .slice d2 t.kids.length f2] 27) := ⟨_, rfl⟩
    have h89 : Below w8.heap.size w8 W9 := by rw [hW9]; exact (Below.refl _ _).alloc (Nat.le_refl _) _
    have hb10 : W9.heap[w8.heap.size]? = some (.cells #[.int .i64 t.kind, .string t.name, .slice d1 t.names.length f1, .slice d2 t.kids.length f2] 27) := by rw [hW9]; exact (MapKept.heap_alloc w8 _).1
    have hw9 : Below w.heap.size w W9 := hw8.trans (h89.mono hw8.size)
    have h59 : Below W5.heap.size W5 W9 := (h57.trans (hb8.mono (by omega))).trans (h89.mono (by omega))
    have h79 : Below w7.heap.size w7 W9 := hb8.trans (h89.mono hs8)
    have hs9 : w8.heap.size < W9.heap.size := by rw [hW9]; simp
    have hb69 := (h59.block w4.heap.size hs5).trans hb6
    have hl9 : LayAt W9 (n + 1) l0 t := hl5.below h59
    have hg9 : LayAt W9 (n + 1) lg t := hg8.1.below h89
    have hn9 := hn7.step (Above.of_below h79 : Above W5.heap.size w7 W9)
    have hgn := hg8.2.1
    rw [← hW9]
    have hle5 := hw5.size
    clear hW9 hb6 hl5 hl0 h57 hg8 hb8 hn7 HI7 hans' h59 hw5 hw7 hw8 h79 hl0b hw4
    have HG : Hid (∀ (ex : Nat → Prop) (wx : World), KeepB ex W9 wx → (∀ b, ex b → (W5.heap.size ≤ b ∧ b < w7.heap.size) ∨ b ∈ Lay.blocks (n + 1) lg) → LayAt wx (n + 1) l0 t ∧ wx.heap[w4.heap.size]? = some (.cells #[.int .i64 t.kind, .string t.name, .slice a1 t.names.length c1, .slice a2 t.kids.length c2] 27) ∧ wx.heap[w8.heap.size]? = some (.cells #[.int .i64 t.kind, .string t.name, .slice d1 t.names.length f1, .slice d2 t.kids.length f2] 27)) := fun ex wx hk he => by
      have no : ∀ b, (b < W5.heap.size ∨ b = w8.heap.size) → ¬ ex b := fun b hb hx => by
        rcases he b hx with q | q
        · omega
        · have := hgb b q; omega
      refine ⟨hl9.same fun b hb => hk.2 b (by have := hl0t b hb; omega) (no b (.inl (by have := hl0t b hb; omega))), ?_, ?_⟩
      · rw [hk.2 _ (by omega) (no _ (.inl hs5))]; exact hb69
      · rw [hk.2 _ hs9 (no _ (.inr rfl))]; exact hb10
    have HG1 : Hid (∀ (ex : Nat → Prop) (wx : World), KeepB ex W9 wx → (∀ b, ex b → W5.heap.size ≤ b ∧ b < w7.heap.size) → LayAt wx (n + 1) lg t) := fun ex wx hk he => hg9.same fun b hb => hk.2 b (by have := hgb b hb; omega) fun hx => by have := he b hx; have := hgb b hb; omega
    have HEQ : Hid (∀ wx : World, LayAt wx (n + 1) lg t → LayAt wx (n + 1) l0 t → Calls Tryz.prog 9 #[.agg #[.int .i64 t.kind, .string t.name, .slice d1 t.names.length f1, .slice d2 t.kids.length f2], .agg #[.int .i64 t.kind, .string t.name, .slice a1 t.names.length c1, .slice a2 t.kids.length c2]] wx fun e w' => e = .returned (.bool true) ∧ Below wx.heap.size wx w') := fun wx h1 h2 => by
      have := HEt.out wx t ok lg l0 hans h1 h2
      rw [gcs, ecs] at this
      exact this
    have hok : (ok != ok) = false := by cases ok <;> rfl
    have K9 : KeepB (fun _ => False) W9 W9 := ⟨Nat.le_refl _, fun _ _ _ => rfl⟩
    refine (HEQ.out _ hg9 hl9).mono ?_
    rintro e w10 ⟨rfl, hb10'⟩
    have hw10 := hw9.trans (hb10'.mono hw9.size)
    have hn10 := hn9.step (Above.of_below hb10' : Above W5.heap.size W9 w10)
    have K10 := K9.below hb10'
    clear hw9 hn9 hb10' K9
    go_wp2_with fail
    refine (HToR.out _ hw10).mono ?_
    rintro e w13 ⟨rfl, hn13', hb13⟩
    have hw13 := hw10.trans (hb13.mono hw10.size)
    have hn13 := hn10.step (Above.of_below hb13 : Above W5.heap.size w10 w13)
    have K13 := K10.below hb13
    have HE13 : Hid (type_of% (HEr.out w13 _ _ ((hn13.2 w13 (Above.refl _ _)).row fun lo hi cs t h => h.at) ((hn13'.2 w13 (Above.refl _ _)).row fun lo hi cs t h => h.at))) := HEr.out w13 _ _ ((hn13.2 w13 (Above.refl _ _)).row fun lo hi cs t h => h.at) ((hn13'.2 w13 (Above.refl _ _)).row fun lo hi cs t h => h.at)
    clear hw10 hn10 hb13 hn13' K10
    go_wp2_with fail
    refine HE13.out.mono ?_
    rintro e w14 ⟨rfl, hb14⟩
    have hw14 := hw13.trans (hb14.mono hw13.size)
    have hn14 := hn13.step (Above.of_below hb14 : Above W5.heap.size w13 w14)
    have K14 := (K13.below hb14).mono (ex' := fun b => W5.heap.size ≤ b ∧ b < w7.heap.size) (fun b h => h.elim)
    clear hw13 hn13 hb14 K13 HE13
    have HM15 := lawsMarkRow n _ ks W5.heap.size w7.heap.size 1 w14 (hn14.2 w14 (Above.refl _ _)) (Nat.le_trans hn14.1 (Nat.le_refl _)) (by omega) (by omega) (by omega)
    have HM : Hid (type_of% HM15) := HM15
    clear HM15
    go_wp2_with fail
    refine HM.out.mono ?_
    rintro e w16 ⟨k1, rfl, _, _, on16⟩
    have hw16 := hw14.trans (on16.below (by omega : w.heap.size ≤ W5.heap.size) hw14.size)
    have K16 := K14.only on16 (fun b h1 h2 => ⟨h1, h2⟩)
    clear hw14 hn14 on16 K14 HM
    have lg16 := HG1.out _ w16 K16 (fun b h => h)
    obtain ⟨l16, x6, x10⟩ := HG.out _ w16 K16 (fun b h => .inl h)
    obtain ⟨⟨p0, p1, p2, p3⟩, _⟩ := block4 x6
    obtain ⟨⟨r0, r1, r2, r3⟩, _⟩ := block4 x10
    have HE16 : Hid (type_of% (HEQ.out _ lg16 l16)) := HEQ.out _ lg16 l16
    clear lg16 l16 x6 x10
    have hk0 : ¬ ((k1 : Int) < 0) := by omega
    go_wp2_with fail
    refine HE16.out.mono ?_
    rintro e w17 ⟨rfl, hb17⟩
    have hw17 := hw16.trans (hb17.mono hw16.size)
    have K17 := K16.below hb17
    clear hw16 K16 p0 p1 p2 p3 r0 r1 r2 r3 HE16 hb17
    have lg17 := HG1.out _ w17 K17 (fun b h => h)
    obtain ⟨_, _, x10⟩ := HG.out _ w17 K17 (fun b h => .inl h)
    obtain ⟨⟨r0, r1, r2, r3⟩, _⟩ := block4 x10
    have hbt := HUS.out t ok hans
    obtain ⟨M, hM0, HMT, HHT⟩ : ∃ M : Int, 0 ≤ M ∧ Hid (∀ wx : World, LayAt wx (n + 1) lg t → Calls Tryz.prog 12 #[.agg #[.int .i64 t.kind, .string t.name, .slice d1 t.names.length f1, .slice d2 t.kids.length f2], .int .i64 1] wx fun e w' => e = .returned (.int .i64 M) ∧ LayAt w' (n + 1) lg (markTop (n + 1) 1 t) ∧ OnlyL (Lay.blocks (n + 1) lg) wx w') ∧ Hid (∀ wx : World, LayAt wx (n + 1) lg (markTop (n + 1) 1 t) → Calls Tryz.prog 13 #[.agg #[.int .i64 t.kind, .string t.name, .slice d1 t.names.length f1, .slice d2 t.kids.length f2], .int .i64 1] wx fun e w' => e = .returned (.int .i64 M) ∧ Below wx.heap.size wx w') := by
      refine ⟨((1 + cntT (n + 1) t : Nat) : Int), by omega, fun wx hx => ?_, fun wx hx => ?_⟩
      · have := lawsMarkTyL (n + 1) lg t 1 wx hx hgn (by omega) (by omega) (by omega)
        rw [gcs] at this
        exact this
      · have := lawsHeldTyL (n + 1) lg t 1 wx hx (by omega) (by omega) (by omega)
        rw [gcs] at this
        exact this
    have hM1 : ¬ M < 0 := by omega
    clear hbt x10 HG1 hk0
    go_wp2_with fail
    refine (HMT.out _ lg17).mono ?_
    rintro e w18 ⟨rfl, hm18, on18⟩
    have hw18 := hw17.trans (on18.below (fun x hx => by have := hgb x hx; omega) hw17.size)
    have K18 := (K17.mono (ex' := fun b => (W5.heap.size ≤ b ∧ b < w7.heap.size) ∨ b ∈ Lay.blocks (n + 1) lg) (fun b h => .inl h)).onlyL on18 (fun b h => .inr h)
    clear r0 r1 r2 r3 lg17 on18 hw17 K17 HMT
    obtain ⟨_, _, x10⟩ := HG.out _ w18 K18 (fun b h => h)
    obtain ⟨⟨r0, r1, r2, r3⟩, _⟩ := block4 x10
    clear x10
    go_wp2_with fail
    refine (HHT.out _ hm18).mono ?_
    rintro e w19 ⟨rfl, hb19⟩
    have hw19 := hw18.trans (hb19.mono hw18.size)
    have hm19 := hm18.below hb19
    have K19 := K18.below hb19
    clear r0 r1 r2 r3 hw18 hm18 K18 hb19
    go_wp2_with fail
    refine (HToR.out _ hw19).mono ?_
    rintro e w21 ⟨rfl, hn21, hb21⟩
    have hw21 := hw19.trans (hb21.mono hw19.size)
    have hm21 := hm19.below hb21
    have K21 := K19.below hb21
    have hR21 : RowAt w21 (TyAt w21 n) (.slice (some ⟨w19.heap.size, 0, none⟩) ks.length ks.length) ks := (hn21.2 w21 (Above.refl _ _)).row fun lo hi cs t h => h.at
    have HI21 : Hid (type_of% (HIm.out w21 _ hw21 hR21)) := HIm.out w21 _ hw21 hR21
    clear hw19 hm19 K19 hb21 hR21 hn21
    go_wp2_with fail
    refine HI21.out.mono ?_
    rintro e w22 ⟨lh, t2, ok2, rfl, hans2, hh22, hb22⟩
    obtain ⟨rfl, rfl⟩ := hans.one hans2
    have hw22 := hw21.trans (hb22.mono hw21.size)
    have hm22 := hm21.below hb22
    have K22 := K21.below hb22
    obtain ⟨e1, u1, e2, u2, _, _, hcs⟩ := lay_cells hh22.1
    rw [hcs]
    have hB23 : Below w22.heap.size w22 (w22.alloc (.cells #[.int .i64 t.kind, .string t.name, .slice e1 t.names.length u1, .slice e2 t.kids.length u2] 27)) := (Below.refl _ _).alloc (Nat.le_refl _) _
    have hw23 := hw22.trans (hB23.mono hw22.size)
    have hm23 := hm22.below hB23
    have K23 := K22.below hB23
    have hh23 := hh22.1.below hB23
    obtain ⟨l23, x6, _⟩ := HG.out _ _ K23 (fun b h => h)
    obtain ⟨⟨p0, p1, p2, p3⟩, _⟩ := block4 x6
    have HE23 := HEt.out _ t ok lh l0 hans hh23 l23
    rw [hcs, ecs] at HE23
    have HE : Hid (type_of% HE23) := HE23
    clear HE23 hw21 hm21 K21 hb22 hB23 hw22 hm22 K22 x6 l23 hh23 hh22 HI21 hans2
    go_wp2_with fail
    clear p0 p1 p2 p3
    generalize (w22.alloc (.cells #[.int .i64 t.kind, .string t.name, .slice e1 t.names.length u1, .slice e2 t.kids.length u2] 27)) = W23 at *
    refine HE.out.mono ?_
    rintro e w24 ⟨rfl, hb24⟩
    have hw24 := hw23.trans (hb24.mono hw23.size)
    have hm24 := hm23.below hb24
    have K24 := K23.below hb24
    clear hw23 hm23 K23 hb24 HE
    obtain ⟨_, _, x10⟩ := HG.out _ w24 K24 (fun b h => h)
    obtain ⟨⟨r0, r1, r2, r3⟩, _⟩ := block4 x10
    clear x10
    go_wp2_with fail
    refine (HHT.out _ hm24).mono ?_
    rintro e w25 ⟨rfl, hb25⟩
    have hw25 := hw24.trans (hb25.mono hw24.size)
    clear hw24 hm24 K24 hb25 HHT
    go_wp2_with fail
    go_ret
    exact ⟨rfl, hw25⟩
  · have hz2 : leftOf (rowBulk n ks) 1048576 = -1 := if_neg hzk
    rw [hz2] at HZR
    clear hrow hcls hkl hz2 hzk
    go_enter Tryz.func3, Tryz.ntmps3
    go_wp2_with fail
    refine HZR.out.mono ?_
    rintro e w1 ⟨rfl, hb1⟩
    go_wp2_with fail
    go_ret
    exact ⟨rfl, hb1⟩

end Go.Proofs.YtjihkebafoajdaaGreatDoor

namespace Go.Proofs.YtjihkebafoajdaaGreatDoor.exactUnion
open Go.ChangeShapes Go.WideShapes Go.ChangeAt Go.RowKit

theorem own : ownKnob Tryz.prog.godebug = none := by kernel_rfl
theorem gTab : Tryz.prog.globalNamed "loop.example/g00276/impl.classes" = some 0 := by kernel_rfl
theorem gTabType : (Tryz.prog.globals[0]?).map (·.type) = some 111 := by kernel_rfl
def clsTab : List Int := (List.range 128).map fun i => (Lx.cls i : Int)
theorem tabDatum : (Rows.laid_loop_example_g00276_impl_classes : DataW Unit) = Lib.tabData .u8 clsTab := by kernel_rfl
theorem clsIs {W : World} (h : Lib.TabIs Tryz.prog W "loop.example/g00276/impl.classes" .u8 clsTab) : ClsIs W := fun i hi => by
  have := h.cell gTab i (by simp [clsTab]; exact hi)
  rw [this]
  simp [clsTab, List.getD, hi]

theorem table {W : World} (h : laidMetH Tryz.prog Rows.fnExactUnionRow.laid W) : ClsIs W := by
  have h2 : laidMet Tryz.prog [("loop.example/g00276/impl.classes", Rows.laid_loop_example_g00276_impl_classes)] W := h
  rw [tabDatum] at h2
  exact clsIs (Lib.tabIs_of_head gTab gTabType Tryz.underlying111 Tryz.underlying5 (by kernel_rfl) (by kernel_rfl) h2)

set_option maxRecDepth 100000 in
theorem opened_row {H : Type} {enc : TypeId × Value → H} {W : World} {base : Nat} {sp : Nat → Bool} {held : Bool} (n : Nat) (v : Value) (x : DataW H × List MemPlace) (h : DataW.trod enc Tryz.prog W base sp held n 22 [v] = some x) : ∃ (m : Nat) (ks : List Ty), RowAt W (TyAt W m) v ks ∧ ks.length ≤ maxLen := by
  have c4 : Tryz.prog.cellsOf 37 = 4 := by kernel_rfl
  rcases DataW.trod_slice Tryz.underlying22 h with ⟨hcs, _⟩ | ⟨a, len, cap, elems, rest, m2, rfl, hcs, _, hb, hlc, hcm, hel, heach, _, _⟩
  · obtain rfl : v = .slice none 0 0 := by simpa using hcs
    exact ⟨0, [], .inl ⟨rfl, _, _, rfl⟩, by simp⟩
  · obtain rfl : v = .slice (some a) len cap := by simpa using hcs
    rw [c4] at heach
    have each : ∀ i, i < len → ∃ q : Ty × List Value, TyAt W m2 q.2 q.1 ∧ ∀ c u, q.2[c]? = some u → W.cell? ((a.add (i * 4)).add c) = some u := fun i hi => by
      have hi2 := heach i hi
      rw [List.getElem?_eq_getElem (by omega)] at hi2
      obtain ⟨cs', h1, h2⟩ := Option.bind_eq_some_iff.1 hi2
      obtain ⟨t, ht⟩ := opened_ty m2 cs' _ h2
      obtain ⟨_, hlen, hcell⟩ := World.cells?_some h1
      refine ⟨(t, cs'), ht, fun c u hu => ?_⟩
      have hc : c < 4 := by
        have : c < cs'.length := (List.getElem?_eq_some_iff.1 hu).1
        omega
      rw [hcell c hc]
      exact hu
    haveI : Inhabited (Ty × List Value) := ⟨(.mk 0 ByteArray.empty [] [], [])⟩
    obtain ⟨q, hq⟩ := Go.Deep.choose_lt each
    refine ⟨m2, (List.range len).map fun i => (q i).1, ?_, by simp; omega⟩
    by_cases h0 : len = 0
    · subst h0
      exact .inl ⟨rfl, _, _, rfl⟩
    · obtain ⟨b, off, spot⟩ := a
      have hspot : spot = none := by
        obtain ⟨h1, h2⟩ := hq 0 (by omega)
        have hlen := h1.len
        have hc := h2 0 _ (List.getElem?_eq_getElem (by omega))
        simpa [Addr.add] using World.cell?_spot hc
      subst hspot
      refine .inr ⟨b, off, cap, by simp, fun j hj => ?_⟩
      have hj2 : j < len := by simpa using hj
      obtain ⟨h1, h2⟩ := hq j hj2
      refine ⟨(q j).2, ?_, fun c u hu => ?_⟩
      · simp only [List.getElem_map, List.getElem_range]
        exact h1
      · have := h2 c u hu
        rw [Addr.add_lit, Addr.add_lit] at this
        exact this

theorem laidOut : laidOutB Tryz.prog = true := by kernel_rfl

set_option maxRecDepth 100000 in
theorem contract (H : Type) (enc : TypeId × Value → H) (W : World) (base : Nat) (args : Array Value) (ds gs : List (DataW H)) (before : List MemPlace)
    (hval : ∀ (j : Nat) t v, Tryz.f3.params[j]? = some t → args[j]? = some v → Value.okWide Tryz.prog W .any base t v)
    (hW : DataW.Whole enc Tryz.prog Tryz.f3.params.toList Rows.fnExactUnionSpec.vars false W args.toList ds gs before) (hL : laidMetH Tryz.prog Rows.fnExactUnionRow.laid W) :
    Calls Tryz.prog 3 args W fun e W' => ∃ v, e = .returned v ∧ Rows.fnExactUnionSpec.post enc Tryz.prog Tryz.f3 false true false false W args v W' := by
  have hW' := hW
  obtain ⟨p, q, hA0, hV, rfl, hfz, hnd⟩ := hW
  have hA : DataW.TrodAll enc Tryz.prog W 0 (fun _ => true) true Tryz.f3.params.toList args.toList ds p := hA0
  rw [Tryz.params3] at hA hval
  obtain ⟨v0, vs0, d0, ds0, p0, q0, hargs, rfl, rfl, h0, r0⟩ := trodAll_cons hA
  obtain ⟨rfl, rfl, rfl⟩ := trodAll_nil r0
  obtain rfl : args = #[v0] := by cases args; simp_all
  have hV0 := hV
  obtain ⟨g0, t0, cs0, fu0, dv, pv, rfl, _, _, _, _, _⟩ := trodVars_one hV
  obtain ⟨a0, len0, cap0, rfl⟩ := okWide_slice Tryz.underlying22 (hval 0 22 v0 rfl rfl)
  have k0 := h0
  have lt0 : ∀ x ∈ p0, x.block < W.heap.size := by obtain ⟨m, hm⟩ := k0; exact DataW.trod_lt m _ _ _ hm
  obtain ⟨fuel, hf⟩ := h0
  obtain ⟨m, ks, hrow, hkl⟩ := opened_row fuel _ _ hf
  clear hA0
  refine (walkUn m _ ks W hrow hkl (table hL)).mono fun e W' ⟨he, bel⟩ => ?_
  subst he
  exact ⟨_, rfl, _, _, _, [], _, _, hW', trodAll_mk1 (shut_bool Tryz.underlying4 _), (trodAll_cons_mk (Below.trod laidOut (by kernel_rfl) (of_decide_eq_true (by kernel_rfl)) k0 bel lt0) trodAll_mk0), Below.trodVars laidOut bel (by kernel_rfl) hV0, bel.frame _, fun h => by cases h⟩

def fill (cs : Array Value) : Obj → Obj
  | .cells _ t frozen => .cells cs t frozen
  | o => o
def laidWorld (P : Program) (os : Os) : World :=
  { World.holding P os ⟨#[], #[], []⟩ with heap := (World.holding P os ⟨#[], #[], []⟩).heap.modify 0 (fill (clsTab.map fun z => Value.int .u8 z).toArray) }
theorem laid_met (os : Os) : laidMet Tryz.prog Rows.fnExactUnionRow.laid ((laidWorld Tryz.prog os).forCall (fun _ _ => 0) ⟨#[], #[.slice none 0 0], []⟩).memory :=
  laidMet_of_run' 8 (by kernel_rfl) (by kernel_rfl)
theorem reads (os : Os) {H : Type} (enc : TypeId × Value → H) : ∃ places, DataW.whole enc Tryz.prog ((laidWorld Tryz.prog os).forCall (fun _ _ => 0) ⟨#[], #[.slice none 0 0], []⟩).memory Tryz.f3.params.toList Rows.fnExactUnionSpec.vars false #[Value.slice none 0 0].toList 8 = some ([.nil], [Rows.laid_loop_example_g00276_impl_classes], places) :=
  ⟨MemPlace.row ⟨0, 0, none⟩ 128, by kernel_rfl⟩

set_option maxRecDepth 100000 in
theorem lifted (os : Os) (started : os.Started) (H : Type) (enc : TypeId × Value → H) (F : Stop.Interp) :
    ReturnsInHanded {} Tryz.checked os 3 .any ((OpenSpec.ofChange Rows.fnExactUnionSpec).preRow enc Tryz.prog Tryz.f3 Rows.fnExactUnionRow.domain false Rows.fnExactUnionRow.laid) (((OpenSpec.ofChange Rows.fnExactUnionSpec).at F).post enc Tryz.prog Tryz.f3 false true false false) := by
  obtain ⟨places, hx⟩ := reads os enc
  refine returnsInHanded_of_row (C := Tryz.checked) (s := OpenSpec.ofChange Rows.fnExactUnionSpec) own started (by kernel_rfl) Tryz.func3
    (witness_row_at (enc := enc) (C := Tryz.checked) false (laidWorld Tryz.prog os) #[.slice none 0 0] rfl (by kernel_rfl) (by kernel_rfl) (by kernel_rfl)
      (OpenSpec.preRow_of_cond 8 hx (by kernel_rfl) (fun k hk => by cases hk) (by kernel_rfl) (laid_met os))) ?_
  intro W base args ds gs before hval hW _ _ _ hL _ _
  exact contract H enc W base args ds gs before hval hW hL

theorem said : Rows.FnExactUnionSaid :=
  OpenClaim.holds_of_cond 3 Tryz.f3 rfl rfl rfl rfl rfl rfl rfl ⟨rfl, rfl, rfl, rfl, rfl⟩ rfl rfl rfl rfl rfl (by kernel_rfl) Tryz.func3 (by kernel_rfl)
    (of_decide_eq_true (by kernel_rfl)) (by unfold Func.isWrapper; first | (rw [if_pos (by decide +kernel)]; kernel_rfl) | (rw [if_neg (by decide +kernel)]; exact ⟨rfl, rfl⟩))
    (fun os started H enc _ F => by rw [OpenClaim.pre_eq_preRow]; exact lifted os started H enc F)

theorem plain (f : FuncId) (fn : Func) (hf : Tryz.pinned.checked.prog.funcNamed "loop.example/g00276/laws.FnExactUnion" = some f) (hfn : Tryz.pinned.checked.prog.funcs[f]? = some fn) :
    Rows.fnExactUnionCard.stood.looks = Tryz.pinned.checked.prog.looks [] ∧ ∀ (j : Nat) t, fn.params[j]? = some t → Tryz.pinned.checked.prog.wantsStandIn t = false := by
  obtain rfl : f = 3 := Option.some.inj ((show Tryz.prog.funcNamed "loop.example/g00276/laws.FnExactUnion" = some 3 by kernel_rfl).symm.trans hf) |>.symm
  obtain rfl : fn = Tryz.f3 := (Option.some.inj (Tryz.func3.symm.trans hfn)).symm
  refine ⟨by kernel_rfl, fun j t ht => ?_⟩
  rw [Tryz.params3] at ht
  obtain rfl : t = 22 := by simpa using Array.mem_of_getElem? ht
  exact (show Tryz.prog.wantsStandIn 22 = false by kernel_rfl)

end Go.Proofs.YtjihkebafoajdaaGreatDoor.exactUnion

namespace Go.Proofs.YtjihkebafoajdaaGreatDoor

theorem exactUnion_holds : Rows.FnExactUnionCardSaid :=
  Claim7.holds_tied_plain_at .later [] _ _ _ _ exactUnion.said (fun _ h => by cases h) (by kernel_rfl) (fun _ h => by cases h) fnExactUnion_row_tie rfl ⟨rfl, rfl⟩ (by kernel_rfl) rfl exactUnion.plain (by kernel_rfl)

end Go.Proofs.YtjihkebafoajdaaGreatDoor
