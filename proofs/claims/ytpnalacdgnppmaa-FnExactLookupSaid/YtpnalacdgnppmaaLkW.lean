/-
  The body of the law of Lookup.
-/
import Derived.Test.YtpnalacdgnppmaaLkI
import Derived.Test.YtpnalacdgnppmaaLkS
import Derived.Test.YtpnalacdgnppmaaLkM
import Derived.Test.YtpnalacdgnppmaaNmSz
import Derived.Test.YtpnalacdgnppmaaNmEq
import Derived.Test.YtpnalacdgnppmaaLayI
namespace Go.Proofs.Ytpnalacdgnppmaa
open Go.RowKit

/-- nothing has turned but blocks of which that is said, and new ones -/
def KeepL (ex : Nat → Prop) (W wx : World) : Prop := W.heap.size ≤ wx.heap.size ∧ ∀ b, b < W.heap.size → ¬ ex b → wx.heap[b]? = W.heap[b]?
theorem KeepL.below {ex : Nat → Prop} {W wx wy : World} (h : KeepL ex W wx) (hb : Below wx.heap.size wx wy) : KeepL ex W wy := ⟨Nat.le_trans h.1 hb.size, fun b hl he => (hb.block b (Nat.lt_of_lt_of_le hl h.1)).trans (h.2 b hl he)⟩
theorem KeepL.only {ex : Nat → Prop} {W wx wy : World} {lo hi : Nat} (h : KeepL ex W wx) (ho : Only lo hi wx wy) (he : ∀ b, lo ≤ b → b < hi → ex b) : KeepL ex W wy := ⟨Nat.le_trans h.1 ho.size, fun b hl hx => (ho.block b (Nat.lt_of_lt_of_le hl h.1) (by
  by_cases c : b < lo
  · exact .inl c
  · by_cases c2 : hi ≤ b
    · exact .inr c2
    · exact absurd (he b (by omega) (by omega)) hx)).trans (h.2 b hl hx)⟩
theorem KeepL.onlyL {ex : Nat → Prop} {W wx wy : World} {bl : List Nat} (h : KeepL ex W wx) (ho : OnlyL bl wx wy) (he : ∀ b ∈ bl, ex b) : KeepL ex W wy := ⟨Nat.le_trans h.1 ho.size, fun b hl hx => (ho.block b (Nat.lt_of_lt_of_le hl h.1) fun hm => hx (he b hm)).trans (h.2 b hl hx)⟩
theorem KeepL.mono {ex ex' : Nat → Prop} {W wx : World} (h : KeepL ex W wx) (he : ∀ b, ex b → ex' b) : KeepL ex' W wx := ⟨h.1, fun b hl hx => h.2 b hl fun q => hx (he b q)⟩

theorem lay_cellsL {w : World} {n : Nat} {l : Lay} {t : Ty} (h : LayAt w (n + 1) l t) : ∃ an cn ak ck, (cellsK t l).toArray = #[.int .i64 t.kind, .string t.name, .slice an t.names.length cn, .slice ak t.kids.length ck] := by
  obtain ⟨an, cn, e1⟩ := h.1.slice
  obtain ⟨ak, ck, e2⟩ := h.2.2.1.slice
  exact ⟨an, cn, ak, ck, by unfold cellsK; rw [e1, e2]⟩

set_option maxHeartbeats 6400000 in
set_option maxRecDepth 100000 in
theorem walkLook (n : Nat) (v : Value) (es : List (ByteArray × Ty)) (nm : ByteArray) (w : World) (hE : EnvAt w (n + 1) v es) (hkl : es.length ≤ maxLen) :
    Calls Try.prog 3 #[v, .string nm] w fun e w' => e = .returned (.bool true) ∧ Below w.heap.size w w' := by
  have HZ : Hid (Calls Try.prog 4 #[v, .int .i64 1048576] w fun e w' => e = .returned (.int .i64 (leftOf (envBulk (n + 1) es) 1048576)) ∧ Below w.heap.size w w') := lawsSzEnv (n + 1) v es 1048576 w hE hkl (by omega) (by omega)
  obtain ⟨av, capv, rfl, _⟩ := envOpen hE
  by_cases hns : (1048576 : Int) < (nm.size : Int)
  · clear HZ hE
    go_enter Try.func3, Try.ntmps3
    go_wp2_with fail
    go_ret
    exact ⟨rfl, Below.refl _ _⟩
  by_cases hbk : envBulk (n + 1) es ≤ 1048576
  · have hz1 : leftOf (envBulk (n + 1) es) 1048576 = 1048576 - (envBulk (n + 1) es : Nat) := if_pos (by omega)
    rw [hz1] at HZ
    have HT : Hid (∀ wx : World, Below w.heap.size w wx → Calls Try.prog 6 #[.slice av es.length capv] wx fun e w' => e = .returned (.slice (some ⟨wx.heap.size, 0, none⟩) es.length es.length) ∧ NewEnv wx.heap.size w'.heap.size w' (n + 1) (.slice (some ⟨wx.heap.size, 0, none⟩) es.length es.length) es ∧ Below wx.heap.size wx w') := fun wx hx => lawsToEnv (n + 1) _ es wx (hE.below hx) hbk
    have HS : Hid (∀ (u : Value) (wx : World), EnvAt wx (n + 1) u es → Calls Try.prog 5 #[u, .string nm] wx fun e w' => ∃ (l : Lay) (t : Ty) (ok : Bool), e = .returned (.tuple #[.agg (cellsK t l).toArray, .bool ok]) ∧ LookAns es nm t ok ∧ (LayAt w' (n + 1) l t ∧ ∀ b ∈ Lay.blocks (n + 1) l, wx.heap.size ≤ b) ∧ Below wx.heap.size wx w') := fun u wx h => specLookup n u es nm wx h hbk
    have HI : Hid (∀ (lo hi : Nat) (u : Value) (wx : World), EnvIn wx (n + 1) lo hi u es → hi ≤ wx.heap.size → Below w.heap.size w wx → Calls Try.prog 7 #[u, .string nm] wx fun e w' => ∃ (l : Lay) (t : Ty) (ok : Bool), e = .returned (.tuple #[.agg (cellsK t l).toArray, .bool ok]) ∧ LookAns es nm t ok ∧ NewLay wx.heap.size w' (n + 1) l t ∧ Below wx.heap.size wx w') := fun lo hi u wx h h2 hx => implLookup n lo hi u es nm wx h h2 hbk
    have HE : Hid (∀ (ua ub : Value) (wx : World), EnvAt wx (n + 1) ua es → EnvAt wx (n + 1) ub es → Calls Try.prog 9 #[ua, ub] wx fun e w' => e = .returned (.bool true) ∧ Below wx.heap.size wx w') := fun ua ub wx ha hb => lawsEqEnv (n + 1) ua ub es wx ha hb hbk
    have hsz := env_sized hE
    have HEt : Hid (∀ (wx : World) (t : Ty) (ok : Bool) (l l' : Lay), LookAns es nm t ok → LayAt wx (n + 1) l t → LayAt wx (n + 1) l' t → Calls Try.prog 8 #[.agg (cellsK t l).toArray, .agg (cellsK t l').toArray] wx fun e w' => e = .returned (.bool true) ∧ Below wx.heap.size wx w') := fun wx t ok l l' hr h1 h2 => lawsEqTy (n + 1) _ _ t wx (h1.at (look_sized hr hsz)) (h2.at (look_sized hr hsz)) (look_bulk hr hbk)
    have HME : Hid (∀ (u : Value) (lo hi : Nat) (wx : World), EnvIn wx (n + 1) lo hi u es → hi ≤ wx.heap.size → Calls Try.prog 10 #[u, .int .i64 1] wx fun e w' => ∃ k : Nat, e = .returned (.int .i64 k) ∧ 1 ≤ k ∧ k ≤ 1 + 3 * envBulk (n + 1) es ∧ Only lo hi wx w') := fun u lo hi wx h h2 => lawsMarkEnv (n + 1) u es lo hi 1 wx h h2 hbk (by omega) (by omega)
    have HLB : Hid (∀ (t : Ty) (ok : Bool), LookAns es nm t ok → Ty.bulk (n + 1) t ≤ 1048576) := fun t ok h => look_bulk h hbk
    clear hE hz1 hsz
    generalize hB : envBulk (n + 1) es = B at *
    clear hB
    have hneg : ¬ (1048576 - (B : Int) < 0) := by omega
    go_enter Try.func3, Try.ntmps3
    go_wp2_with fail
    refine HZ.out.mono ?_
    rintro e w1 ⟨rfl, hw1⟩
    clear HZ
    go_wp2_with fail
    refine (HT.out _ hw1).mono ?_
    rintro e w2 ⟨rfl, hn2, hb2⟩
    have hw2 := hw1.trans (hb2.mono hw1.size)
    have HS2 : Hid (type_of% (HS.out _ _ hn2.at)) := HS.out _ _ hn2.at
    clear hw1 hb2 hn2 HS
    go_wp2_with fail
    refine HS2.out.mono ?_
    rintro e w4 ⟨l0, t, ok, rfl, hans, ⟨hl0, hl0b⟩, hb4⟩
    have hw4 := hw2.trans (hb4.mono hw2.size)
    obtain ⟨a1, c1, a2, c2, ecs⟩ := lay_cellsL hl0
    rw [ecs]
    clear HS2 hb4 hw2
    have hw5 := hw4.alloc hw4.size (.cells #[.int .i64 t.kind, .string t.name, .slice a1 t.names.length c1, .slice a2 t.kids.length c2] 27)
    go_wp2_with fail
    obtain ⟨W5, hW5⟩ : ∃ W5, W5 = w4.alloc (.cells #[.int .i64 t.kind, .string t.name, .slice a1 t.names.length c1, .slice a2 t.kids.length c2] 27) := ⟨_, rfl⟩
    have hb6 : W5.heap[w4.heap.size]? = some (.cells #[.int .i64 t.kind, .string t.name, .slice a1 t.names.length c1, .slice a2 t.kids.length c2] 27) := by rw [hW5]; exact (MapKept.heap_alloc w4 _).1
    have hl5 : LayAt W5 (n + 1) l0 t := by rw [hW5]; exact hl0.below ((Below.refl _ _).alloc (Nat.le_refl _) _)
    have hl0t : ∀ b ∈ Lay.blocks (n + 1) l0, b < w4.heap.size := fun b hb => hl0.lt hb
    have hs5 : w4.heap.size < W5.heap.size := by rw [hW5]; simp
    rw [← hW5] at hw5 ⊢
    clear hW5
    refine (HT.out _ hw5).mono ?_
    rintro e w7 ⟨rfl, hn7, h57⟩
    have hw7 := hw5.trans (h57.mono hw5.size)
    have HI7 : Hid (type_of% (HI.out _ _ _ w7 (hn7.2 w7 (Above.refl _ _)) (Nat.le_refl _) hw7)) := HI.out _ _ _ w7 (hn7.2 w7 (Above.refl _ _)) (Nat.le_refl _) hw7
    have hs7 : W5.heap.size ≤ w7.heap.size := h57.size
    go_wp2_with fail
    refine HI7.out.mono ?_
    rintro e w8 ⟨lg, t', ok', rfl, hans', hg8, hb8⟩
    obtain ⟨rfl, rfl⟩ := hans.one hans'
    have hw8 := hw7.trans (hb8.mono hw7.size)
    obtain ⟨d1, f1, d2, f2, gcs⟩ := lay_cellsL hg8.1
    rw [gcs]
    have hs8 := hb8.size
    have hgb : ∀ b ∈ Lay.blocks (n + 1) lg, w7.heap.size ≤ b ∧ b < w8.heap.size := fun b hb => ⟨hg8.2.2 b hb, hg8.1.lt hb⟩
    have hb68 : (w8.alloc (.cells #[.int .i64 t.kind, .string t.name, .slice d1 t.names.length f1, .slice d2 t.kids.length f2] 27)).heap[w4.heap.size]? = some (.cells #[.int .i64 t.kind, .string t.name, .slice a1 t.names.length c1, .slice a2 t.kids.length c2] 27) := (((h57.trans (hb8.mono (by omega))).trans (((Below.refl _ w8).alloc (Nat.le_refl _) _).mono (by omega))).block w4.heap.size hs5).trans hb6
    obtain ⟨⟨p0, p1, p2, p3⟩, _⟩ := block4 hb68
    clear hb68
    go_wp2_with fail
    clear p0 p1 p2 p3
    obtain ⟨W9, hW9⟩ : ∃ W9, W9 = w8.alloc (.cells #[.int .i64 t.kind, .string t.name, .slice d1 t.names.length f1, .slice d2 t.kids.length f2] 27) := ⟨_, rfl⟩
    have h89 : Below w8.heap.size w8 W9 := by rw [hW9]; exact (Below.refl _ _).alloc (Nat.le_refl _) _
    have hb10 : W9.heap[w8.heap.size]? = some (.cells #[.int .i64 t.kind, .string t.name, .slice d1 t.names.length f1, .slice d2 t.kids.length f2] 27) := by rw [hW9]; exact (MapKept.heap_alloc w8 _).1
    have hw9 : Below w.heap.size w W9 := hw8.trans (h89.mono hw8.size)
    have h59 : Below W5.heap.size W5 W9 := (h57.trans (hb8.mono (by omega))).trans (h89.mono (by omega))
    have h79 : Below w7.heap.size w7 W9 := hb8.trans (h89.mono hs8)
    have hs9 : w8.heap.size < W9.heap.size := by rw [hW9]; simp
    have hb69 := (h59.block w4.heap.size hs5).trans hb6
    have hl9 : LayAt W9 (n + 1) l0 t := hl5.below h59
    have hg9 : LayAt W9 (n + 1) lg t := hg8.1.below h89
    have hn9 := hn7.step (Above.of_below h79 : Above W5.heap.size w7 W9)
    have hgn := hg8.2.1
    rw [← hW9]
    have hle5 := hw5.size
    clear hW9 hb6 hl5 hl0 h57 hg8 hb8 hn7 HI7 hans' h59 hw5 hw7 hw8 h79 hl0b hw4
    have HG : Hid (∀ (ex : Nat → Prop) (wx : World), KeepL ex W9 wx → (∀ b, ex b → (W5.heap.size ≤ b ∧ b < w7.heap.size) ∨ b ∈ Lay.blocks (n + 1) lg) → LayAt wx (n + 1) l0 t ∧ wx.heap[w4.heap.size]? = some (.cells #[.int .i64 t.kind, .string t.name, .slice a1 t.names.length c1, .slice a2 t.kids.length c2] 27) ∧ wx.heap[w8.heap.size]? = some (.cells #[.int .i64 t.kind, .string t.name, .slice d1 t.names.length f1, .slice d2 t.kids.length f2] 27)) := fun ex wx hk he => by
      have no : ∀ b, (b < W5.heap.size ∨ b = w8.heap.size) → ¬ ex b := fun b hb hx => by
        rcases he b hx with q | q
        · omega
        · have := hgb b q; omega
      refine ⟨hl9.same fun b hb => hk.2 b (by have := hl0t b hb; omega) (no b (.inl (by have := hl0t b hb; omega))), ?_, ?_⟩
      · rw [hk.2 _ (by omega) (no _ (.inl hs5))]; exact hb69
      · rw [hk.2 _ hs9 (no _ (.inr rfl))]; exact hb10
    have HG1 : Hid (∀ (ex : Nat → Prop) (wx : World), KeepL ex W9 wx → (∀ b, ex b → W5.heap.size ≤ b ∧ b < w7.heap.size) → LayAt wx (n + 1) lg t) := fun ex wx hk he => hg9.same fun b hb => hk.2 b (by have := hgb b hb; omega) fun hx => by have := he b hx; have := hgb b hb; omega
    have HEQ : Hid (∀ wx : World, LayAt wx (n + 1) lg t → LayAt wx (n + 1) l0 t → Calls Try.prog 8 #[.agg #[.int .i64 t.kind, .string t.name, .slice d1 t.names.length f1, .slice d2 t.kids.length f2], .agg #[.int .i64 t.kind, .string t.name, .slice a1 t.names.length c1, .slice a2 t.kids.length c2]] wx fun e w' => e = .returned (.bool true) ∧ Below wx.heap.size wx w') := fun wx h1 h2 => by
      have := HEt.out wx t ok lg l0 hans h1 h2
      rw [gcs, ecs] at this
      exact this
    have hok : (ok != ok) = false := by cases ok <;> rfl
    have K9 : KeepL (fun _ => False) W9 W9 := ⟨Nat.le_refl _, fun _ _ _ => rfl⟩
    refine (HEQ.out _ hg9 hl9).mono ?_
    rintro e w10 ⟨rfl, hb10'⟩
    have hw10 := hw9.trans (hb10'.mono hw9.size)
    have hn10 := hn9.step (Above.of_below hb10' : Above W5.heap.size W9 w10)
    have K10 := K9.below hb10'
    clear hw9 hn9 hb10' K9
    go_wp2_with fail
    refine (HT.out _ hw10).mono ?_
    rintro e w13 ⟨rfl, hn13', hb13⟩
    have hw13 := hw10.trans (hb13.mono hw10.size)
    have hn13 := hn10.step (Above.of_below hb13 : Above W5.heap.size w10 w13)
    have K13 := K10.below hb13
    have HE13 : Hid (type_of% (HE.out _ _ w13 hn13.at hn13'.at)) := HE.out _ _ w13 hn13.at hn13'.at
    clear hw10 hn10 hb13 hn13' K10
    go_wp2_with fail
    refine HE13.out.mono ?_
    rintro e w15 ⟨rfl, hb14⟩
    have hw15 := hw13.trans (hb14.mono hw13.size)
    have hn15 := hn13.step (Above.of_below hb14 : Above W5.heap.size w13 w15)
    have K15 := (K13.below hb14).mono (ex' := fun b => W5.heap.size ≤ b ∧ b < w7.heap.size) (fun b h => h.elim)
    clear hw13 hn13 hb14 K13 HE13
    have HM : Hid (type_of% (HME.out _ _ _ w15 (hn15.2 w15 (Above.refl _ _)) (Nat.le_trans hn15.1 (Nat.le_refl _)))) := HME.out _ _ _ w15 (hn15.2 w15 (Above.refl _ _)) (Nat.le_trans hn15.1 (Nat.le_refl _))
    go_wp2_with fail
    refine HM.out.mono ?_
    rintro e w16 ⟨k1, rfl, _, _, on16⟩
    have hw16 := hw15.trans (on16.below (by omega : w.heap.size ≤ W5.heap.size) hw15.size)
    have K16 := K15.only on16 (fun b h1 h2 => ⟨h1, h2⟩)
    clear hw15 hn15 on16 K15 HM HME
    have lg16 := HG1.out _ w16 K16 (fun b h => h)
    obtain ⟨l16, x6, x10⟩ := HG.out _ w16 K16 (fun b h => .inl h)
    obtain ⟨⟨p0, p1, p2, p3⟩, _⟩ := block4 x6
    obtain ⟨⟨r0, r1, r2, r3⟩, _⟩ := block4 x10
    have HE16 : Hid (type_of% (HEQ.out _ lg16 l16)) := HEQ.out _ lg16 l16
    clear lg16 l16 x6 x10
    have hk0 : ¬ ((k1 : Int) < 0) := by omega
    go_wp2_with fail
    refine HE16.out.mono ?_
    rintro e w17 ⟨rfl, hb17⟩
    have hw17 := hw16.trans (hb17.mono hw16.size)
    have K17 := K16.below hb17
    clear hw16 K16 p0 p1 p2 p3 r0 r1 r2 r3 HE16 hb17
    have lg17 := HG1.out _ w17 K17 (fun b h => h)
    obtain ⟨_, _, x10⟩ := HG.out _ w17 K17 (fun b h => .inl h)
    obtain ⟨⟨r0, r1, r2, r3⟩, _⟩ := block4 x10
    have hbt := HLB.out t ok hans
    obtain ⟨M, hM0, HMT, HHT⟩ : ∃ M : Int, 0 ≤ M ∧ Hid (∀ wx : World, LayAt wx (n + 1) lg t → Calls Try.prog 11 #[.agg #[.int .i64 t.kind, .string t.name, .slice d1 t.names.length f1, .slice d2 t.kids.length f2], .int .i64 1] wx fun e w' => e = .returned (.int .i64 M) ∧ LayAt w' (n + 1) lg (markTop (n + 1) 1 t) ∧ OnlyL (Lay.blocks (n + 1) lg) wx w') ∧ Hid (∀ wx : World, LayAt wx (n + 1) lg (markTop (n + 1) 1 t) → Calls Try.prog 12 #[.agg #[.int .i64 t.kind, .string t.name, .slice d1 t.names.length f1, .slice d2 t.kids.length f2], .int .i64 1] wx fun e w' => e = .returned (.int .i64 M) ∧ Below wx.heap.size wx w') := by
      refine ⟨((1 + cntT (n + 1) t : Nat) : Int), by omega, fun wx hx => ?_, fun wx hx => ?_⟩
      · have := lawsMarkTyL (n + 1) lg t 1 wx hx hgn hbt (by omega) (by omega)
        rw [gcs] at this
        exact this
      · have := lawsHeldTyL (n + 1) lg t 1 wx hx hbt (by omega) (by omega)
        rw [gcs] at this
        exact this
    have hM1 : ¬ M < 0 := by omega
    clear hbt x10 HG1 hk0
    go_wp2_with fail
    refine (HMT.out _ lg17).mono ?_
    rintro e w18 ⟨rfl, hm18, on18⟩
    have hw18 := hw17.trans (on18.below (fun x hx => by have := hgb x hx; omega) hw17.size)
    have K18 := (K17.mono (ex' := fun b => (W5.heap.size ≤ b ∧ b < w7.heap.size) ∨ b ∈ Lay.blocks (n + 1) lg) (fun b h => .inl h)).onlyL on18 (fun b h => .inr h)
    clear r0 r1 r2 r3 lg17 on18 hw17 K17 HMT
    obtain ⟨_, _, x10⟩ := HG.out _ w18 K18 (fun b h => h)
    obtain ⟨⟨r0, r1, r2, r3⟩, _⟩ := block4 x10
    clear x10
    go_wp2_with fail
    refine (HHT.out _ hm18).mono ?_
    rintro e w20 ⟨rfl, hb19⟩
    have hw20 := hw18.trans (hb19.mono hw18.size)
    have hm20 := hm18.below hb19
    have K20 := K18.below hb19
    clear r0 r1 r2 r3 hw18 hm18 K18 hb19
    go_wp2_with fail
    refine (HT.out _ hw20).mono ?_
    rintro e w21 ⟨rfl, hn21, hb21⟩
    have hw21 := hw20.trans (hb21.mono hw20.size)
    have hm21 := hm20.below hb21
    have K21 := K20.below hb21
    have HI21 : Hid (type_of% (HI.out _ _ _ w21 (hn21.2 w21 (Above.refl _ _)) (Nat.le_refl _) hw21)) := HI.out _ _ _ w21 (hn21.2 w21 (Above.refl _ _)) (Nat.le_refl _) hw21
    clear hw20 hm20 K20 hb21 hn21
    go_wp2_with fail
    refine HI21.out.mono ?_
    rintro e w22 ⟨lh, t2, ok2, rfl, hans2, hh22, hb22⟩
    obtain ⟨rfl, rfl⟩ := hans.one hans2
    have hw22 := hw21.trans (hb22.mono hw21.size)
    have hm22 := hm21.below hb22
    have K22 := K21.below hb22
    obtain ⟨e1, u1, e2, u2, hcs⟩ := lay_cellsL hh22.1
    rw [hcs]
    have hB23 : Below w22.heap.size w22 (w22.alloc (.cells #[.int .i64 t.kind, .string t.name, .slice e1 t.names.length u1, .slice e2 t.kids.length u2] 27)) := (Below.refl _ _).alloc (Nat.le_refl _) _
    have hw23 := hw22.trans (hB23.mono hw22.size)
    have hm23 := hm22.below hB23
    have K23 := K22.below hB23
    have hh23 := hh22.1.below hB23
    obtain ⟨l23, x6, _⟩ := HG.out _ _ K23 (fun b h => h)
    obtain ⟨⟨p0, p1, p2, p3⟩, _⟩ := block4 x6
    have HE23 := HEt.out _ t ok lh l0 hans hh23 l23
    rw [hcs, ecs] at HE23
    have HQ : Hid (type_of% HE23) := HE23
    clear HE23 hw21 hm21 K21 hb22 hB23 hw22 hm22 K22 x6 l23 hh23 hh22 HI21 hans2
    go_wp2_with fail
    clear p0 p1 p2 p3
    generalize (w22.alloc (.cells #[.int .i64 t.kind, .string t.name, .slice e1 t.names.length u1, .slice e2 t.kids.length u2] 27)) = W23 at *
    refine HQ.out.mono ?_
    rintro e w24 ⟨rfl, hb24⟩
    have hw24 := hw23.trans (hb24.mono hw23.size)
    have hm24 := hm23.below hb24
    have K24 := K23.below hb24
    clear hw23 hm23 K23 hb24 HQ
    obtain ⟨_, _, x10⟩ := HG.out _ w24 K24 (fun b h => h)
    obtain ⟨⟨r0, r1, r2, r3⟩, _⟩ := block4 x10
    clear x10
    go_wp2_with fail
    refine (HHT.out _ hm24).mono ?_
    rintro e w25 ⟨rfl, hb25⟩
    have hw25 := hw24.trans (hb25.mono hw24.size)
    clear hw24 hm24 K24 hb25 HHT
    go_wp2_with fail
    go_ret
    exact ⟨rfl, hw25⟩
  · have hz1 : leftOf (envBulk (n + 1) es) 1048576 = -1 := if_neg (by omega)
    rw [hz1] at HZ
    clear hE hbk hz1
    go_enter Try.func3, Try.ntmps3
    go_wp2_with fail
    refine HZ.out.mono ?_
    rintro e w1 ⟨rfl, hb1⟩
    go_wp2_with fail
    go_ret
    exact ⟨rfl, hb1⟩

end Go.Proofs.Ytpnalacdgnppmaa
