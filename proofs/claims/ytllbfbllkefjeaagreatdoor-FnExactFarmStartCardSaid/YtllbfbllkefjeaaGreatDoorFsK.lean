/-
  The walk of impl.FarmStart.
  Rows and boxes of another type; the farm's box of spec.FarmStart.
-/
import Derived.Test.YtllbfbllkefjeaaGreatDoorFsI
namespace Go.Proofs.YtllbfbllkefjeaaGreatDoor
open Go.RowKit

/-- what FarmStart answers -/
def FsOut (S : List Src) (wk wt rm : Int) (I : List Itm) (S' : List Src) (U' : List Bool) (I' : List Itm) (wt' rm' : Int) (ok : Bool) : Prop :=
  (FarmRight S wk wt rm I ∧ S' = S ∧ U' = trues wk.toNat ∧ I' = I ∧ wt' = wt ∧ rm' = rm ∧ ok = true) ∨ (¬ FarmRight S wk wt rm I ∧ S' = [] ∧ U' = [] ∧ I' = [] ∧ wt' = 0 ∧ rm' = 0 ∧ ok = false)

theorem ret_iStart {R : Ending → World → Prop} {W : World} {tmps : Array Value} {b : Nat} {t : TypeId} {ok : Bool} {x0 x1 x2 x3 x4 x5 x6 x7 x8 x9 : Value} (hp : tmps[8]?.getD undef = .pointer (some ⟨b, 0, none⟩)) (hq : tmps[9]?.getD undef = .bool ok)
    (h : W.heap[b]? = some (.cells #[x0, x1, x2, x3, x4, x5, x6, x7, x8, x9] t (0, 0))) (hR : R (.returned (.tuple #[.agg #[x0, x1, x2, x3, x4, x5, x6, x7, x8, x9], .bool ok])) W) :
    bodyPost Tryz.prog Tryz.f9 R .ret { tmps := tmps, defers := [] } W := by
  obtain ⟨h0, h1, h2, h3, h4, h5, h6, h7, h8, h9⟩ := tenR_of h
  refine bodyPost_ret (v := .tuple #[.agg #[x0, x1, x2, x3, x4, x5, x6, x7, x8, x9], .bool ok]) ?_ rfl hR
  simp [results, Tryz.results9, go_sem, hp, hq, h0, h1, h2, h3, h4, h5, h6, h7, h8, h9]

set_option maxHeartbeats 3200000 in
set_option maxRecDepth 100000 in
theorem implFarmStart (a1 : Option Addr) (c1 : Nat) (S : List Src) (wk wt rm : Int) (a3 : Option Addr) (c3 : Nat) (I : List Itm) (p : Addr) (w : World) (hS : SrcAt w (.slice a1 S.length c1) S) (hSb : srsBulk S ≤ 1048576) (hI : ItAt w (.slice a3 I.length c3) I) (hIb : itsBulk I ≤ 4194304) (hc : ClsIs w) (htab : w.cell? ⟨5, 15, none⟩ = some (.int .u8 4)) (hg : w.cell? ⟨0, 0, none⟩ = some (.iface 271 (.pointer (some p)))) :
    Calls Tryz.prog 9 #[.slice a1 S.length c1, .int .i64 wk, .int .i64 wt, .agg #[.int .i64 rm, .slice a3 I.length c3]] w fun e w' => ∃ (b1 b2 b3 : Option Addr) (d1 d2 d3 m1 m2 : Nat) (S' : List Src) (U' : List Bool) (I' : List Itm) (wt' rm' : Int) (ok : Bool), e = .returned (.tuple #[.agg #[.slice b1 S'.length d1, .int .i64 wt', .slice b2 U'.length d2, .int .i64 0, .int .i64 0, .slice none 0 0, .slice none 0 0, .slice none 0 0, .int .i64 rm', .slice b3 I'.length d3], .bool ok]) ∧ FsOut S wk wt rm I S' U' I' wt' rm' ok ∧ w'.ownsRow w.heap.size 57 2 (.slice b1 S'.length d1) S'.length (flatA SrF S') ∧ w'.ownsRow w.heap.size 4 1 (.slice b2 U'.length d2) U'.length (flatA BoF U') ∧ w'.ownsRow w.heap.size 83 3 (.slice b3 I'.length d3) I'.length (itV I') ∧ ((∀ g, (Value.slice b1 S'.length d1).ownBlock = some g → g < m1) ∧ (∀ g, (Value.slice b2 U'.length d2).ownBlock = some g → m1 ≤ g ∧ g < m2) ∧ (∀ g, (Value.slice b3 I'.length d3).ownBlock = some g → m2 ≤ g)) ∧ Below w.heap.size w w' := by
  obtain ⟨W1, hW1⟩ : ∃ W1, W1 = (w.alloc (.cells #[.int .i64 rm, .slice a3 I.length c3] 35)).alloc (.cells #[.slice none 0 0, .int .i64 0, .slice none 0 0, .int .i64 0, .int .i64 0, .slice none 0 0, .slice none 0 0, .slice none 0 0, .int .i64 0, .slice none 0 0] 37) := ⟨_, rfl⟩
  have hb1 : Below w.heap.size w W1 := by rw [hW1]; exact ((Below.refl _ _).alloc (Nat.le_refl _) _).alloc (by simp) _
  have hz1 : W1.heap.size = w.heap.size + 1 + 1 := by rw [hW1]; simp
  have rr : W1.heap[w.heap.size + 1]? = some (.cells #[.slice none 0 0, .int .i64 0, .slice none 0 0, .int .i64 0, .int .i64 0, .slice none 0 0, .slice none 0 0, .slice none 0 0, .int .i64 0, .slice none 0 0] 37 (0, 0)) := by
    have := (MapKept.heap_alloc (w.alloc (.cells #[.int .i64 rm, .slice a3 I.length c3] 35)) (.cells #[.slice none 0 0, .int .i64 0, .slice none 0 0, .int .i64 0, .int .i64 0, .slice none 0 0, .slice none 0 0, .slice none 0 0, .int .i64 0, .slice none 0 0] 37)).1
    rw [hW1]
    rwa [show (w.alloc (.cells #[.int .i64 rm, .slice a3 I.length c3] 35)).heap.size = w.heap.size + 1 from by simp] at this
  have hx : ∀ X, Below W1.heap.size W1 X → Below w.heap.size w X := fun X hX => hb1.trans (hX.mono (by omega))
  have hgx : ∀ X, Below w.heap.size w X → X.cell? ⟨0, 0, none⟩ = some (.iface 271 (.pointer (some p))) := fun X hX => (hX.cell (p := ⟨0, 0, none⟩) (World.block_lt_of_cell? w ⟨0, 0, none⟩ hg)).trans hg
  have HSY : Hid (type_of% (implStartYard a1 c1 S wk wt rm a3 c3 I p W1 (hS.below hb1) hSb (hI.below hb1) hIb (hc.below hb1 hc.lt) ((hb1.cell (p := ⟨5, 15, none⟩) (World.block_lt_of_cell? w ⟨5, 15, none⟩ htab)).trans htab) (hgx W1 hb1))) := implStartYard a1 c1 S wk wt rm a3 c3 I p W1 (hS.below hb1) hSb (hI.below hb1) hIb (hc.below hb1 hc.lt) ((hb1.cell (p := ⟨5, 15, none⟩) (World.block_lt_of_cell? w ⟨5, 15, none⟩ htab)).trans htab) (hgx W1 hb1)
  have HX : Hid (∀ X, Below W1.heap.size W1 X → Below w.heap.size w X ∧ X.heap[w.heap.size + 1]? = some (.cells #[.slice none 0 0, .int .i64 0, .slice none 0 0, .int .i64 0, .int .i64 0, .slice none 0 0, .slice none 0 0, .slice none 0 0, .int .i64 0, .slice none 0 0] 37 (0, 0)) ∧ X.cell? ⟨0, 0, none⟩ = some (.iface 271 (.pointer (some p))) ∧ SrcAt X (.slice a1 S.length c1) S) := fun X hX => ⟨hx X hX, (hX.block _ (by omega)).trans rr, hgx X (hx X hX), hS.below (hx X hX)⟩
  have HSB : Hid (type_of% hSb) := hSb
  have HIB : Hid (type_of% hIb) := hIb
  have HZ1 : Hid (type_of% hz1) := hz1
  clear hS hSb hI hIb hc htab hg hb1 hz1 rr hx hgx
  go_enter Tryz.func9, Tryz.ntmps9
  go_wp2_with fail
  rw [← hW1]
  clear hW1
  refine HSY.out.mono ?_
  rintro e w2 ⟨h, hb2⟩
  obtain ⟨hbw2, rr2, gl2, hs2⟩ := HX.out w2 hb2
  have hz := HZ1.out
  obtain ⟨t0, t1, t2, t3, t4, t5, t6, t7, t8, t9⟩ := tenR_of rr2
  have g0 := frozen_of_row _ _ 0 _ _ rr2
  have g1 := frozen_of_row _ _ 1 _ _ rr2
  have g2 := frozen_of_row _ _ 2 _ _ rr2
  have g3 := frozen_of_row _ _ 3 _ _ rr2
  have g4 := frozen_of_row _ _ 4 _ _ rr2
  have g5 := frozen_of_row _ _ 5 _ _ rr2
  have g6 := frozen_of_row _ _ 6 _ _ rr2
  have g7 := frozen_of_row _ _ 7 _ _ rr2
  have g8 := frozen_of_row _ _ 8 _ _ rr2
  have g9 := frozen_of_row _ _ 9 _ _ rr2
  rcases h with ⟨hN, rfl⟩ | ⟨hY, yb, a, c, sb, M, v, dn, un, rfl, hy, hyb, ho, hst⟩
  · have hle : w.heap.size ≤ w.heap.size + 1 := by omega
    have HEND : Hid ((put10 w2 (w.heap.size + 1) (.slice none 0 0) (.int .i64 0) (.slice none 0 0) (.int .i64 0) (.int .i64 0) (.slice none 0 0) (.slice none 0 0) (.slice none 0 0) (.int .i64 0) (.slice none 0 0)).heap[w.heap.size + 1]? = some (.cells #[.slice none 0 0, .int .i64 0, .slice none 0 0, .int .i64 0, .int .i64 0, .slice none 0 0, .slice none 0 0, .slice none 0 0, .int .i64 0, .slice none 0 0] 37 (0, 0)) ∧ Below w.heap.size w (put10 w2 (w.heap.size + 1) (.slice none 0 0) (.int .i64 0) (.slice none 0 0) (.int .i64 0) (.int .i64 0) (.slice none 0 0) (.slice none 0 0) (.slice none 0 0) (.int .i64 0) (.slice none 0 0))) := by
      refine ⟨put10R rr2, ?_⟩
      unfold put10
      exact ((((((((((hbw2.setCell hle _).setCell hle _).setCell hle _).setCell hle _).setCell hle _).setCell hle _).setCell hle _).setCell hle _).setCell hle _).setCell hle _)
    have HNO : Hid (type_of% hN) := hN
    clear rr2 hbw2 hs2 HX HSY hb2 hz hN
    go_wp2_with (go_at_call 26; refine (esSame p _).mono ?_; rintro r w3 ⟨rfl, hw3⟩; rw [hw3]; clear hw3)
    unfold put10 at HEND
    refine ret_iStart (b := w.heap.size + 1) rfl rfl HEND.out.1 ⟨none, none, none, 0, 0, 0, 0, 0, [], [], [], 0, 0, false, rfl, .inr ⟨HNO.out, rfl, rfl, rfl, rfl, rfl, rfl⟩, ?_, ?_, ?_, ?_, HEND.out.2⟩
    · exact World.ownsRow_nil _ _ _ _
    · exact World.ownsRow_nil _ _ _ _
    · exact World.ownsRow_nil _ _ _ _
    · exact ⟨fun g hg => by simp [Value.ownBlock] at hg, fun g hg => by simp [Value.ownBlock] at hg, fun g hg => by simp [Value.ownBlock] at hg⟩
  · have htl : (trues wk.toNat).length = wk.toNat := by simp [trues]
    have hwk : wk.toNat ≤ 4194304 := by have := hY.2.1; omega
    have hYF := implYardFarm W1.heap.size yb sb M a1 a a3 c1 c I.length c3 S (trues wk.toNat) I wt rm v dn un w2 (by rw [htl]; exact hy) hs2 HSB.out (ownA (f := BoF) (z := 1) (fun _ => rfl) (by rw [htl]; exact ho)) (by rw [htl]; exact hwk) hst HIB.out hb2.size
    rw [htl] at hYF
    have HYF : Hid (type_of% hYF) := hYF
    have HYES : Hid (type_of% hY) := hY
    have HTL : Hid (type_of% htl) := htl
    clear hYF hy hyb ho hst hs2 hY htl hwk
    go_wp2_with (go_at_call 26; refine (esNil p _).mono ?_; rintro r w3 ⟨rfl, hw3⟩; rw [hw3]; clear hw3)
    refine HYF.out.mono ?_
    rintro e w3 ⟨b1, b2, b3, d1, d2, d3, m1, m2, rfl, o1, o2, o3, hdi, hb3⟩
    obtain ⟨hbw3, rr3, _, _⟩ := HX.out w3 (hb2.trans (hb3.mono hb2.size))
    have hs3 := hb2.size
    clear t0 t1 t2 t3 t4 t5 t6 t7 t8 t9 g0 g1 g2 g3 g4 g5 g6 g7 g8 g9 gl2 rr2 hbw2
    obtain ⟨t0, t1, t2, t3, t4, t5, t6, t7, t8, t9⟩ := tenR_of rr3
    have g0 := frozen_of_row _ _ 0 _ _ rr3
    have g1 := frozen_of_row _ _ 1 _ _ rr3
    have g2 := frozen_of_row _ _ 2 _ _ rr3
    have g3 := frozen_of_row _ _ 3 _ _ rr3
    have g4 := frozen_of_row _ _ 4 _ _ rr3
    have g5 := frozen_of_row _ _ 5 _ _ rr3
    have g6 := frozen_of_row _ _ 6 _ _ rr3
    have g7 := frozen_of_row _ _ 7 _ _ rr3
    have g8 := frozen_of_row _ _ 8 _ _ rr3
    have g9 := frozen_of_row _ _ 9 _ _ rr3
    have hle : w.heap.size ≤ w.heap.size + 1 := by omega
    have HP : ∀ k, k ≠ w.heap.size + 1 → (put10 w3 (w.heap.size + 1) (.slice b1 S.length d1) (.int .i64 wt) (.slice b2 wk.toNat d2) (.int .i64 0) (.int .i64 0) (.slice none 0 0) (.slice none 0 0) (.slice none 0 0) (.int .i64 rm) (.slice b3 I.length d3)).heap[k]? = w3.heap[k]? := fun k hk => by
      unfold put10
      rw [Below.heap_setCell _ _ _ _ (by simpa using hk), Below.heap_setCell _ _ _ _ (by simpa using hk), Below.heap_setCell _ _ _ _ (by simpa using hk), Below.heap_setCell _ _ _ _ (by simpa using hk), Below.heap_setCell _ _ _ _ (by simpa using hk), Below.heap_setCell _ _ _ _ (by simpa using hk), Below.heap_setCell _ _ _ _ (by simpa using hk), Below.heap_setCell _ _ _ _ (by simpa using hk), Below.heap_setCell _ _ _ _ (by simpa using hk), Below.heap_setCell _ _ _ _ (by simpa using hk)]
    have HEND : Hid ((put10 w3 (w.heap.size + 1) (.slice b1 S.length d1) (.int .i64 wt) (.slice b2 wk.toNat d2) (.int .i64 0) (.int .i64 0) (.slice none 0 0) (.slice none 0 0) (.slice none 0 0) (.int .i64 rm) (.slice b3 I.length d3)).heap[w.heap.size + 1]? = some (.cells #[.slice b1 S.length d1, .int .i64 wt, .slice b2 wk.toNat d2, .int .i64 0, .int .i64 0, .slice none 0 0, .slice none 0 0, .slice none 0 0, .int .i64 rm, .slice b3 I.length d3] 37 (0, 0)) ∧ ((put10 w3 (w.heap.size + 1) (.slice b1 S.length d1) (.int .i64 wt) (.slice b2 wk.toNat d2) (.int .i64 0) (.int .i64 0) (.slice none 0 0) (.slice none 0 0) (.slice none 0 0) (.int .i64 rm) (.slice b3 I.length d3)).ownsRow w.heap.size 57 2 (.slice b1 S.length d1) S.length (flatA SrF S) ∧ (put10 w3 (w.heap.size + 1) (.slice b1 S.length d1) (.int .i64 wt) (.slice b2 wk.toNat d2) (.int .i64 0) (.int .i64 0) (.slice none 0 0) (.slice none 0 0) (.slice none 0 0) (.int .i64 rm) (.slice b3 I.length d3)).ownsRow w.heap.size 4 1 (.slice b2 wk.toNat d2) wk.toNat (flatA BoF (trues wk.toNat)) ∧ (put10 w3 (w.heap.size + 1) (.slice b1 S.length d1) (.int .i64 wt) (.slice b2 wk.toNat d2) (.int .i64 0) (.int .i64 0) (.slice none 0 0) (.slice none 0 0) (.slice none 0 0) (.int .i64 rm) (.slice b3 I.length d3)).ownsRow w.heap.size 83 3 (.slice b3 I.length d3) I.length (itV I)) ∧ Below w.heap.size w (put10 w3 (w.heap.size + 1) (.slice b1 S.length d1) (.int .i64 wt) (.slice b2 wk.toNat d2) (.int .i64 0) (.int .i64 0) (.slice none 0 0) (.slice none 0 0) (.slice none 0 0) (.int .i64 rm) (.slice b3 I.length d3))) := by
      refine ⟨put10R rr3, ⟨itLow o1 (by omega) fun g hg => HP g (by have := (o1.lt g hg).1; omega), itLow o2 (by omega) fun g hg => HP g (by have := (o2.lt g hg).1; omega), itLow o3 (by omega) fun g hg => HP g (by have := (o3.lt g hg).1; omega)⟩, ?_⟩
      unfold put10
      exact ((((((((((hbw3.setCell hle _).setCell hle _).setCell hle _).setCell hle _).setCell hle _).setCell hle _).setCell hle _).setCell hle _).setCell hle _).setCell hle _)
    have HDI : Hid (type_of% hdi) := hdi
    clear HP o1 o2 o3 hb3 hbw3 rr3 hdi HX HSY hb2 hz hs3 HYF
    go_wp2_with fail
    unfold put10 at HEND
    refine ret_iStart (b := w.heap.size + 1) rfl rfl HEND.out.1 ⟨b1, b2, b3, d1, d2, d3, m1, m2, S, trues wk.toNat, I, wt, rm, true, by rw [HTL.out], .inl ⟨HYES.out, rfl, rfl, rfl, rfl, rfl, rfl⟩, HEND.out.2.1.1, by rw [HTL.out]; exact HEND.out.2.1.2.1, HEND.out.2.1.2.2, by rw [HTL.out]; exact HDI.out, HEND.out.2.2⟩

end Go.Proofs.YtllbfbllkefjeaaGreatDoor

namespace Go.Proofs.YtllbfbllkefjeaaGreatDoor
open Go.RowKit

/-- a row and a box of another type lie in two blocks -/
theorem ownNe {w : World} {B : Nat} {e t : TypeId} {z : Nat} {v : Value} {n : Nat} {xs : List Value} {tb : Nat} {cs : Array Value} {fz : Nat × Nat} (h : w.ownsRow B e z v n xs) (hb : w.heap[tb]? = some (.cells cs t fz)) (ht : e ≠ t) : ∀ g, v.ownBlock = some g → g ≠ tb := by
  intro g hg e2
  rcases h.2 with ⟨e1, _⟩ | ⟨g', cap, cur, e1, _, hh, _⟩
  · rw [e1] at hg
    simp [Value.ownBlock] at hg
  · rw [e1] at hg
    simp only [Value.ownBlock, Option.some.injEq] at hg
    subst hg
    subst e2
    rw [hh] at hb
    simp only [Option.some.injEq, Obj.cells.injEq] at hb
    exact ht hb.2.1
theorem ownNe2 {w : World} {B B' : Nat} {e e' : TypeId} {z z' : Nat} {v v' : Value} {n n' : Nat} {xs xs' : List Value} (h : w.ownsRow B e z v n xs) (h' : w.ownsRow B' e' z' v' n' xs') (ht : e ≠ e') : ∀ g, v.ownBlock = some g → v'.ownBlock ≠ some g := by
  intro g hg hg'
  rcases h'.2 with ⟨e1, _⟩ | ⟨g', cap, cur, e1, _, hh, _⟩
  · rw [e1] at hg'
    simp [Value.ownBlock] at hg'
  · rw [e1] at hg'
    simp only [Value.ownBlock, Option.some.injEq] at hg'
    subst hg'
    exact ownNe h hh ht g' hg rfl
theorem put10_heap (X : World) (b : Nat) (x0 x1 x2 x3 x4 x5 x6 x7 x8 x9 : Value) (k : Nat) (hk : k ≠ b) : (put10 X b x0 x1 x2 x3 x4 x5 x6 x7 x8 x9).heap[k]? = X.heap[k]? := by
  unfold put10
  rw [Below.heap_setCell _ _ _ _ (by simpa using hk), Below.heap_setCell _ _ _ _ (by simpa using hk), Below.heap_setCell _ _ _ _ (by simpa using hk), Below.heap_setCell _ _ _ _ (by simpa using hk), Below.heap_setCell _ _ _ _ (by simpa using hk), Below.heap_setCell _ _ _ _ (by simpa using hk), Below.heap_setCell _ _ _ _ (by simpa using hk), Below.heap_setCell _ _ _ _ (by simpa using hk), Below.heap_setCell _ _ _ _ (by simpa using hk), Below.heap_setCell _ _ _ _ (by simpa using hk)]
theorem put10_belowN (X w : World) (B b : Nat) (x0 x1 x2 x3 x4 x5 x6 x7 x8 x9 : Value) (h : Below B w X) (hb : B ≤ b) : Below B w (put10 X b x0 x1 x2 x3 x4 x5 x6 x7 x8 x9) := ((((((((((h.setCell (p := ⟨b, 0, none⟩) hb _).setCell (p := ⟨b, 1, none⟩) hb _).setCell (p := ⟨b, 2, none⟩) hb _).setCell (p := ⟨b, 3, none⟩) hb _).setCell (p := ⟨b, 4, none⟩) hb _).setCell (p := ⟨b, 5, none⟩) hb _).setCell (p := ⟨b, 6, none⟩) hb _).setCell (p := ⟨b, 7, none⟩) hb _).setCell (p := ⟨b, 8, none⟩) hb _).setCell (p := ⟨b, 9, none⟩) hb _)

/-- the farm's box, its lists beside it -/
def StF (W1 : World) (S : List Src) (I : List Itm) (wt rm : Int) (tb : Nat) (b1 : Option Addr) (d1 : Nat) (b3 : Option Addr) (d3 : Nat) (wx : World) : Prop := W1.heap.size ≤ tb ∧ wx.heap[tb]? = some (.cells #[.slice b1 S.length d1, .int .i64 wt, .slice none 0 0, .int .i64 0, .int .i64 0, .slice none 0 0, .slice none 0 0, .slice none 0 0, .int .i64 rm, .slice b3 I.length d3] 37 (0, 0)) ∧ wx.ownsRow W1.heap.size 57 2 (.slice b1 S.length d1) S.length (flatA SrF S) ∧ wx.ownsRow W1.heap.size 83 3 (.slice b3 I.length d3) I.length (itV I) ∧ Below W1.heap.size W1 wx
theorem stF_early {W1 w6 : World} {S : List Src} {I : List Itm} {wt rm : Int} {tb : Nat} {b1 : Option Addr} {d1 : Nat} {b3 : Option Addr} {d3 : Nat} {B1 B3 : Nat} {z0 z1 z2 z3 z4 z5 z6 z7 z8 z9 : Value} (rb6 : w6.heap[tb]? = some (.cells #[z0, z1, z2, z3, z4, z5, z6, z7, z8, z9] 37 (0, 0))) (o1 : w6.ownsRow B1 57 2 (.slice b1 S.length d1) S.length (flatA SrF S)) (o3 : w6.ownsRow B3 83 3 (.slice b3 I.length d3) I.length (itV I)) (hb1 : W1.heap.size ≤ B1) (hb3 : W1.heap.size ≤ B3) (ht : W1.heap.size ≤ tb) (hb : Below W1.heap.size W1 w6) : StF W1 S I wt rm tb b1 d1 b3 d3 (put10 w6 tb (.slice b1 S.length d1) (.int .i64 wt) (.slice none 0 0) (.int .i64 0) (.int .i64 0) (.slice none 0 0) (.slice none 0 0) (.slice none 0 0) (.int .i64 rm) (.slice b3 I.length d3)) :=
  ⟨ht, put10R rb6, itLow o1 hb1 fun g hg => put10_heap _ _ _ _ _ _ _ _ _ _ _ _ g (ownNe o1 rb6 (by decide) g hg), itLow o3 hb3 fun g hg => put10_heap _ _ _ _ _ _ _ _ _ _ _ _ g (ownNe o3 rb6 (by decide) g hg), put10_belowN _ _ _ _ _ _ _ _ _ _ _ _ _ _ hb ht⟩
theorem stF_late {W1 w6 : World} {S : List Src} {I : List Itm} {wt rm : Int} {b1 : Option Addr} {d1 : Nat} {b3 : Option Addr} {d3 : Nat} {B1 B3 : Nat} (o1 : w6.ownsRow B1 57 2 (.slice b1 S.length d1) S.length (flatA SrF S)) (o3 : w6.ownsRow B3 83 3 (.slice b3 I.length d3) I.length (itV I)) (hb1 : W1.heap.size ≤ B1) (hb3 : W1.heap.size ≤ B3) (hb : Below W1.heap.size W1 w6) : StF W1 S I wt rm w6.heap.size b1 d1 b3 d3 (w6.alloc (.cells #[.slice b1 S.length d1, .int .i64 wt, .slice none 0 0, .int .i64 0, .int .i64 0, .slice none 0 0, .slice none 0 0, .slice none 0 0, .int .i64 rm, .slice b3 I.length d3] 37)) :=
  ⟨hb.size, (MapKept.heap_alloc w6 _).1, itLow (o1.alloc _) hb1 fun _ _ => rfl, itLow (o3.alloc _) hb3 fun _ _ => rfl, hb.alloc hb.size _⟩
theorem cellOneA {w : World} {x : Value} {t : TypeId} : ∀ j u, [x][j]? = some u → (w.alloc (.cells #[x] t)).cell? ((⟨w.heap.size, 0, none⟩ : Addr).add j) = some u := fun j u hu => by
  rw [Addr.add_lit, Nat.zero_add, cell_of_row _ _ j _ _ (0, 0) (MapKept.heap_alloc w _).1]
  match j, hu with
  | 0, hu => exact hu
/-- the farm's box, so many workers up -/
def StL (W1 X2 : World) (S : List Src) (I : List Itm) (wt rm : Int) (tb : Nat) (b1 : Option Addr) (d1 : Nat) (b3 : Option Addr) (d3 : Nat) (a2 : Option Addr) (c2 j : Nat) (wx : World) : Prop := wx.heap[tb]? = some (.cells #[.slice b1 S.length d1, .int .i64 wt, .slice a2 j c2, .int .i64 0, .int .i64 0, .slice none 0 0, .slice none 0 0, .slice none 0 0, .int .i64 rm, .slice b3 I.length d3] 37 (0, 0)) ∧ wx.ownsRow W1.heap.size 57 2 (.slice b1 S.length d1) S.length (flatA SrF S) ∧ wx.ownsRow W1.heap.size 83 3 (.slice b3 I.length d3) I.length (itV I) ∧ Below W1.heap.size W1 wx ∧ wx.ownsRow X2.heap.size 4 1 (.slice a2 j c2) j (flatA BoF (trues j)) ∧ X2.heap.size ≤ wx.heap.size
theorem stL_step {W1 X2 wr w3 : World} {S : List Src} {I : List Itm} {wt rm : Int} {tb : Nat} {b1 : Option Addr} {d1 : Nat} {b3 : Option Addr} {d3 : Nat} {a2 : Option Addr} {c2 j : Nat} {o : Obj} (h : StL W1 X2 S I wt rm tb b1 d1 b3 d3 a2 c2 j wr) (hz : W1.heap.size ≤ X2.heap.size) (hg : (wr.alloc o).grownBy w3 (Value.slice a2 j c2).ownBlock) (v' : Value) (ho : w3.ownsRow X2.heap.size 4 1 v' (j + 1) (flatA BoF (trues j) ++ [.bool true])) (htb : W1.heap.size ≤ tb) :
    w3.cell? ⟨tb, 2, none⟩ = some (.slice a2 j c2) ∧ w3.frozen? ⟨tb, 2, none⟩ = false ∧ ∃ a' c', v' = .slice a' (j + 1) c' ∧ StL W1 X2 S I wt rm tb b1 d1 b3 d3 a' c' (j + 1) (w3.setCell ⟨tb, 2, none⟩ v') := by
  obtain ⟨h1, h2, h3, h4, h5, h6⟩ := h
  have hA : Below wr.heap.size wr (wr.alloc o) := (Below.refl _ _).alloc (Nat.le_refl _) _
  have q1 : (wr.alloc o).heap[tb]? = _ := (hA.block tb (Array.getElem?_eq_some_iff.1 h1).1).trans h1
  have q2 : w3.heap[tb]? = _ := (hg.block tb (Array.getElem?_eq_some_iff.1 q1).1 fun e => ownNe h5 h1 (by decide) tb e.symm rfl).trans q1
  obtain ⟨a', c', rfl⟩ := slice_ownS ho
  have k2 : w3.ownsRow W1.heap.size 57 2 (.slice b1 S.length d1) S.length (flatA SrF S) := (h2.alloc o).kept hg (by
    cases hv : (Value.slice b1 S.length d1).ownBlock with
    | none => exact .inl rfl
    | some g => exact .inr fun e => ownNe2 h2 h5 (by decide) g hv e.symm)
  have k3 : w3.ownsRow W1.heap.size 83 3 (.slice b3 I.length d3) I.length (itV I) := (h3.alloc o).kept hg (by
    cases hv : (Value.slice b3 I.length d3).ownBlock with
    | none => exact .inl rfl
    | some g => exact .inr fun e => ownNe2 h3 h5 (by decide) g hv e.symm)
  have k4 : Below W1.heap.size W1 w3 := (h4.alloc h4.size _).grown hg (h4.alloc h4.size o).size fun g hv => Nat.le_trans hz (h5.lt g hv).1
  have hS : ∀ k, k ≠ tb → (w3.setCell ⟨tb, 2, none⟩ (.slice a' (j + 1) c')).heap[k]? = w3.heap[k]? := fun k hk => Below.heap_setCell _ _ _ _ (by simpa using hk)
  have e1 : flatA BoF (trues j) ++ [.bool true] = flatA BoF (trues (j + 1)) := by
    unfold trues
    rw [List.replicate_succ', flatA_app]
    rfl
  rw [e1] at ho
  refine ⟨by rw [cell_of_row _ _ 2 _ _ (0, 0) q2]; rfl, frozen_of_row _ _ 2 _ _ q2, a', c', rfl, heap_setCell_same _ _ 2 _ _ _ q2, itLow k2 (Nat.le_refl _) fun g hg => hS g (ownNe k2 q2 (by decide) g hg), itLow k3 (Nat.le_refl _) fun g hg => hS g (ownNe k3 q2 (by decide) g hg), k4.setCell htb _, itLow ho (Nat.le_refl _) fun g hg => hS g (ownNe ho q2 (by decide) g hg), ?_⟩
  have s1 := hg.size
  have s2 := hA.size
  have s3 : (w3.setCell ⟨tb, 2, none⟩ (.slice a' (j + 1) c')).heap.size = w3.heap.size := by simp
  omega

end Go.Proofs.YtllbfbllkefjeaaGreatDoor
