/-
  The walks of impl.isLeaf, impl.stopOf and of a book's behind.
-/
import Derived.Test.YteocagdlbnhpgaaLoS
import Derived.Test.YteocagdlbnhpgaaBkF
import Derived.WalkKit
namespace Go.Proofs.Yteocagdlbnhpgaa
open Go.RowKit

set_option maxHeartbeats 1600000 in
set_option maxRecDepth 100000 in
theorem implIsLeaf (kd : Int) (nm : ByteArray) (vn : Value) (ak : Option Addr) (l ck : Nat) (w : World) :
    Calls Try.prog 45 #[.agg #[.int .i64 kd, .string nm, vn, .slice ak l ck]] w fun e w' => e = .returned (.bool (decide (kd ≠ 4 ∧ (kd ≠ 7 ∨ l = 0)))) ∧ Below w.heap.size w w' := by
  have hB1 : Below w.heap.size w (w.alloc (.cells #[.int .i64 kd, .string nm, vn, .slice ak l ck] 37)) := (Below.refl _ _).alloc (Nat.le_refl _) _
  by_cases c4 : kd = 4
  · subst c4
    go_enter Try.func45, Try.ntmps45
    go_wp2_with fail
    go_ret
    exact ⟨rfl, hB1⟩
  · have h4 : decide (kd = 4) = false := decide_eq_false c4
    by_cases c7 : kd = 7
    · subst c7
      by_cases c0 : l = 0
      · subst c0
        go_enter Try.func45, Try.ntmps45
        go_wp2_with fail
        go_ret
        exact ⟨rfl, hB1⟩
      · have h0 : decide ((l : Int) = 0) = false := decide_eq_false (by omega)
        have h0b : ((l : Int) == 0) = false := by rw [beq_eq_false_iff_ne]; omega
        have HA : Hid (decide ((7 : Int) ≠ 4 ∧ ((7 : Int) ≠ 7 ∨ l = 0)) = false) := decide_eq_false fun h => h.2.elim (fun q => q rfl) c0
        go_enter Try.func45, Try.ntmps45
        go_wp2_with fail
        go_ret
        exact ⟨by rw [HA.out]; rfl, hB1⟩
    · have h7 : decide (kd = 7) = false := decide_eq_false c7
      have h4b : (kd != 4) = true := by simp [c4]
      have h7b : (kd != 7) = true := by simp [c7]
      have HA : Hid (decide (kd ≠ 4 ∧ (kd ≠ 7 ∨ l = 0)) = true) := decide_eq_true ⟨c4, .inl c7⟩
      go_enter Try.func45, Try.ntmps45
      go_wp2_with fail
      go_ret
      exact ⟨by rw [HA.out, ← h4b]; rfl, hB1⟩

theorem block3S {W : World} {b : Nat} {x0 x1 x2 : Value} (h : W.heap[b]? = some (.cells #[x0, x1, x2] 87 (0, 0))) : (W.cell? ⟨b, 0, none⟩ = some x0 ∧ W.cell? ⟨b, 1, none⟩ = some x1 ∧ W.cell? ⟨b, 2, none⟩ = some x2) ∧ ∀ j, W.frozen? ⟨b, j, none⟩ = false := by
  refine ⟨⟨?_, ?_, ?_⟩, fun j => frozen_of_row W b j _ _ h⟩
  · rw [cell_of_row W b 0 _ _ (0, 0) h]; rfl
  · rw [cell_of_row W b 1 _ _ (0, 0) h]; rfl
  · rw [cell_of_row W b 2 _ _ (0, 0) h]; rfl
theorem put_stop {w0 : World} {b : Nat} {z0 z1 z2 x0 x1 x2 : Value} (h : w0.heap[b]? = some (.cells #[z0, z1, z2] 87 (0, 0))) : (((w0.setCell ⟨b, 0, none⟩ x0).setCell ⟨b, 1, none⟩ x1).setCell ⟨b, 2, none⟩ x2).heap[b]? = some (.cells #[x0, x1, x2] 87 (0, 0)) :=
  heap_setCell_same _ b 2 _ _ x2 (heap_setCell_same _ b 1 _ _ x1 (heap_setCell_same w0 b 0 _ _ x0 h))
theorem ret_stop {R : Ending → World → Prop} {W : World} {tmps : Array Value} {b : Nat} {x0 x1 x2 : Value} (hp : tmps[2]?.getD undef = .pointer (some ⟨b, 0, none⟩))
    (h : W.cell? ⟨b, 0, none⟩ = some x0 ∧ W.cell? ⟨b, 1, none⟩ = some x1 ∧ W.cell? ⟨b, 2, none⟩ = some x2) (hR : R (.returned (.agg #[x0, x1, x2])) W) :
    bodyPost Try.prog Try.f46 R .ret { tmps := tmps, defers := [] } W := by
  obtain ⟨h0, h1, h2⟩ := h
  refine bodyPost_ret (v := .agg #[x0, x1, x2]) ?_ rfl hR
  simp [results, Try.results46, go_sem, hp, h0, h1, h2]

set_option maxHeartbeats 1600000 in
set_option maxRecDepth 100000 in
theorem implStopName (nm : ByteArray) (vn vk : Value) (w : World) :
    Calls Try.prog 46 #[.agg #[.int .i64 4, .string nm, vn, vk]] w fun e w' => e = .returned (stV nm none 0) ∧ Below w.heap.size w w' := by
  go_enter Try.func46, Try.ntmps46
  go_wp2_with fail
  exact ret_stop rfl (block3S (heap_second w _ _)).1 ⟨rfl, ((Below.refl _ _).alloc (Nat.le_refl _) _).alloc (by simp) _⟩

set_option maxHeartbeats 1600000 in
set_option maxRecDepth 100000 in
theorem implStopUnion (nm : ByteArray) (vn : Value) (b l ck : Nat) (w : World) (hl : 0 < l) :
    Calls Try.prog 46 #[.agg #[.int .i64 7, .string nm, vn, .slice (some ⟨b, 0, none⟩) l ck]] w fun e w' => e = .returned (stV ⟨#[]⟩ (some ⟨b, 0, none⟩) l) ∧ Below w.heap.size w w' := by
  have HP : Hid (∀ wx : World, Calls Try.prog 55 #[.slice (some ⟨b, 0, none⟩) l ck] wx fun e w' => e = .returned (.agg #[.pointer (some ⟨b, 0, none⟩), .int .i64 l]) ∧ Below wx.heap.size wx w') := fun wx => implPlaceOf b 0 l ck wx hl
  have hX1 := heap_second w (.cells #[.int .i64 7, .string nm, vn, .slice (some ⟨b, 0, none⟩) l ck] 37) (.cells #[.string ⟨#[]⟩, .pointer none, .int .i64 0] 87)
  go_enter Try.func46, Try.ntmps46
  go_wp2_with fail
  refine (HP.out _).mono ?_
  rintro e w2 ⟨rfl, hb2⟩
  have h2 := (hb2.block (w.heap.size + 1) (by simp)).trans hX1
  obtain ⟨_, hfz⟩ := block3S h2
  have hb : Below w.heap.size w w2 := (((Below.refl _ _).alloc (Nat.le_refl _) _).alloc (by simp) _).trans (hb2.mono (by simp; omega))
  have hP := put_stop h2 (x0 := .string ⟨#[]⟩) (x1 := .pointer (some ⟨b, 0, none⟩)) (x2 := .int .i64 l)
  obtain ⟨⟨c0, c1, c2⟩, _⟩ := block3S h2
  clear hb2 HP
  go_wp2_with fail
  exact ret_stop rfl (block3S hP).1 ⟨rfl, ((hb.setCell (by simp) _).setCell (by simp) _).setCell (by simp) _⟩

/-- these types stand in a row, which is of what was there, or of types -/
def KRow (B : Nat) (w : World) (v : Value) (KS : List Ent) : Prop := ∃ b cap cur e, v = .slice (some ⟨b, 0, none⟩) KS.length cap ∧ w.heap[b]? = some (.cells cur e (0, 0)) ∧ (b < B ∨ e = 37) ∧ ∀ j (h : j < KS.length) c u, KS[j].cs[c]? = some u → w.cell? ⟨b, j * 4 + c, none⟩ = some u
/-- what is behind a name or a union -/
def Behind (n : Nat) (es : List (ByteArray × Ty)) (w : World) (p : Ent) (KS : List Ent) : Prop := (∀ q ∈ KS, q.fits w) ∧ (∀ u, Kid es p.t u ↔ u ∈ KS.map (·.t)) ∧ (p.t.kind = 4 → firstTy es p.t.name ≠ none) ∧ ((p.t.kind = 7 ∧ KS.map (·.t) = p.t.kids ∧ ∀ q ∈ KS, q.n + 1 = p.n) ∨ (p.t.kind = 4 ∧ ∃ q, KS = [q] ∧ q.n = n ∧ (p.t.name, q.t) ∈ es))

set_option maxHeartbeats 1600000 in
set_option maxRecDepth 100000 in
theorem implBehind (n lo hi : Nat) (v : Value) (es : List (ByteArray × Ty)) (M : Nat) (D : List (ByteArray × Value)) (pm : Option Addr) (p : Ent) (an ak : Option Addr) (ln cn lk ck : Nat) (w0 w : World) (hrow : EnvIn w0 n lo hi v es) (hhi : hi ≤ w0.heap.size) (hx : Below w0.heap.size w0 w) (hS : SMap w M D) (hD : BookD es es.length D)
    (hp : EFit w0 p) (hcs : p.cs = [.int .i64 p.t.kind, .string p.t.name, .slice an ln cn, .slice ak lk ck]) (hl : ¬ Leafy p.t) :
    Calls Try.prog 47 #[.agg #[v, .map (some M), .pointer pm], .agg #[.int .i64 p.t.kind, .string p.t.name, .slice an ln cn, .slice ak lk ck]] w fun e w' => ∃ (vk : Value) (ok : Bool), e = .returned (.tuple #[vk, .bool ok]) ∧ Below w.heap.size w w' ∧ ((ok = false ∧ ¬ Good es p.t) ∨ (ok = true ∧ ∃ KS, Behind n es w0 p KS ∧ KRow w0.heap.size w' vk KS)) := by
  have hb1 : Below w.heap.size w ((w.alloc (.cells #[v, .map (some M), .pointer pm] 56)).alloc (.cells #[.int .i64 p.t.kind, .string p.t.name, .slice an ln cn, .slice ak lk ck] 37)) := ((Below.refl _ _).alloc (Nat.le_refl _) _).alloc (by simp) _
  obtain ⟨bE, capE, hvE⟩ : ∃ b cap, v = .slice (some ⟨b, 0, none⟩) es.length cap := by
    obtain ⟨b, cap, e, _⟩ := hrow
    exact ⟨b, cap, e⟩
  by_cases c4 : p.t.kind = 4
  · have HF : Hid (type_of% (implFind n lo hi v es M D pm p.t.name w0 _ hrow hhi (hx.trans (hb1.mono hx.size)) (hS.same (hb1.block M hS.lt)) hD)) := implFind n lo hi v es M D pm p.t.name w0 _ hrow hhi (hx.trans (hb1.mono hx.size)) (hS.same (hb1.block M hS.lt)) hD
    have HP : Hid (∀ (x0 x1 x2 x3 : Value) (ok : Bool) (w' : World) (g : Nat), FindAns w0 n es p.t.name [x0, x1, x2, x3] ok → g = w'.heap.size → w0.heap.size ≤ g → (ok = false ∧ ¬ Good es p.t) ∨ (ok = true ∧ ∃ KS, Behind n es w0 p KS ∧ KRow w0.heap.size (w'.alloc (.cells #[x0, x1, x2, x3] 37)) (.slice (some ⟨g, 0, none⟩) 1 1) KS)) := fun x0 x1 x2 x3 ok w' g hfa hg _ => by
      rcases hfa with ⟨rfl, j, hf, lo', hi', hty⟩ | ⟨rfl, hno, _⟩
      · refine .inr ⟨rfl, [⟨n, lo', hi', [x0, x1, x2, x3], (es[j]'hf.1).2⟩], ⟨fun q hq => ?_, fun u => ?_, fun _ => by rw [firstTy_at hf]; simp, .inr ⟨c4, _, rfl, rfl, ?_⟩⟩, g, 1, _, _, rfl, by rw [hg]; exact (MapKept.heap_alloc w' _).1, .inr rfl, fun i hi c u hu => ?_⟩
        · simp only [List.mem_singleton] at hq
          subst hq
          exact hty
        · rw [List.map_singleton, List.mem_singleton]
          constructor
          · rintro (⟨_, h⟩ | ⟨h, _⟩)
            · rw [firstTy_at hf] at h
              exact (Option.some.inj h).symm
            · rw [c4] at h
              exact absurd h (by decide)
          · rintro rfl
            exact .inl ⟨c4, firstTy_at hf⟩
        · exact firstTy_mem (firstTy_at hf)
        · simp only [List.length_singleton] at hi
          obtain rfl : i = 0 := by omega
          simp only [List.getElem_cons_zero] at hu
          have := cell_four_newT w' x0 x1 x2 x3 37 c u hu
          rw [Addr.add_lit] at this
          rw [hg, Nat.zero_mul]
          exact this
      · exact .inl ⟨rfl, not_missing c4 (firstTy_none hno)⟩
    have hzw : w0.heap.size ≤ w.heap.size := hx.size
    rw [c4] at hb1 HF ⊢
    subst hvE
    clear hrow hS hD hp hcs hl hx
    go_enter Try.func47, Try.ntmps47
    go_wp2_with fail
    refine HF.out.mono ?_
    rintro e w2 ⟨x0, x1, x2, x3, ok, rfl, hfa, hb2⟩
    have hbw2 : Below w.heap.size w w2 := hb1.trans (hb2.mono hb1.size)
    obtain ⟨a1, l1, k1, a2, l2, k2, y0, y1, rfl, rfl, rfl, rfl⟩ : ∃ (a1 : Option Addr) (l1 k1 : Nat) (a2 : Option Addr) (l2 k2 : Nat) (y0 : Int) (y1 : ByteArray), x0 = .int .i64 y0 ∧ x1 = .string y1 ∧ x2 = .slice a1 l1 k1 ∧ x3 = .slice a2 l2 k2 := by
      rcases hfa with ⟨_, j, hf, lo', hi', hty⟩ | ⟨_, _, e⟩
      · obtain ⟨an2, ln2, cn2, ak2, lk2, ck2, ee⟩ := hty.shape
        simp only [List.cons.injEq, and_true] at ee
        obtain ⟨rfl, rfl, rfl, rfl⟩ := ee
        exact ⟨_, _, _, _, _, _, _, _, rfl, rfl, rfl, rfl⟩
      · simp only [List.cons.injEq, and_true] at e
        obtain ⟨rfl, rfl, rfl, rfl⟩ := e
        exact ⟨_, _, _, _, _, _, _, _, rfl, rfl, rfl, rfl⟩
    have HB : Hid (type_of% (hbw2.alloc hbw2.size (.cells #[.int .i64 y0, .string y1, .slice a1 l1 k1, .slice a2 l2 k2] 37))) := hbw2.alloc hbw2.size _
    have HQ := HP.out _ _ _ _ ok (w2.alloc (.cells #[.int .i64 y0, .string y1, .slice a1 l1 k1, .slice a2 l2 k2] 37)) (w2.heap.size + 1) hfa (by simp) (by have := hbw2.size; omega)
    have HQ2 : Hid (type_of% HQ) := HQ
    clear HF HP HQ hfa hb1 hb2
    go_wp2_with fail
    go_ret2
    exact ⟨_, ok, rfl, HB.out.alloc (by have := HB.out.size; simpa using this) _, HQ2.out⟩
  · have c7 : p.t.kind = 7 := Classical.byContradiction fun x => hl ⟨c4, .inl x⟩
    obtain ⟨vn, b, cap, e1, ⟨cur, et, hb⟩, KS, k1, k2, k3⟩ := fits_kids (hp.fits c4)
    have hlen : KS.length = p.t.kids.length := by rw [← k1]; simp
    rw [hcs] at e1
    simp only [List.cons.injEq, Value.slice.injEq, and_true, true_and] at e1
    obtain ⟨rfl, rfl, rfl, rfl⟩ := e1
    subst hvE
    have hbl : b < w0.heap.size := (Array.getElem?_eq_some_iff.1 hb).1
    have HK : Hid (∃ KS, Behind n es w0 p KS ∧ ∀ w', Below w0.heap.size w0 w' → KRow w0.heap.size w' (.slice (some ⟨b, 0, none⟩) p.t.kids.length ck) KS) := by
      refine ⟨KS, ⟨fun q hq => (k2 q hq).1, fun u => ?_, fun h => absurd h c4, .inl ⟨c7, k1, fun q hq => (k2 q hq).2⟩⟩, fun w' hw => ⟨b, ck, cur, et, by rw [hlen], (hw.block b hbl).trans hb, .inl hbl, fun j hj c u hu => ?_⟩⟩
      · rw [k1]
        constructor
        · rintro (⟨h, _⟩ | ⟨_, h⟩)
          · exact absurd h c4
          · exact h
        · exact fun h => .inr ⟨c7, h⟩
      · have := k3 j hj c u hu
        exact (hw.cell (p := ⟨b, j * 4 + c, none⟩) hbl).trans this
    have hbw := hx.trans (hb1.mono hx.size)
    rw [c7] at hb1 hbw ⊢
    clear hrow hS hD hp hcs hl k1 k2 k3 hb hlen
    go_enter Try.func47, Try.ntmps47
    go_wp2_with fail
    go_ret2
    obtain ⟨KS, q1, q2⟩ := HK.out
    exact ⟨_, true, rfl, hb1, .inr ⟨rfl, KS, q1, q2 _ hbw⟩⟩

end Go.Proofs.Yteocagdlbnhpgaa
