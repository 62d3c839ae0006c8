/-
  The walk of spec.SameModule.
-/
import Derived.Test.YtegdladpkikicaaSmT
import Derived.Test.YtegdladpkikicaaXpT
import Derived.Test.YtegdladpkikicaaSmV
import Derived.Deep.CutRange
import Derived.Deep.RegionHeld3
import Derived.Deep.RegionWith
namespace Go.Proofs.Ytegdladpkikicaa
open Go.RowKit

theorem DfAt.shapeS {w : World} {n : Nat} {cs : List Value} {d : Df} (h : DfAt w n cs d) : ∃ (pa : Option Addr) (pl pc : Nat) (ta : Option Addr) (tl tc : Nat) (ya : Option Addr) (yb yc : Nat) (yd : Option Addr) (ye yf : Nat) (za : Option Addr) (zb zc : Nat) (zd : Option Addr) (ze zf : Nat), cs = [.int .i64 d.kind, .string d.name, .int .i64 d.line, .slice pa pl pc, .slice ta tl tc, .bool d.typed, .int .i64 d.ty.kind, .string d.ty.name, .slice ya yb yc, .slice yd ye yf, .int .i64 d.exp.kind, .string d.exp.text, .int .i64 d.exp.n, .int .i64 d.exp.line, .slice za zb zc, .slice zd ze zf] := by
  obtain ⟨vp, vt, t0, t1, t2, t3, x0, x1, x2, x3, x4, x5, e, _, ⟨hT, _, _⟩, ⟨_, hrow⟩, hty, hex⟩ := h
  obtain ⟨pa, pc, rfl, _⟩ := textsOpenS hT
  obtain ⟨ta, tc, rfl, _⟩ := rowOpen hrow
  cases n with
  | zero => exact hty.elim
  | succ n =>
    obtain ⟨vn, vk, e1, _, _, ⟨hn, _, _⟩, _, hk⟩ := hty
    obtain ⟨un, uk, e2, _, ⟨hm, _, _⟩, _, hl⟩ := hex
    obtain ⟨ya, yc, rfl, _⟩ := textsOpenS hn
    obtain ⟨yd, yf, rfl, _⟩ := rowOpen hk
    obtain ⟨za, zc, rfl, _⟩ := textsOpenS hm
    obtain ⟨zd, zf, rfl, _⟩ := hl.open (fun cs t h => by rw [h.len]; decide)
    simp only [List.cons.injEq, and_true] at e1 e2
    obtain ⟨rfl, rfl, rfl, rfl⟩ := e1
    obtain ⟨rfl, rfl, rfl, rfl, rfl, rfl⟩ := e2
    exact ⟨pa, _, pc, ta, _, tc, ya, _, yc, yd, _, yf, za, _, zc, zd, _, zf, e⟩

theorem DfAt.partsS {w : World} {n : Nat} {i0 i1 i2 i3 i4 i5 i6 i7 i8 i9 i10 i11 i12 i13 i14 i15 : Value} {d : Df} (h : DfAt w n [i0, i1, i2, i3, i4, i5, i6, i7, i8, i9, i10, i11, i12, i13, i14, i15] d) : Texts w i3 d.params ∧ RowAt w (TyAt w n) i4 d.types ∧ TyAt w n [i6, i7, i8, i9] d.ty ∧ XpAt w n [i10, i11, i12, i13, i14, i15] d.exp := by
  obtain ⟨vp, vt, t0, t1, t2, t3, x0, x1, x2, x3, x4, x5, e, _, ⟨hT, _, _⟩, ⟨_, hrow⟩, hty, hex⟩ := h
  simp only [List.cons.injEq, and_true] at e
  obtain ⟨rfl, rfl, rfl, rfl, rfl, rfl, rfl, rfl, rfl, rfl, rfl, rfl, rfl, rfl, rfl, rfl⟩ := e
  exact ⟨hT, hrow, hty, hex⟩


set_option maxHeartbeats 12800000 in
set_option maxRecDepth 100000 in
open Classical in
theorem specSameModule (n : Nat) (ai bi : Value) (aa ba : Option Addr) (ac bc : Nat) (im im' : List ByteArray) (ds es : List Df) (w : World) (hA : MdAt w n ai (.slice aa ds.length ac) im ds) (hB : MdAt w n bi (.slice ba es.length bc) im' es) (hbk : mdBulk n im ds ≤ 1048576) :
    Calls Try.prog 5 #[.agg #[ai, .slice aa ds.length ac], .agg #[bi, .slice ba es.length bc]] w fun e w' => e = .returned (.bool (decide (MdSame im im' ds es))) ∧ Below w.heap.size w w' := by
  unfold mdBulk at hbk
  have hB1 : Below w.heap.size w ((w.alloc (.cells #[ai, .slice aa ds.length ac] 30)).alloc (.cells #[bi, .slice ba es.length bc] 30)) := ((Below.refl _ _).alloc (Nat.le_refl _) _).alloc (by simp) _
  have HA : Hid (∀ X : World, Below (w.heap.size + 1 + 1) ((w.alloc (.cells #[ai, .slice aa ds.length ac] 30)).alloc (.cells #[bi, .slice ba es.length bc] 30)) X → (X.cell? ⟨w.heap.size, 0, none⟩ = some ai ∧ X.cell? ⟨w.heap.size, 1, none⟩ = some (.slice aa ds.length ac) ∧ X.cell? ⟨w.heap.size + 1, 0, none⟩ = some bi ∧ X.cell? ⟨w.heap.size + 1, 1, none⟩ = some (.slice ba es.length bc)) ∧ Below w.heap.size w X) := fun X hX => by
    have hr := (hX.block w.heap.size (by omega)).trans ((Below.heap_alloc _ _ _ (by simp)).trans (MapKept.heap_alloc w (.cells #[ai, .slice aa ds.length ac] 30)).1)
    have hs0 := (MapKept.heap_alloc (w.alloc (.cells #[ai, .slice aa ds.length ac] 30)) (.cells #[bi, .slice ba es.length bc] 30)).1
    rw [show (w.alloc (.cells #[ai, .slice aa ds.length ac] 30)).heap.size = w.heap.size + 1 from by simp] at hs0
    have hs := (hX.block (w.heap.size + 1) (by omega)).trans hs0
    exact ⟨⟨by rw [cell_of_row _ _ 0 _ _ (0, 0) hr]; rfl, by rw [cell_of_row _ _ 1 _ _ (0, 0) hr]; rfl, by rw [cell_of_row _ _ 0 _ _ (0, 0) hs]; rfl, by rw [cell_of_row _ _ 1 _ _ (0, 0) hs]; rfl⟩, hB1.trans (hX.mono (by omega))⟩
  have C1 := specSameTexts ai bi im im' _ (hA.im.1.below hB1) (hB.im.1.below hB1) (by omega)
  by_cases hi : im = im'
  rotate_left
  · have x1 : decide (im = im') = false := decide_eq_false hi
    rw [x1] at C1
    have D1 : Hid (type_of% C1) := C1
    have HR : Hid (decide (MdSame im im' ds es) = false) := decide_eq_false fun h => hi h.1
    clear C1 hi x1 hA hB hbk
    go_enter Try.func5, Try.ntmps5
    go_wp2_with fail
    refine D1.out.mono ?_
    rintro e w1 ⟨rfl, hb1⟩
    go_wp2_with fail
    go_ret
    exact ⟨by rw [HR.out]; rfl, hB1.trans (hb1.mono hB1.size)⟩
  have x1 : decide (im = im') = true := decide_eq_true hi
  rw [x1] at C1
  have D1 : Hid (type_of% C1) := C1
  have HI : Hid (type_of% hi) := hi
  clear C1 hi x1
  by_cases hl : ds.length = es.length
  rotate_left
  · have HR : Hid (decide (MdSame im im' ds es) = false) := decide_eq_false fun h => hl h.2.1
    have hni : ¬ (ds.length : Int) = (es.length : Int) := by omega
    clear hl hA hB hbk
    go_enter Try.func5, Try.ntmps5
    go_wp2_with fail
    refine D1.out.mono ?_
    rintro e w1 ⟨rfl, hb1⟩
    obtain ⟨⟨y0, y1, y2, y3⟩, q1⟩ := HA.out _ (hb1.mono (by simp))
    go_wp2_with fail
    go_ret
    exact ⟨by rw [HR.out]; rfl, q1⟩
  have HL : Hid (type_of% hl) := hl
  have cle : ((ds.length : Int) == (es.length : Int)) = true := by rw [beq_iff_eq]; omega
  have cln : ((ds.length : Int) != (es.length : Int)) = false := by rw [bne_eq_false_iff_eq]; omega
  obtain ⟨av, cv, hv1, hka⟩ := hA.ds.2.open (fun cs t h => by rw [h.len]; decide)
  obtain ⟨bv, dv, hv2, hkb⟩ := hB.ds.2.open (fun cs t h => by rw [h.len]; decide)
  simp only [Value.slice.injEq, true_and] at hv1 hv2
  obtain ⟨rfl, rfl⟩ := hv1
  obtain ⟨rfl, rfl⟩ := hv2
  have HKA : Hid (type_of% hka) := hka
  have HKB : Hid (type_of% hkb) := hkb
  have hlen : ds.length ≤ 1048576 := by unfold bulkA at hbk; omega
  have HBK : Hid (∀ k (h : k < ds.length), Df.bulk n ds[k] ≤ 1048576) := fun k h => by have := bulkA_one (Df.bulk n) ds k h; omega
  clear hl hA hB hbk hka hkb
  go_enter Try.func5, Try.ntmps5
  go_wp2_with fail
  refine D1.out.mono ?_
  rintro e w1 ⟨rfl, hb1⟩
  have G1 : Below (w.heap.size + 1 + 1) ((w.alloc (.cells #[ai, .slice aa ds.length ac] 30)).alloc (.cells #[bi, .slice ba es.length bc] 30)) w1 := hb1.mono (by simp)
  have g1 : w.heap.size + 1 + 1 ≤ w1.heap.size := by have := G1.size; simpa using this
  obtain ⟨⟨y0, y1, y2, y3⟩, q1⟩ := HA.out _ G1
  clear hb1 D1
  go_wp2_with fail
  go_loopw [5] (fun i wr => ∃ k : Nat, k ≤ ds.length ∧ i = .int .i64 k ∧ (∀ j (h : j < ds.length) (h' : j < es.length), j < k → DfSame ds[j] es[j]) ∧ Below (w.heap.size + 1 + 1) ((w.alloc (.cells #[ai, .slice aa ds.length ac] 30)).alloc (.cells #[bi, .slice ba es.length bc] 30)) wr ∧ w.heap.size + 1 + 1 ≤ wr.heap.size) (fun i _ => ds.length - (intOf i).toNat)
  case atStart => exact ⟨0, Nat.zero_le _, rfl, fun j _ _ h => absurd h (by omega), G1, g1⟩
  case round =>
    obtain ⟨k, hk, rfl, heq, hbe, hz⟩ := hrel
    obtain ⟨wo, rfl⟩ : ∃ wo, wo = wr := ⟨_, rfl⟩
    clear y0 y1 y2 y3 q1 G1 g1
    obtain ⟨⟨y0, y1, y2, y3⟩, q1⟩ := HA.out _ hbe
    by_cases hlt : k < ds.length
    rotate_left
    · have HR : Hid (decide (MdSame im im' ds es) = true) := decide_eq_true ⟨HI.out, HL.out, fun j h h' => heq j h h' (by omega)⟩
      clear HKA HKB HBK heq
      go_wp2_with fail
      go_ret
      exact ⟨by rw [HR.out]; rfl, q1⟩
    have hlt2 : k < es.length := by rw [← HL.out]; exact hlt
    obtain ⟨b1, o1, l1, rfl, hb1, ht1, p1⟩ := HKA.out k hlt
    obtain ⟨b2, o2, l2, rfl, hb2, ht2, p2⟩ := HKB.out k hlt2
    have hbk := HBK.out k hlt
    have HE : Hid (DfSame ds[k] es[k] → ∀ j (h : j < ds.length) (h' : j < es.length), j < k + 1 → DfSame ds[j] es[j]) := fun e j h h' hj => by
      by_cases c : j < k
      · exact heq j h h' c
      · obtain rfl : j = k := by omega
        exact e
    have HNO : Hid (¬ DfSame ds[k] es[k] → decide (MdSame im im' ds es) = false) := fun hn => decide_eq_false fun h => hn (h.2.2 k hlt hlt2)
    have hk0 : (0 : Int) ≤ k := by omega
    have hk1 : (k : Int) < ds.length := by omega
    have hk2 : (k : Int) < es.length := by omega
    clear HKA HKB HBK heq
    generalize ds[k] = ea at *
    generalize es[k] = eb at *
    obtain ⟨pa, pl, pc, ta, tl, tc, ya, yb, yc, yd, ye, yf, za, zb, zc, zd, ze, zf, rfl⟩ := ht1.shapeS
    obtain ⟨pa', pl', pc', ta', tl', tc', ya', yb', yc', yd', ye', yf', za', zb', zc', zd', ze', zf', rfl⟩ := ht2.shapeS
    have HP : Hid (∀ X : World, Below wo.heap.size wo X → X.cell? ⟨w.heap.size, 1, none⟩ = some (.slice (some ⟨b1, o1, none⟩) ds.length ac) ∧ X.cell? ⟨w.heap.size + 1, 1, none⟩ = some (.slice (some ⟨b2, o2, none⟩) es.length bc) ∧ X.cell? ⟨b1, o1 + k * 16, none⟩ = some (.int .i64 ea.kind) ∧ X.cell? ⟨b1, o1 + k * 16 + 1, none⟩ = some (.string ea.name) ∧ X.cell? ⟨b1, o1 + k * 16 + 2, none⟩ = some (.int .i64 ea.line) ∧ X.cell? ⟨b1, o1 + k * 16 + 3, none⟩ = some (.slice pa pl pc) ∧ X.cell? ⟨b1, o1 + k * 16 + 4, none⟩ = some (.slice ta tl tc) ∧ X.cell? ⟨b1, o1 + k * 16 + 5, none⟩ = some (.bool ea.typed) ∧ X.cell? ⟨b1, o1 + k * 16 + 6, none⟩ = some (.int .i64 ea.ty.kind) ∧ X.cell? ⟨b1, o1 + k * 16 + 7, none⟩ = some (.string ea.ty.name) ∧ X.cell? ⟨b1, o1 + k * 16 + 8, none⟩ = some (.slice ya yb yc) ∧ X.cell? ⟨b1, o1 + k * 16 + 9, none⟩ = some (.slice yd ye yf) ∧ X.cell? ⟨b1, o1 + k * 16 + 10, none⟩ = some (.int .i64 ea.exp.kind) ∧ X.cell? ⟨b1, o1 + k * 16 + 11, none⟩ = some (.string ea.exp.text) ∧ X.cell? ⟨b1, o1 + k * 16 + 12, none⟩ = some (.int .i64 ea.exp.n) ∧ X.cell? ⟨b1, o1 + k * 16 + 13, none⟩ = some (.int .i64 ea.exp.line) ∧ X.cell? ⟨b1, o1 + k * 16 + 14, none⟩ = some (.slice za zb zc) ∧ X.cell? ⟨b1, o1 + k * 16 + 15, none⟩ = some (.slice zd ze zf) ∧ X.cell? ⟨b2, o2 + k * 16, none⟩ = some (.int .i64 eb.kind) ∧ X.cell? ⟨b2, o2 + k * 16 + 1, none⟩ = some (.string eb.name) ∧ X.cell? ⟨b2, o2 + k * 16 + 2, none⟩ = some (.int .i64 eb.line) ∧ X.cell? ⟨b2, o2 + k * 16 + 3, none⟩ = some (.slice pa' pl' pc') ∧ X.cell? ⟨b2, o2 + k * 16 + 4, none⟩ = some (.slice ta' tl' tc') ∧ X.cell? ⟨b2, o2 + k * 16 + 5, none⟩ = some (.bool eb.typed) ∧ X.cell? ⟨b2, o2 + k * 16 + 6, none⟩ = some (.int .i64 eb.ty.kind) ∧ X.cell? ⟨b2, o2 + k * 16 + 7, none⟩ = some (.string eb.ty.name) ∧ X.cell? ⟨b2, o2 + k * 16 + 8, none⟩ = some (.slice ya' yb' yc') ∧ X.cell? ⟨b2, o2 + k * 16 + 9, none⟩ = some (.slice yd' ye' yf') ∧ X.cell? ⟨b2, o2 + k * 16 + 10, none⟩ = some (.int .i64 eb.exp.kind) ∧ X.cell? ⟨b2, o2 + k * 16 + 11, none⟩ = some (.string eb.exp.text) ∧ X.cell? ⟨b2, o2 + k * 16 + 12, none⟩ = some (.int .i64 eb.exp.n) ∧ X.cell? ⟨b2, o2 + k * 16 + 13, none⟩ = some (.int .i64 eb.exp.line) ∧ X.cell? ⟨b2, o2 + k * 16 + 14, none⟩ = some (.slice za' zb' zc') ∧ X.cell? ⟨b2, o2 + k * 16 + 15, none⟩ = some (.slice zd' ze' zf')) := fun X hX => by
      have hX2 := q1.trans (hX.mono q1.size)
      have hX3 := (HA.out _ (hbe.trans (hX.mono hz))).1
      exact ⟨hX3.2.1, hX3.2.2.2, (hX2.cell (p := ⟨b1, o1 + k * 16 + 0, none⟩) hb1).trans (p1 0 _ rfl), (hX2.cell (p := ⟨b1, o1 + k * 16 + 1, none⟩) hb1).trans (p1 1 _ rfl), (hX2.cell (p := ⟨b1, o1 + k * 16 + 2, none⟩) hb1).trans (p1 2 _ rfl), (hX2.cell (p := ⟨b1, o1 + k * 16 + 3, none⟩) hb1).trans (p1 3 _ rfl), (hX2.cell (p := ⟨b1, o1 + k * 16 + 4, none⟩) hb1).trans (p1 4 _ rfl), (hX2.cell (p := ⟨b1, o1 + k * 16 + 5, none⟩) hb1).trans (p1 5 _ rfl), (hX2.cell (p := ⟨b1, o1 + k * 16 + 6, none⟩) hb1).trans (p1 6 _ rfl), (hX2.cell (p := ⟨b1, o1 + k * 16 + 7, none⟩) hb1).trans (p1 7 _ rfl), (hX2.cell (p := ⟨b1, o1 + k * 16 + 8, none⟩) hb1).trans (p1 8 _ rfl), (hX2.cell (p := ⟨b1, o1 + k * 16 + 9, none⟩) hb1).trans (p1 9 _ rfl), (hX2.cell (p := ⟨b1, o1 + k * 16 + 10, none⟩) hb1).trans (p1 10 _ rfl), (hX2.cell (p := ⟨b1, o1 + k * 16 + 11, none⟩) hb1).trans (p1 11 _ rfl), (hX2.cell (p := ⟨b1, o1 + k * 16 + 12, none⟩) hb1).trans (p1 12 _ rfl), (hX2.cell (p := ⟨b1, o1 + k * 16 + 13, none⟩) hb1).trans (p1 13 _ rfl), (hX2.cell (p := ⟨b1, o1 + k * 16 + 14, none⟩) hb1).trans (p1 14 _ rfl), (hX2.cell (p := ⟨b1, o1 + k * 16 + 15, none⟩) hb1).trans (p1 15 _ rfl), (hX2.cell (p := ⟨b2, o2 + k * 16 + 0, none⟩) hb2).trans (p2 0 _ rfl), (hX2.cell (p := ⟨b2, o2 + k * 16 + 1, none⟩) hb2).trans (p2 1 _ rfl), (hX2.cell (p := ⟨b2, o2 + k * 16 + 2, none⟩) hb2).trans (p2 2 _ rfl), (hX2.cell (p := ⟨b2, o2 + k * 16 + 3, none⟩) hb2).trans (p2 3 _ rfl), (hX2.cell (p := ⟨b2, o2 + k * 16 + 4, none⟩) hb2).trans (p2 4 _ rfl), (hX2.cell (p := ⟨b2, o2 + k * 16 + 5, none⟩) hb2).trans (p2 5 _ rfl), (hX2.cell (p := ⟨b2, o2 + k * 16 + 6, none⟩) hb2).trans (p2 6 _ rfl), (hX2.cell (p := ⟨b2, o2 + k * 16 + 7, none⟩) hb2).trans (p2 7 _ rfl), (hX2.cell (p := ⟨b2, o2 + k * 16 + 8, none⟩) hb2).trans (p2 8 _ rfl), (hX2.cell (p := ⟨b2, o2 + k * 16 + 9, none⟩) hb2).trans (p2 9 _ rfl), (hX2.cell (p := ⟨b2, o2 + k * 16 + 10, none⟩) hb2).trans (p2 10 _ rfl), (hX2.cell (p := ⟨b2, o2 + k * 16 + 11, none⟩) hb2).trans (p2 11 _ rfl), (hX2.cell (p := ⟨b2, o2 + k * 16 + 12, none⟩) hb2).trans (p2 12 _ rfl), (hX2.cell (p := ⟨b2, o2 + k * 16 + 13, none⟩) hb2).trans (p2 13 _ rfl), (hX2.cell (p := ⟨b2, o2 + k * 16 + 14, none⟩) hb2).trans (p2 14 _ rfl), (hX2.cell (p := ⟨b2, o2 + k * 16 + 15, none⟩) hb2).trans (p2 15 _ rfl)⟩
    have HBO : Hid (type_of% hbe) := hbe
    clear p1 p2 y0 y1 y2 y3
    obtain ⟨u0', u1', u2', u3', u4', u5', u6', u7', u8', u9', u10', u11', u12', u13', u14', u15', u16', u17', u18', u19', u20', u21', u22', u23', u24', u25', u26', u27', u28', u29', u30', u31', u32', u33'⟩ := HP.out wo (Below.refl _ _)
    have nc0 : (Value.int .i64 ea.kind).oneCell' = true := rfl
    generalize hvc0 : Value.int .i64 ea.kind = c0 at *
    have HVc0 : Hid (type_of% hvc0) := hvc0
    clear hvc0
    have nc1 : (Value.string ea.name).oneCell' = true := rfl
    generalize hvc1 : Value.string ea.name = c1 at *
    have HVc1 : Hid (type_of% hvc1) := hvc1
    clear hvc1
    have nc2 : (Value.int .i64 ea.line).oneCell' = true := rfl
    generalize hvc2 : Value.int .i64 ea.line = c2 at *
    have HVc2 : Hid (type_of% hvc2) := hvc2
    clear hvc2
    have nc3 : (Value.slice pa pl pc).oneCell' = true := rfl
    generalize hvc3 : Value.slice pa pl pc = c3 at *
    have HVc3 : Hid (type_of% hvc3) := hvc3
    clear hvc3
    have nc4 : (Value.slice ta tl tc).oneCell' = true := rfl
    generalize hvc4 : Value.slice ta tl tc = c4 at *
    have HVc4 : Hid (type_of% hvc4) := hvc4
    clear hvc4
    have nc5 : (Value.bool ea.typed).oneCell' = true := rfl
    generalize hvc5 : Value.bool ea.typed = c5 at *
    have HVc5 : Hid (type_of% hvc5) := hvc5
    clear hvc5
    have nc6 : (Value.int .i64 ea.ty.kind).oneCell' = true := rfl
    generalize hvc6 : Value.int .i64 ea.ty.kind = c6 at *
    have HVc6 : Hid (type_of% hvc6) := hvc6
    clear hvc6
    have nc7 : (Value.string ea.ty.name).oneCell' = true := rfl
    generalize hvc7 : Value.string ea.ty.name = c7 at *
    have HVc7 : Hid (type_of% hvc7) := hvc7
    clear hvc7
    have nc8 : (Value.slice ya yb yc).oneCell' = true := rfl
    generalize hvc8 : Value.slice ya yb yc = c8 at *
    have HVc8 : Hid (type_of% hvc8) := hvc8
    clear hvc8
    have nc9 : (Value.slice yd ye yf).oneCell' = true := rfl
    generalize hvc9 : Value.slice yd ye yf = c9 at *
    have HVc9 : Hid (type_of% hvc9) := hvc9
    clear hvc9
    have nc10 : (Value.int .i64 ea.exp.kind).oneCell' = true := rfl
    generalize hvc10 : Value.int .i64 ea.exp.kind = c10 at *
    have HVc10 : Hid (type_of% hvc10) := hvc10
    clear hvc10
    have nc11 : (Value.string ea.exp.text).oneCell' = true := rfl
    generalize hvc11 : Value.string ea.exp.text = c11 at *
    have HVc11 : Hid (type_of% hvc11) := hvc11
    clear hvc11
    have nc12 : (Value.int .i64 ea.exp.n).oneCell' = true := rfl
    generalize hvc12 : Value.int .i64 ea.exp.n = c12 at *
    have HVc12 : Hid (type_of% hvc12) := hvc12
    clear hvc12
    have nc13 : (Value.int .i64 ea.exp.line).oneCell' = true := rfl
    generalize hvc13 : Value.int .i64 ea.exp.line = c13 at *
    have HVc13 : Hid (type_of% hvc13) := hvc13
    clear hvc13
    have nc14 : (Value.slice za zb zc).oneCell' = true := rfl
    generalize hvc14 : Value.slice za zb zc = c14 at *
    have HVc14 : Hid (type_of% hvc14) := hvc14
    clear hvc14
    have nc15 : (Value.slice zd ze zf).oneCell' = true := rfl
    generalize hvc15 : Value.slice zd ze zf = c15 at *
    have HVc15 : Hid (type_of% hvc15) := hvc15
    clear hvc15
    have nd0 : (Value.int .i64 eb.kind).oneCell' = true := rfl
    generalize hvd0 : Value.int .i64 eb.kind = d0 at *
    have HVd0 : Hid (type_of% hvd0) := hvd0
    clear hvd0
    have nd1 : (Value.string eb.name).oneCell' = true := rfl
    generalize hvd1 : Value.string eb.name = d1 at *
    have HVd1 : Hid (type_of% hvd1) := hvd1
    clear hvd1
    have nd2 : (Value.int .i64 eb.line).oneCell' = true := rfl
    generalize hvd2 : Value.int .i64 eb.line = d2 at *
    have HVd2 : Hid (type_of% hvd2) := hvd2
    clear hvd2
    have nd3 : (Value.slice pa' pl' pc').oneCell' = true := rfl
    generalize hvd3 : Value.slice pa' pl' pc' = d3 at *
    have HVd3 : Hid (type_of% hvd3) := hvd3
    clear hvd3
    have nd4 : (Value.slice ta' tl' tc').oneCell' = true := rfl
    generalize hvd4 : Value.slice ta' tl' tc' = d4 at *
    have HVd4 : Hid (type_of% hvd4) := hvd4
    clear hvd4
    have nd5 : (Value.bool eb.typed).oneCell' = true := rfl
    generalize hvd5 : Value.bool eb.typed = d5 at *
    have HVd5 : Hid (type_of% hvd5) := hvd5
    clear hvd5
    have nd6 : (Value.int .i64 eb.ty.kind).oneCell' = true := rfl
    generalize hvd6 : Value.int .i64 eb.ty.kind = d6 at *
    have HVd6 : Hid (type_of% hvd6) := hvd6
    clear hvd6
    have nd7 : (Value.string eb.ty.name).oneCell' = true := rfl
    generalize hvd7 : Value.string eb.ty.name = d7 at *
    have HVd7 : Hid (type_of% hvd7) := hvd7
    clear hvd7
    have nd8 : (Value.slice ya' yb' yc').oneCell' = true := rfl
    generalize hvd8 : Value.slice ya' yb' yc' = d8 at *
    have HVd8 : Hid (type_of% hvd8) := hvd8
    clear hvd8
    have nd9 : (Value.slice yd' ye' yf').oneCell' = true := rfl
    generalize hvd9 : Value.slice yd' ye' yf' = d9 at *
    have HVd9 : Hid (type_of% hvd9) := hvd9
    clear hvd9
    have nd10 : (Value.int .i64 eb.exp.kind).oneCell' = true := rfl
    generalize hvd10 : Value.int .i64 eb.exp.kind = d10 at *
    have HVd10 : Hid (type_of% hvd10) := hvd10
    clear hvd10
    have nd11 : (Value.string eb.exp.text).oneCell' = true := rfl
    generalize hvd11 : Value.string eb.exp.text = d11 at *
    have HVd11 : Hid (type_of% hvd11) := hvd11
    clear hvd11
    have nd12 : (Value.int .i64 eb.exp.n).oneCell' = true := rfl
    generalize hvd12 : Value.int .i64 eb.exp.n = d12 at *
    have HVd12 : Hid (type_of% hvd12) := hvd12
    clear hvd12
    have nd13 : (Value.int .i64 eb.exp.line).oneCell' = true := rfl
    generalize hvd13 : Value.int .i64 eb.exp.line = d13 at *
    have HVd13 : Hid (type_of% hvd13) := hvd13
    clear hvd13
    have nd14 : (Value.slice za' zb' zc').oneCell' = true := rfl
    generalize hvd14 : Value.slice za' zb' zc' = d14 at *
    have HVd14 : Hid (type_of% hvd14) := hvd14
    clear hvd14
    have nd15 : (Value.slice zd' ze' zf').oneCell' = true := rfl
    generalize hvd15 : Value.slice zd' ze' zf' = d15 at *
    have HVd15 : Hid (type_of% hvd15) := hvd15
    clear hvd15
    go_upto_region 6 with fail
    go_cut [6, 7] from 24 to 111 (fun p q wx => ∃ g1 g2 : Nat, p = .pointer (some ⟨g1, 0, none⟩) ∧ q = .pointer (some ⟨g2, 0, none⟩) ∧ wx.heap[g1]? = some (.cells #[c0, c1, c2, c3, c4, c5, c6, c7, c8, c9, c10, c11, c12, c13, c14, c15] 43 (0, 0)) ∧ wx.heap[g2]? = some (.cells #[d0, d1, d2, d3, d4, d5, d6, d7, d8, d9, d10, d11, d12, d13, d14, d15] 43 (0, 0)) ∧ Below wo.heap.size wo wx)
    case first =>
      as_aux_lemma =>
        rename_i J2 K2 hJ2 hK2
        have R1 : ((wo.alloc (.cells #[.int .i64 0, .string ⟨#[]⟩, .int .i64 0, .slice none 0 0, .slice none 0 0, .bool false, .int .i64 0, .string ⟨#[]⟩, .slice none 0 0, .slice none 0 0, .int .i64 0, .string ⟨#[]⟩, .int .i64 0, .int .i64 0, .slice none 0 0, .slice none 0 0] 43)).alloc (.cells #[.int .i64 0, .string ⟨#[]⟩, .int .i64 0, .slice none 0 0, .slice none 0 0, .bool false, .int .i64 0, .string ⟨#[]⟩, .slice none 0 0, .slice none 0 0, .int .i64 0, .string ⟨#[]⟩, .int .i64 0, .int .i64 0, .slice none 0 0, .slice none 0 0] 43)).drew.heap[wo.heap.size]? = some (.cells #[.int .i64 0, .string ⟨#[]⟩, .int .i64 0, .slice none 0 0, .slice none 0 0, .bool false, .int .i64 0, .string ⟨#[]⟩, .slice none 0 0, .slice none 0 0, .int .i64 0, .string ⟨#[]⟩, .int .i64 0, .int .i64 0, .slice none 0 0, .slice none 0 0] 43 (0, 0)) := (Below.heap_alloc (wo.alloc (.cells #[.int .i64 0, .string ⟨#[]⟩, .int .i64 0, .slice none 0 0, .slice none 0 0, .bool false, .int .i64 0, .string ⟨#[]⟩, .slice none 0 0, .slice none 0 0, .int .i64 0, .string ⟨#[]⟩, .int .i64 0, .int .i64 0, .slice none 0 0, .slice none 0 0] 43)) (.cells #[.int .i64 0, .string ⟨#[]⟩, .int .i64 0, .slice none 0 0, .slice none 0 0, .bool false, .int .i64 0, .string ⟨#[]⟩, .slice none 0 0, .slice none 0 0, .int .i64 0, .string ⟨#[]⟩, .int .i64 0, .int .i64 0, .slice none 0 0, .slice none 0 0] 43) wo.heap.size (by simp)).trans (MapKept.heap_alloc wo (.cells #[.int .i64 0, .string ⟨#[]⟩, .int .i64 0, .slice none 0 0, .slice none 0 0, .bool false, .int .i64 0, .string ⟨#[]⟩, .slice none 0 0, .slice none 0 0, .int .i64 0, .string ⟨#[]⟩, .int .i64 0, .int .i64 0, .slice none 0 0, .slice none 0 0] 43)).1
        have R2 : ((wo.alloc (.cells #[.int .i64 0, .string ⟨#[]⟩, .int .i64 0, .slice none 0 0, .slice none 0 0, .bool false, .int .i64 0, .string ⟨#[]⟩, .slice none 0 0, .slice none 0 0, .int .i64 0, .string ⟨#[]⟩, .int .i64 0, .int .i64 0, .slice none 0 0, .slice none 0 0] 43)).alloc (.cells #[.int .i64 0, .string ⟨#[]⟩, .int .i64 0, .slice none 0 0, .slice none 0 0, .bool false, .int .i64 0, .string ⟨#[]⟩, .slice none 0 0, .slice none 0 0, .int .i64 0, .string ⟨#[]⟩, .int .i64 0, .int .i64 0, .slice none 0 0, .slice none 0 0] 43)).drew.heap[wo.heap.size + 1]? = some (.cells #[.int .i64 0, .string ⟨#[]⟩, .int .i64 0, .slice none 0 0, .slice none 0 0, .bool false, .int .i64 0, .string ⟨#[]⟩, .slice none 0 0, .slice none 0 0, .int .i64 0, .string ⟨#[]⟩, .int .i64 0, .int .i64 0, .slice none 0 0, .slice none 0 0] 43 (0, 0)) := by
          have := (MapKept.heap_alloc (wo.alloc (.cells #[.int .i64 0, .string ⟨#[]⟩, .int .i64 0, .slice none 0 0, .slice none 0 0, .bool false, .int .i64 0, .string ⟨#[]⟩, .slice none 0 0, .slice none 0 0, .int .i64 0, .string ⟨#[]⟩, .int .i64 0, .int .i64 0, .slice none 0 0, .slice none 0 0] 43)) (.cells #[.int .i64 0, .string ⟨#[]⟩, .int .i64 0, .slice none 0 0, .slice none 0 0, .bool false, .int .i64 0, .string ⟨#[]⟩, .slice none 0 0, .slice none 0 0, .int .i64 0, .string ⟨#[]⟩, .int .i64 0, .int .i64 0, .slice none 0 0, .slice none 0 0] 43)).1
          rw [show (wo.alloc (.cells #[.int .i64 0, .string ⟨#[]⟩, .int .i64 0, .slice none 0 0, .slice none 0 0, .bool false, .int .i64 0, .string ⟨#[]⟩, .slice none 0 0, .slice none 0 0, .int .i64 0, .string ⟨#[]⟩, .int .i64 0, .int .i64 0, .slice none 0 0, .slice none 0 0] 43)).heap.size = wo.heap.size + 1 from by simp] at this
          exact this
        have BX : Below wo.heap.size wo ((wo.alloc (.cells #[.int .i64 0, .string ⟨#[]⟩, .int .i64 0, .slice none 0 0, .slice none 0 0, .bool false, .int .i64 0, .string ⟨#[]⟩, .slice none 0 0, .slice none 0 0, .int .i64 0, .string ⟨#[]⟩, .int .i64 0, .int .i64 0, .slice none 0 0, .slice none 0 0] 43)).alloc (.cells #[.int .i64 0, .string ⟨#[]⟩, .int .i64 0, .slice none 0 0, .slice none 0 0, .bool false, .int .i64 0, .string ⟨#[]⟩, .slice none 0 0, .slice none 0 0, .int .i64 0, .string ⟨#[]⟩, .int .i64 0, .int .i64 0, .slice none 0 0, .slice none 0 0] 43)).drew := (((Below.refl _ _).alloc (Nat.le_refl _) _).alloc (by simp) _).drew
        have vA := (putL_other (b := wo.heap.size) (k := (wo.heap.size + 1)) (by omega) [c0, c1, c2, c3, c4, c5, c6, c7, c8, c9, c10, c11, c12, c13, c14, c15] ((wo.alloc (.cells #[.int .i64 0, .string ⟨#[]⟩, .int .i64 0, .slice none 0 0, .slice none 0 0, .bool false, .int .i64 0, .string ⟨#[]⟩, .slice none 0 0, .slice none 0 0, .int .i64 0, .string ⟨#[]⟩, .int .i64 0, .int .i64 0, .slice none 0 0, .slice none 0 0] 43)).alloc (.cells #[.int .i64 0, .string ⟨#[]⟩, .int .i64 0, .slice none 0 0, .slice none 0 0, .bool false, .int .i64 0, .string ⟨#[]⟩, .slice none 0 0, .slice none 0 0, .int .i64 0, .string ⟨#[]⟩, .int .i64 0, .int .i64 0, .slice none 0 0, .slice none 0 0] 43)).drew 0).trans R2
        have vB := putL_row (l := [c0, c1, c2, c3, c4, c5, c6, c7, c8, c9, c10, c11, c12, c13, c14, c15]) R1 rfl
        have vC := (putL_other (b := (wo.heap.size + 1)) (k := wo.heap.size) (by omega) [d0, d1, d2, d3, d4, d5, d6, d7, d8, d9, d10, d11, d12, d13, d14, d15] (putL ((wo.alloc (.cells #[.int .i64 0, .string ⟨#[]⟩, .int .i64 0, .slice none 0 0, .slice none 0 0, .bool false, .int .i64 0, .string ⟨#[]⟩, .slice none 0 0, .slice none 0 0, .int .i64 0, .string ⟨#[]⟩, .int .i64 0, .int .i64 0, .slice none 0 0, .slice none 0 0] 43)).alloc (.cells #[.int .i64 0, .string ⟨#[]⟩, .int .i64 0, .slice none 0 0, .slice none 0 0, .bool false, .int .i64 0, .string ⟨#[]⟩, .slice none 0 0, .slice none 0 0, .int .i64 0, .string ⟨#[]⟩, .int .i64 0, .int .i64 0, .slice none 0 0, .slice none 0 0] 43)).drew wo.heap.size 0 [c0, c1, c2, c3, c4, c5, c6, c7, c8, c9, c10, c11, c12, c13, c14, c15]) 0).trans vB
        have vD := putL_row (l := [d0, d1, d2, d3, d4, d5, d6, d7, d8, d9, d10, d11, d12, d13, d14, d15]) vA rfl
        have vE := putL_below (i := 0) (l := [c0, c1, c2, c3, c4, c5, c6, c7, c8, c9, c10, c11, c12, c13, c14, c15]) BX (show wo.heap.size ≤ wo.heap.size by omega)
        have vF := putL_below (i := 0) (l := [d0, d1, d2, d3, d4, d5, d6, d7, d8, d9, d10, d11, d12, d13, d14, d15]) vE (show wo.heap.size ≤ (wo.heap.size + 1) by omega)
        have HvA : Hid (type_of% vA) := vA
        have HvB : Hid (type_of% vB) := vB
        have HvC : Hid (type_of% vC) := vC
        have HvD : Hid (type_of% vD) := vD
        have HvE : Hid (type_of% vE) := vE
        have HvF : Hid (type_of% vF) := vF
        clear vA vB vC vD vE vF
        have uA := (putL_other (b := (wo.heap.size + 1)) (k := wo.heap.size) (by omega) [c0, c1, c2, c3, c4, c5, c6, c7, c8, c9, c10, c11, c12, c13, c14, c15] ((wo.alloc (.cells #[.int .i64 0, .string ⟨#[]⟩, .int .i64 0, .slice none 0 0, .slice none 0 0, .bool false, .int .i64 0, .string ⟨#[]⟩, .slice none 0 0, .slice none 0 0, .int .i64 0, .string ⟨#[]⟩, .int .i64 0, .int .i64 0, .slice none 0 0, .slice none 0 0] 43)).alloc (.cells #[.int .i64 0, .string ⟨#[]⟩, .int .i64 0, .slice none 0 0, .slice none 0 0, .bool false, .int .i64 0, .string ⟨#[]⟩, .slice none 0 0, .slice none 0 0, .int .i64 0, .string ⟨#[]⟩, .int .i64 0, .int .i64 0, .slice none 0 0, .slice none 0 0] 43)).drew 0).trans R1
        have uB := putL_row (l := [c0, c1, c2, c3, c4, c5, c6, c7, c8, c9, c10, c11, c12, c13, c14, c15]) R2 rfl
        have uC := (putL_other (b := wo.heap.size) (k := (wo.heap.size + 1)) (by omega) [d0, d1, d2, d3, d4, d5, d6, d7, d8, d9, d10, d11, d12, d13, d14, d15] (putL ((wo.alloc (.cells #[.int .i64 0, .string ⟨#[]⟩, .int .i64 0, .slice none 0 0, .slice none 0 0, .bool false, .int .i64 0, .string ⟨#[]⟩, .slice none 0 0, .slice none 0 0, .int .i64 0, .string ⟨#[]⟩, .int .i64 0, .int .i64 0, .slice none 0 0, .slice none 0 0] 43)).alloc (.cells #[.int .i64 0, .string ⟨#[]⟩, .int .i64 0, .slice none 0 0, .slice none 0 0, .bool false, .int .i64 0, .string ⟨#[]⟩, .slice none 0 0, .slice none 0 0, .int .i64 0, .string ⟨#[]⟩, .int .i64 0, .int .i64 0, .slice none 0 0, .slice none 0 0] 43)).drew (wo.heap.size + 1) 0 [c0, c1, c2, c3, c4, c5, c6, c7, c8, c9, c10, c11, c12, c13, c14, c15]) 0).trans uB
        have uD := putL_row (l := [d0, d1, d2, d3, d4, d5, d6, d7, d8, d9, d10, d11, d12, d13, d14, d15]) uA rfl
        have uE := putL_below (i := 0) (l := [c0, c1, c2, c3, c4, c5, c6, c7, c8, c9, c10, c11, c12, c13, c14, c15]) BX (show wo.heap.size ≤ (wo.heap.size + 1) by omega)
        have uF := putL_below (i := 0) (l := [d0, d1, d2, d3, d4, d5, d6, d7, d8, d9, d10, d11, d12, d13, d14, d15]) uE (show wo.heap.size ≤ wo.heap.size by omega)
        have HuA : Hid (type_of% uA) := uA
        have HuB : Hid (type_of% uB) := uB
        have HuC : Hid (type_of% uC) := uC
        have HuD : Hid (type_of% uD) := uD
        have HuE : Hid (type_of% uE) := uE
        have HuF : Hid (type_of% uF) := uF
        clear uA uB uC uD uE uF
        have HR1 : Hid (type_of% R1) := R1
        have HR2 : Hid (type_of% R2) := R2
        have HBX : Hid (type_of% BX) := BX
        clear R1 R2 BX
        go_region_held3 (fun w' => w'.cell? ⟨w.heap.size, 1, none⟩ = some (.slice (some ⟨b1, o1, none⟩) ds.length ac) ∧ w'.cell? ⟨w.heap.size + 1, 1, none⟩ = some (.slice (some ⟨b2, o2, none⟩) es.length bc) ∧ w'.cell? ⟨b1, o1 + k * 16, none⟩ = some c0 ∧ w'.cell? ⟨b1, o1 + k * 16 + 1, none⟩ = some c1 ∧ w'.cell? ⟨b1, o1 + k * 16 + 2, none⟩ = some c2 ∧ w'.cell? ⟨b1, o1 + k * 16 + 3, none⟩ = some c3 ∧ w'.cell? ⟨b1, o1 + k * 16 + 4, none⟩ = some c4 ∧ w'.cell? ⟨b1, o1 + k * 16 + 5, none⟩ = some c5 ∧ w'.cell? ⟨b1, o1 + k * 16 + 6, none⟩ = some c6 ∧ w'.cell? ⟨b1, o1 + k * 16 + 7, none⟩ = some c7 ∧ w'.cell? ⟨b1, o1 + k * 16 + 8, none⟩ = some c8 ∧ w'.cell? ⟨b1, o1 + k * 16 + 9, none⟩ = some c9 ∧ w'.cell? ⟨b1, o1 + k * 16 + 10, none⟩ = some c10 ∧ w'.cell? ⟨b1, o1 + k * 16 + 11, none⟩ = some c11 ∧ w'.cell? ⟨b1, o1 + k * 16 + 12, none⟩ = some c12 ∧ w'.cell? ⟨b1, o1 + k * 16 + 13, none⟩ = some c13 ∧ w'.cell? ⟨b1, o1 + k * 16 + 14, none⟩ = some c14 ∧ w'.cell? ⟨b1, o1 + k * 16 + 15, none⟩ = some c15 ∧ w'.cell? ⟨b2, o2 + k * 16, none⟩ = some d0 ∧ w'.cell? ⟨b2, o2 + k * 16 + 1, none⟩ = some d1 ∧ w'.cell? ⟨b2, o2 + k * 16 + 2, none⟩ = some d2 ∧ w'.cell? ⟨b2, o2 + k * 16 + 3, none⟩ = some d3 ∧ w'.cell? ⟨b2, o2 + k * 16 + 4, none⟩ = some d4 ∧ w'.cell? ⟨b2, o2 + k * 16 + 5, none⟩ = some d5 ∧ w'.cell? ⟨b2, o2 + k * 16 + 6, none⟩ = some d6 ∧ w'.cell? ⟨b2, o2 + k * 16 + 7, none⟩ = some d7 ∧ w'.cell? ⟨b2, o2 + k * 16 + 8, none⟩ = some d8 ∧ w'.cell? ⟨b2, o2 + k * 16 + 9, none⟩ = some d9 ∧ w'.cell? ⟨b2, o2 + k * 16 + 10, none⟩ = some d10 ∧ w'.cell? ⟨b2, o2 + k * 16 + 11, none⟩ = some d11 ∧ w'.cell? ⟨b2, o2 + k * 16 + 12, none⟩ = some d12 ∧ w'.cell? ⟨b2, o2 + k * 16 + 13, none⟩ = some d13 ∧ w'.cell? ⟨b2, o2 + k * 16 + 14, none⟩ = some d14 ∧ w'.cell? ⟨b2, o2 + k * 16 + 15, none⟩ = some d15)
          (first
            | with_reducible exact HP.out _ HvE.out
            | with_reducible exact HP.out _ HvF.out
            | with_reducible exact HP.out _ HuE.out
            | with_reducible exact HP.out _ HuF.out
            | with_reducible exact HP.out _ HBX.out
            | exact HP.out _ (by repeat (first | exact Below.refl _ _ | refine Below.drew ?_ | refine Below.alloc ?_ (by simp; omega) _ | refine Below.alloc ?_ (by simp) _ | refine Below.alloc ?_ (Nat.le_refl _) _)))
          (first
            | (rw [run_store16 _ _ _ _ _ HR1.out rfl c0 c1 c2 c3 c4 c5 c6 c7 c8 c9 c10 c11 c12 c13 c14 c15 nc0 nc1 nc2 nc3 nc4 nc5 nc6 nc7 nc8 nc9 nc10 nc11 nc12 nc13 nc14 nc15]; simp only [Result.andThen_ok])
            | (rw [run_store16 _ _ _ _ _ HvA.out rfl d0 d1 d2 d3 d4 d5 d6 d7 d8 d9 d10 d11 d12 d13 d14 d15 nd0 nd1 nd2 nd3 nd4 nd5 nd6 nd7 nd8 nd9 nd10 nd11 nd12 nd13 nd14 nd15]; simp only [Result.andThen_ok])
            | (rw [run_store16 _ _ _ _ _ HR2.out rfl c0 c1 c2 c3 c4 c5 c6 c7 c8 c9 c10 c11 c12 c13 c14 c15 nc0 nc1 nc2 nc3 nc4 nc5 nc6 nc7 nc8 nc9 nc10 nc11 nc12 nc13 nc14 nc15]; simp only [Result.andThen_ok])
            | (rw [run_store16 _ _ _ _ _ HuA.out rfl d0 d1 d2 d3 d4 d5 d6 d7 d8 d9 d10 d11 d12 d13 d14 d15 nd0 nd1 nd2 nd3 nd4 nd5 nd6 nd7 nd8 nd9 nd10 nd11 nd12 nd13 nd14 nd15]; simp only [Result.andThen_ok]))
        all_goals
          refine hK2 _ _ (hJ2 _ _ ?_)
          refine ⟨_, _, _, _, _, _, _, _, _, _, _, _, _, _, _, _, _, _, _, _, _, _, _, _, _, _, _, _, _, _, _, _, _, _, _, _, _, _, _, _, _, _, _, _, _, _, _, _, _, _, _, _, _, _, _, _, _, _, _, _, _, _, _, _, _, _, _, _, _, _, _, _, _, _, _, _, _, _, _, _, _, _, _, _, _, _, _, _, _, _, ?_, rfl⟩
          first
            | with_reducible exact ⟨wo.heap.size, wo.heap.size + 1, rfl, rfl, HvC.out, HvD.out, HvF.out⟩
            | with_reducible exact ⟨wo.heap.size + 1, wo.heap.size, rfl, rfl, HuC.out, HuD.out, HuF.out⟩
    case rest =>
      as_aux_lemma =>
        obtain ⟨g1, g2, rfl, rfl, r1, r2, hb⟩ := hcut
        obtain ⟨wx, rfl⟩ : ∃ wx, wx = wc := ⟨_, rfl⟩
        clear HP u0' u1' u2' u3' u4' u5' u6' u7' u8' u9' u10' u11' u12' u13' u14' u15' u16' u17' u18' u19' u20' u21' u22' u23' u24' u25' u26' u27' u28' u29' u30' u31' u32' u33' nc0 nc1 nc2 nc3 nc4 nc5 nc6 nc7 nc8 nc9 nc10 nc11 nc12 nc13 nc14 nc15 nd0 nd1 nd2 nd3 nd4 nd5 nd6 nd7 nd8 nd9 nd10 nd11 nd12 nd13 nd14 nd15
        have hvc0 := HVc0.out
        clear HVc0
        subst hvc0
        have hvc1 := HVc1.out
        clear HVc1
        subst hvc1
        have hvc2 := HVc2.out
        clear HVc2
        subst hvc2
        have hvc3 := HVc3.out
        clear HVc3
        subst hvc3
        have hvc4 := HVc4.out
        clear HVc4
        subst hvc4
        have hvc5 := HVc5.out
        clear HVc5
        subst hvc5
        have hvc6 := HVc6.out
        clear HVc6
        subst hvc6
        have hvc7 := HVc7.out
        clear HVc7
        subst hvc7
        have hvc8 := HVc8.out
        clear HVc8
        subst hvc8
        have hvc9 := HVc9.out
        clear HVc9
        subst hvc9
        have hvc10 := HVc10.out
        clear HVc10
        subst hvc10
        have hvc11 := HVc11.out
        clear HVc11
        subst hvc11
        have hvc12 := HVc12.out
        clear HVc12
        subst hvc12
        have hvc13 := HVc13.out
        clear HVc13
        subst hvc13
        have hvc14 := HVc14.out
        clear HVc14
        subst hvc14
        have hvc15 := HVc15.out
        clear HVc15
        subst hvc15
        have hvd0 := HVd0.out
        clear HVd0
        subst hvd0
        have hvd1 := HVd1.out
        clear HVd1
        subst hvd1
        have hvd2 := HVd2.out
        clear HVd2
        subst hvd2
        have hvd3 := HVd3.out
        clear HVd3
        subst hvd3
        have hvd4 := HVd4.out
        clear HVd4
        subst hvd4
        have hvd5 := HVd5.out
        clear HVd5
        subst hvd5
        have hvd6 := HVd6.out
        clear HVd6
        subst hvd6
        have hvd7 := HVd7.out
        clear HVd7
        subst hvd7
        have hvd8 := HVd8.out
        clear HVd8
        subst hvd8
        have hvd9 := HVd9.out
        clear HVd9
        subst hvd9
        have hvd10 := HVd10.out
        clear HVd10
        subst hvd10
        have hvd11 := HVd11.out
        clear HVd11
        subst hvd11
        have hvd12 := HVd12.out
        clear HVd12
        subst hvd12
        have hvd13 := HVd13.out
        clear HVd13
        subst hvd13
        have hvd14 := HVd14.out
        clear HVd14
        subst hvd14
        have hvd15 := HVd15.out
        clear HVd15
        subst hvd15
        have hX0 : Below w.heap.size w wx := q1.trans (hb.mono q1.size)
        have hY0 : Below (w.heap.size + 1 + 1) ((w.alloc (.cells #[ai, .slice (some ⟨b1, o1, none⟩) ds.length ac] 30)).alloc (.cells #[bi, .slice (some ⟨b2, o2, none⟩) es.length bc] 30)) wx := hbe.trans (hb.mono hz)
        have hz1 : w.heap.size + 1 + 1 ≤ wx.heap.size := Nat.le_trans hz hb.size
        have hg1 : g1 < wx.heap.size := (Array.getElem?_eq_some_iff.1 r1).1
        have hg2 : g2 < wx.heap.size := (Array.getElem?_eq_some_iff.1 r2).1
        obtain ⟨hTa, hra, hya, hxa⟩ := ht1.partsS
        obtain ⟨hTb, hrb, hyb, hxb⟩ := ht2.partsS
        obtain ⟨ka, kc, hv1, hka⟩ := rowOpen hra
        obtain ⟨kb, kd, hv2, hkb⟩ := rowOpen hrb
        simp only [Value.slice.injEq] at hv1 hv2
        obtain ⟨rfl, rfl, rfl⟩ := hv1
        obtain ⟨rfl, rfl, rfl⟩ := hv2
        have HX : Hid (∀ X : World, Below wx.heap.size wx X → (X.cell? ⟨g1, 0, none⟩ = some (.int .i64 ea.kind) ∧ X.cell? ⟨g1, 1, none⟩ = some (.string ea.name) ∧ X.cell? ⟨g1, 2, none⟩ = some (.int .i64 ea.line) ∧ X.cell? ⟨g1, 3, none⟩ = some (.slice pa pl pc) ∧ X.cell? ⟨g1, 4, none⟩ = some (.slice ta ea.types.length tc) ∧ X.cell? ⟨g1, 5, none⟩ = some (.bool ea.typed) ∧ X.cell? ⟨g1, 6, none⟩ = some (.int .i64 ea.ty.kind) ∧ X.cell? ⟨g1, 7, none⟩ = some (.string ea.ty.name) ∧ X.cell? ⟨g1, 8, none⟩ = some (.slice ya yb yc) ∧ X.cell? ⟨g1, 9, none⟩ = some (.slice yd ye yf) ∧ X.cell? ⟨g1, 10, none⟩ = some (.int .i64 ea.exp.kind) ∧ X.cell? ⟨g1, 11, none⟩ = some (.string ea.exp.text) ∧ X.cell? ⟨g1, 12, none⟩ = some (.int .i64 ea.exp.n) ∧ X.cell? ⟨g1, 13, none⟩ = some (.int .i64 ea.exp.line) ∧ X.cell? ⟨g1, 14, none⟩ = some (.slice za zb zc) ∧ X.cell? ⟨g1, 15, none⟩ = some (.slice zd ze zf) ∧ X.cell? ⟨g2, 0, none⟩ = some (.int .i64 eb.kind) ∧ X.cell? ⟨g2, 1, none⟩ = some (.string eb.name) ∧ X.cell? ⟨g2, 2, none⟩ = some (.int .i64 eb.line) ∧ X.cell? ⟨g2, 3, none⟩ = some (.slice pa' pl' pc') ∧ X.cell? ⟨g2, 4, none⟩ = some (.slice ta' eb.types.length tc') ∧ X.cell? ⟨g2, 5, none⟩ = some (.bool eb.typed) ∧ X.cell? ⟨g2, 6, none⟩ = some (.int .i64 eb.ty.kind) ∧ X.cell? ⟨g2, 7, none⟩ = some (.string eb.ty.name) ∧ X.cell? ⟨g2, 8, none⟩ = some (.slice ya' yb' yc') ∧ X.cell? ⟨g2, 9, none⟩ = some (.slice yd' ye' yf') ∧ X.cell? ⟨g2, 10, none⟩ = some (.int .i64 eb.exp.kind) ∧ X.cell? ⟨g2, 11, none⟩ = some (.string eb.exp.text) ∧ X.cell? ⟨g2, 12, none⟩ = some (.int .i64 eb.exp.n) ∧ X.cell? ⟨g2, 13, none⟩ = some (.int .i64 eb.exp.line) ∧ X.cell? ⟨g2, 14, none⟩ = some (.slice za' zb' zc') ∧ X.cell? ⟨g2, 15, none⟩ = some (.slice zd' ze' zf')) ∧ Below w.heap.size w X) := fun X hX => by
          have h1 := (hX.block g1 hg1).trans r1
          have h2 := (hX.block g2 hg2).trans r2
          exact ⟨⟨by rw [cell_of_row _ _ 0 _ _ (0, 0) h1]; rfl, by rw [cell_of_row _ _ 1 _ _ (0, 0) h1]; rfl, by rw [cell_of_row _ _ 2 _ _ (0, 0) h1]; rfl, by rw [cell_of_row _ _ 3 _ _ (0, 0) h1]; rfl, by rw [cell_of_row _ _ 4 _ _ (0, 0) h1]; rfl, by rw [cell_of_row _ _ 5 _ _ (0, 0) h1]; rfl, by rw [cell_of_row _ _ 6 _ _ (0, 0) h1]; rfl, by rw [cell_of_row _ _ 7 _ _ (0, 0) h1]; rfl, by rw [cell_of_row _ _ 8 _ _ (0, 0) h1]; rfl, by rw [cell_of_row _ _ 9 _ _ (0, 0) h1]; rfl, by rw [cell_of_row _ _ 10 _ _ (0, 0) h1]; rfl, by rw [cell_of_row _ _ 11 _ _ (0, 0) h1]; rfl, by rw [cell_of_row _ _ 12 _ _ (0, 0) h1]; rfl, by rw [cell_of_row _ _ 13 _ _ (0, 0) h1]; rfl, by rw [cell_of_row _ _ 14 _ _ (0, 0) h1]; rfl, by rw [cell_of_row _ _ 15 _ _ (0, 0) h1]; rfl, by rw [cell_of_row _ _ 0 _ _ (0, 0) h2]; rfl, by rw [cell_of_row _ _ 1 _ _ (0, 0) h2]; rfl, by rw [cell_of_row _ _ 2 _ _ (0, 0) h2]; rfl, by rw [cell_of_row _ _ 3 _ _ (0, 0) h2]; rfl, by rw [cell_of_row _ _ 4 _ _ (0, 0) h2]; rfl, by rw [cell_of_row _ _ 5 _ _ (0, 0) h2]; rfl, by rw [cell_of_row _ _ 6 _ _ (0, 0) h2]; rfl, by rw [cell_of_row _ _ 7 _ _ (0, 0) h2]; rfl, by rw [cell_of_row _ _ 8 _ _ (0, 0) h2]; rfl, by rw [cell_of_row _ _ 9 _ _ (0, 0) h2]; rfl, by rw [cell_of_row _ _ 10 _ _ (0, 0) h2]; rfl, by rw [cell_of_row _ _ 11 _ _ (0, 0) h2]; rfl, by rw [cell_of_row _ _ 12 _ _ (0, 0) h2]; rfl, by rw [cell_of_row _ _ 13 _ _ (0, 0) h2]; rfl, by rw [cell_of_row _ _ 14 _ _ (0, 0) h2]; rfl, by rw [cell_of_row _ _ 15 _ _ (0, 0) h2]; rfl⟩, hX0.trans (hX.mono hX0.size)⟩
        unfold Df.bulk at hbk
        have C3 : ∀ X : World, Below w.heap.size w X → Calls Try.prog 11 #[.slice pa pl pc, .slice pa' pl' pc'] X fun e w' => e = .returned (.bool (decide (ea.params = eb.params))) ∧ Below X.heap.size X w' := fun X hX => specSameTexts _ _ ea.params eb.params X (hTa.below hX) (hTb.below hX) (by omega)
        have C5 : ∀ X : World, Below w.heap.size w X → Calls Try.prog 12 #[(.agg #[.int .i64 ea.ty.kind, .string ea.ty.name, .slice ya yb yc, .slice yd ye yf]), (.agg #[.int .i64 eb.ty.kind, .string eb.ty.name, .slice ya' yb' yc', .slice yd' ye' yf'])] X fun e w' => e = .returned (.bool (decide (SameT TyHs Ty.kids ea.ty eb.ty))) ∧ Below X.heap.size X w' := fun X hX => specSameTy n [.int .i64 ea.ty.kind, .string ea.ty.name, .slice ya yb yc, .slice yd ye yf] [.int .i64 eb.ty.kind, .string eb.ty.name, .slice ya' yb' yc', .slice yd' ye' yf'] ea.ty eb.ty X (hya.below hX) (hyb.below hX) (by omega)
        have C6 : ∀ X : World, Below w.heap.size w X → Calls Try.prog 13 #[(.agg #[.int .i64 ea.exp.kind, .string ea.exp.text, .int .i64 ea.exp.n, .int .i64 ea.exp.line, .slice za zb zc, .slice zd ze zf]), (.agg #[.int .i64 eb.exp.kind, .string eb.exp.text, .int .i64 eb.exp.n, .int .i64 eb.exp.line, .slice za' zb' zc', .slice zd' ze' zf'])] X fun e w' => e = .returned (.bool (decide (SameT XpHs Xp.kids ea.exp eb.exp))) ∧ Below X.heap.size X w' := fun X hX => specSameXp n [.int .i64 ea.exp.kind, .string ea.exp.text, .int .i64 ea.exp.n, .int .i64 ea.exp.line, .slice za zb zc, .slice zd ze zf] [.int .i64 eb.exp.kind, .string eb.exp.text, .int .i64 eb.exp.n, .int .i64 eb.exp.line, .slice za' zb' zc', .slice zd' ze' zf'] ea.exp eb.exp X (hxa.below hX) (hxb.below hX) (by omega)
        have HBK2 : Hid (∀ m (h : m < ea.types.length), Ty.bulk n ea.types[m] ≤ 1048576) := fun m h => by
          have h1 := bulkA_one (Ty.bulk n) ea.types m h
          have h2 : rowBulk n ea.types = bulkA (Ty.bulk n) ea.types := rfl
          omega
        have hta : ea.types.length ≤ 1048576 := by
          have h2 : rowBulk n ea.types = bulkA (Ty.bulk n) ea.types := rfl
          unfold bulkA at h2; omega
        have D3 : Hid (type_of% C3) := C3
        have D5 : Hid (type_of% C5) := C5
        have D6 : Hid (type_of% C6) := C6
        have HKA2 : Hid (type_of% hka) := hka
        have HKB2 : Hid (type_of% hkb) := hkb
        have HY0 : Hid (type_of% hY0) := hY0
        clear hTa hTb hra hrb hya hyb hxa hxb hka hkb hbk ht1 ht2 C3 C5 C6 r1 r2 hg1 hg2 hY0 HBO q1 hb hbe
        obtain ⟨⟨y0_0, y0_1, y0_2, y0_3, y0_4, y0_5, y0_6, y0_7, y0_8, y0_9, y0_10, y0_11, y0_12, y0_13, y0_14, y0_15, y0_16, y0_17, y0_18, y0_19, y0_20, y0_21, y0_22, y0_23, y0_24, y0_25, y0_26, y0_27, y0_28, y0_29, y0_30, y0_31⟩, q0⟩ := HX.out wx (Below.refl _ _)
        by_cases c0_ : ea.kind = eb.kind
        rotate_left
        · have x0 : (ea.kind != eb.kind) = true := by simpa using c0_
          have HR : Hid (type_of% (HNO.out fun h => c0_ h.1)) := HNO.out fun h => c0_ h.1
          clear HNO HE c0_ HKA2 HKB2 HBK2 HY0 D3 D5 D6
          go_wp2_with fail
          go_ret
          exact ⟨by rw [HR.out]; rfl, q0⟩
        have K0 : Hid (type_of% c0_) := c0_
        have x0 : (ea.kind != eb.kind) = false := by simpa using c0_
        clear c0_
        by_cases c1_ : ea.name = eb.name
        rotate_left
        · have x1 := text_otherS c1_
          have HR : Hid (type_of% (HNO.out fun h => c1_ h.2.1)) := HNO.out fun h => c1_ h.2.1
          clear HNO HE c1_ HKA2 HKB2 HBK2 HY0 D3 D5 D6
          go_wp2_with fail
          go_ret
          exact ⟨by rw [HR.out]; rfl, q0⟩
        have K1 : Hid (type_of% c1_) := c1_
        have x1 : (ea.name.toList == eb.name.toList) = true := by rw [c1_]; exact beq_self_eq_true _
        clear c1_
        by_cases c2_ : ea.params = eb.params
        rotate_left
        · have x2 : decide (ea.params = eb.params) = false := decide_eq_false c2_
          have E3' := D3.out
          simp only [x2] at E3'
          have E3 : Hid (type_of% E3') := E3'
          have HR : Hid (type_of% (HNO.out fun h => c2_ h.2.2.1)) := HNO.out fun h => c2_ h.2.2.1
          clear E3' HNO HE c2_ x2 HKA2 HKB2 HBK2 HY0 D3 D5 D6
          go_wp2_with fail
          refine (E3.out _ q0).mono ?_
          rintro e w1 ⟨rfl, hb1⟩
          have F1 : Below wx.heap.size wx w1 := hb1
          clear hb1 y0_0 y0_1 y0_2 y0_3 y0_4 y0_5 y0_6 y0_7 y0_8 y0_9 y0_10 y0_11 y0_12 y0_13 y0_14 y0_15 y0_16 y0_17 y0_18 y0_19 y0_20 y0_21 y0_22 y0_23 y0_24 y0_25 y0_26 y0_27 y0_28 y0_29 y0_30 y0_31
          obtain ⟨⟨y1_0, y1_1, y1_2, y1_3, y1_4, y1_5, y1_6, y1_7, y1_8, y1_9, y1_10, y1_11, y1_12, y1_13, y1_14, y1_15, y1_16, y1_17, y1_18, y1_19, y1_20, y1_21, y1_22, y1_23, y1_24, y1_25, y1_26, y1_27, y1_28, y1_29, y1_30, y1_31⟩, q1⟩ := HX.out _ F1
          go_wp2_with fail
          go_ret
          exact ⟨by rw [HR.out]; rfl, q1⟩
        have K2 : Hid (ea.params = eb.params) := c2_
        have x2 : decide (ea.params = eb.params) = true := decide_eq_true c2_
        have E3' := D3.out
        simp only [x2] at E3'
        have E3 : Hid (type_of% E3') := E3'
        clear c2_ x2 E3' D3
        by_cases c3_ : ea.types.length = eb.types.length
        rotate_left
        · have x3 : ¬ (ea.types.length : Int) = (eb.types.length : Int) := by omega
          have x3b : ((ea.types.length : Int) != (eb.types.length : Int)) = true := by rw [bne_iff_ne]; exact x3
          have HR : Hid (type_of% (HNO.out fun h => c3_ h.2.2.2.2.1.1)) := HNO.out fun h => c3_ h.2.2.2.2.1.1
          clear HNO HE c3_ HKA2 HKB2 HBK2 HY0 D5 D6
          go_wp2_with fail
          refine (E3.out _ q0).mono ?_
          rintro e w1 ⟨rfl, hb1⟩
          have F1 : Below wx.heap.size wx w1 := hb1
          clear hb1 y0_0 y0_1 y0_2 y0_3 y0_4 y0_5 y0_6 y0_7 y0_8 y0_9 y0_10 y0_11 y0_12 y0_13 y0_14 y0_15 y0_16 y0_17 y0_18 y0_19 y0_20 y0_21 y0_22 y0_23 y0_24 y0_25 y0_26 y0_27 y0_28 y0_29 y0_30 y0_31
          obtain ⟨⟨y1_0, y1_1, y1_2, y1_3, y1_4, y1_5, y1_6, y1_7, y1_8, y1_9, y1_10, y1_11, y1_12, y1_13, y1_14, y1_15, y1_16, y1_17, y1_18, y1_19, y1_20, y1_21, y1_22, y1_23, y1_24, y1_25, y1_26, y1_27, y1_28, y1_29, y1_30, y1_31⟩, q1⟩ := HX.out _ F1
          go_wp2_with fail
          go_ret
          exact ⟨by rw [HR.out]; rfl, q1⟩
        have K3 : Hid (type_of% c3_) := c3_
        have x3 : ((ea.types.length : Int) == (eb.types.length : Int)) = true := by rw [beq_iff_eq]; omega
        have x3b : ((ea.types.length : Int) != (eb.types.length : Int)) = false := by rw [bne_eq_false_iff_eq]; omega
        clear c3_
        by_cases c4_ : ea.typed = eb.typed
        rotate_left
        · have x4 : (ea.typed != eb.typed) = true := by simpa using c4_
          have x4b : (ea.typed == eb.typed) = false := by simpa using c4_
          have HR : Hid (type_of% (HNO.out fun h => c4_ h.2.2.2.1)) := HNO.out fun h => c4_ h.2.2.2.1
          clear HNO HE c4_ HKA2 HKB2 HBK2 HY0 D5 D6
          go_wp2_with fail
          refine (E3.out _ q0).mono ?_
          rintro e w1 ⟨rfl, hb1⟩
          have F1 : Below wx.heap.size wx w1 := hb1
          clear hb1 y0_0 y0_1 y0_2 y0_3 y0_4 y0_5 y0_6 y0_7 y0_8 y0_9 y0_10 y0_11 y0_12 y0_13 y0_14 y0_15 y0_16 y0_17 y0_18 y0_19 y0_20 y0_21 y0_22 y0_23 y0_24 y0_25 y0_26 y0_27 y0_28 y0_29 y0_30 y0_31
          obtain ⟨⟨y1_0, y1_1, y1_2, y1_3, y1_4, y1_5, y1_6, y1_7, y1_8, y1_9, y1_10, y1_11, y1_12, y1_13, y1_14, y1_15, y1_16, y1_17, y1_18, y1_19, y1_20, y1_21, y1_22, y1_23, y1_24, y1_25, y1_26, y1_27, y1_28, y1_29, y1_30, y1_31⟩, q1⟩ := HX.out _ F1
          go_wp2_with fail
          go_ret
          exact ⟨by rw [HR.out]; rfl, q1⟩
        have K4 : Hid (type_of% c4_) := c4_
        have x4 : (ea.typed != eb.typed) = false := by simpa using c4_
        have x4b : (ea.typed == eb.typed) = true := by simpa using c4_
        clear c4_
        by_cases c5_ : SameT TyHs Ty.kids ea.ty eb.ty
        rotate_left
        · have x5 : decide (SameT TyHs Ty.kids ea.ty eb.ty) = false := decide_eq_false c5_
          have E5' := D5.out
          simp only [x5] at E5'
          have E5 : Hid (type_of% E5') := E5'
          have HR : Hid (type_of% (HNO.out fun h => c5_ h.2.2.2.2.2.1)) := HNO.out fun h => c5_ h.2.2.2.2.2.1
          clear E5' HNO HE c5_ x5 HKA2 HKB2 HBK2 HY0 D5 D6
          go_wp2_with fail
          refine (E3.out _ q0).mono ?_
          rintro e w1 ⟨rfl, hb1⟩
          have F1 : Below wx.heap.size wx w1 := hb1
          clear hb1 y0_0 y0_1 y0_2 y0_3 y0_4 y0_5 y0_6 y0_7 y0_8 y0_9 y0_10 y0_11 y0_12 y0_13 y0_14 y0_15 y0_16 y0_17 y0_18 y0_19 y0_20 y0_21 y0_22 y0_23 y0_24 y0_25 y0_26 y0_27 y0_28 y0_29 y0_30 y0_31
          obtain ⟨⟨y1_0, y1_1, y1_2, y1_3, y1_4, y1_5, y1_6, y1_7, y1_8, y1_9, y1_10, y1_11, y1_12, y1_13, y1_14, y1_15, y1_16, y1_17, y1_18, y1_19, y1_20, y1_21, y1_22, y1_23, y1_24, y1_25, y1_26, y1_27, y1_28, y1_29, y1_30, y1_31⟩, q1⟩ := HX.out _ F1
          go_wp2_with fail
          refine (E5.out _ q1).mono ?_
          rintro e w2 ⟨rfl, hb2⟩
          have F2 : Below wx.heap.size wx w2 := F1.trans (hb2.mono F1.size)
          clear hb2 y1_0 y1_1 y1_2 y1_3 y1_4 y1_5 y1_6 y1_7 y1_8 y1_9 y1_10 y1_11 y1_12 y1_13 y1_14 y1_15 y1_16 y1_17 y1_18 y1_19 y1_20 y1_21 y1_22 y1_23 y1_24 y1_25 y1_26 y1_27 y1_28 y1_29 y1_30 y1_31
          obtain ⟨⟨y2_0, y2_1, y2_2, y2_3, y2_4, y2_5, y2_6, y2_7, y2_8, y2_9, y2_10, y2_11, y2_12, y2_13, y2_14, y2_15, y2_16, y2_17, y2_18, y2_19, y2_20, y2_21, y2_22, y2_23, y2_24, y2_25, y2_26, y2_27, y2_28, y2_29, y2_30, y2_31⟩, q2⟩ := HX.out _ F2
          go_wp2_with fail
          go_ret
          exact ⟨by rw [HR.out]; rfl, q2⟩
        have K5 : Hid (SameT TyHs Ty.kids ea.ty eb.ty) := c5_
        have x5 : decide (SameT TyHs Ty.kids ea.ty eb.ty) = true := decide_eq_true c5_
        have E5' := D5.out
        simp only [x5] at E5'
        have E5 : Hid (type_of% E5') := E5'
        clear c5_ x5 E5' D5
        by_cases c6_ : SameT XpHs Xp.kids ea.exp eb.exp
        rotate_left
        · have x6 : decide (SameT XpHs Xp.kids ea.exp eb.exp) = false := decide_eq_false c6_
          have E6' := D6.out
          simp only [x6] at E6'
          have E6 : Hid (type_of% E6') := E6'
          have HR : Hid (type_of% (HNO.out fun h => c6_ h.2.2.2.2.2.2)) := HNO.out fun h => c6_ h.2.2.2.2.2.2
          clear E6' HNO HE c6_ x6 HKA2 HKB2 HBK2 HY0 D6
          go_wp2_with fail
          refine (E3.out _ q0).mono ?_
          rintro e w1 ⟨rfl, hb1⟩
          have F1 : Below wx.heap.size wx w1 := hb1
          clear hb1 y0_0 y0_1 y0_2 y0_3 y0_4 y0_5 y0_6 y0_7 y0_8 y0_9 y0_10 y0_11 y0_12 y0_13 y0_14 y0_15 y0_16 y0_17 y0_18 y0_19 y0_20 y0_21 y0_22 y0_23 y0_24 y0_25 y0_26 y0_27 y0_28 y0_29 y0_30 y0_31
          obtain ⟨⟨y1_0, y1_1, y1_2, y1_3, y1_4, y1_5, y1_6, y1_7, y1_8, y1_9, y1_10, y1_11, y1_12, y1_13, y1_14, y1_15, y1_16, y1_17, y1_18, y1_19, y1_20, y1_21, y1_22, y1_23, y1_24, y1_25, y1_26, y1_27, y1_28, y1_29, y1_30, y1_31⟩, q1⟩ := HX.out _ F1
          go_wp2_with fail
          refine (E5.out _ q1).mono ?_
          rintro e w2 ⟨rfl, hb2⟩
          have F2 : Below wx.heap.size wx w2 := F1.trans (hb2.mono F1.size)
          clear hb2 y1_0 y1_1 y1_2 y1_3 y1_4 y1_5 y1_6 y1_7 y1_8 y1_9 y1_10 y1_11 y1_12 y1_13 y1_14 y1_15 y1_16 y1_17 y1_18 y1_19 y1_20 y1_21 y1_22 y1_23 y1_24 y1_25 y1_26 y1_27 y1_28 y1_29 y1_30 y1_31
          obtain ⟨⟨y2_0, y2_1, y2_2, y2_3, y2_4, y2_5, y2_6, y2_7, y2_8, y2_9, y2_10, y2_11, y2_12, y2_13, y2_14, y2_15, y2_16, y2_17, y2_18, y2_19, y2_20, y2_21, y2_22, y2_23, y2_24, y2_25, y2_26, y2_27, y2_28, y2_29, y2_30, y2_31⟩, q2⟩ := HX.out _ F2
          go_wp2_with fail
          refine (E6.out _ q2).mono ?_
          rintro e w3 ⟨rfl, hb3⟩
          have F3 : Below wx.heap.size wx w3 := F2.trans (hb3.mono F2.size)
          clear hb3 y2_0 y2_1 y2_2 y2_3 y2_4 y2_5 y2_6 y2_7 y2_8 y2_9 y2_10 y2_11 y2_12 y2_13 y2_14 y2_15 y2_16 y2_17 y2_18 y2_19 y2_20 y2_21 y2_22 y2_23 y2_24 y2_25 y2_26 y2_27 y2_28 y2_29 y2_30 y2_31
          obtain ⟨⟨y3_0, y3_1, y3_2, y3_3, y3_4, y3_5, y3_6, y3_7, y3_8, y3_9, y3_10, y3_11, y3_12, y3_13, y3_14, y3_15, y3_16, y3_17, y3_18, y3_19, y3_20, y3_21, y3_22, y3_23, y3_24, y3_25, y3_26, y3_27, y3_28, y3_29, y3_30, y3_31⟩, q3⟩ := HX.out _ F3
          go_wp2_with fail
          go_ret
          exact ⟨by rw [HR.out]; rfl, q3⟩
        have K6 : Hid (SameT XpHs Xp.kids ea.exp eb.exp) := c6_
        have x6 : decide (SameT XpHs Xp.kids ea.exp eb.exp) = true := decide_eq_true c6_
        have E6' := D6.out
        simp only [x6] at E6'
        have E6 : Hid (type_of% E6') := E6'
        clear c6_ x6 E6' D6
        have HES : Hid (type_of% (fun (hl : ∀ m (h : m < ea.types.length) (h' : m < eb.types.length), SameT TyHs Ty.kids ea.types[m] eb.types[m]) => HE.out ⟨K0.out, K1.out, K2.out, K4.out, ⟨K3.out, hl⟩, K5.out, K6.out⟩)) := fun hl => HE.out ⟨K0.out, K1.out, K2.out, K4.out, ⟨K3.out, hl⟩, K5.out, K6.out⟩
        have HNS : Hid (∀ m (h : m < ea.types.length) (h' : m < eb.types.length), ¬ SameT TyHs Ty.kids ea.types[m] eb.types[m] → decide (MdSame im im' ds es) = false) := fun m h h' hn => HNO.out fun q => hn (q.2.2.2.2.1.2 m h h')
        clear HE HNO
        go_wp2_with fail
        refine (E3.out _ q0).mono ?_
        rintro e w1 ⟨rfl, hb1⟩
        have F1 : Below wx.heap.size wx w1 := hb1
        clear hb1 y0_0 y0_1 y0_2 y0_3 y0_4 y0_5 y0_6 y0_7 y0_8 y0_9 y0_10 y0_11 y0_12 y0_13 y0_14 y0_15 y0_16 y0_17 y0_18 y0_19 y0_20 y0_21 y0_22 y0_23 y0_24 y0_25 y0_26 y0_27 y0_28 y0_29 y0_30 y0_31
        obtain ⟨⟨y1_0, y1_1, y1_2, y1_3, y1_4, y1_5, y1_6, y1_7, y1_8, y1_9, y1_10, y1_11, y1_12, y1_13, y1_14, y1_15, y1_16, y1_17, y1_18, y1_19, y1_20, y1_21, y1_22, y1_23, y1_24, y1_25, y1_26, y1_27, y1_28, y1_29, y1_30, y1_31⟩, q1⟩ := HX.out _ F1
        go_wp2_with fail
        refine (E5.out _ q1).mono ?_
        rintro e w2 ⟨rfl, hb2⟩
        have F2 : Below wx.heap.size wx w2 := F1.trans (hb2.mono F1.size)
        clear hb2 y1_0 y1_1 y1_2 y1_3 y1_4 y1_5 y1_6 y1_7 y1_8 y1_9 y1_10 y1_11 y1_12 y1_13 y1_14 y1_15 y1_16 y1_17 y1_18 y1_19 y1_20 y1_21 y1_22 y1_23 y1_24 y1_25 y1_26 y1_27 y1_28 y1_29 y1_30 y1_31
        obtain ⟨⟨y2_0, y2_1, y2_2, y2_3, y2_4, y2_5, y2_6, y2_7, y2_8, y2_9, y2_10, y2_11, y2_12, y2_13, y2_14, y2_15, y2_16, y2_17, y2_18, y2_19, y2_20, y2_21, y2_22, y2_23, y2_24, y2_25, y2_26, y2_27, y2_28, y2_29, y2_30, y2_31⟩, q2⟩ := HX.out _ F2
        go_wp2_with fail
        refine (E6.out _ q2).mono ?_
        rintro e w3 ⟨rfl, hb3⟩
        have F3 : Below wx.heap.size wx w3 := F2.trans (hb3.mono F2.size)
        clear hb3 y2_0 y2_1 y2_2 y2_3 y2_4 y2_5 y2_6 y2_7 y2_8 y2_9 y2_10 y2_11 y2_12 y2_13 y2_14 y2_15 y2_16 y2_17 y2_18 y2_19 y2_20 y2_21 y2_22 y2_23 y2_24 y2_25 y2_26 y2_27 y2_28 y2_29 y2_30 y2_31
        obtain ⟨⟨y3_0, y3_1, y3_2, y3_3, y3_4, y3_5, y3_6, y3_7, y3_8, y3_9, y3_10, y3_11, y3_12, y3_13, y3_14, y3_15, y3_16, y3_17, y3_18, y3_19, y3_20, y3_21, y3_22, y3_23, y3_24, y3_25, y3_26, y3_27, y3_28, y3_29, y3_30, y3_31⟩, q3⟩ := HX.out _ F3
        go_wp2_with fail
        clear y3_0 y3_1 y3_2 y3_3 y3_4 y3_5 y3_6 y3_7 y3_8 y3_9 y3_10 y3_11 y3_12 y3_13 y3_14 y3_15 y3_16 y3_17 y3_18 y3_19 y3_20 y3_21 y3_22 y3_23 y3_24 y3_25 y3_26 y3_27 y3_28 y3_29 y3_30 y3_31 E3 E5 E6 q0 q1 q2
        go_loopw [8] (fun i wr => ∃ j : Nat, j ≤ ea.types.length ∧ i = .int .i64 j ∧ (∀ m (h : m < ea.types.length) (h' : m < eb.types.length), m < j → SameT TyHs Ty.kids ea.types[m] eb.types[m]) ∧ Below wx.heap.size wx wr) (fun i _ => ea.types.length - (intOf i).toNat)
        case atStart => exact ⟨0, Nat.zero_le _, rfl, fun m _ _ h => absurd h (by omega), F3⟩
        case round =>
          clear q3 F3 F2 F1
          obtain ⟨j, hj, rfl, hes, hbx⟩ := hrel
          obtain ⟨wi, rfl⟩ : ∃ wi, wi = wr := ⟨_, rfl⟩
          obtain ⟨⟨y4_0, y4_1, y4_2, y4_3, y4_4, y4_5, y4_6, y4_7, y4_8, y4_9, y4_10, y4_11, y4_12, y4_13, y4_14, y4_15, y4_16, y4_17, y4_18, y4_19, y4_20, y4_21, y4_22, y4_23, y4_24, y4_25, y4_26, y4_27, y4_28, y4_29, y4_30, y4_31⟩, q4⟩ := HX.out _ hbx
          by_cases hjt : j < ea.types.length
          · have hjt2 : j < eb.types.length := by rw [← K3.out]; exact hjt
            obtain ⟨b3, o3, a0, a1, a2, a3, rfl, hb3, ht3, p3_0, p3_1, p3_2, p3_3⟩ := HKA2.out j hjt
            obtain ⟨b4, o4, e0, e1, e2, e3, rfl, hb4, ht4, p4_0, p4_1, p4_2, p4_3⟩ := HKB2.out j hjt2
            have HC : Hid (∀ X : World, Below w.heap.size w X → Calls Try.prog 12 #[.agg #[a0, a1, a2, a3], .agg #[e0, e1, e2, e3]] X fun e w' => e = .returned (.bool (decide (SameT TyHs Ty.kids ea.types[j] eb.types[j]))) ∧ Below X.heap.size X w') := fun X hX => specSameTy n [a0, a1, a2, a3] [e0, e1, e2, e3] _ _ X (ht3.below hX) (ht4.below hX) (HBK2.out j hjt)
            have A0 := (q4.cell (p := ⟨b3, o3 + j * 4, none⟩) hb3).trans p3_0
            have B0 := (q4.cell (p := ⟨b4, o4 + j * 4, none⟩) hb4).trans p4_0
            have A1 := (q4.cell (p := ⟨b3, o3 + j * 4 + 1, none⟩) hb3).trans p3_1
            have B1 := (q4.cell (p := ⟨b4, o4 + j * 4 + 1, none⟩) hb4).trans p4_1
            have A2 := (q4.cell (p := ⟨b3, o3 + j * 4 + 2, none⟩) hb3).trans p3_2
            have B2 := (q4.cell (p := ⟨b4, o4 + j * 4 + 2, none⟩) hb4).trans p4_2
            have A3 := (q4.cell (p := ⟨b3, o3 + j * 4 + 3, none⟩) hb3).trans p3_3
            have B3 := (q4.cell (p := ⟨b4, o4 + j * 4 + 3, none⟩) hb4).trans p4_3
            have HEJ : Hid (SameT TyHs Ty.kids ea.types[j] eb.types[j] → ∀ m (h : m < ea.types.length) (h' : m < eb.types.length), m < j + 1 → SameT TyHs Ty.kids ea.types[m] eb.types[m]) := fun e m h h' hm => by
              by_cases c : m < j
              · exact hes m h h' c
              · obtain rfl : m = j := by omega
                exact e
            have HF' : Hid (type_of% (HNS.out j hjt hjt2)) := HNS.out j hjt hjt2
            have hj0 : (0 : Int) ≤ j := by omega
            have hj1 : (j : Int) < ea.types.length := by omega
            have hj2 : (j : Int) < eb.types.length := by omega
            clear hes p3_0 p4_0 p3_1 p4_1 p3_2 p4_2 p3_3 p4_3 ht3 ht4 hb3 hb4 HKA2 HKB2 HBK2 HES HNS
            generalize ea.types[j] = fa at *
            generalize eb.types[j] = fb at *
            by_cases he : SameT TyHs Ty.kids fa fb
            · have x9 : decide (SameT TyHs Ty.kids fa fb) = true := decide_eq_true he
              rw [x9] at HC
              have HE2 : Hid (type_of% (HEJ.out he)) := HEJ.out he
              clear HEJ HF' he
              go_wp2_with fail
              go_region_with (go_at_call 12; refine (HC.out _ q4.drew).mono ?_; rintro e w5 ⟨rfl, hb5⟩)
              all_goals
                go_wp2_with fail
                go_roundw
                case rel => exact ⟨j + 1, by omega, by go_num, HE2.out, hbx.drew.trans (hb5.mono hbx.size)⟩
                case measure => simp [intOf]; omega
            · have x9 : decide (SameT TyHs Ty.kids fa fb) = false := decide_eq_false he
              rw [x9] at HC
              have HR : Hid (type_of% (HF'.out he)) := HF'.out he
              clear HEJ HF' he
              go_wp2_with fail
              go_region_with (go_at_call 12; refine (HC.out _ q4.drew).mono ?_; rintro e w5 ⟨rfl, hb5⟩)
              all_goals
                go_wp2_with fail
                go_ret
                exact ⟨by rw [HR.out]; rfl, q4.drew.trans (hb5.mono q4.size)⟩
          · have HE3 : Hid (type_of% (HES.out fun m h h' => hes m h h' (by omega))) := HES.out fun m h h' => hes m h h' (by omega)
            clear HKA2 HKB2 HBK2 HES HNS hes
            go_wp2_with fail
            go_roundw
            case rel => exact ⟨k + 1, by omega, by go_num, HE3.out, HY0.out.trans (hbx.mono hz1), Nat.le_trans hz1 hbx.size⟩
            case measure => simp [intOf]; omega

end Go.Proofs.Ytegdladpkikicaa
