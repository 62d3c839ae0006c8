/-
  The walk of impl.copyOf.
-/
import Derived.Test.YtpnalacdgnppmaaCqW
namespace Go.Proofs.Ytpnalacdgnppmaa
open Go.RowKit

theorem ret_cqI {R : Ending → World → Prop} {W : World} {tmps : Array Value} {b : Nat} {x0 x1 x2 x3 : Value} (hp : tmps[2]?.getD undef = .pointer (some ⟨b, 0, none⟩))
    (h : W.cell? ⟨b, 0, none⟩ = some x0 ∧ W.cell? ⟨b, 1, none⟩ = some x1 ∧ W.cell? ⟨b, 2, none⟩ = some x2 ∧ W.cell? ⟨b, 3, none⟩ = some x3) (hR : R (.returned (.agg #[x0, x1, x2, x3])) W) :
    bodyPost Try.prog Try.f18 R .ret { tmps := tmps, defers := [] } W := by
  obtain ⟨h0, h1, h2, h3⟩ := h
  refine bodyPost_ret (v := .agg #[x0, x1, x2, x3]) ?_ rfl hR
  simp [results, Try.results18, go_sem, hp, h0, h1, h2, h3]

set_option maxHeartbeats 1600000 in
set_option maxRecDepth 100000 in
theorem implCopyOf (n lo hi : Nat) (cs : List Value) (t : Ty) (w : World) (h : TyIn w n lo hi cs t) (hhi : hi ≤ w.heap.size) (hb : Ty.bulk n t ≤ 1048576) :
    Calls Try.prog 18 #[.agg cs.toArray] w fun e w' => ∃ l, e = .returned (.agg (cellsK t l).toArray) ∧ NewLay w.heap.size w' n l t ∧ Below w.heap.size w w' := by
  have hR := h.reads
  obtain ⟨m, hm⟩ : ∃ m, n = m + 1 := by
    cases n with
    | zero => exact h.elim
    | succ m => exact ⟨m, rfl⟩
  obtain ⟨vn, vk, rfl, an, ln, cn, ak, lk, ck, rfl, rfl⟩ : ∃ vn vk, cs = [.int .i64 t.kind, .string t.name, vn, vk] ∧ ∃ an ln cn ak lk ck, vn = .slice an ln cn ∧ vk = .slice ak lk ck := by
    subst hm
    obtain ⟨vn, vk, e, _, _, ⟨hT, _, _⟩, _, hF⟩ := hR
    refine ⟨vn, vk, e, ?_⟩
    have h1 : ∃ a l c, vn = .slice a l c := by
      rcases hT with ⟨_, a, cap, e2⟩ | ⟨b, off, cap, e2, _⟩
      · exact ⟨a, _, cap, e2⟩
      · exact ⟨_, _, cap, e2⟩
    have h2 : ∃ a l c, vk = .slice a l c := by
      rcases hF with ⟨_, a, cap, e2⟩ | ⟨b, off, cap, e2, _⟩
      · exact ⟨a, _, cap, e2⟩
      · exact ⟨_, _, cap, e2⟩
    obtain ⟨a1, l1, c1, e1⟩ := h1
    obtain ⟨a2, l2, c2, e2⟩ := h2
    exact ⟨a1, l1, c1, a2, l2, c2, e1, e2⟩
  obtain ⟨W2, hW⟩ : ∃ W2, W2 = ((w.alloc (.cells #[.int .i64 t.kind, .string t.name, .slice an ln cn, .slice ak lk ck] 27)).alloc (.cells #[.int .i64 0, .string ⟨#[]⟩, .slice none 0 0, .slice none 0 0] 27)) := ⟨_, rfl⟩
  have hBW : Below w.heap.size w W2 := by rw [hW]; exact ((Below.refl _ _).alloc (Nat.le_refl _) _).alloc (by simp) _
  have hWz : W2.heap.size = w.heap.size + 2 := by rw [hW]; simp
  have harg : W2.heap[w.heap.size]? = some (.cells #[.int .i64 t.kind, .string t.name, .slice an ln cn, .slice ak lk ck] 27 (0, 0)) := by
    rw [hW]
    exact ((MapKept.heap_alloc _ _).2 _ (by simp)).trans (MapKept.heap_alloc w _).1
  have hres : W2.heap[w.heap.size + 1]? = some (.cells #[.int .i64 0, .string ⟨#[]⟩, .slice none 0 0, .slice none 0 0] 27 (0, 0)) := by
    rw [hW]
    have := (MapKept.heap_alloc (w.alloc (.cells #[.int .i64 t.kind, .string t.name, .slice an ln cn, .slice ak lk ck] 27)) (.cells #[.int .i64 0, .string ⟨#[]⟩, .slice none 0 0, .slice none 0 0] 27)).1
    simpa using this
  have hwt := wt_le n t
  have hnd := nd_le n [t]
  have hwr : rowWt n [t] ≤ 1000000000 := by rw [rowWt_cons, rowWt_nil]; omega
  have hco : LE.cost ⟨.slice none 0 0, [t], n⟩ ≤ 1000000000 := by unfold LE.cost; simp at hnd ⊢; omega
  have HCT : Hid (∀ (cb g : Nat) (wx : World), Below W2.heap.size W2 wx → wx.heap[cb]? = some (.cells #[.int .i64 8589934592, .bool false, .map none, .map none] 67 (0, 0)) → wx.heap[g]? = some (.cells #[.int .i64 t.kind, .string t.name, .slice an ln cn, .slice ak lk ck] 27 (0, 0)) → W2.heap.size ≤ cb → W2.heap.size ≤ g → cb ≠ g → Calls Try.prog 30 #[.pointer (some ⟨cb, 0, none⟩), .slice (some ⟨g, 0, none⟩) 1 1] wx fun e w' => ∃ (g2 c : Nat) (l : Lay) (a1 : Option Addr) (l1 c1 : Nat) (a2 : Option Addr) (l2 c2 : Nat), e = .returned (.slice (some ⟨g2, 0, none⟩) 1 c) ∧ l.vn = .slice a1 l1 c1 ∧ l.vk = .slice a2 l2 c2 ∧ (w'.cell? ⟨g2, 0, none⟩ = some (.int .i64 t.kind) ∧ w'.cell? ⟨g2, 1, none⟩ = some (.string t.name) ∧ w'.cell? ⟨g2, 2, none⟩ = some (.slice a1 l1 c1) ∧ w'.cell? ⟨g2, 3, none⟩ = some (.slice a2 l2 c2)) ∧ NewLay W2.heap.size w' n l t ∧ Below W2.heap.size W2 w') := fun cb g wx hx hcb hg hcl hgl hne => by
    have hfit : LE.fits (fun b => (lo ≤ b ∧ b < hi) ∨ b = g) wx ⟨.slice (some ⟨g, 0, none⟩) 1 1, [t], n⟩ := by
      refine .inr ⟨g, 0, 1, rfl, .inr rfl, ⟨_, _, hg⟩, fun j hj => ?_⟩
      have hj0 : j = 0 := by simp at hj; omega
      subst hj0
      refine ⟨[.int .i64 t.kind, .string t.name, .slice an ln cn, .slice ak lk ck], ?_, fun c u hc => ?_⟩
      · exact (hR.same fun b hb' => (hBW.trans (hx.mono (by omega))).block b (by omega)).sub fun b hb' => .inl hb'
      · rw [cell_of_row _ _ _ _ _ _ hg]
        match c, hc with
        | 0, hc => exact hc
        | 1, hc => exact hc
        | 2, hc => exact hc
        | 3, hc => exact hc
    have hxs := hx.size
    have hgx := (Array.getElem?_eq_some_iff.1 hg).1
    refine (implCopyTypes cb 8589934592 _ _ _ _ _ wx (fun b hb' => by rcases hb' with hb' | hb' <;> omega) hfit (by simp) hwr hco (fun j hj => by
      have hj0 : j = 0 := by simp at hj; omega
      subst hj0
      exact hb) hcb (fun hb' => by rcases hb' with hb' | hb' <;> omega) (by show ((rowWt n [t] : Nat) : Int) ≤ _; omega) (by omega)).mono ?_
    rintro e w' ⟨g2, c, ls, he, hl, hx2, hb'⟩
    have h1 : ls.length = 1 := hl.1
    obtain ⟨l, rfl⟩ : ∃ l, ls = [l] := by
      match ls, h1 with
      | [l], _ => exact ⟨l, rfl⟩
    have hL : LayAt w' n l t := hl.2.2 0 (by simp) (by simp)
    have hL' := hL
    rw [hm] at hL'
    obtain ⟨a1, c1, e1⟩ := hL'.1.slice
    obtain ⟨a2, c2, e2⟩ := hL'.2.2.1.slice
    have hrow : w'.ownsRow 0 27 4 (.slice (some ⟨g2, 0, none⟩) 1 c) 1 (cellsK t l) := by simpa [flatK] using hl.2.1.pos (by simp)
    refine ⟨g2, c, l, a1, _, c1, a2, _, c2, he, e1, e2, ⟨?_, ?_, ?_, ?_⟩, ⟨hL, (hx2 0 (by simp)).1, fun b hb9 => Nat.le_trans hxs ((hx2 0 (by simp)).2 b hb9)⟩, (hx.setCell (p := ⟨cb, 0, none⟩) hcl _).trans (hb'.mono hxs)⟩
    · rw [hrow.cellAt 0 (by omega)]; rfl
    · rw [hrow.cellAt 1 (by omega)]; rfl
    · rw [hrow.cellAt 2 (by omega), ← e1]; rfl
    · rw [hrow.cellAt 3 (by omega), ← e2]; rfl
  have HNC : Hid (∀ wx : World, Calls Try.prog 29 #[] wx fun e w' => e = .returned (.pointer (some ⟨wx.heap.size, 0, none⟩)) ∧ w'.heap[wx.heap.size]? = some (.cells #[.int .i64 8589934592, .bool false, .map none, .map none] 67 (0, 0)) ∧ w'.heap.size = wx.heap.size + 1 ∧ Below wx.heap.size wx w') := fun wx => by
    refine (implNewCopier wx).mono ?_
    rintro e w' ⟨rfl, rfl⟩
    exact ⟨rfl, (MapKept.heap_alloc wx _).1, by simp, (Below.refl _ _).alloc (Nat.le_refl _) _⟩
  have hs0 : w.heap.size < W2.heap.size := by omega
  have hs1 : w.heap.size + 1 < W2.heap.size := by omega
  have HBX : Hid (∀ wx : World, Below W2.heap.size W2 wx → (wx.cell? ⟨w.heap.size, 0, none⟩ = some (.int .i64 t.kind) ∧ wx.cell? ⟨w.heap.size, 1, none⟩ = some (.string t.name) ∧ wx.cell? ⟨w.heap.size, 2, none⟩ = some (.slice an ln cn) ∧ wx.cell? ⟨w.heap.size, 3, none⟩ = some (.slice ak lk ck)) ∧ wx.heap[w.heap.size + 1]? = some (.cells #[.int .i64 0, .string ⟨#[]⟩, .slice none 0 0, .slice none 0 0] 27 (0, 0)) ∧ Below w.heap.size w wx) := fun wx hx => ⟨(block4 ((hx.block _ hs0).trans harg)).1, (hx.block _ hs1).trans hres, hBW.trans (hx.mono (by omega))⟩
  obtain ⟨⟨b0, b1, b2, b3⟩, _, _⟩ := HBX.out W2 (Below.refl _ _)
  obtain ⟨⟨k0, k1, k2, k3⟩, _, _⟩ := HBX.out (W2.alloc (.cells #[.int .i64 t.kind, .string t.name, .slice an ln cn, .slice ak lk ck] 27)) ((Below.refl _ _).alloc (Nat.le_refl _) _)
  have hT4 : (W2.alloc (.cells #[.int .i64 t.kind, .string t.name, .slice an ln cn, .slice ak lk ck] 27)).heap[W2.heap.size]? = some (.cells #[.int .i64 t.kind, .string t.name, .slice an ln cn, .slice ak lk ck] 27 (0, 0)) := (MapKept.heap_alloc W2 _).1
  have hTz : (W2.alloc (.cells #[.int .i64 t.kind, .string t.name, .slice an ln cn, .slice ak lk ck] 27)).heap.size = W2.heap.size + 1 := by simp
  have HT4 : Hid (type_of% hT4 ∧ type_of% hTz) := ⟨hT4, hTz⟩
  have HN1 : Hid (type_of% (HNC.out W2)) := HNC.out W2
  have HN2 : Hid (type_of% (HNC.out W2.drew)) := HNC.out W2.drew
  have HN3 : Hid (type_of% (HNC.out (W2.alloc (.cells #[.int .i64 t.kind, .string t.name, .slice an ln cn, .slice ak lk ck] 27)))) := HNC.out (W2.alloc (.cells #[.int .i64 t.kind, .string t.name, .slice an ln cn, .slice ak lk ck] 27))
  have HN4 : Hid (type_of% (HNC.out (W2.alloc (.cells #[.int .i64 t.kind, .string t.name, .slice an ln cn, .slice ak lk ck] 27)).drew)) := HNC.out (W2.alloc (.cells #[.int .i64 t.kind, .string t.name, .slice an ln cn, .slice ak lk ck] 27)).drew
  clear h hR hwt hnd hb harg hres hBW hwr hco hT4 hTz HNC hWz hs0
  go_enter Try.func18, Try.ntmps18
  go_wp2_with fail
  rw [← hW]
  clear hW
  go_region_with (first
      | (go_at_call 29; (first | (with_reducible refine HN2.out.mono ?_) | (with_reducible refine HN1.out.mono ?_)); rintro e w3 ⟨rfl, hcp3, hz3, hb3'⟩; have hb3 : Below W2.heap.size W2 w3 := (by first | exact hb3' | exact (Below.refl _ _).drew.trans hb3'); obtain ⟨⟨m0, m1, m2, m3⟩, _, _⟩ := HBX.out w3 hb3; have HA3 : Hid (type_of% (HCT.out W2.heap.size w3.heap.size (w3.alloc (.cells #[.int .i64 t.kind, .string t.name, .slice an ln cn, .slice ak lk ck] 27)) (hb3.alloc hb3.size _) (((MapKept.heap_alloc w3 _).2 _ (Array.getElem?_eq_some_iff.1 hcp3).1).trans hcp3) (MapKept.heap_alloc w3 _).1 (Nat.le_refl _) hb3.size (Nat.ne_of_lt (Array.getElem?_eq_some_iff.1 hcp3).1))) := HCT.out W2.heap.size w3.heap.size (w3.alloc (.cells #[.int .i64 t.kind, .string t.name, .slice an ln cn, .slice ak lk ck] 27)) (hb3.alloc hb3.size _) (((MapKept.heap_alloc w3 _).2 _ (Array.getElem?_eq_some_iff.1 hcp3).1).trans hcp3) (MapKept.heap_alloc w3 _).1 (Nat.le_refl _) hb3.size (Nat.ne_of_lt (Array.getElem?_eq_some_iff.1 hcp3).1); clear hz3)
      | (go_at_call 29; (first | (with_reducible refine HN4.out.mono ?_) | (with_reducible refine HN3.out.mono ?_)); rintro e w3 ⟨rfl, hcp3, hz3, hb3'⟩; have hcp4 : w3.heap[W2.heap.size + 1]? = some (.cells #[.int .i64 8589934592, .bool false, .map none, .map none] 67 (0, 0)) := (by have h9 := hcp3; have h8 : (W2.alloc (.cells #[.int .i64 t.kind, .string t.name, .slice an ln cn, .slice ak lk ck] 27)).drew.heap.size = W2.heap.size + 1 := HT4.out.2; have h7 : (W2.alloc (.cells #[.int .i64 t.kind, .string t.name, .slice an ln cn, .slice ak lk ck] 27)).heap.size = W2.heap.size + 1 := HT4.out.2; first | (rw [h8] at h9; exact h9) | (rw [h7] at h9; exact h9)); have hg3 : w3.heap[W2.heap.size]? = some (.cells #[.int .i64 t.kind, .string t.name, .slice an ln cn, .slice ak lk ck] 27 (0, 0)) := (hb3'.block W2.heap.size (by have h8 : (W2.alloc (.cells #[.int .i64 t.kind, .string t.name, .slice an ln cn, .slice ak lk ck] 27)).drew.heap.size = W2.heap.size + 1 := HT4.out.2; have h7 : (W2.alloc (.cells #[.int .i64 t.kind, .string t.name, .slice an ln cn, .slice ak lk ck] 27)).heap.size = W2.heap.size + 1 := HT4.out.2; first | omega | (rw [h8]; omega) | (rw [h7]; omega))).trans HT4.out.1; have hb3 : Below W2.heap.size W2 w3 := (by have h8 : (W2.alloc (.cells #[.int .i64 t.kind, .string t.name, .slice an ln cn, .slice ak lk ck] 27)).drew.heap.size = W2.heap.size + 1 := HT4.out.2; have h7 : (W2.alloc (.cells #[.int .i64 t.kind, .string t.name, .slice an ln cn, .slice ak lk ck] 27)).heap.size = W2.heap.size + 1 := HT4.out.2; first | exact ((Below.refl _ _).alloc (Nat.le_refl _) _).drew.trans (hb3'.mono (by omega)) | exact ((Below.refl _ _).alloc (Nat.le_refl _) _).trans (hb3'.mono (by omega))); have HB3 : Hid (type_of% (HCT.out (W2.heap.size + 1) W2.heap.size w3 hb3 hcp4 hg3 (by omega) (Nat.le_refl _) (by omega))) := HCT.out (W2.heap.size + 1) W2.heap.size w3 hb3 hcp4 hg3 (by omega) (Nat.le_refl _) (by omega); clear hz3)
      | (go_at_call 30; (first | (with_reducible refine HA3.out.mono ?_) | (with_reducible refine HB3.out.mono ?_)); rintro e w4 ⟨g2, c, l, a1, l1, c1, a2, l2, c2, rfl, e1, e2, ⟨n0, n1, n2, n3⟩, hL, hb4⟩; obtain ⟨_, hr4, hw4⟩ := HBX.out w4 hb4; obtain ⟨⟨r0, r1, r2, r3⟩, rf⟩ := block4 hr4; have rf0 := rf 0; have rf1 := rf 1; have rf2 := rf 2; have rf3 := rf 3))
  all_goals
    have HC9 : Hid (cellsK t l = [.int .i64 t.kind, .string t.name, .slice a1 l1 c1, .slice a2 l2 c2]) := by show _ = _; unfold cellsK; rw [e1, e2]
    have HL : Hid (type_of% hL) := hL
    clear rf hr4 hL e1 e2 hb4
    go_wp2_with fail
    refine ret_cqI rfl (put4T fun j hj => ?_) ⟨l, by rw [HC9.out], ⟨HL.out.1.same fun b hb => put_other (by have := HL.out.2.2 b hb; omega), HL.out.2.1, fun b hb => by have := HL.out.2.2 b hb; omega⟩, put_below hw4 (by omega)⟩
    match j, hj with
    | 0, _ => rw [r0]; rfl
    | 1, _ => rw [r1]; rfl
    | 2, _ => rw [r2]; rfl
    | 3, _ => rw [r3]; rfl

end Go.Proofs.Ytpnalacdgnppmaa
