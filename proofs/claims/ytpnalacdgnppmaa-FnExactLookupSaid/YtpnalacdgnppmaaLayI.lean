/-
  The walks of the law's own helpers markType and heldType, over a type whose layout is known.
-/
import Derived.Test.YtpnalacdgnppmaaLayH
namespace Go.Proofs.Ytpnalacdgnppmaa
open Go.RowKit

/-- a type, all that it leads to marked from k on -/
def markTop : Nat → Nat → Ty → Ty
  | 0, _, t => t
  | n + 1, k, t => .mk t.kind t.name (marksL k t.names.length) (markKs n (k + t.names.length) t.kids)

set_option maxHeartbeats 1600000 in
set_option maxRecDepth 100000 in
theorem lawsMarkTyL (n : Nat) (l : Lay) (t : Ty) (k0 : Nat) (w : World) (h : LayAt w n l t) (hap : (Lay.blocks n l).Nodup) (hbk : Ty.bulk n t ≤ 1048576) (hk1 : 1 ≤ k0) (hk2 : k0 ≤ 100000000) :
    Calls Try.prog 11 #[.agg (cellsK t l).toArray, .int .i64 k0] w fun e w' => e = .returned (.int .i64 ((k0 + cntT n t : Nat) : Int)) ∧ LayAt w' n l (markTop n k0 t) ∧ OnlyL (Lay.blocks n l) w w' := by
  cases n with
  | zero => exact h.elim
  | succ m =>
    have hb : t_bulk t m := by unfold t_bulk; rw [Ty.bulk]; unfold rowBulk; omega
    unfold t_bulk at hb
    have hcb := cntRow_bulk m t.kids
    have hB1 : Below w.heap.size w (w.alloc (.cells (cellsK t l).toArray 27)) := (Below.refl _ _).alloc (Nat.le_refl _) _
    have h1 := h.below hB1
    obtain ⟨lp1, lp2⟩ := lay_apart hap
    obtain ⟨an, cn, hvn⟩ := h.1.slice
    obtain ⟨ak, ck, hvk⟩ := h.2.2.1.slice
    have HVN : Hid (l.vn = .slice an t.names.length cn) := hvn
    have HVK : Hid (l.vk = .slice ak t.kids.length ck) := hvk
    have hgw : ∀ b ∈ Lay.blocks (m + 1) l, b < w.heap.size := fun b hb => h.lt hb
    have HC0 := lawsMarkS _ t.names.length k0 _ _ h1.1 (by omega) (by omega) (by omega)
    have HCE : Hid (k0 + cntT (m + 1) t = k0 + t.names.length + cntRow m t.kids) := by show _ = _; rw [cntT]; unfold cntRow; omega
    have e0 : (cellsK t l).toArray = #[.int .i64 t.kind, .string t.name, .slice an t.names.length cn, .slice ak t.kids.length ck] := by unfold cellsK; rw [hvn, hvk]
    rw [e0] at h1 HC0 hB1 ⊢
    rw [hvn] at HC0
    have HC : Hid (type_of% HC0) := HC0
    have HL1 : Hid (type_of% h1) := h1
    clear HC0 h1 h e0 hvn hvk
    go_enter Try.func11, Try.ntmps11
    go_wp2_with fail
    refine HC.out.mono ?_
    rintro e w4 ⟨rfl, hn4, on4'⟩
    have on4 : OnlyL (blk l.vn) (w.alloc (.cells #[.int .i64 t.kind, .string t.name, .slice an t.names.length cn, .slice ak t.kids.length ck] 27)) w4 := by rw [HVN.out]; exact on4'
    clear on4'
    have hz4 : w.heap.size + 1 ≤ w4.heap.size := by have := on4.size; simpa using this
    have d3 : w4.cell? ⟨w.heap.size, 3, none⟩ = some (.slice ak t.kids.length ck) := cell_same (by rw [cellNew _ rfl]; rfl) (on4.block w.heap.size (by simp) fun hm => by have := hgw _ (mem_lay_names hm); omega)
    have HK4 : RowL w4 m l.vk l.ks t.kids := HL1.out.row.same fun b hb => on4.block b (by have := hgw b (mem_lay_row hb); simp; omega) fun hm => lp1 b hm hb
    have HC5 := lawsMarkRowL m _ _ _ (k0 + t.names.length) w4 HK4 lp2 (by omega) (by omega) (by omega)
    rw [show (((k0 + t.names.length : Nat)) : Int) = (k0 : Int) + t.names.length from by omega, HVK.out] at HC5
    have HC6 : Hid (type_of% HC5) := HC5
    clear HC5 HC HK4
    go_wp2_with fail
    refine HC6.out.mono ?_
    rintro e w5 ⟨rfl, hk5, on5⟩
    rw [← HVK.out] at hk5 on5
    rw [← HVN.out] at hn4
    have R1 : LayAt w5 (m + 1) l (markTop (m + 1) k0 t) := by
      refine ⟨?_, hk5.1, hk5.2.1, hk5.2.2⟩
      show OwnS w5 9 1 l.vn (marksL k0 t.names.length).length (strV (marksL k0 t.names.length))
      rw [marksL_len, ← marksV_eq]
      exact owns_same hn4 fun b hb => on5.block b (owns_lt hn4 hb) (lp1 b hb)
    have R2 : OnlyL (Lay.blocks (m + 1) l) w w5 := ((OnlyL.of_below hB1).trans (on4.mono fun x hx => mem_lay_names hx)).trans (on5.mono fun x hx => mem_lay_row hx)
    have HR1 : Hid (type_of% R1) := R1
    clear R1 hk5 hn4 on4 on5 d3 HC6
    go_wp2_with fail
    go_ret
    exact ⟨by rw [HCE.out]; rfl, HR1.out, R2⟩

set_option maxHeartbeats 1600000 in
set_option maxRecDepth 100000 in
theorem lawsHeldTyL (n : Nat) (l : Lay) (t : Ty) (k0 : Nat) (w : World) (h : LayAt w n l (markTop n k0 t)) (hbk : Ty.bulk n t ≤ 1048576) (hk1 : 1 ≤ k0) (hk2 : k0 ≤ 100000000) :
    Calls Try.prog 12 #[.agg (cellsK t l).toArray, .int .i64 k0] w fun e w' => e = .returned (.int .i64 ((k0 + cntT n t : Nat) : Int)) ∧ Below w.heap.size w w' := by
  cases n with
  | zero => exact h.elim
  | succ m =>
    have hb : t_bulk t m := by unfold t_bulk; rw [Ty.bulk]; unfold rowBulk; omega
    unfold t_bulk at hb
    have hcb := cntRow_bulk m t.kids
    have hB1 : Below w.heap.size w (w.alloc (.cells (cellsK t l).toArray 27)) := (Below.refl _ _).alloc (Nat.le_refl _) _
    have hN : OwnS w 9 1 l.vn t.names.length (marksV k0 t.names.length) := by
      have h := h.1
      have e1 : (markTop (m + 1) k0 t).names = marksL k0 t.names.length := rfl
      rw [e1, marksL_len, ← marksV_eq] at h
      exact h
    have hK : RowL w m l.vk l.ks (markKs m (k0 + t.names.length) t.kids) := h.row
    obtain ⟨an, cn, hvn⟩ := hN.slice
    obtain ⟨ak, ck, hvk⟩ := hK.2.1.slice
    rw [markKs_len] at hvk
    have e0 : (cellsK t l).toArray = #[.int .i64 t.kind, .string t.name, .slice an t.names.length cn, .slice ak t.kids.length ck] := by unfold cellsK; rw [hvn, hvk]
    rw [e0] at hB1 ⊢
    rw [hvn] at hN
    rw [hvk] at hK
    have HHN : Hid (∀ wx : World, Below w.heap.size w wx → Calls Try.prog 25 #[.slice an t.names.length cn, .int .i64 k0] wx fun e w' => e = .returned (.int .i64 ((k0 + t.names.length : Nat) : Int)) ∧ Below wx.heap.size wx w') := fun wx hx => lawsHeldS _ t.names.length k0 wx (hN.below hx) (by omega) (by omega) (by omega)
    have HHK : Hid (∀ wx : World, Below w.heap.size w wx → Calls Try.prog 26 #[.slice ak t.kids.length ck, .int .i64 ((k0 + t.names.length : Nat) : Int)] wx fun e w' => e = .returned (.int .i64 ((k0 + t.names.length + cntRow m t.kids : Nat) : Int)) ∧ Below wx.heap.size wx w') := fun wx hx => lawsHeldRowL m _ _ _ (k0 + t.names.length) wx (hK.below hx) (by omega) (by omega) (by omega)
    have HCE : Hid (k0 + cntT (m + 1) t = k0 + t.names.length + cntRow m t.kids) := by show _ = _; rw [cntT]; unfold cntRow; omega
    have hb1 : k0 + t.names.length ≤ 1000000000 := by omega
    have hb2 : k0 + t.names.length + cntRow m t.kids ≤ 1000000000 := by omega
    clear h hN hK hvn hvk e0
    generalize hS : k0 + t.names.length = S at *
    generalize hE : S + cntRow m t.kids = E at *
    clear hS hE
    go_enter Try.func12, Try.ntmps12
    go_wp2_with fail
    refine (HHN.out _ hB1).mono ?_
    rintro e w2 ⟨rfl, hb2⟩
    have hb02 := hB1.trans (hb2.mono (by simp))
    have d3 : w2.cell? ⟨w.heap.size, 3, none⟩ = some (.slice ak t.kids.length ck) := by
      rw [hb2.cell (p := ⟨w.heap.size, 3, none⟩) (by simp), cellNew _ rfl]; rfl
    clear hb2 HHN
    go_wp2_with fail
    refine (HHK.out _ hb02).mono ?_
    rintro e w3 ⟨rfl, hb3⟩
    clear HHK d3
    go_wp2_with fail
    go_ret
    exact ⟨by rw [HCE.out]; rfl, hb02.trans (hb3.mono hb02.size)⟩

end Go.Proofs.Ytpnalacdgnppmaa
