/-
  The walks of the laws' own helpers eqNamed and eqNamedS, at two values that hold the same.
  A type that is handed in, opened: the four cells that are read as a type hold a tree.
  A list of names and types that is handed in, opened.
-/
import Derived.Test.YtllbfbllkefjeaaGreatDoorNmD
import Derived.Test.YtllbfbllkefjeaaGreatDoorTyP
import Derived.Deep.Strs
import Derived.ProofKit
import Derived.OpenShut
namespace Go.Proofs.YtllbfbllkefjeaaGreatDoor
open Go.RowKit

set_option maxHeartbeats 800000 in
set_option maxRecDepth 100000 in
theorem lawsEqNm (n : Nat) (nm : ByteArray) (x0 x1 x2 x3 y0 y1 y2 y3 : Value) (t : Ty) (w : World) (hA : TyAt w n [x0, x1, x2, x3] t) (hB : TyAt w n [y0, y1, y2, y3] t) (hbk : Ty.bulk n t ≤ 1048576) :
    Calls Tryz.prog 125 #[.agg #[.string nm, x0, x1, x2, x3], .agg #[.string nm, y0, y1, y2, y3]] w fun e w' => e = .returned (.bool true) ∧ Below w.heap.size w w' := by
  have hB2 : Below w.heap.size w ((w.alloc (.cells #[.string nm, x0, x1, x2, x3] 170)).alloc (.cells #[.string nm, y0, y1, y2, y3] 170)) := ((Below.refl _ _).alloc (Nat.le_refl _) _).alloc (by simp) _
  have HK : Hid (Calls Tryz.prog 145 #[.agg #[x0, x1, x2, x3], .agg #[y0, y1, y2, y3]] ((w.alloc (.cells #[.string nm, x0, x1, x2, x3] 170)).alloc (.cells #[.string nm, y0, y1, y2, y3] 170)) fun e w' => e = .returned (.bool true) ∧ Below ((w.alloc (.cells #[.string nm, x0, x1, x2, x3] 170)).alloc (.cells #[.string nm, y0, y1, y2, y3] 170)).heap.size ((w.alloc (.cells #[.string nm, x0, x1, x2, x3] 170)).alloc (.cells #[.string nm, y0, y1, y2, y3] 170)) w') := lawsEqTy n _ _ t _ (hA.below hB2) (hB.below hB2) hbk
  clear hA hB hbk
  go_enter Tryz.func125, Tryz.ntmps125
  go_wp2_with fail
  refine HK.out.mono ?_
  rintro e w3 ⟨rfl, hb3⟩
  go_wp2_with fail
  go_ret
  exact ⟨rfl, hB2.trans (hb3.mono (by simp; omega))⟩

set_option maxHeartbeats 800000 in
set_option maxRecDepth 100000 in
theorem lawsEqEnv (n : Nat) (va vb : Value) (es : List (ByteArray × Ty)) (w : World) (hA : EnvAt w n va es) (hB : EnvAt w n vb es) (hkl : envBulk n es ≤ 1048576) :
    Calls Tryz.prog 107 #[va, vb] w fun e w' => e = .returned (.bool true) ∧ Below w.heap.size w w' := by
  obtain ⟨a, capa, rfl, ha⟩ := envOpen hA
  obtain ⟨b, capb, rfl, hb⟩ := envOpen hB
  have HEA : Hid (type_of% ha) := ha
  have HEB : Hid (type_of% hb) := hb
  have hlen : es.length ≤ 1048576 := by unfold envBulk at hkl; omega
  clear hA hB ha hb
  go_enter Tryz.func107, Tryz.ntmps107
  go_wp2_with fail
  go_loopw [5] (fun i wr => ∃ k : Nat, k ≤ es.length ∧ i = .int .i64 k ∧ Below w.heap.size w wr) (fun i _ => es.length - (intOf i).toNat)
  case atStart => exact ⟨0, Nat.zero_le _, rfl, Below.refl _ _⟩
  case round =>
    obtain ⟨k, hk, rfl, hbe⟩ := hrel
    by_cases hlt : k < es.length
    · obtain ⟨ba, oa, x0, x1, x2, x3, rfl, hba, _, hta, a0, a1, a2, a3, a4⟩ := HEA.out k hlt
      obtain ⟨bb, ob, y0, y1, y2, y3, rfl, hbb, _, htb, b0, b1, b2, b3, b4⟩ := HEB.out k hlt
      have A0 := (hbe.cell (p := ⟨ba, oa + k * 5, none⟩) hba).trans a0
      have A1 := (hbe.cell (p := ⟨ba, oa + k * 5 + 1, none⟩) hba).trans a1
      have A2 := (hbe.cell (p := ⟨ba, oa + k * 5 + 2, none⟩) hba).trans a2
      have A3 := (hbe.cell (p := ⟨ba, oa + k * 5 + 3, none⟩) hba).trans a3
      have A4 := (hbe.cell (p := ⟨ba, oa + k * 5 + 4, none⟩) hba).trans a4
      have B0 := (hbe.cell (p := ⟨bb, ob + k * 5, none⟩) hbb).trans b0
      have B1 := (hbe.cell (p := ⟨bb, ob + k * 5 + 1, none⟩) hbb).trans b1
      have B2 := (hbe.cell (p := ⟨bb, ob + k * 5 + 2, none⟩) hbb).trans b2
      have B3 := (hbe.cell (p := ⟨bb, ob + k * 5 + 3, none⟩) hbb).trans b3
      have B4 := (hbe.cell (p := ⟨bb, ob + k * 5 + 4, none⟩) hbb).trans b4
      have hbk := env_bulk n es k hlt
      have HC : Hid (∀ wx : World, Below wr.heap.size wr wx → Calls Tryz.prog 125 #[.agg #[.string es[k].1, x0, x1, x2, x3], .agg #[.string es[k].1, y0, y1, y2, y3]] wx fun e w' => e = .returned (.bool true) ∧ Below wx.heap.size wx w') := fun wx hx => lawsEqNm n _ x0 x1 x2 x3 y0 y1 y2 y3 _ wx ((hta.below hbe).below hx) ((htb.below hbe).below hx) (by omega)
      clear a0 a1 a2 a3 a4 b0 b1 b2 b3 b4 HEA HEB hta htb hbk
      generalize es[k].1 = nm at *
      have hk0 : (0 : Int) ≤ k := by omega
      have hk1 : (k : Int) < es.length := by omega
      go_wp2_with fail
      go_region_with (go_at_call 125; refine (HC.out _ ((Below.refl _ _).drew)).mono ?_; rintro e w2 ⟨rfl, hb2⟩)
      all_goals
        go_wp2_with fail
        go_roundw
        case rel => exact ⟨k + 1, by omega, by go_num, hbe.trans ((((Below.refl _ _).drew).trans hb2).mono hbe.size)⟩
        case measure => simp [intOf]; omega
    · clear HEA HEB
      go_wp2_with fail
      go_ret
      exact ⟨rfl, hbe⟩

end Go.Proofs.YtllbfbllkefjeaaGreatDoor

namespace Go.Proofs.YtllbfbllkefjeaaGreatDoor
open Go.ChangeShapes Go.WideShapes Go.ChangeAt Go.RowKit

theorem RowAt.map {w : World} {R R' : List Value → Ty → Prop} {v : Value} {ts : List Ty} (h : RowAt w R v ts) (hR : ∀ cs t, t ∈ ts → R cs t → R' cs t) : RowAt w R' v ts := h.below (Below.refl _ _) hR

theorem TyAt.mono {w : World} {n m : Nat} {cs : List Value} {t : Ty} (h : TyAt w n cs t) (hnm : n ≤ m) : TyAt w m cs t := by
  induction n generalizing m cs t with
  | zero => exact h.elim
  | succ n ih =>
    obtain ⟨k, rfl⟩ : ∃ k, m = k + 1 := ⟨m - 1, by omega⟩
    obtain ⟨vn, vk, h1, h2, h3, h4, h5, h6⟩ := h
    exact ⟨vn, vk, h1, h2, h3, h4, h5, h6.map fun cs t _ h => ih h (by omega)⟩

theorem opened_texts {H : Type} {enc : TypeId × Value → H} {W : World} {base : Nat} {sp : Nat → Bool} {held : Bool} {fuel : Nat} {v : Value} {x : DataW H × List MemPlace} (h : DataW.trod enc Tryz.prog W base sp held fuel 123 [v] = some x) :
    ∃ ts, Texts W v ts ∧ ts.length ≤ maxLen ∧ ∀ t ∈ ts, t.size ≤ maxLen := by
  rcases open_strings Tryz.underlying123 Tryz.underlying9 (by kernel_rfl) h with ⟨hcs, _⟩ | ⟨a, l, c, ss, hcs, _, hlc, hm, hz, _, hcell, hws⟩
  · obtain rfl : v = .slice none 0 0 := by simpa using hcs
    exact ⟨[], .inl ⟨rfl, _, _, rfl⟩, by simp, by simp⟩
  · obtain rfl : v = .slice (some a) l c := by simpa using hcs
    have hzl : l ≤ ss.length := by rw [hz]; split <;> omega
    have hlen : (ss.take l).length = l := by simp; omega
    refine ⟨ss.take l, ?_, by omega, fun t ht => hws t (List.mem_of_mem_take ht)⟩
    by_cases h00 : l = 0
    · subst h00
      exact .inl ⟨by simp, _, _, rfl⟩
    · obtain ⟨b, off, spot⟩ := a
      have hc := hcell 0 (by omega)
      have hspot : spot = none := by simpa [Addr.add] using World.cell?_spot hc
      subst hspot
      refine .inr ⟨b, off, c, by rw [hlen], fun j hj => ?_⟩
      have hjl : j < ss.length := by omega
      have := hcell j hjl
      rw [Addr.add_lit] at this
      rw [this]
      simp [hjl]

end Go.Proofs.YtllbfbllkefjeaaGreatDoor

namespace Go.Proofs.YtllbfbllkefjeaaGreatDoor
open Go.ChangeShapes Go.WideShapes Go.ChangeAt Go.RowKit

end Go.Proofs.YtllbfbllkefjeaaGreatDoor
