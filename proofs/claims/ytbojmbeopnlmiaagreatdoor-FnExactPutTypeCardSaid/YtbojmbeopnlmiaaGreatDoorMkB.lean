/-
  The walks of a form's base, and of impl.heightOf.
-/
import Derived.Test.YtbojmbeopnlmiaaGreatDoorMkS
import Derived.Test.YtbojmbeopnlmiaaGreatDoorNewI
namespace Go.Proofs.YtbojmbeopnlmiaaGreatDoor
open Go.RowKit

theorem methBase (k : Int) (a : Addr) (w : World) (ha : a.off = 0) : Sem.run Tryz.prog (Go.method 361 (ptT k) (.pointer (some a)) "loop.example/g00276/impl.base") w = .ok (210, .pointer (some a)) w := by
  obtain ⟨b, off, p⟩ := a
  simp only at ha
  subst ha
  unfold ptT
  repeat' split
  all_goals kernel_rfl

set_option maxHeartbeats 800000 in
set_option maxRecDepth 100000 in
theorem implBase (a : Addr) (w : World) : Calls Tryz.prog 210 #[.pointer (some a)] w fun e w' => e = .returned (.pointer (some a)) ∧ w' = w := by
  go_enter Tryz.func210, Tryz.ntmps210
  go_wp2_with fail
  go_ret
  exact ⟨rfl, rfl⟩

/-- what a form's cells read as -/
theorem FormOk.cells {C : MkC} {w : World} {M : Mk} {k : Nat} {r : FRec} (h : FormOk C w M k r) : w.cell? ⟨r.blk, 0, none⟩ = some (.int .i64 k) ∧ w.cell? ⟨r.blk, 1, none⟩ = some r.vk ∧ w.cell? ⟨r.blk, 2, none⟩ = some (.int .i64 (Ty.hi r.ty)) := by
  obtain ⟨vp, sz, h1, _⟩ := h.obj
  refine ⟨?_, ?_, ?_⟩
  · rw [cell_of_row w r.blk 0 _ _ (0, 0) h1]; simp [FRec.cells]
  · rw [cell_of_row w r.blk 1 _ _ (0, 0) h1]; simp [FRec.cells]
  · rw [cell_of_row w r.blk 2 _ _ (0, 0) h1]; simp [FRec.cells]

/-- a row of forms, opened -/
theorem VRow.open {A : Nat → Prop} {w : World} {v : Value} {l : List Value} (h : VRow A w v l) : ∃ a cap, v = .slice a l.length cap ∧ ∀ j (hj : j < l.length), ∃ b, a = some ⟨b, 0, none⟩ ∧ A b ∧ w.cell? ⟨b, j, none⟩ = some l[j] := by
  rcases h with ⟨e, a, cap, e2⟩ | ⟨b, cap, e, _, ha, hc⟩
  · subst e
    exact ⟨a, cap, e2, fun j hj => absurd hj (by simp)⟩
  · exact ⟨_, cap, e, fun j hj => ⟨b, rfl, ha, hc j hj⟩⟩

theorem VRow.cap {A : Nat → Prop} {w : World} {a : Option Addr} {n c : Nat} {l : List Value} (h : VRow A w (.slice a n c) l) (hl : 0 < l.length) : n ≤ c := by
  rcases h with ⟨e, _⟩ | ⟨b, cap, e, hle, _⟩
  · rw [e] at hl; simp at hl
  · simp only [Value.slice.injEq] at e
    omega

theorem take_more {ts : List Ty} {k : Nat} (h : k < ts.length) : hiMost (ts.take (k + 1)) = max (hiMost (ts.take k)) (Ty.hi ts[k]) := by
  unfold hiMost
  rw [List.take_succ_eq_append_getElem h, List.foldl_append]
  rfl

theorem ptr_iface (k : Int) (b : Nat) : ∃ T, Value.iface (ptT k) (.pointer (some ⟨b, 0, none⟩)) = .iface T (.pointer (some ⟨b, 0, none⟩)) := ⟨_, rfl⟩

set_option maxHeartbeats 1600000 in
set_option maxRecDepth 100000 in
theorem implHeightOf (C : MkC) (M : Mk) (v : Value) (ks : List Nat) (ts : List Ty) (A : Nat → Prop) (w : World) (hM : MkAt C w M) (hv : VRow A w v (ks.map (valAt M.F))) (hk : KidsOf M.F ks ts) (hl : ks.length ≤ 281474976710656) :
    Calls Tryz.prog 118 #[v] w fun e w' => e = .returned (.int .i64 (hiMost ts)) ∧ w' = w := by
  obtain ⟨av, capv, rfl, hel⟩ := hv.open
  rw [List.length_map] at *
  have hle : ts.length = ks.length := hk.1.symm
  have HEL : Hid (∀ k, k < ts.length → ∃ b T bb, av = some ⟨b, 0, none⟩ ∧ w.cell? ⟨b, k, none⟩ = some (.iface T (.pointer (some ⟨bb, 0, none⟩))) ∧ (∀ wx : World, Sem.run Tryz.prog (Go.method 361 T (.pointer (some ⟨bb, 0, none⟩)) "loop.example/g00276/impl.base") wx = .ok (210, .pointer (some ⟨bb, 0, none⟩)) wx) ∧ ∃ t : Ty, ts[k]? = some t ∧ w.cell? ⟨bb, 2, none⟩ = some (.int .i64 (Ty.hi t)) ∧ Ty.hi t ≤ 12) := fun k hk' => by
    obtain ⟨b, e1, _, e2⟩ := hel k (by rw [List.length_map]; omega)
    obtain ⟨r, e3, e4⟩ := hk.2 k (by omega)
    have hF := hM.each _ r e3
    refine ⟨b, ptT r.ty.kind, r.blk, e1, ?_, fun wx => methBase _ _ _ rfl, r.ty, e4, hF.cells.2.2, hF.ok.hi_le⟩
    rw [e2, List.getElem_map, valAt_some e3]
    rfl
  have hcap : ks.length ≤ 281474976710656 := hl
  have HLE : Hid (ts.length = ks.length) := hle
  have hm0 : hiMost (ts.take 0) = 0 := rfl
  have HB : Hid (∀ (a : Addr) (wx : World), Calls Tryz.prog 210 #[.pointer (some a)] wx fun e w' => e = .returned (.pointer (some a)) ∧ w' = wx) := implBase
  clear hel hk hM hv hle
  generalize ks.length = nk at *
  go_enter Tryz.func118, Tryz.ntmps118
  go_wp2_with fail
  go_loopw [3, 8] (fun m i wr => ∃ k : Nat, k ≤ nk ∧ i = .int .i64 k ∧ m = .int .i64 (hiMost (ts.take k)) ∧ hiMost (ts.take k) ≤ 12 ∧ wr = w) (fun _ i _ => nk - (intOf i).toNat)
  case atStart => exact ⟨0, Nat.zero_le _, rfl, by rw [hm0]; rfl, by rw [hm0]; omega, rfl⟩
  case round =>
    obtain ⟨k, hkn, rfl, rfl, h12, rfl⟩ := hrel
    by_cases hlt : k < nk
    · obtain ⟨b, T, bb, rfl, c0, hmeth, t, et, c2, ht12⟩ := HEL.out k (by rw [HLE.out]; exact hlt)
      have hmt := hmeth wr
      have HN0 : hiMost (ts.take (k + 1)) = max (hiMost (ts.take k)) (Ty.hi t) := by
        have hlt2 : k < ts.length := by rw [HLE.out]; exact hlt
        rw [List.getElem?_eq_getElem hlt2, Option.some.injEq] at et
        rw [take_more hlt2, et]
      have HN : Hid (type_of% HN0) := HN0
      clear et hmeth HEL HN0
      generalize hiMost (ts.take k) = m at *
      generalize Ty.hi t = ht at *
      go_wp2_with (go_at_call 210; refine (HB.out _ _).mono ?_; rintro e w2 ⟨rfl, rfl⟩)
      go_roundw
      case rel => exact ⟨k + 1, by omega, by go_num, by rw [HN.out]; congr 1; omega, by rw [HN.out]; omega, by simp⟩
      case measure => simp [intOf]; omega
    · have e : ts.take k = ts := List.take_of_length_le (by rw [HLE.out]; omega)
      rw [e] at *
      clear HEL
      go_wp2_with fail
      go_ret
      exact ⟨rfl, rfl⟩

end Go.Proofs.YtbojmbeopnlmiaaGreatDoor
