/-
  The walks of impl.typeKids, textsWeight, typeWeight, placeOf.
-/
import Derived.Test.YtpnalacdgnppmaaWtP
import Derived.Deep.LoopGhost
import Derived.Lib.QuietBelow
import Derived.BigQuiet
namespace Go.Proofs.Ytpnalacdgnppmaa
open Go.RowKit Go.Sort

set_option maxHeartbeats 400000 in
theorem implTypeKids (b off : Nat) (vk : Value) (w : World) (h : w.cell? ⟨b, off + 3, none⟩ = some vk) :
    Calls Try.prog 38 #[.pointer (some ⟨b, off, none⟩)] w fun e w' => e = .returned vk ∧ Below w.heap.size w w' := by
  go_enter Try.func38, Try.ntmps38
  go_wp2_with fail
  go_ret
  exact ⟨rfl, Below.refl _ _⟩

theorem textsBulk_more (ts : List ByteArray) (k : Nat) (h : k < ts.length) : Ty.textsBulk (ts.take (k + 1)) = Ty.textsBulk (ts.take k) + ts[k].size := by
  induction ts generalizing k with
  | nil => simp at h
  | cons a r ih =>
    cases k with
    | zero => simp [Ty.textsBulk]
    | succ k =>
      have := ih k (by simpa using h)
      simp only [List.take_succ_cons, Ty.textsBulk, List.getElem_cons_succ] at this ⊢
      omega
theorem textsBulk_take (ts : List ByteArray) (k : Nat) : Ty.textsBulk (ts.take k) ≤ Ty.textsBulk ts := by
  induction ts generalizing k with
  | nil => simp
  | cons a r ih =>
    cases k with
    | zero => simp [Ty.textsBulk]
    | succ k =>
      have := ih k
      simp only [List.take_succ_cons, Ty.textsBulk] at this ⊢
      omega

set_option maxHeartbeats 800000 in
theorem implTextsW (v : Value) (ts : List ByteArray) (w : World) (hT : Texts w v ts) (hb : 16 * ts.length + Ty.textsBulk ts ≤ 1000000000) :
    Calls Try.prog 46 #[v] w fun e w' => e = .returned (.int .i64 ((16 * ts.length + Ty.textsBulk ts : Nat) : Int)) ∧ Below w.heap.size w w' := by
  obtain ⟨a, cap, rfl, hc⟩ : ∃ a cap, v = .slice a ts.length cap ∧ ∀ j (h : j < ts.length), ∃ b off, a = some ⟨b, off, none⟩ ∧ w.cell? ⟨b, off + j, none⟩ = some (.string ts[j]) := by
    rcases hT with ⟨e, a, cap, e2⟩ | ⟨b, off, cap, e, hc⟩
    · subst e; exact ⟨a, cap, e2, fun j h => absurd h (by simp)⟩
    · exact ⟨_, cap, e, fun j h => ⟨b, off, rfl, hc j h⟩⟩
  have HC : Hid (type_of% hc) := hc
  clear hc hT
  have HB : Hid (type_of% hb) := hb
  have hln : ts.length ≤ 62500000 := by omega
  go_enter Try.func46, Try.ntmps46
  go_wp2_with fail
  go_loop [3, 8] (fun z i => ∃ k : Nat, k ≤ ts.length ∧ i = .int .i64 k ∧ z = .int .i64 ((16 * k + Ty.textsBulk (ts.take k) : Nat) : Int)) (fun _ i => ts.length - (intOf i).toNat)
  case atStart => exact ⟨0, Nat.zero_le _, rfl, by simp [Ty.textsBulk]⟩
  case round =>
    obtain ⟨k, hk, rfl, rfl⟩ := hrel
    by_cases hlt : k < ts.length
    · obtain ⟨b, off, rfl, c0⟩ := HC.out k hlt
      have HM : Hid (Ty.textsBulk (ts.take (k + 1)) = Ty.textsBulk (ts.take k) + ts[k].size) := textsBulk_more ts k hlt
      have h1 := textsBulk_take ts (k + 1)
      rw [HM.out] at h1
      have h2 := HB.out
      generalize ts[k] = p at *
      generalize Ty.textsBulk (ts.take k) = q at *
      go_wp2_with fail
      go_round
      case rel => exact ⟨k + 1, by omega, by go_num, by rw [HM.out]; congr 1; omega⟩
      case measure => simp [intOf]; omega
    · have hke : k = ts.length := by omega
      have HE : Hid (16 * k + Ty.textsBulk (ts.take k) = 16 * ts.length + Ty.textsBulk ts) := by
        show _ = _
        rw [hke, List.take_of_length_le (Nat.le_refl _)]
      have HE2 : Hid (16 * (k : Int) + (Ty.textsBulk (ts.take k) : Int) = 16 * (ts.length : Int) + (Ty.textsBulk ts : Int)) := by
        have := HE.out
        show _ = _
        omega
      clear hke
      go_wp2_with fail
      go_ret
      refine ⟨?_, Below.refl _ _⟩
      rw [← HE2.out]
      rfl

set_option maxHeartbeats 1600000 in
theorem implTypeW (b off : Nat) (t : Ty) (vn : Value) (ak : Option Addr) (ck : Nat) (w : World) (_c0 : w.cell? ⟨b, off, none⟩ = some (.int .i64 t.kind)) (c1 : w.cell? ⟨b, off + 1, none⟩ = some (.string t.name)) (c2 : w.cell? ⟨b, off + 2, none⟩ = some vn) (_c3 : w.cell? ⟨b, off + 3, none⟩ = some (.slice ak t.kids.length ck)) (hT : Texts w vn t.names) (hb : ownW t ≤ 1000000000) (_hk : t.kids.length ≤ 4000000000) :
    Calls Try.prog 37 #[.pointer (some ⟨b, off, none⟩)] w fun e w' => e = .returned (.int .i64 ((ownW t : Nat) : Int)) ∧ Below w.heap.size w w' := by
  have hb2 : 16 * t.names.length + Ty.textsBulk t.names ≤ 1000000000 := by unfold ownW at hb; omega
  have HT : Hid (∀ wx : World, Below w.heap.size w wx → Calls Try.prog 46 #[vn] wx fun e w' => e = .returned (.int .i64 ((16 * t.names.length + Ty.textsBulk t.names : Nat) : Int)) ∧ Below wx.heap.size wx w') := fun wx hx => implTextsW vn t.names wx (hT.below hx) hb2
  have HO : Hid (ownW t = 72 + t.name.size + (16 * t.names.length + Ty.textsBulk t.names)) := rfl
  have hs : t.name.size ≤ 1000000000 := by unfold ownW at hb; omega
  obtain ⟨a, cap, ln, rfl⟩ : ∃ a cap ln, vn = .slice a ln cap := by
    rcases hT with ⟨e, a, cap, e2⟩ | ⟨b, off, cap, e, hc⟩
    · exact ⟨a, cap, _, e2⟩
    · exact ⟨_, cap, _, e⟩
  clear hT hb
  have q1 : ∀ d os, (grow (redrawn w d) os).cell? ⟨b, off + 1, none⟩ = _ := fun d os => cell_regrown c1 d os
  have q2 : ∀ d os, (grow (redrawn w d) os).cell? ⟨b, off + 2, none⟩ = _ := fun d os => cell_regrown c2 d os
  generalize 16 * t.names.length + Ty.textsBulk t.names = q at *
  generalize t.name = s at *
  go_enter Try.func37, Try.ntmps37
  go_wp2_with fail
  refine wp_region_quiet_below (by kernel_rfl) (by kernel_rfl) ?_
  repeat (go_big_quiet_step (exact Calls.regrown_of (HT.out _ (below_regrown w _ _))))
  refine wpQuiet_nil ?_
  intro _ hw'
  obtain ⟨⟨dq, osq⟩, hw''⟩ := hw'
  subst hw''
  have D2 := below_regrown w dq osq
  clear q1 q2
  generalize grow (redrawn w dq) osq = w2 at *
  go_wp2_with fail
  go_ret
  refine ⟨?_, D2⟩
  rw [HO.out]
  go_num

end Go.Proofs.Ytpnalacdgnppmaa
