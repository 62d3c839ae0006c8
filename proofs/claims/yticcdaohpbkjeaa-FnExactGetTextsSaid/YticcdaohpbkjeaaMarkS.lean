/-
  The walks of the law's own helpers markStringS (it writes marks into a list that is its caller's own) and heldStringS (it finds them there).
-/
import Derived.Test.YticcdaohpbkjeaaMarkW
import Derived.Test.YticcdaohpbkjeaaGetTextsW
namespace Go.Proofs.Yticcdaohpbkjeaa
open Go.RowKit

def marksV (k0 n : Nat) : List Value := (List.range n).map fun j => Value.string (markB (k0 + j))
theorem marksV_length (k0 n : Nat) : (marksV k0 n).length = n := by simp [marksV]
theorem marksV_get (k0 n j : Nat) (h : j < n) : (marksV k0 n)[j]? = some (.string (markB (k0 + j))) := by simp [marksV, h]
theorem marksV_more (k0 n : Nat) : marksV k0 (n + 1) = marksV k0 n ++ [.string (markB (k0 + n))] := by simp [marksV, List.range_succ]
def halfM (xs : List Value) (k0 j : Nat) : List Value := marksV k0 j ++ xs.drop j
theorem halfM_set (xs : List Value) (k0 j : Nat) (h : j < xs.length) : (halfM xs k0 j).set j (.string (markB (k0 + j))) = halfM xs k0 (j + 1) := by
  unfold halfM
  rw [List.set_append_right _ _ (by rw [marksV_length]; exact Nat.le_refl _), marksV_length, Nat.sub_self, List.drop_eq_getElem_cons h, List.set_cons_zero, marksV_more, List.append_assoc]
  rfl

set_option maxHeartbeats 400000 in
theorem lawsMarkS (v : Value) (n B k0 : Nat) (xs : List Value) (w : World) (hown : w.ownsRow B 9 1 v n xs) (hB : B ≤ w.heap.size) (hn : n ≤ 1048576) (hk : 1 ≤ k0) (hk2 : k0 ≤ 1000000000) :
    Calls Try.prog 18 #[v, .int .i64 k0] w fun e w' => e = .returned (.int .i64 ((k0 + n : Nat) : Int)) ∧ w'.ownsRow B 9 1 v n (marksV k0 n) ∧ Below B w w' := by
  have hxs : xs.length = n := by have := hown.1; omega
  by_cases hn0 : n = 0
  · subst hn0
    have hx : xs = [] := List.length_eq_zero_iff.1 hxs
    subst hx
    obtain ⟨a, cap, rfl⟩ := slice_of_own hown
    have HO : Hid (w.ownsRow B 9 1 (.slice a 0 cap) 0 []) := hown
    clear hown hxs
    go_enter Try.func18, Try.ntmps18
    go_wp2
    refine wp_loop_rounds 1 ?_
    rw [rounds_succ]
    go_wp2
    go_ret
    exact ⟨rfl, HO.out, Below.refl _ _⟩
  · obtain ⟨g, cap, rfl, hg⟩ : ∃ g cap, v = .slice (some ⟨g, 0, none⟩) n cap ∧ B ≤ g := by
      rcases hown.2 with ⟨_, h⟩ | ⟨g, cap, cur, hv, hg, _⟩
      · exact absurd h hn0
      · exact ⟨g, cap, hv, hg⟩
    go_enter Try.func18, Try.ntmps18
    go_wp2
    go_loopw [1, 5] (fun k i wr => ∃ j : Nat, j ≤ n ∧ i = .int .i64 j ∧ k = .int .i64 ((k0 + j : Nat) : Int) ∧ wr.ownsRow B 9 1 (.slice (some ⟨g, 0, none⟩) n cap) n (halfM xs k0 j) ∧ Below B w wr ∧ B ≤ wr.heap.size) (fun _ i _ => n - (intOf i).toNat)
    case atStart => exact ⟨0, Nat.zero_le _, rfl, rfl, hown, Below.refl _ _, hB⟩
    case round =>
      obtain ⟨j, hj, rfl, rfl, ho, hbe, hsz⟩ := hrel
      clear hown
      by_cases hlt : j < n
      · have HS : Hid ((halfM xs k0 j).set j (.string (markB (k0 + j))) = halfM xs k0 (j + 1)) := halfM_set xs k0 j (by omega)
        have HM : Hid (∀ wx : World, Calls Try.prog 26 #[.int .i64 ((k0 : Int) + j)] wx fun e w' => e = .returned (.string (markB (k0 + j))) ∧ Below wx.heap.size wx w') := fun wx => by
          have := lawsMark (k0 + j) wx (by omega) (by omega)
          rw [show (((k0 + j : Nat)) : Int) = (k0 : Int) + j from by omega] at this
          exact this
        generalize markB (k0 + j) = V at *
        go_wp2_with fail
        refine (HM.out _).mono ?_
        rintro e w2 ⟨rfl, hb2⟩
        have ho2 := own_below ho hb2
        have hbe2 : Below B w w2 := hbe.trans (hb2.mono hsz)
        have hsz2 : B ≤ w2.heap.size := Nat.le_trans hsz hb2.size
        have hfz := ho2.frozenAt j
        have hold : ∃ u, w2.cell? ⟨g, j, none⟩ = some u := by
          rw [ho2.cellAt j (by omega)]
          have : j < (halfM xs k0 j).length := by simp [halfM, marksV]; omega
          exact ⟨_, List.getElem?_eq_getElem this⟩
        obtain ⟨u, hold⟩ := hold
        obtain ⟨R1, _⟩ := ho2.stored j (.string V)
        rw [HS.out] at R1
        have R2 : Below B w (w2.setCell ⟨g, j, none⟩ (.string V)) := hbe2.setCell hg _
        have R3 : B ≤ (w2.setCell ⟨g, j, none⟩ (.string V)).heap.size := by simpa using hsz2
        clear ho ho2 hbe hb2 hbe2 hsz hsz2
        go_wp2
        go_roundw
        case rel => exact ⟨j + 1, by omega, by go_num, by go_num, R1, R2, R3⟩
        case measure => simp [intOf]; omega
      · have hje : j = n := by omega
        subst hje
        have he : halfM xs k0 j = marksV k0 j := by unfold halfM; rw [List.drop_of_length_le (by omega), List.append_nil]
        rw [he] at ho
        go_wp2
        go_ret
        exact ⟨rfl, ho, hbe⟩

set_option maxHeartbeats 400000 in
theorem lawsHeldS (v : Value) (n B k0 : Nat) (w : World) (hown : w.ownsRow B 9 1 v n (marksV k0 n)) (hn : n ≤ 1048576) (hk : 1 ≤ k0) (hk2 : k0 ≤ 1000000000) :
    Calls Try.prog 19 #[v, .int .i64 k0] w fun e w' => e = .returned (.int .i64 ((k0 + n : Nat) : Int)) ∧ Below w.heap.size w w' := by
  by_cases hn0 : n = 0
  · subst hn0
    obtain ⟨a, cap, rfl⟩ := slice_of_own hown
    clear hown
    go_enter Try.func19, Try.ntmps19
    go_wp2
    refine wp_loop_rounds 1 ?_
    rw [rounds_succ]
    go_wp2
    go_ret
    exact ⟨rfl, Below.refl _ _⟩
  · obtain ⟨g, cap, rfl⟩ : ∃ g cap, v = .slice (some ⟨g, 0, none⟩) n cap := by
      rcases hown.2 with ⟨_, h⟩ | ⟨g, cap, cur, hv, hg, _⟩
      · exact absurd h hn0
      · exact ⟨g, cap, hv⟩
    have HC : Hid (∀ j, j < n → w.cell? ⟨g, j, none⟩ = some (.string (markB (k0 + j)))) := fun j hj => by
      rw [hown.cellAt j (by omega), marksV_get k0 n j hj]
    have hgl : g < w.heap.size := (hown.lt g rfl).2
    clear hown
    go_enter Try.func19, Try.ntmps19
    go_wp2
    go_loopw [1, 5] (fun k i wr => ∃ j : Nat, j ≤ n ∧ i = .int .i64 j ∧ k = .int .i64 ((k0 + j : Nat) : Int) ∧ Below w.heap.size w wr) (fun _ i _ => n - (intOf i).toNat)
    case atStart => exact ⟨0, Nat.zero_le _, rfl, rfl, Below.refl _ _⟩
    case round =>
      obtain ⟨j, hj, rfl, rfl, hbe⟩ := hrel
      by_cases hlt : j < n
      · have HM : Hid (∀ wx : World, Calls Try.prog 26 #[.int .i64 ((k0 : Int) + j)] wx fun e w' => e = .returned (.string (markB (k0 + j))) ∧ Below wx.heap.size wx w') := fun wx => by
          have := lawsMark (k0 + j) wx (by omega) (by omega)
          rw [show (((k0 + j : Nat)) : Int) = (k0 : Int) + j from by omega] at this
          exact this
        have hcell := (hbe.cell (p := ⟨g, j, none⟩) hgl).trans (HC.out j hlt)
        have hglr : g < wr.heap.size := Nat.lt_of_lt_of_le hgl hbe.size
        generalize markB (k0 + j) = V at *
        have hj0 : (0 : Int) ≤ j := by omega
        have hj1 : (j : Int) < n := by omega
        go_wp2_with fail
        go_region_with (go_at_call 26; refine (HM.out _).mono ?_; rintro e w2 ⟨rfl, hb2⟩; have hcell2 := (hb2.cell (p := ⟨g, j, none⟩) hglr).trans hcell)
        all_goals
          go_wp2
          go_roundw
          case rel => exact ⟨j + 1, by omega, by go_num, by go_num, hbe.trans ((((Below.refl _ _).drew).trans hb2).mono hbe.size)⟩
          case measure => simp [intOf]; omega
      · have hje : j = n := by omega
        subst hje
        go_wp2
        go_ret
        exact ⟨rfl, hbe⟩

end Go.Proofs.Yticcdaohpbkjeaa
