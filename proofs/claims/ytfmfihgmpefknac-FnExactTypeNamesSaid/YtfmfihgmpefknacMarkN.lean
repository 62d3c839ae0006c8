/-
  The walks of the law's own helpers markStringS and heldStringS, with what of memory they let be.
-/
import Derived.Test.YtfmfihgmpefknacMarkB
import Derived.Test.YtfmfihgmpefknacToTy
namespace Go.Proofs.Ytfmfihgmpefknac
open Go.RowKit

/-- nothing has turned but blocks from lo up to hi, and new ones -/
structure Only (lo hi : Nat) (w w' : World) : Prop where
  os : w'.os = w.os
  tape : w'.tape = w.tape
  output : w'.output = w.output
  size : w.heap.size ≤ w'.heap.size
  block : ∀ b, b < w.heap.size → b < lo ∨ hi ≤ b → w'.heap[b]? = w.heap[b]?
theorem Only.refl (lo hi : Nat) (w : World) : Only lo hi w w := ⟨rfl, rfl, rfl, Nat.le_refl _, fun _ _ _ => rfl⟩
theorem Only.trans {lo hi : Nat} {a b c : World} (h : Only lo hi a b) (k : Only lo hi b c) : Only lo hi a c := ⟨k.os.trans h.os, k.tape.trans h.tape, k.output.trans h.output, Nat.le_trans h.size k.size, fun x hx ho => (k.block x (Nat.lt_of_lt_of_le hx h.size) ho).trans (h.block x hx ho)⟩
theorem Only.mono {lo hi lo' hi' : Nat} {a b : World} (h : Only lo hi a b) (hl : lo' ≤ lo) (hh : hi ≤ hi') : Only lo' hi' a b := ⟨h.os, h.tape, h.output, h.size, fun x hx ho => h.block x hx (by omega)⟩
theorem Only.of_below {lo hi : Nat} {w w' : World} (h : Below w.heap.size w w') : Only lo hi w w' := ⟨h.os, h.tape, h.output, h.size, fun x hx _ => h.block x hx⟩
theorem Only.set {lo hi : Nat} (w : World) (a : Addr) (u : Value) (h : lo ≤ a.block ∧ a.block < hi) : Only lo hi w (w.setCell a u) := by
  have h0 : Below 0 w (w.setCell a u) := (Below.refl 0 w).setCell (Nat.zero_le _) u
  exact ⟨h0.os, h0.tape, h0.output, h0.size, fun b _ ho => Below.heap_setCell w a u b (by omega)⟩
theorem Only.below {lo hi B : Nat} {w w' : World} (h : Only lo hi w w') (hB : B ≤ lo) (hw : B ≤ w.heap.size) : Below B w w' := ⟨h.os, h.tape, h.output, h.size, fun x hx => h.block x (by omega) (.inl (by omega))⟩
theorem Only.same {lo hi lo' hi' : Nat} {w w' : World} (h : Only lo hi w w') (hs : hi' ≤ w.heap.size) (hd : hi' ≤ lo ∨ hi ≤ lo') : Same lo' hi' w w' := fun b h1 h2 => h.block b (by omega) (by omega)

def marksV (k0 n : Nat) : List Value := (List.range n).map fun j => Value.string (markB (k0 + j))
theorem marksV_length (k0 n : Nat) : (marksV k0 n).length = n := by simp [marksV]
theorem marksV_get (k0 n j : Nat) (h : j < n) : (marksV k0 n)[j]? = some (.string (markB (k0 + j))) := by simp [marksV, h]
theorem marksV_more (k0 n : Nat) : marksV k0 (n + 1) = marksV k0 n ++ [.string (markB (k0 + n))] := by simp [marksV, List.range_succ]
def halfM (xs : List Value) (k0 j : Nat) : List Value := marksV k0 j ++ xs.drop j
theorem halfM_set (xs : List Value) (k0 j : Nat) (h : j < xs.length) : (halfM xs k0 j).set j (.string (markB (k0 + j))) = halfM xs k0 (j + 1) := by
  unfold halfM
  rw [List.set_append_right _ _ (by rw [marksV_length]; exact Nat.le_refl _), marksV_length, Nat.sub_self, List.drop_eq_getElem_cons h, List.set_cons_zero, marksV_more, List.append_assoc]
  rfl
theorem slice_ownM {w : World} {B e z : Nat} {v : Value} {n : Nat} {xs : List Value} (h : w.ownsRow B e z v n xs) : ∃ a cap, v = .slice a n cap := by
  rcases h.2 with ⟨rfl, h0⟩ | ⟨g, cap, cur, hv, _⟩
  · exact ⟨none, 0, by rw [h0]⟩
  · exact ⟨_, cap, hv⟩

set_option maxHeartbeats 400000 in
theorem lawsMarkN (v : Value) (n B lo hi k0 : Nat) (xs : List Value) (w : World) (hown : w.ownsRow B 9 1 v n xs) (hin : ∀ g, v.ownBlock = some g → lo ≤ g ∧ g < hi) (hn : n ≤ 1048577) (hk : 1 ≤ k0) (hk2 : k0 ≤ 1000000000) :
    Calls Try.prog 14 #[v, .int .i64 k0] w fun e w' => e = .returned (.int .i64 ((k0 + n : Nat) : Int)) ∧ w'.ownsRow B 9 1 v n (marksV k0 n) ∧ Only lo hi w w' := by
  have hxs : xs.length = n := by have := hown.1; omega
  by_cases hn0 : n = 0
  · subst hn0
    have hx : xs = [] := List.length_eq_zero_iff.1 hxs
    subst hx
    obtain ⟨a, cap, rfl⟩ := slice_ownM hown
    have HO : Hid (w.ownsRow B 9 1 (.slice a 0 cap) 0 []) := hown
    clear hown hxs hin
    go_enter Try.func14, Try.ntmps14
    go_wp2
    refine wp_loop_rounds 1 ?_
    rw [rounds_succ]
    go_wp2
    go_ret
    exact ⟨rfl, HO.out, Only.refl _ _ _⟩
  · obtain ⟨g, cap, rfl⟩ : ∃ g cap, v = .slice (some ⟨g, 0, none⟩) n cap := by
      rcases hown.2 with ⟨_, h⟩ | ⟨g, cap, cur, hv, hg, _⟩
      · exact absurd h hn0
      · exact ⟨g, cap, hv⟩
    have hg : lo ≤ g ∧ g < hi := hin g rfl
    clear hin
    go_enter Try.func14, Try.ntmps14
    go_wp2
    go_loopw [1, 5] (fun k i wr => ∃ j : Nat, j ≤ n ∧ i = .int .i64 j ∧ k = .int .i64 ((k0 + j : Nat) : Int) ∧ wr.ownsRow B 9 1 (.slice (some ⟨g, 0, none⟩) n cap) n (halfM xs k0 j) ∧ Only lo hi w wr) (fun _ i _ => n - (intOf i).toNat)
    case atStart => exact ⟨0, Nat.zero_le _, rfl, rfl, hown, Only.refl _ _ _⟩
    case round =>
      obtain ⟨j, hj, rfl, rfl, ho, hbe⟩ := hrel
      clear hown
      by_cases hlt : j < n
      · have HS : Hid ((halfM xs k0 j).set j (.string (markB (k0 + j))) = halfM xs k0 (j + 1)) := halfM_set xs k0 j (by omega)
        have HM : Hid (∀ wx : World, Calls Try.prog 27 #[.int .i64 ((k0 : Int) + j)] wx fun e w' => e = .returned (.string (markB (k0 + j))) ∧ Below wx.heap.size wx w') := fun wx => by
          have := lawsMark (k0 + j) wx (by omega) (by omega)
          rw [show (((k0 + j : Nat)) : Int) = (k0 : Int) + j from by omega] at this
          exact this
        generalize markB (k0 + j) = V at *
        go_wp2_with fail
        refine (HM.out _).mono ?_
        rintro e w2 ⟨rfl, hb2⟩
        have ho2 := kept_belowT ho hb2
        have hbe2 : Only lo hi w w2 := hbe.trans (Only.of_below hb2)
        have hfz := ho2.frozenAt j
        have hold : ∃ u, w2.cell? ⟨g, j, none⟩ = some u := by
          rw [ho2.cellAt j (by omega)]
          have : j < (halfM xs k0 j).length := by simp [halfM, marksV]; omega
          exact ⟨_, List.getElem?_eq_getElem this⟩
        obtain ⟨u, hold⟩ := hold
        obtain ⟨R1, _⟩ := ho2.stored j (.string V)
        rw [HS.out] at R1
        have R2 : Only lo hi w (w2.setCell ⟨g, j, none⟩ (.string V)) := hbe2.trans (Only.set _ _ _ hg)
        clear ho ho2 hbe hb2 hbe2
        go_wp2
        go_roundw
        case rel => exact ⟨j + 1, by omega, by go_num, by go_num, R1, R2⟩
        case measure => simp [intOf]; omega
      · have hje : j = n := by omega
        subst hje
        have he : halfM xs k0 j = marksV k0 j := by unfold halfM; rw [List.drop_of_length_le (by omega), List.append_nil]
        rw [he] at ho
        go_wp2
        go_ret
        exact ⟨rfl, ho, hbe⟩

set_option maxHeartbeats 400000 in
theorem lawsHeldN (v : Value) (n B k0 : Nat) (w : World) (hown : w.ownsRow B 9 1 v n (marksV k0 n)) (hn : n ≤ 1048577) (hk : 1 ≤ k0) (hk2 : k0 ≤ 1000000000) :
    Calls Try.prog 15 #[v, .int .i64 k0] w fun e w' => e = .returned (.int .i64 ((k0 + n : Nat) : Int)) ∧ Below w.heap.size w w' := by
  by_cases hn0 : n = 0
  · subst hn0
    obtain ⟨a, cap, rfl⟩ := slice_ownM hown
    clear hown
    go_enter Try.func15, Try.ntmps15
    go_wp2
    refine wp_loop_rounds 1 ?_
    rw [rounds_succ]
    go_wp2
    go_ret
    exact ⟨rfl, Below.refl _ _⟩
  · obtain ⟨g, cap, rfl⟩ : ∃ g cap, v = .slice (some ⟨g, 0, none⟩) n cap := by
      rcases hown.2 with ⟨_, h⟩ | ⟨g, cap, cur, hv, hg, _⟩
      · exact absurd h hn0
      · exact ⟨g, cap, hv⟩
    have HC : Hid (∀ j, j < n → w.cell? ⟨g, j, none⟩ = some (.string (markB (k0 + j)))) := fun j hj => by
      rw [hown.cellAt j (by omega), marksV_get k0 n j hj]
    have hgl : g < w.heap.size := (hown.lt g rfl).2
    clear hown
    go_enter Try.func15, Try.ntmps15
    go_wp2
    go_loopw [1, 5] (fun k i wr => ∃ j : Nat, j ≤ n ∧ i = .int .i64 j ∧ k = .int .i64 ((k0 + j : Nat) : Int) ∧ Below w.heap.size w wr) (fun _ i _ => n - (intOf i).toNat)
    case atStart => exact ⟨0, Nat.zero_le _, rfl, rfl, Below.refl _ _⟩
    case round =>
      obtain ⟨j, hj, rfl, rfl, hbe⟩ := hrel
      by_cases hlt : j < n
      · have HM : Hid (∀ wx : World, Calls Try.prog 27 #[.int .i64 ((k0 : Int) + j)] wx fun e w' => e = .returned (.string (markB (k0 + j))) ∧ Below wx.heap.size wx w') := fun wx => by
          have := lawsMark (k0 + j) wx (by omega) (by omega)
          rw [show (((k0 + j : Nat)) : Int) = (k0 : Int) + j from by omega] at this
          exact this
        have hcell := (hbe.cell (p := ⟨g, j, none⟩) hgl).trans (HC.out j hlt)
        have hglr : g < wr.heap.size := Nat.lt_of_lt_of_le hgl hbe.size
        generalize markB (k0 + j) = V at *
        have hj0 : (0 : Int) ≤ j := by omega
        have hj1 : (j : Int) < n := by omega
        go_wp2_with fail
        go_region_with (go_at_call 27; refine (HM.out _).mono ?_; rintro e w2 ⟨rfl, hb2⟩; have hcell2 := (hb2.cell (p := ⟨g, j, none⟩) hglr).trans hcell)
        all_goals
          go_wp2
          go_roundw
          case rel => exact ⟨j + 1, by omega, by go_num, by go_num, hbe.trans ((((Below.refl _ _).drew).trans hb2).mono hbe.size)⟩
          case measure => simp [intOf]; omega
      · have hje : j = n := by omega
        subst hje
        go_wp2
        go_ret
        exact ⟨rfl, hbe⟩

end Go.Proofs.Ytfmfihgmpefknac
