/-
  The walks of the law's own helpers markTokenS (it writes marks into a list that is its caller's own) and heldTokenS (it finds them there).
-/
import Derived.Test.YtihpdngpedgjhaaDoorMarkB
import Derived.Test.YtihpdngpedgjhaaDoorTokEq
namespace Go.Proofs.YtihpdngpedgjhaaDoor
open Go.RowKit

/-- the four marks of a word -/
def mark4 (k : Nat) : List Value := [.int .i64 (k : Nat), .string (markB (k + 1)), .int .i64 ((k + 2 : Nat) : Int), .int .i64 ((k + 3 : Nat) : Int)]
def marks4 (k0 n : Nat) : List Value := (List.range n).flatMap fun j => mark4 (k0 + j * 4)
theorem marks4_more (k0 n : Nat) : marks4 k0 (n + 1) = marks4 k0 n ++ mark4 (k0 + n * 4) := by simp [marks4, List.range_succ]
theorem marks4_length (k0 n : Nat) : (marks4 k0 n).length = n * 4 := by
  induction n with
  | zero => rfl
  | succ n ih => rw [marks4_more, List.length_append, ih]; simp [mark4]; omega
theorem marks4_get (k0 n k j : Nat) (hk : k < n) (hj : j < 4) : (marks4 k0 n)[k * 4 + j]? = (mark4 (k0 + k * 4))[j]? := by
  induction n with
  | zero => omega
  | succ n ih =>
    rw [marks4_more]
    by_cases e : k = n
    · subst e
      rw [List.getElem?_append_right (by rw [marks4_length]; omega), marks4_length]
      congr 1
      omega
    · rw [List.getElem?_append_left (by rw [marks4_length]; omega)]
      exact ih (by omega)
def half4 (xs : List Value) (k0 n : Nat) : List Value := marks4 k0 n ++ xs.drop (n * 4)
theorem half4_zero (xs : List Value) (k0 : Nat) : half4 xs k0 0 = xs := by simp [half4, marks4]
theorem half4_length (xs : List Value) (k0 n : Nat) (h : n * 4 ≤ xs.length) : (half4 xs k0 n).length = xs.length := by
  unfold half4
  rw [List.length_append, marks4_length, List.length_drop]
  omega
theorem half4_set (xs : List Value) (k0 n : Nat) (h : (n + 1) * 4 ≤ xs.length) :
    ((((half4 xs k0 n).set (n * 4) (.int .i64 ((k0 + n * 4 : Nat) : Int))).set (n * 4 + 1) (.string (markB (k0 + n * 4 + 1)))).set (n * 4 + 2) (.int .i64 ((k0 + n * 4 + 2 : Nat) : Int))).set (n * 4 + 3) (.int .i64 ((k0 + n * 4 + 3 : Nat) : Int)) = half4 xs k0 (n + 1) := by
  unfold half4
  rw [marks4_more, List.append_assoc]
  have hl := marks4_length k0 n
  obtain ⟨a, b, c, d, r, hd⟩ : ∃ a b c d r, xs.drop (n * 4) = a :: b :: c :: d :: r ∧ xs.drop ((n + 1) * 4) = r := by
    have h4 : 4 ≤ (xs.drop (n * 4)).length := by rw [List.length_drop]; omega
    have he : xs.drop ((n + 1) * 4) = (xs.drop (n * 4)).drop 4 := by rw [List.drop_drop]; congr 1; omega
    rw [he]
    match xs.drop (n * 4), h4 with
    | a :: b :: c :: d :: r, _ => exact ⟨a, b, c, d, r, rfl, rfl⟩
  rw [hd.1, hd.2]
  have s : ∀ (l : List Value) (j : Nat) (v : Value), (marks4 k0 n ++ l).set (n * 4 + j) v = marks4 k0 n ++ l.set j v := fun l j v => by
    rw [List.set_append_right _ _ (by omega), hl]
    congr 2
    omega
  have s0 : ∀ (l : List Value) (v : Value), (marks4 k0 n ++ l).set (n * 4) v = marks4 k0 n ++ l.set 0 v := fun l v => s l 0 v
  rw [s0, s, s, s]
  rfl

set_option maxHeartbeats 1600000 in
set_option maxRecDepth 100000 in
theorem lawsMarkT (v : Value) (n B k0 : Nat) (xs : List Value) (w : World) (hown : w.ownsRow B 35 4 v n xs) (hB : B ≤ w.heap.size) (hn : n ≤ 1048576) (hk : 1 ≤ k0) (hk2 : k0 ≤ 1000000000) :
    Calls Tryd.prog 10 #[v, .int .i64 k0] w fun e w' => e = .returned (.int .i64 ((k0 + n * 4 : Nat) : Int)) ∧ w'.ownsRow B 35 4 v n (marks4 k0 n) ∧ Below B w w' := by
  have hxs : xs.length = n * 4 := hown.1
  by_cases hn0 : n = 0
  · subst hn0
    have hx : xs = [] := List.length_eq_zero_iff.1 (by omega)
    subst hx
    obtain ⟨a, cap, rfl⟩ := slice_own hown
    have HO : Hid (w.ownsRow B 35 4 (.slice a 0 cap) 0 []) := hown
    clear hown hxs
    go_enter Tryd.func10, Tryd.ntmps10
    go_wp2
    refine wp_loop_rounds 1 ?_
    rw [rounds_succ]
    go_wp2
    go_ret
    exact ⟨rfl, HO.out, Below.refl _ _⟩
  · obtain ⟨g, cap, rfl, hg⟩ : ∃ g cap, v = .slice (some ⟨g, 0, none⟩) n cap ∧ B ≤ g := by
      rcases hown.2 with ⟨_, h⟩ | ⟨g, cap, cur, hv, hg, _⟩
      · exact absurd h hn0
      · exact ⟨g, cap, hv, hg⟩
    go_enter Tryd.func10, Tryd.ntmps10
    go_wp2
    go_loopw [1, 5] (fun k i wr => ∃ j : Nat, j ≤ n ∧ i = .int .i64 j ∧ k = .int .i64 ((k0 + j * 4 : Nat) : Int) ∧ wr.ownsRow B 35 4 (.slice (some ⟨g, 0, none⟩) n cap) n (half4 xs k0 j) ∧ Below B w wr ∧ B ≤ wr.heap.size) (fun _ i _ => n - (intOf i).toNat)
    case atStart => exact ⟨0, Nat.zero_le _, rfl, by simp, by rw [half4_zero]; exact hown, Below.refl _ _, hB⟩
    case round =>
      obtain ⟨j, hj, rfl, rfl, ho, hbe, hsz⟩ := hrel
      clear hown
      by_cases hlt : j < n
      · obtain ⟨K, hK⟩ : ∃ K : Nat, K = k0 + j * 4 := ⟨_, rfl⟩
        have HS : Hid (((((half4 xs k0 j).set (j * 4) (.int .i64 (K : Int))).set (j * 4 + 1) (.string (markB (K + 1)))).set (j * 4 + 2) (.int .i64 ((K : Int) + 1 + 1))).set (j * 4 + 3) (.int .i64 ((K : Int) + 1 + 1 + 1)) = half4 xs k0 (j + 1)) := by
          have := half4_set xs k0 j (by omega)
          rw [← hK, show ((K + 2 : Nat) : Int) = (K : Int) + 1 + 1 from by omega, show ((K + 3 : Nat) : Int) = (K : Int) + 1 + 1 + 1 from by omega] at this
          exact this
        have HM : Hid (∀ wx : World, Calls Tryd.prog 25 #[.int .i64 ((K : Int) + 1)] wx fun e w' => e = .returned (.string (markB (K + 1))) ∧ Below wx.heap.size wx w') := fun wx => lawsMark (K + 1) wx (by omega) (by omega)
        generalize markB (K + 1) = V at *
        have hl4 : (half4 xs k0 j).length = n * 4 := by rw [half4_length _ _ _ (by omega), hxs]
        rw [show ((k0 + j * 4 : Nat) : Int) = (K : Int) from by rw [hK]]
        have hKb : (K : Int) ≤ 2000000000 := by omega
        have HK : Hid (K = k0 + j * 4) := hK
        clear hK
        have hold : ∀ c, c < 4 → ∃ u, wr.cell? ⟨g, j * 4 + c, none⟩ = some u := fun c hc => by
          rw [ho.cellAt (j * 4 + c) (by omega)]
          exact ⟨_, List.getElem?_eq_getElem (by omega)⟩
        obtain ⟨u0, o0⟩ := hold 0 (by decide)
        simp only [Nat.add_zero] at o0
        have f0 := ho.frozenAt (j * 4)
        obtain ⟨S1, _⟩ := ho.stored (j * 4) (.int .i64 (K : Int))
        have hbe1 : Below B w (wr.setCell ⟨g, j * 4, none⟩ (.int .i64 (K : Int))) := hbe.setCell hg _
        have hsz1 : B ≤ (wr.setCell ⟨g, j * 4, none⟩ (.int .i64 (K : Int))).heap.size := by simpa using hsz
        clear hold hbe hsz
        go_wp2_with fail
        refine (HM.out _).mono ?_
        rintro e w2 ⟨rfl, hb2⟩
        have S2 := kept_below S1 hb2
        have hbe2 : Below B w w2 := hbe1.trans (hb2.mono hsz1)
        have hsz2 : B ≤ w2.heap.size := Nat.le_trans hsz1 hb2.size
        clear S1 hbe1 hb2 hsz1 ho
        have hl5 : (((half4 xs k0 j).set (j * 4) (.int .i64 (K : Int)))).length = n * 4 := by rw [List.length_set, hl4]
        have o1 : ∃ u, w2.cell? ⟨g, j * 4 + 1, none⟩ = some u := by
          rw [S2.cellAt (j * 4 + 1) (by omega)]
          exact ⟨_, List.getElem?_eq_getElem (by omega)⟩
        obtain ⟨u1, o1⟩ := o1
        have f1 := S2.frozenAt (j * 4 + 1)
        obtain ⟨S3, _⟩ := S2.stored (j * 4 + 1) (.string V)
        have o2 : ∃ u, (w2.setCell ⟨g, j * 4 + 1, none⟩ (.string V)).cell? ⟨g, j * 4 + 2, none⟩ = some u := by
          rw [S3.cellAt (j * 4 + 2) (by omega)]
          exact ⟨_, List.getElem?_eq_getElem (by rw [List.length_set]; omega)⟩
        obtain ⟨u2, o2⟩ := o2
        have f2 := S3.frozenAt (j * 4 + 2)
        obtain ⟨S4, _⟩ := S3.stored (j * 4 + 2) (.int .i64 ((K : Int) + 1 + 1))
        have o3 : ∃ u, ((w2.setCell ⟨g, j * 4 + 1, none⟩ (.string V)).setCell ⟨g, j * 4 + 2, none⟩ (.int .i64 ((K : Int) + 1 + 1))).cell? ⟨g, j * 4 + 3, none⟩ = some u := by
          rw [S4.cellAt (j * 4 + 3) (by omega)]
          exact ⟨_, List.getElem?_eq_getElem (by rw [List.length_set, List.length_set]; omega)⟩
        obtain ⟨u3, o3⟩ := o3
        have f3 := S4.frozenAt (j * 4 + 3)
        obtain ⟨S5, _⟩ := S4.stored (j * 4 + 3) (.int .i64 ((K : Int) + 1 + 1 + 1))
        rw [HS.out] at S5
        have R2 : Below B w ((((w2.setCell ⟨g, j * 4 + 1, none⟩ (.string V)).setCell ⟨g, j * 4 + 2, none⟩ (.int .i64 ((K : Int) + 1 + 1))).setCell ⟨g, j * 4 + 3, none⟩ (.int .i64 ((K : Int) + 1 + 1 + 1)))) := ((hbe2.setCell hg _).setCell hg _).setCell hg _
        have R3 : B ≤ ((((w2.setCell ⟨g, j * 4 + 1, none⟩ (.string V)).setCell ⟨g, j * 4 + 2, none⟩ (.int .i64 ((K : Int) + 1 + 1))).setCell ⟨g, j * 4 + 3, none⟩ (.int .i64 ((K : Int) + 1 + 1 + 1)))).heap.size := by simpa using hsz2
        clear S2 S3 S4 hbe2 hsz2
        go_wp2
        go_roundw
        case rel => exact ⟨j + 1, by omega, by go_num, by have := HK.out; simp; omega, S5, R2, R3⟩
        case measure => simp [intOf]; omega
      · have hje : j = n := by omega
        subst hje
        have he : half4 xs k0 j = marks4 k0 j := by unfold half4; rw [List.drop_of_length_le (by omega), List.append_nil]
        rw [he] at ho
        go_wp2
        go_ret
        exact ⟨rfl, ho, hbe⟩

set_option maxHeartbeats 1600000 in
set_option maxRecDepth 100000 in
theorem lawsHeldT (v : Value) (n B k0 : Nat) (w : World) (hown : w.ownsRow B 35 4 v n (marks4 k0 n)) (hn : n ≤ 1048576) (hk : 1 ≤ k0) (hk2 : k0 ≤ 1000000000) :
    Calls Tryd.prog 11 #[v, .int .i64 k0] w fun e w' => e = .returned (.int .i64 ((k0 + n * 4 : Nat) : Int)) ∧ Below w.heap.size w w' := by
  by_cases hn0 : n = 0
  · subst hn0
    obtain ⟨a, cap, rfl⟩ := slice_own hown
    clear hown
    go_enter Tryd.func11, Tryd.ntmps11
    go_wp2
    refine wp_loop_rounds 1 ?_
    rw [rounds_succ]
    go_wp2
    go_ret
    exact ⟨rfl, Below.refl _ _⟩
  · obtain ⟨g, cap, rfl⟩ : ∃ g cap, v = .slice (some ⟨g, 0, none⟩) n cap := by
      rcases hown.2 with ⟨_, h⟩ | ⟨g, cap, cur, hv, hg, _⟩
      · exact absurd h hn0
      · exact ⟨g, cap, hv⟩
    have HC : Hid (∀ j c, j < n → c < 4 → w.cell? ⟨g, j * 4 + c, none⟩ = (mark4 (k0 + j * 4))[c]?) := fun j c hj hc => by
      rw [hown.cellAt (j * 4 + c) (by omega), marks4_get k0 n j c hj hc]
    have hgl : g < w.heap.size := (hown.lt g rfl).2
    clear hown
    go_enter Tryd.func11, Tryd.ntmps11
    go_wp2
    go_loopw [1, 5] (fun k i wr => ∃ j : Nat, j ≤ n ∧ i = .int .i64 j ∧ k = .int .i64 ((k0 + j * 4 : Nat) : Int) ∧ Below w.heap.size w wr) (fun _ i _ => n - (intOf i).toNat)
    case atStart => exact ⟨0, Nat.zero_le _, rfl, by simp, Below.refl _ _⟩
    case round =>
      obtain ⟨j, hj, rfl, rfl, hbe⟩ := hrel
      by_cases hlt : j < n
      · obtain ⟨K, hK⟩ : ∃ K : Nat, K = k0 + j * 4 := ⟨_, rfl⟩
        have c0 := (hbe.cell (p := ⟨g, j * 4, none⟩) hgl).trans (HC.out j 0 hlt (by decide))
        have c1 := (hbe.cell (p := ⟨g, j * 4 + 1, none⟩) hgl).trans (HC.out j 1 hlt (by decide))
        have c2 := (hbe.cell (p := ⟨g, j * 4 + 2, none⟩) hgl).trans (HC.out j 2 hlt (by decide))
        have c3 := (hbe.cell (p := ⟨g, j * 4 + 3, none⟩) hgl).trans (HC.out j 3 hlt (by decide))
        rw [← hK] at c0 c1 c2 c3
        have HM : Hid (∀ wx : World, Calls Tryd.prog 25 #[.int .i64 ((K : Int) + 1)] wx fun e w' => e = .returned (.string (markB (K + 1))) ∧ Below wx.heap.size wx w') := fun wx => lawsMark (K + 1) wx (by omega) (by omega)
        have C0 : wr.cell? ⟨g, j * 4, none⟩ = some (.int .i64 (K : Int)) := c0
        have C1 : wr.cell? ⟨g, j * 4 + 1, none⟩ = some (.string (markB (K + 1))) := c1
        have C2 : wr.cell? ⟨g, j * 4 + 2, none⟩ = some (.int .i64 ((K : Int) + 1 + 1)) := by rw [c2]; simp [mark4]; omega
        have C3 : wr.cell? ⟨g, j * 4 + 3, none⟩ = some (.int .i64 ((K : Int) + 1 + 1 + 1)) := by rw [c3]; simp [mark4]; omega
        clear c0 c1 c2 c3
        generalize markB (K + 1) = V at *
        rw [show ((k0 + j * 4 : Nat) : Int) = (K : Int) from by rw [hK]]
        have hKb : (K : Int) ≤ 2000000000 := by omega
        have HK : Hid (K = k0 + j * 4) := hK
        clear hK
        have hglr : g < wr.heap.size := Nat.lt_of_lt_of_le hgl hbe.size
        have hj0 : (0 : Int) ≤ j := by omega
        have hj1 : (j : Int) < n := by omega
        go_wp2_with fail
        go_region_with (go_at_call 25; refine (HM.out _).mono ?_; rintro e w2 ⟨rfl, hb2⟩; have D1 := (hb2.cell (p := ⟨g, j * 4 + 1, none⟩) hglr).trans C1)
        all_goals
          have D2 := (hb2.cell (p := ⟨g, j * 4 + 2, none⟩) hglr).trans C2
          have D3 := (hb2.cell (p := ⟨g, j * 4 + 3, none⟩) hglr).trans C3
          go_wp2
          go_roundw
          case rel => exact ⟨j + 1, by omega, by go_num, by have := HK.out; simp; omega, hbe.trans ((((Below.refl _ _).drew).trans hb2).mono hbe.size)⟩
          case measure => simp [intOf]; omega
      · have hje : j = n := by omega
        subst hje
        go_wp2
        go_ret
        exact ⟨rfl, hbe⟩

end Go.Proofs.YtihpdngpedgjhaaDoor
