/-
  The walk of the law's own helper markText, alone.
  The walks of the law's own helpers that write marks into a farm's lists, and find them there: sources, bools, and the lists that hold nothing.
-/
import Derived.Test.YtllbfbllkefjeaaGreatDoorRows
import Derived.WalkKit
import Derived.WalkSpells
import Derived.WalkLawsBesides
import Derived.Laws.BytesArg
import Derived.Deep.RegionWith
import Derived.Test.YtllbfbllkefjeaaGreatDoorFmL
namespace Go.Proofs.YtllbfbllkefjeaaGreatDoor
open Go.RowKit

def ints (l : List Nat) : List Int := l.map fun (x : Nat) => (x : Int)
def cellsOf (l : List Nat) : List Value := (ints l).map (Value.int .u8)

theorem conv_own {P : Program} {B e src dst : Nat} {w1 : World} {v : Value} {l : List Nat} (hs : P.underlying src = some (.slice e)) (he : P.underlying e = some (.int .u8)) (hd : P.underlying dst = some .string)
    (hown : w1.ownsRow B e 1 v l.length (cellsOf l)) (hne : l ≠ []) : (convert src dst v).run P w1 = .ok (.string (strOfNums (ints l))) w1 := by
  have h0 := hown
  rcases hown.2 with ⟨_, h⟩ | ⟨g, cap, cur, rfl, hg, hh, hnc, hcp, hcs, htake⟩
  · exact absurd (List.length_eq_zero_iff.1 h) hne
  · refine run_convert_bytes_arg w1 src e hs he g 0 l.length cap (ints l) (by simp [ints]) (fun i hi => ?_) dst hd
    rw [Nat.zero_add]
    have := h0.cellAt i (by simpa using hi)
    rw [this]
    simp [cellsOf, ints, hi]

/-- decimal digits -/
def digs : Nat → Nat → List Nat
  | 0, _ => []
  | f + 1, k => if k = 0 then [] else digs f (k / 10) ++ [48 + k % 10]
theorem digs_zero (f : Nat) : digs f 0 = [] := by cases f <;> simp [digs]
theorem digs_more (f k : Nat) (h : 0 < k) : digs (f + 1) k = digs f (k / 10) ++ [48 + k % 10] := by
  rw [digs, if_neg (by omega)]

/-- a mark -/
def markB (k : Nat) : ByteArray := strOfNums (ints (109 :: digs 20 k))

theorem str_cons (a : Nat) (l : List Nat) : strOfNums (ints [a]) ++ strOfNums (ints l) = strOfNums (ints (a :: l)) := by
  apply ByteArray.ext
  simp [strOfNums, ints]

set_option maxHeartbeats 400000 in
theorem lawsMark (K : Nat) (w : World) (h0 : 1 ≤ K) (h1 : (K : Int) ≤ 9223372036854775807) :
    Calls Tryz.prog 34 #[.int .i64 K] w fun e w' => e = .returned (.string (markB K)) ∧ Below w.heap.size w w' := by
  have hle : ¬ (K : Int) ≤ 0 := by omega
  go_enter Tryz.func34, Tryz.ntmps34
  go_wp2
  go_loopw [0, 3] (fun i o wr => ∃ (k f : Nat) (l : List Nat), i = .int .i64 k ∧ k ≤ K ∧ k < 10 ^ f ∧ l.length + f = 20 ∧ o = .string (strOfNums (ints l)) ∧ digs f k ++ l = digs 20 K ∧ Below w.heap.size w wr) (fun i _ _ => (intOf i).toNat)
  case atStart => exact ⟨K, 20, [], rfl, Nat.le_refl _, by omega, rfl, rfl, by simp, Below.refl _ _⟩
  case round =>
    obtain ⟨k, f, l, rfl, hk, hf, hl, rfl, hd, hbe⟩ := hrel
    have HF : Hid (k < 10 ^ f) := hf
    have HD : Hid (digs f k ++ l = digs 20 K) := hd
    have hsz := hbe.size
    have hO : (strOfNums (ints l)).size ≤ 20 := by rw [strOfNums_size]; simp [ints]; omega
    clear hf hd
    by_cases hlt : 0 < k
    · obtain ⟨f, rfl⟩ : ∃ q, f = q + 1 := by
        cases f with
        | zero => have := HF.out; simp at this; omega
        | succ q => exact ⟨q, rfl⟩
      have HF2 : Hid (k / 10 < 10 ^ f) := by
        have h2 : k < 10 ^ (f + 1) := HF.out
        rw [Nat.pow_succ] at h2
        exact Nat.div_lt_of_lt_mul (by omega)
      have HD2 : Hid (digs f (k / 10) ++ ((48 + k % 10) :: l) = digs 20 K) := by
        have h2 : digs (f + 1) k ++ l = digs 20 K := HD.out
        rw [digs_more f k hlt, List.append_assoc] at h2
        exact h2
      have hcv : (convert 116 9 (.slice (some ⟨wr.heap.size, 0, none⟩) 1 1)).run Tryz.prog (wr.alloc (Obj.cells #[Value.int .u8 (48 + (k : Int) % 10)] 5)) = .ok (.string (strOfNums (ints [48 + k % 10]))) (wr.alloc (Obj.cells #[Value.int .u8 (48 + (k : Int) % 10)] 5)) := by
        refine conv_own (B := wr.heap.size) (e := 5) (l := [48 + k % 10]) Tryz.underlying116 Tryz.underlying5 Tryz.underlying9 ?_ (by simp)
        have := World.ownsRow_lit (base := wr.heap.size) (e := 5) (size := 1) wr #[Value.int .u8 (48 + (k : Int) % 10)] 1 (Nat.le_refl _) (by decide) rfl
        simpa [cellsOf, ints] using this
      have hV : (strOfNums (ints [48 + k % 10])).size = 1 := by rw [strOfNums_size]; rfl
      have HS : Hid (strOfNums (ints [48 + k % 10]) ++ strOfNums (ints l) = strOfNums (ints ((48 + k % 10) :: l))) := str_cons _ _
      have hV1 : (strOfNums (ints [48 + k % 10])).size ≤ 1 := by omega
      clear hV
      generalize strOfNums (ints [48 + k % 10]) = V at *
      generalize hOe : strOfNums (ints l) = O at *
      clear hOe
      go_wp2
      go_roundw
      case rel => exact ⟨k / 10, f, (48 + k % 10) :: l, by go_num, by omega, HF2.out, by simp; omega, by rw [HS.out], HD2.out, hbe.alloc hsz _⟩
      case measure => simp [intOf]; omega
    · have hk0 : k = 0 := by omega
      subst hk0
      have HE : Hid (l = digs 20 K) := by
        have h2 : digs f 0 ++ l = digs 20 K := HD.out
        rw [digs_zero] at h2
        exact h2
      have HM : Hid ((⟨#[109]⟩ : ByteArray) ++ strOfNums (ints l) = markB K) := by
        show _ = _
        unfold markB
        rw [← HE.out, ← str_cons]
        rfl
      generalize hOe : strOfNums (ints l) = O at *
      clear hOe
      go_wp2
      go_ret
      exact ⟨by rw [← HM.out]; rfl, hbe⟩

end Go.Proofs.YtllbfbllkefjeaaGreatDoor

namespace Go.Proofs.YtllbfbllkefjeaaGreatDoor
open Go.RowKit
open Go.Sort (grow)

theorem flatA_set {α : Type} {f : α → List Value} {z : Nat} (hz : ∀ e, (f e).length = z) (es : List α) (k : Nat) (e : α) (Y : List Value) (hl : Y.length = es.length * z) (hnew : ∀ c, c < z → Y[k * z + c]? = (f e)[c]?) (hold : ∀ i, i < k * z ∨ k * z + z ≤ i → Y[i]? = (flatA f es)[i]?) : Y = flatA f (es.set k e) := by
  have hz0 : 0 < z ∨ z = 0 := by omega
  apply List.ext_getElem?
  intro i
  rcases hz0 with hz0 | hz0
  · by_cases hi : i < es.length * z
    · have hq : i / z < es.length := Nat.div_lt_of_lt_mul (by rw [Nat.mul_comm]; exact hi)
      have hr : i % z < z := Nat.mod_lt _ hz0
      have hii : i = i / z * z + i % z := by rw [Nat.mul_comm]; exact (Nat.div_add_mod i z).symm
      have hset : (flatA f (es.set k e))[i]? = (f ((es.set k e)[i / z]'(by rw [List.length_set]; exact hq)))[i % z]? := by
        conv => lhs; rw [hii]
        exact flatA_at hz _ _ (by rw [List.length_set]; exact hq) _ hr
      rw [hset]
      by_cases he : i / z = k
      · have : (es.set k e)[i / z]'(by rw [List.length_set]; exact hq) = e := by simp [he]
        rw [this, ← hnew _ hr, ← he, ← hii]
      · have : (es.set k e)[i / z]'(by rw [List.length_set]; exact hq) = es[i / z] := by rw [List.getElem_set_ne (by omega)]
        rw [this, ← flatA_at hz es _ hq _ hr, ← hii]
        refine hold i ?_
        rcases Nat.lt_or_gt_of_ne he with h | h
        · left
          have : (i / z + 1) * z ≤ k * z := Nat.mul_le_mul_right z h
          rw [Nat.add_mul] at this
          omega
        · right
          have : (k + 1) * z ≤ i / z * z := Nat.mul_le_mul_right z h
          rw [Nat.add_mul] at this
          omega
    · rw [List.getElem?_eq_none (by omega), List.getElem?_eq_none (by rw [flatA_length hz, List.length_set]; omega)]
  · subst hz0
    rw [List.getElem?_eq_none (by omega), List.getElem?_eq_none (by rw [flatA_length hz]; omega)]

/-- marks, one after the other -/
def marksA {α : Type} (z : Nat) (mk : Nat → α) (k0 n : Nat) : List α := (List.range n).map fun j => mk (k0 + j * z)
theorem marksA_length {α : Type} (z : Nat) (mk : Nat → α) (k0 n : Nat) : (marksA z mk k0 n).length = n := by simp [marksA]
theorem marksA_more {α : Type} (z : Nat) (mk : Nat → α) (k0 n : Nat) : marksA z mk k0 (n + 1) = marksA z mk k0 n ++ [mk (k0 + n * z)] := by simp [marksA, List.range_succ]
theorem marksA_get {α : Type} (z : Nat) (mk : Nat → α) (k0 n j : Nat) (h : j < n) : (marksA z mk k0 n)[j]'(by rw [marksA_length]; exact h) = mk (k0 + j * z) := by simp [marksA]
def halfA {α : Type} (z : Nat) (mk : Nat → α) (es : List α) (k0 j : Nat) : List α := marksA z mk k0 j ++ es.drop j
theorem halfA_zero {α : Type} (z : Nat) (mk : Nat → α) (es : List α) (k0 : Nat) : halfA z mk es k0 0 = es := by simp [halfA, marksA]
theorem halfA_length {α : Type} (z : Nat) (mk : Nat → α) (es : List α) (k0 j : Nat) (h : j ≤ es.length) : (halfA z mk es k0 j).length = es.length := by simp [halfA, marksA_length]; omega
theorem halfA_all {α : Type} (z : Nat) (mk : Nat → α) (es : List α) (k0 : Nat) : halfA z mk es k0 es.length = marksA z mk k0 es.length := by simp [halfA]
theorem halfA_set {α : Type} (z : Nat) (mk : Nat → α) (es : List α) (k0 j : Nat) (h : j < es.length) : (halfA z mk es k0 j).set j (mk (k0 + j * z)) = halfA z mk es k0 (j + 1) := by
  unfold halfA
  rw [List.set_append_right _ _ (by rw [marksA_length]; omega), marksA_length, Nat.sub_self, marksA_more, List.append_assoc, List.drop_eq_getElem_cons h]
  rfl
def mkSr (K : Nat) : Src := (markB K, markB (K + 1))
def mkBo (K : Nat) : Bool := K % 3 == 0

set_option maxHeartbeats 1600000 in
set_option maxRecDepth 100000 in
theorem lawsMarkSrs (v : Value) (es : List Src) (B k0 : Nat) (w : World) (hown : w.ownsRow B 57 2 v es.length (flatA SrF es)) (hn : es.length ≤ 4194304) (hk : 1 ≤ k0) (hk2 : k0 ≤ 1000000000) :
    Calls Tryz.prog 13 #[v, .int .i64 k0] w fun e w' => e = .returned (.int .i64 ((k0 + es.length * 2 : Nat) : Int)) ∧ w'.ownsRow B 57 2 v es.length (flatA SrF (marksA 2 mkSr k0 es.length)) ∧ w.grownBy w' v.ownBlock := by
  by_cases hn0 : es.length = 0
  · obtain rfl : es = [] := List.length_eq_zero_iff.1 hn0
    obtain ⟨a, cap, rfl⟩ : ∃ a cap, v = .slice a 0 cap := slice_ownS hown
    have HO : Hid (type_of% hown) := hown
    clear hown hn hn0
    go_enter Tryz.func13, Tryz.ntmps13
    go_wp2
    refine wp_loop_rounds 1 ?_
    rw [rounds_succ]
    go_wp2
    go_ret
    exact ⟨rfl, HO.out, grown_reflG _ _⟩
  · obtain ⟨g, cap, rfl⟩ : ∃ g cap, v = .slice (some ⟨g, 0, none⟩) es.length cap := by
      rcases hown.2 with ⟨_, h⟩ | ⟨g, cap, cur, hv, hg, _⟩
      · exact absurd h hn0
      · exact ⟨g, cap, hv⟩
    have HO : Hid (type_of% hown) := hown
    clear hown
    go_enter Tryz.func13, Tryz.ntmps13
    go_wp2
    go_loopw [1, 5] (fun k i wr => ∃ j : Nat, j ≤ es.length ∧ i = .int .i64 j ∧ k = .int .i64 ((k0 + j * 2 : Nat) : Int) ∧ wr.ownsRow B 57 2 (.slice (some ⟨g, 0, none⟩) es.length cap) es.length (flatA SrF (halfA 2 mkSr es k0 j)) ∧ w.grownBy wr (some g)) (fun _ i _ => es.length - (intOf i).toNat)
    case atStart => exact ⟨0, Nat.zero_le _, rfl, by simp, by rw [halfA_zero]; exact HO.out, grown_reflG _ _⟩
    case round =>
      obtain ⟨j, hj, rfl, rfl, ho, hgr⟩ := hrel
      clear HO
      by_cases hlt : j < es.length
      · obtain ⟨K, hK⟩ : ∃ K : Nat, K = k0 + j * 2 := ⟨_, rfl⟩
        have hhl := halfA_length 2 mkSr es k0 j hj
        have hl3 : (flatA SrF (halfA 2 mkSr es k0 j)).length = es.length * 2 := ho.1
        have HS : Hid (((flatA SrF (halfA 2 mkSr es k0 j)).set (j * 2) (.string (markB K))).set (j * 2 + 1) (.string (markB (K + 1))) = flatA SrF (halfA 2 mkSr es k0 (j + 1))) := by
          show _ = _
          rw [← halfA_set 2 mkSr es k0 j hlt]
          refine flatA_set (z := 2) (fun _ => rfl) _ j _ _ (by rw [List.length_set, List.length_set, hl3, hhl]) (fun c hc => ?_) (fun i hi => ?_)
          · match c, hc with
            | 0, _ =>
              show (((flatA SrF (halfA 2 mkSr es k0 j)).set (j * 2) (.string (markB K))).set (j * 2 + 1) (.string (markB (K + 1))))[j * 2]? = _
              rw [List.getElem?_set_ne (by omega), List.getElem?_set_self (by omega), ← hK]
              rfl
            | 1, _ => rw [List.getElem?_set_self (by rw [List.length_set]; omega), ← hK]; rfl
          · rw [List.getElem?_set_ne (by omega), List.getElem?_set_ne (by omega)]
        have HM0 : Hid (∀ wx : World, Calls Tryz.prog 34 #[.int .i64 (K : Int)] wx fun e w' => e = .returned (.string (markB K)) ∧ Below wx.heap.size wx w') := fun wx => lawsMark K wx (by omega) (by omega)
        have HM1 : Hid (∀ wx : World, Calls Tryz.prog 34 #[.int .i64 ((K : Int) + 1)] wx fun e w' => e = .returned (.string (markB (K + 1))) ∧ Below wx.heap.size wx w') := fun wx => lawsMark (K + 1) wx (by omega) (by omega)
        obtain ⟨Y2, hY2⟩ : ∃ Y2, Y2 = flatA SrF (halfA 2 mkSr es k0 (j + 1)) := ⟨_, rfl⟩
        have HY2 : Hid (type_of% hY2) := hY2
        rw [← hY2] at HS
        clear hY2 hhl
        generalize flatA SrF (halfA 2 mkSr es k0 j) = Y at *
        generalize markB K = V0 at *
        generalize markB (K + 1) = V1 at *
        rw [show ((k0 + j * 2 : Nat) : Int) = (K : Int) from by rw [hK]]
        have hKb : (K : Int) ≤ 2000000000 := by omega
        have HK : Hid (K = k0 + j * 2) := hK
        clear hK
        have hj0 : (0 : Int) ≤ j := by omega
        have hj1 : (j : Int) < es.length := by omega
        have hcell : ∀ (X : World) (L : List Value) (c : Nat), L.length = es.length * 2 → c < 2 → X.ownsRow B 57 2 (.slice (some ⟨g, 0, none⟩) es.length cap) es.length L → ∃ u, X.cell? ⟨g, j * 2 + c, none⟩ = some u := fun X L c hL hc h => by
          rw [h.cellAt (j * 2 + c) (by omega)]
          exact ⟨_, List.getElem?_eq_getElem (by omega)⟩
        have HCELL : Hid (type_of% hcell) := hcell
        clear hcell
        go_wp2_with fail
        refine (HM0.out _).mono ?_
        rintro e w2 ⟨rfl, hb2⟩
        have o2 := rowKeptA ho hb2
        have g2 := grown_stepG hgr hb2
        clear ho hgr hb2 HM0
        obtain ⟨u0, c0⟩ := HCELL.out _ _ 0 hl3 (by decide) o2
        simp only [Nat.add_zero] at c0
        have f0 := o2.frozenAt (j * 2)
        obtain ⟨S0, _⟩ := o2.stored (j * 2) (.string V0)
        have g3 : w.grownBy (w2.setCell ⟨g, j * 2, none⟩ (.string V0)) (some g) := grown_setG g2
        clear o2 g2
        go_wp2_with fail
        refine (HM1.out _).mono ?_
        rintro e w4 ⟨rfl, hb4⟩
        have o4 := rowKeptA S0 hb4
        have g4 := grown_stepG g3 hb4
        clear S0 g3 hb4 HM1 c0 f0
        have hl4 : (Y.set (j * 2) (.string V0)).length = es.length * 2 := by rw [List.length_set]; exact hl3
        obtain ⟨u1, c1⟩ := HCELL.out _ _ 1 hl4 (by decide) o4
        have f1 := o4.frozenAt (j * 2 + 1)
        obtain ⟨S1, _⟩ := o4.stored (j * 2 + 1) (.string V1)
        have g5 : w.grownBy (w4.setCell ⟨g, j * 2 + 1, none⟩ (.string V1)) (some g) := grown_setG g4
        rw [HS.out] at S1
        have HS2 : Hid (type_of% S1) := S1
        clear o4 g4 S1 HCELL HS hl3 hl4
        go_wp2_with fail
        go_roundw
        case rel => exact ⟨j + 1, by omega, by go_num, by have := HK.out; simp; omega, by rw [← HY2.out]; exact HS2.out, g5⟩
        case measure => simp [intOf]; omega
      · have hje : j = es.length := by omega
        subst hje
        rw [halfA_all] at ho
        have HOW : Hid (type_of% ho) := ho
        clear ho
        go_wp2
        go_ret
        exact ⟨rfl, HOW.out, hgr⟩

set_option maxHeartbeats 1600000 in
set_option maxRecDepth 100000 in
theorem lawsHeldSrs (v : Value) (n B k0 : Nat) (w : World) (hown : w.ownsRow B 57 2 v n (flatA SrF (marksA 2 mkSr k0 n))) (hn : n ≤ 4194304) (hk : 1 ≤ k0) (hk2 : k0 ≤ 1000000000) :
    Calls Tryz.prog 40 #[v, .int .i64 k0] w fun e w' => e = .returned (.int .i64 ((k0 + n * 2 : Nat) : Int)) ∧ Below w.heap.size w w' := by
  by_cases hn0 : n = 0
  · subst hn0
    obtain ⟨a, cap, rfl⟩ : ∃ a cap, v = .slice a 0 cap := slice_ownS hown
    clear hown hn
    go_enter Tryz.func40, Tryz.ntmps40
    go_wp2
    refine wp_loop_rounds 1 ?_
    rw [rounds_succ]
    go_wp2
    go_ret
    exact ⟨rfl, Below.refl _ _⟩
  · obtain ⟨g, cap, rfl⟩ : ∃ g cap, v = .slice (some ⟨g, 0, none⟩) n cap := by
      rcases hown.2 with ⟨_, h⟩ | ⟨g, cap, cur, hv, hg, _⟩
      · exact absurd h hn0
      · exact ⟨g, cap, hv⟩
    have hgl : g < w.heap.size := (hown.lt g rfl).2
    have HC : Hid (∀ j, j < n → w.cell? ⟨g, j * 2, none⟩ = some (.string (markB (k0 + j * 2))) ∧ w.cell? ⟨g, j * 2 + 1, none⟩ = some (.string (markB (k0 + j * 2 + 1)))) := fun j hj => by
      have a0 := flatA_at (f := SrF) (z := 2) (fun _ => rfl) (marksA 2 mkSr k0 n) j (by rw [marksA_length]; exact hj) 0 (by decide)
      have a1 := flatA_at (f := SrF) (z := 2) (fun _ => rfl) (marksA 2 mkSr k0 n) j (by rw [marksA_length]; exact hj) 1 (by decide)
      rw [marksA_get 2 mkSr k0 n j hj] at a0 a1
      rw [Nat.add_zero] at a0
      exact ⟨by rw [hown.cellAt (j * 2) (by omega), a0]; rfl, by rw [hown.cellAt (j * 2 + 1) (by omega), a1]; rfl⟩
    clear hown
    go_enter Tryz.func40, Tryz.ntmps40
    go_wp2
    go_loopw [1, 5] (fun k i wr => ∃ j : Nat, j ≤ n ∧ i = .int .i64 j ∧ k = .int .i64 ((k0 + j * 2 : Nat) : Int) ∧ Below w.heap.size w wr) (fun _ i _ => n - (intOf i).toNat)
    case atStart => exact ⟨0, Nat.zero_le _, rfl, by simp, Below.refl _ _⟩
    case round =>
      obtain ⟨j, hj, rfl, rfl, hbe⟩ := hrel
      by_cases hlt : j < n
      · obtain ⟨K, hK⟩ : ∃ K : Nat, K = k0 + j * 2 := ⟨_, rfl⟩
        obtain ⟨a0, a1⟩ := HC.out j hlt
        rw [← hK] at a0 a1
        have HM0 : Hid (∀ wx : World, Calls Tryz.prog 34 #[.int .i64 (K : Int)] wx fun e w' => e = .returned (.string (markB K)) ∧ Below wx.heap.size wx w') := fun wx => lawsMark K wx (by omega) (by omega)
        have HM1 : Hid (∀ wx : World, Calls Tryz.prog 34 #[.int .i64 ((K : Int) + 1)] wx fun e w' => e = .returned (.string (markB (K + 1))) ∧ Below wx.heap.size wx w') := fun wx => lawsMark (K + 1) wx (by omega) (by omega)
        have hglr : g < wr.heap.size := Nat.lt_of_lt_of_le hgl hbe.size
        have C0 := (hbe.cell (p := ⟨g, j * 2, none⟩) hgl).trans a0
        have C1 := (hbe.cell (p := ⟨g, j * 2 + 1, none⟩) hgl).trans a1
        clear a0 a1
        generalize markB K = V0 at *
        generalize markB (K + 1) = V1 at *
        rw [show ((k0 + j * 2 : Nat) : Int) = (K : Int) from by rw [hK]]
        have hKb : (K : Int) ≤ 2000000000 := by omega
        have HK : Hid (K = k0 + j * 2) := hK
        clear hK
        have hj0 : (0 : Int) ≤ j := by omega
        have hj1 : (j : Int) < n := by omega
        have r0 : ∀ d os, (grow (redrawn wr d) os).cell? ⟨g, j * 2, none⟩ = _ := fun d os => cell_regrown C0 d os
        have s0 : (V0.toList == V0.toList) = true := beq_self_eq_true _
        have s1 : (V1.toList == V1.toList) = true := beq_self_eq_true _
        go_wp2_with fail
        refine wp_region_quiet_below (by kernel_rfl) (by kernel_rfl) ?_
        repeat (go_big_quiet_step (exact Calls.regrown_of (HM0.out _)))
        refine wpQuiet_nil ?_
        intro _ hw'
        obtain ⟨⟨dq, osq⟩, hw''⟩ := hw'
        subst hw''
        have b1 : Below wr.heap.size wr (grow (redrawn wr dq) osq) := below_regrown wr dq osq
        clear r0
        generalize grow (redrawn wr dq) osq = X at *
        have E1 := (b1.cell (p := ⟨g, j * 2 + 1, none⟩) hglr).trans C1
        have hglx : g < X.heap.size := Nat.lt_of_lt_of_le hglr b1.size
        have hbx := hbe.trans (b1.mono hbe.size)
        have r1 : ∀ d os, (grow (redrawn X d) os).cell? ⟨g, j * 2 + 1, none⟩ = _ := fun d os => cell_regrown E1 d os
        clear C0 C1 b1 hbe E1
        go_wp2_with fail
        refine wp_region_quiet_below (by kernel_rfl) (by kernel_rfl) ?_
        repeat (go_big_quiet_step (exact Calls.regrown_of (HM1.out _)))
        refine wpQuiet_nil ?_
        intro _ hw'
        obtain ⟨⟨dq2, osq2⟩, hw''⟩ := hw'
        subst hw''
        have b3 := hbx.trans ((below_regrown X dq2 osq2).mono hbx.size)
        clear r1 hbx
        generalize grow (redrawn X dq2) osq2 = Z2 at *
        go_wp2_with fail
        go_roundw
        case rel => exact ⟨j + 1, by omega, by go_num, by have := HK.out; simp; omega, b3⟩
        case measure => simp [intOf]; omega
      · have hje : j = n := by omega
        subst hje
        clear HC
        go_wp2
        go_ret
        exact ⟨rfl, hbe⟩


theorem markLe0 (k : Nat) (w : World) :
    Calls Tryz.prog 37 #[.slice none 0 0, .int .i64 k] w fun e w' => e = .returned (.int .i64 (k : Int)) ∧ w' = w := by
  go_enter Tryz.func37, Tryz.ntmps37
  go_wp2
  refine wp_loop_rounds 1 ?_
  rw [rounds_succ]
  go_wp2
  go_ret
  exact ⟨rfl, rfl⟩

theorem markRs0 (k : Nat) (w : World) :
    Calls Tryz.prog 38 #[.slice none 0 0, .int .i64 k] w fun e w' => e = .returned (.int .i64 (k : Int)) ∧ w' = w := by
  go_enter Tryz.func38, Tryz.ntmps38
  go_wp2
  refine wp_loop_rounds 1 ?_
  rw [rounds_succ]
  go_wp2
  go_ret
  exact ⟨rfl, rfl⟩

theorem markPa0 (k : Nat) (w : World) :
    Calls Tryz.prog 39 #[.slice none 0 0, .int .i64 k] w fun e w' => e = .returned (.int .i64 (k : Int)) ∧ w' = w := by
  go_enter Tryz.func39, Tryz.ntmps39
  go_wp2
  refine wp_loop_rounds 1 ?_
  rw [rounds_succ]
  go_wp2
  go_ret
  exact ⟨rfl, rfl⟩

theorem heldLe0 (k : Nat) (w : World) :
    Calls Tryz.prog 42 #[.slice none 0 0, .int .i64 k] w fun e w' => e = .returned (.int .i64 (k : Int)) ∧ w' = w := by
  go_enter Tryz.func42, Tryz.ntmps42
  go_wp2
  refine wp_loop_rounds 1 ?_
  rw [rounds_succ]
  go_wp2
  go_ret
  exact ⟨rfl, rfl⟩

theorem heldRs0 (k : Nat) (w : World) :
    Calls Tryz.prog 43 #[.slice none 0 0, .int .i64 k] w fun e w' => e = .returned (.int .i64 (k : Int)) ∧ w' = w := by
  go_enter Tryz.func43, Tryz.ntmps43
  go_wp2
  refine wp_loop_rounds 1 ?_
  rw [rounds_succ]
  go_wp2
  go_ret
  exact ⟨rfl, rfl⟩

theorem heldPa0 (k : Nat) (w : World) :
    Calls Tryz.prog 44 #[.slice none 0 0, .int .i64 k] w fun e w' => e = .returned (.int .i64 (k : Int)) ∧ w' = w := by
  go_enter Tryz.func44, Tryz.ntmps44
  go_wp2
  refine wp_loop_rounds 1 ?_
  rw [rounds_succ]
  go_wp2
  go_ret
  exact ⟨rfl, rfl⟩

set_option maxHeartbeats 800000 in
set_option maxRecDepth 100000 in
theorem lawsMarkBos (v : Value) (es : List Bool) (B k0 : Nat) (w : World) (hown : w.ownsRow B 4 1 v es.length (flatA BoF es)) (hn : es.length ≤ 4194304) (hk : 1 ≤ k0) (hk2 : k0 ≤ 1000000000) :
    Calls Tryz.prog 36 #[v, .int .i64 k0] w fun e w' => e = .returned (.int .i64 ((k0 + es.length : Nat) : Int)) ∧ w'.ownsRow B 4 1 v es.length (flatA BoF (marksA 1 mkBo k0 es.length)) ∧ w.grownBy w' v.ownBlock := by
  by_cases hn0 : es.length = 0
  · obtain rfl : es = [] := List.length_eq_zero_iff.1 hn0
    obtain ⟨a, cap, rfl⟩ : ∃ a cap, v = .slice a 0 cap := slice_ownS hown
    have HO : Hid (type_of% hown) := hown
    clear hown hn hn0
    go_enter Tryz.func36, Tryz.ntmps36
    go_wp2
    refine wp_loop_rounds 1 ?_
    rw [rounds_succ]
    go_wp2
    go_ret
    exact ⟨rfl, HO.out, grown_reflG _ _⟩
  · obtain ⟨g, cap, rfl⟩ : ∃ g cap, v = .slice (some ⟨g, 0, none⟩) es.length cap := by
      rcases hown.2 with ⟨_, h⟩ | ⟨g, cap, cur, hv, hg, _⟩
      · exact absurd h hn0
      · exact ⟨g, cap, hv⟩
    have HO : Hid (type_of% hown) := hown
    clear hown
    go_enter Tryz.func36, Tryz.ntmps36
    go_wp2
    go_loopw [1, 5] (fun k i wr => ∃ j : Nat, j ≤ es.length ∧ i = .int .i64 j ∧ k = .int .i64 ((k0 + j : Nat) : Int) ∧ wr.ownsRow B 4 1 (.slice (some ⟨g, 0, none⟩) es.length cap) es.length (flatA BoF (halfA 1 mkBo es k0 j)) ∧ w.grownBy wr (some g)) (fun _ i _ => es.length - (intOf i).toNat)
    case atStart => exact ⟨0, Nat.zero_le _, rfl, by simp, by rw [halfA_zero]; exact HO.out, grown_reflG _ _⟩
    case round =>
      obtain ⟨j, hj, rfl, rfl, ho, hgr⟩ := hrel
      clear HO
      by_cases hlt : j < es.length
      · obtain ⟨K, hK⟩ : ∃ K : Nat, K = k0 + j := ⟨_, rfl⟩
        have hhl := halfA_length 1 mkBo es k0 j hj
        have hl3 : (flatA BoF (halfA 1 mkBo es k0 j)).length = es.length * 1 := ho.1
        have HS : Hid ((flatA BoF (halfA 1 mkBo es k0 j)).set j (.bool (mkBo K)) = flatA BoF (halfA 1 mkBo es k0 (j + 1))) := by
          show _ = _
          rw [← halfA_set 1 mkBo es k0 j hlt]
          refine flatA_set (z := 1) (fun _ => rfl) _ j _ _ (by rw [List.length_set, hl3, hhl]) (fun c hc => ?_) (fun i hi => ?_)
          · match c, hc with
            | 0, _ =>
              rw [Nat.mul_one, Nat.add_zero, List.getElem?_set_self (by omega), ← hK]
              rfl
          · rw [List.getElem?_set_ne (by omega)]
        have hmk : mkBo K = ((K : Int) % 3 == 0) := by
          unfold mkBo
          rw [Bool.eq_iff_iff, beq_iff_eq, beq_iff_eq]
          omega
        have HMK : Hid (type_of% hmk) := hmk
        obtain ⟨Y2, hY2⟩ : ∃ Y2, Y2 = flatA BoF (halfA 1 mkBo es k0 (j + 1)) := ⟨_, rfl⟩
        have HY2 : Hid (type_of% hY2) := hY2
        rw [← hY2] at HS
        rw [show ((k0 + j : Nat) : Int) = (K : Int) from by rw [hK]]
        have q1 : ∃ u, wr.cell? ⟨g, j, none⟩ = some u := by rw [ho.cellAt j (by omega)]; exact ⟨_, List.getElem?_eq_getElem (by omega)⟩
        obtain ⟨u0, c0⟩ := q1
        have f0 := ho.frozenAt j
        obtain ⟨S0, _⟩ := ho.stored j (.bool (mkBo K))
        rw [HS.out] at S0
        have g3 : w.grownBy (wr.setCell ⟨g, j, none⟩ (.bool (mkBo K))) (some g) := grown_setG hgr
        have HS0 : Hid (type_of% S0) := S0
        have HG3 : Hid (type_of% g3) := g3
        have hKb : (K : Int) ≤ 2000000000 := by omega
        have HK : Hid (K = k0 + j) := hK
        clear hK hY2 hhl hl3 HS S0 g3 ho hgr hmk
        have hj0 : (0 : Int) ≤ j := by omega
        have hj1 : (j : Int) < es.length := by omega
        go_wp2_with fail
        go_roundw
        case rel => exact ⟨j + 1, by omega, by go_num, by have := HK.out; simp; omega, by rw [← HMK.out, ← HY2.out]; exact HS0.out, by rw [← HMK.out]; exact HG3.out⟩
        case measure => simp [intOf]; omega
      · have hje : j = es.length := by omega
        subst hje
        rw [halfA_all] at ho
        have HOW : Hid (type_of% ho) := ho
        clear ho
        go_wp2
        go_ret
        exact ⟨rfl, HOW.out, hgr⟩

set_option maxHeartbeats 800000 in
set_option maxRecDepth 100000 in
theorem lawsHeldBos (v : Value) (n B k0 : Nat) (w : World) (hown : w.ownsRow B 4 1 v n (flatA BoF (marksA 1 mkBo k0 n))) (hn : n ≤ 4194304) (hk : 1 ≤ k0) (hk2 : k0 ≤ 1000000000) :
    Calls Tryz.prog 41 #[v, .int .i64 k0] w fun e w' => e = .returned (.int .i64 ((k0 + n : Nat) : Int)) ∧ Below w.heap.size w w' := by
  by_cases hn0 : n = 0
  · subst hn0
    obtain ⟨a, cap, rfl⟩ : ∃ a cap, v = .slice a 0 cap := slice_ownS hown
    clear hown hn
    go_enter Tryz.func41, Tryz.ntmps41
    go_wp2
    refine wp_loop_rounds 1 ?_
    rw [rounds_succ]
    go_wp2
    go_ret
    exact ⟨rfl, Below.refl _ _⟩
  · obtain ⟨g, cap, rfl⟩ : ∃ g cap, v = .slice (some ⟨g, 0, none⟩) n cap := by
      rcases hown.2 with ⟨_, h⟩ | ⟨g, cap, cur, hv, hg, _⟩
      · exact absurd h hn0
      · exact ⟨g, cap, hv⟩
    have hgl : g < w.heap.size := (hown.lt g rfl).2
    have HC : Hid (∀ j, j < n → w.cell? ⟨g, j, none⟩ = some (.bool (((k0 + j : Nat) : Int) % 3 == 0))) := fun j hj => by
      have a0 := flatA_at (f := BoF) (z := 1) (fun _ => rfl) (marksA 1 mkBo k0 n) j (by rw [marksA_length]; exact hj) 0 (by decide)
      rw [marksA_get 1 mkBo k0 n j hj] at a0
      rw [Nat.add_zero, Nat.mul_one] at a0
      rw [hown.cellAt j (by omega), a0]
      show some (Value.bool (mkBo (k0 + j))) = _
      congr 2
      unfold mkBo
      rw [Bool.eq_iff_iff, beq_iff_eq, beq_iff_eq]
      omega
    clear hown
    go_enter Tryz.func41, Tryz.ntmps41
    go_wp2
    go_loopw [1, 5] (fun k i wr => ∃ j : Nat, j ≤ n ∧ i = .int .i64 j ∧ k = .int .i64 ((k0 + j : Nat) : Int) ∧ Below w.heap.size w wr) (fun _ i _ => n - (intOf i).toNat)
    case atStart => exact ⟨0, Nat.zero_le _, rfl, by simp, Below.refl _ _⟩
    case round =>
      obtain ⟨j, hj, rfl, rfl, hbe⟩ := hrel
      by_cases hlt : j < n
      · obtain ⟨K, hK⟩ : ∃ K : Nat, K = k0 + j := ⟨_, rfl⟩
        have c0 := (hbe.cell (p := ⟨g, j, none⟩) hgl).trans (HC.out j hlt)
        rw [← hK] at c0
        rw [show ((k0 + j : Nat) : Int) = (K : Int) from by rw [hK]]
        have hKb : (K : Int) ≤ 2000000000 := by omega
        have HK : Hid (K = k0 + j) := hK
        clear hK
        have hj0 : (0 : Int) ≤ j := by omega
        have hj1 : (j : Int) < n := by omega
        go_wp2_with fail
        go_roundw
        case rel => exact ⟨j + 1, by omega, by go_num, by have := HK.out; simp; omega, hbe⟩
        case measure => simp [intOf]; omega
      · have hje : j = n := by omega
        subst hje
        clear HC
        go_wp2
        go_ret
        exact ⟨rfl, hbe⟩

end Go.Proofs.YtllbfbllkefjeaaGreatDoor
