/-
  The walk of the law's own helper markText, alone.
  The walks of the law's own helpers markStringS and heldStringS, with what of memory they let be.
-/
import Derived.Test.YtjihkebafoajdaaGreatDoorRows
import Derived.WalkKit
import Derived.WalkSpells
import Derived.WalkLawsBesides
import Derived.Laws.BytesArg
import Derived.Deep.RegionWith
import Derived.Test.YtjihkebafoajdaaGreatDoorToTy
namespace Go.Proofs.YtjihkebafoajdaaGreatDoor
open Go.RowKit

def ints (l : List Nat) : List Int := l.map fun (x : Nat) => (x : Int)
def cellsOf (l : List Nat) : List Value := (ints l).map (Value.int .u8)

theorem conv_own {P : Program} {B e src dst : Nat} {w1 : World} {v : Value} {l : List Nat} (hs : P.underlying src = some (.slice e)) (he : P.underlying e = some (.int .u8)) (hd : P.underlying dst = some .string)
    (hown : w1.ownsRow B e 1 v l.length (cellsOf l)) (hne : l ≠ []) : (convert src dst v).run P w1 = .ok (.string (strOfNums (ints l))) w1 := by
  have h0 := hown
  rcases hown.2 with ⟨_, h⟩ | ⟨g, cap, cur, rfl, hg, hh, hnc, hcp, hcs, htake⟩
  · exact absurd (List.length_eq_zero_iff.1 h) hne
  · refine run_convert_bytes_arg w1 src e hs he g 0 l.length cap (ints l) (by simp [ints]) (fun i hi => ?_) dst hd
    rw [Nat.zero_add]
    have := h0.cellAt i (by simpa using hi)
    rw [this]
    simp [cellsOf, ints, hi]

/-- decimal digits -/
def digs : Nat → Nat → List Nat
  | 0, _ => []
  | f + 1, k => if k = 0 then [] else digs f (k / 10) ++ [48 + k % 10]
theorem digs_zero (f : Nat) : digs f 0 = [] := by cases f <;> simp [digs]
theorem digs_more (f k : Nat) (h : 0 < k) : digs (f + 1) k = digs f (k / 10) ++ [48 + k % 10] := by
  rw [digs, if_neg (by omega)]

/-- a mark -/
def markB (k : Nat) : ByteArray := strOfNums (ints (109 :: digs 20 k))

theorem str_cons (a : Nat) (l : List Nat) : strOfNums (ints [a]) ++ strOfNums (ints l) = strOfNums (ints (a :: l)) := by
  apply ByteArray.ext
  simp [strOfNums, ints]

set_option maxHeartbeats 400000 in
theorem lawsMark (K : Nat) (w : World) (h0 : 1 ≤ K) (h1 : (K : Int) ≤ 9223372036854775807) :
    Calls Tryz.prog 24 #[.int .i64 K] w fun e w' => e = .returned (.string (markB K)) ∧ Below w.heap.size w w' := by
  have hle : ¬ (K : Int) ≤ 0 := by omega
  go_enter Tryz.func24, Tryz.ntmps24
  go_wp2
  go_loopw [0, 3] (fun i o wr => ∃ (k f : Nat) (l : List Nat), i = .int .i64 k ∧ k ≤ K ∧ k < 10 ^ f ∧ l.length + f = 20 ∧ o = .string (strOfNums (ints l)) ∧ digs f k ++ l = digs 20 K ∧ Below w.heap.size w wr) (fun i _ _ => (intOf i).toNat)
  case atStart => exact ⟨K, 20, [], rfl, Nat.le_refl _, by omega, rfl, rfl, by simp, Below.refl _ _⟩
  case round =>
    obtain ⟨k, f, l, rfl, hk, hf, hl, rfl, hd, hbe⟩ := hrel
    have HF : Hid (k < 10 ^ f) := hf
    have HD : Hid (digs f k ++ l = digs 20 K) := hd
    have hsz := hbe.size
    have hO : (strOfNums (ints l)).size ≤ 20 := by rw [strOfNums_size]; simp [ints]; omega
    clear hf hd
    by_cases hlt : 0 < k
    · obtain ⟨f, rfl⟩ : ∃ q, f = q + 1 := by
        cases f with
        | zero => have := HF.out; simp at this; omega
        | succ q => exact ⟨q, rfl⟩
      have HF2 : Hid (k / 10 < 10 ^ f) := by
        have h2 : k < 10 ^ (f + 1) := HF.out
        rw [Nat.pow_succ] at h2
        exact Nat.div_lt_of_lt_mul (by omega)
      have HD2 : Hid (digs f (k / 10) ++ ((48 + k % 10) :: l) = digs 20 K) := by
        have h2 : digs (f + 1) k ++ l = digs 20 K := HD.out
        rw [digs_more f k hlt, List.append_assoc] at h2
        exact h2
      have hcv : (convert 87 9 (.slice (some ⟨wr.heap.size, 0, none⟩) 1 1)).run Tryz.prog (wr.alloc (Obj.cells #[Value.int .u8 (48 + (k : Int) % 10)] 5)) = .ok (.string (strOfNums (ints [48 + k % 10]))) (wr.alloc (Obj.cells #[Value.int .u8 (48 + (k : Int) % 10)] 5)) := by
        refine conv_own (B := wr.heap.size) (e := 5) (l := [48 + k % 10]) Tryz.underlying87 Tryz.underlying5 Tryz.underlying9 ?_ (by simp)
        have := World.ownsRow_lit (base := wr.heap.size) (e := 5) (size := 1) wr #[Value.int .u8 (48 + (k : Int) % 10)] 1 (Nat.le_refl _) (by decide) rfl
        simpa [cellsOf, ints] using this
      have hV : (strOfNums (ints [48 + k % 10])).size = 1 := by rw [strOfNums_size]; rfl
      have HS : Hid (strOfNums (ints [48 + k % 10]) ++ strOfNums (ints l) = strOfNums (ints ((48 + k % 10) :: l))) := str_cons _ _
      have hV1 : (strOfNums (ints [48 + k % 10])).size ≤ 1 := by omega
      clear hV
      generalize strOfNums (ints [48 + k % 10]) = V at *
      generalize hOe : strOfNums (ints l) = O at *
      clear hOe
      go_wp2
      go_roundw
      case rel => exact ⟨k / 10, f, (48 + k % 10) :: l, by go_num, by omega, HF2.out, by simp; omega, by rw [HS.out], HD2.out, hbe.alloc hsz _⟩
      case measure => simp [intOf]; omega
    · have hk0 : k = 0 := by omega
      subst hk0
      have HE : Hid (l = digs 20 K) := by
        have h2 : digs f 0 ++ l = digs 20 K := HD.out
        rw [digs_zero] at h2
        exact h2
      have HM : Hid ((⟨#[109]⟩ : ByteArray) ++ strOfNums (ints l) = markB K) := by
        show _ = _
        unfold markB
        rw [← HE.out, ← str_cons]
        rfl
      generalize hOe : strOfNums (ints l) = O at *
      clear hOe
      go_wp2
      go_ret
      exact ⟨by rw [← HM.out]; rfl, hbe⟩

end Go.Proofs.YtjihkebafoajdaaGreatDoor

namespace Go.Proofs.YtjihkebafoajdaaGreatDoor
open Go.RowKit

/-- nothing has turned but blocks from lo up to hi, and new ones -/
structure Only (lo hi : Nat) (w w' : World) : Prop where
  os : w'.os = w.os
  tape : w'.tape = w.tape
  output : w'.output = w.output
  size : w.heap.size ≤ w'.heap.size
  block : ∀ b, b < w.heap.size → b < lo ∨ hi ≤ b → w'.heap[b]? = w.heap[b]?
theorem Only.refl (lo hi : Nat) (w : World) : Only lo hi w w := ⟨rfl, rfl, rfl, Nat.le_refl _, fun _ _ _ => rfl⟩
theorem Only.trans {lo hi : Nat} {a b c : World} (h : Only lo hi a b) (k : Only lo hi b c) : Only lo hi a c := ⟨k.os.trans h.os, k.tape.trans h.tape, k.output.trans h.output, Nat.le_trans h.size k.size, fun x hx ho => (k.block x (Nat.lt_of_lt_of_le hx h.size) ho).trans (h.block x hx ho)⟩
theorem Only.mono {lo hi lo' hi' : Nat} {a b : World} (h : Only lo hi a b) (hl : lo' ≤ lo) (hh : hi ≤ hi') : Only lo' hi' a b := ⟨h.os, h.tape, h.output, h.size, fun x hx ho => h.block x hx (by omega)⟩
theorem Only.of_below {lo hi : Nat} {w w' : World} (h : Below w.heap.size w w') : Only lo hi w w' := ⟨h.os, h.tape, h.output, h.size, fun x hx _ => h.block x hx⟩
theorem Only.set {lo hi : Nat} (w : World) (a : Addr) (u : Value) (h : lo ≤ a.block ∧ a.block < hi) : Only lo hi w (w.setCell a u) := by
  have h0 : Below 0 w (w.setCell a u) := (Below.refl 0 w).setCell (Nat.zero_le _) u
  exact ⟨h0.os, h0.tape, h0.output, h0.size, fun b _ ho => Below.heap_setCell w a u b (by omega)⟩
theorem Only.below {lo hi B : Nat} {w w' : World} (h : Only lo hi w w') (hB : B ≤ lo) (hw : B ≤ w.heap.size) : Below B w w' := ⟨h.os, h.tape, h.output, h.size, fun x hx => h.block x (by omega) (.inl (by omega))⟩
theorem Only.same {lo hi lo' hi' : Nat} {w w' : World} (h : Only lo hi w w') (hs : hi' ≤ w.heap.size) (hd : hi' ≤ lo ∨ hi ≤ lo') : Same lo' hi' w w' := fun b h1 h2 => h.block b (by omega) (by omega)

def marksV (k0 n : Nat) : List Value := (List.range n).map fun j => Value.string (markB (k0 + j))
theorem marksV_length (k0 n : Nat) : (marksV k0 n).length = n := by simp [marksV]
theorem marksV_get (k0 n j : Nat) (h : j < n) : (marksV k0 n)[j]? = some (.string (markB (k0 + j))) := by simp [marksV, h]
theorem marksV_more (k0 n : Nat) : marksV k0 (n + 1) = marksV k0 n ++ [.string (markB (k0 + n))] := by simp [marksV, List.range_succ]
def halfM (xs : List Value) (k0 j : Nat) : List Value := marksV k0 j ++ xs.drop j
theorem halfM_set (xs : List Value) (k0 j : Nat) (h : j < xs.length) : (halfM xs k0 j).set j (.string (markB (k0 + j))) = halfM xs k0 (j + 1) := by
  unfold halfM
  rw [List.set_append_right _ _ (by rw [marksV_length]; exact Nat.le_refl _), marksV_length, Nat.sub_self, List.drop_eq_getElem_cons h, List.set_cons_zero, marksV_more, List.append_assoc]
  rfl
theorem slice_ownM {w : World} {B e z : Nat} {v : Value} {n : Nat} {xs : List Value} (h : w.ownsRow B e z v n xs) : ∃ a cap, v = .slice a n cap := by
  rcases h.2 with ⟨rfl, h0⟩ | ⟨g, cap, cur, hv, _⟩
  · exact ⟨none, 0, by rw [h0]⟩
  · exact ⟨_, cap, hv⟩

set_option maxHeartbeats 400000 in
theorem lawsMarkN (v : Value) (n B lo hi k0 : Nat) (xs : List Value) (w : World) (hown : w.ownsRow B 9 1 v n xs) (hin : ∀ g, v.ownBlock = some g → lo ≤ g ∧ g < hi) (hn : n ≤ 16777217) (hk : 1 ≤ k0) (hk2 : k0 ≤ 1000000000) :
    Calls Tryz.prog 25 #[v, .int .i64 k0] w fun e w' => e = .returned (.int .i64 ((k0 + n : Nat) : Int)) ∧ w'.ownsRow B 9 1 v n (marksV k0 n) ∧ Only lo hi w w' := by
  have hxs : xs.length = n := by have := hown.1; omega
  by_cases hn0 : n = 0
  · subst hn0
    have hx : xs = [] := List.length_eq_zero_iff.1 hxs
    subst hx
    obtain ⟨a, cap, rfl⟩ := slice_ownM hown
    have HO : Hid (w.ownsRow B 9 1 (.slice a 0 cap) 0 []) := hown
    clear hown hxs hin
    go_enter Tryz.func25, Tryz.ntmps25
    go_wp2
    refine wp_loop_rounds 1 ?_
    rw [rounds_succ]
    go_wp2
    go_ret
    exact ⟨rfl, HO.out, Only.refl _ _ _⟩
  · obtain ⟨g, cap, rfl⟩ : ∃ g cap, v = .slice (some ⟨g, 0, none⟩) n cap := by
      rcases hown.2 with ⟨_, h⟩ | ⟨g, cap, cur, hv, hg, _⟩
      · exact absurd h hn0
      · exact ⟨g, cap, hv⟩
    have hg : lo ≤ g ∧ g < hi := hin g rfl
    clear hin
    go_enter Tryz.func25, Tryz.ntmps25
    go_wp2
    go_loopw [1, 5] (fun k i wr => ∃ j : Nat, j ≤ n ∧ i = .int .i64 j ∧ k = .int .i64 ((k0 + j : Nat) : Int) ∧ wr.ownsRow B 9 1 (.slice (some ⟨g, 0, none⟩) n cap) n (halfM xs k0 j) ∧ Only lo hi w wr) (fun _ i _ => n - (intOf i).toNat)
    case atStart => exact ⟨0, Nat.zero_le _, rfl, rfl, hown, Only.refl _ _ _⟩
    case round =>
      obtain ⟨j, hj, rfl, rfl, ho, hbe⟩ := hrel
      clear hown
      by_cases hlt : j < n
      · have HS : Hid ((halfM xs k0 j).set j (.string (markB (k0 + j))) = halfM xs k0 (j + 1)) := halfM_set xs k0 j (by omega)
        have HM : Hid (∀ wx : World, Calls Tryz.prog 24 #[.int .i64 ((k0 : Int) + j)] wx fun e w' => e = .returned (.string (markB (k0 + j))) ∧ Below wx.heap.size wx w') := fun wx => by
          have := lawsMark (k0 + j) wx (by omega) (by omega)
          rw [show (((k0 + j : Nat)) : Int) = (k0 : Int) + j from by omega] at this
          exact this
        generalize markB (k0 + j) = V at *
        go_wp2_with fail
        refine (HM.out _).mono ?_
        rintro e w2 ⟨rfl, hb2⟩
        have ho2 := kept_belowT ho hb2
        have hbe2 : Only lo hi w w2 := hbe.trans (Only.of_below hb2)
        have hfz := ho2.frozenAt j
        have hold : ∃ u, w2.cell? ⟨g, j, none⟩ = some u := by
          rw [ho2.cellAt j (by omega)]
          have : j < (halfM xs k0 j).length := by simp [halfM, marksV]; omega
          exact ⟨_, List.getElem?_eq_getElem this⟩
        obtain ⟨u, hold⟩ := hold
        obtain ⟨R1, _⟩ := ho2.stored j (.string V)
        rw [HS.out] at R1
        have R2 : Only lo hi w (w2.setCell ⟨g, j, none⟩ (.string V)) := hbe2.trans (Only.set _ _ _ hg)
        clear ho ho2 hbe hb2 hbe2
        go_wp2
        go_roundw
        case rel => exact ⟨j + 1, by omega, by go_num, by go_num, R1, R2⟩
        case measure => simp [intOf]; omega
      · have hje : j = n := by omega
        subst hje
        have he : halfM xs k0 j = marksV k0 j := by unfold halfM; rw [List.drop_of_length_le (by omega), List.append_nil]
        rw [he] at ho
        go_wp2
        go_ret
        exact ⟨rfl, ho, hbe⟩

set_option maxHeartbeats 400000 in
theorem lawsHeldN (v : Value) (n B k0 : Nat) (w : World) (hown : w.ownsRow B 9 1 v n (marksV k0 n)) (hn : n ≤ 16777217) (hk : 1 ≤ k0) (hk2 : k0 ≤ 1000000000) :
    Calls Tryz.prog 26 #[v, .int .i64 k0] w fun e w' => e = .returned (.int .i64 ((k0 + n : Nat) : Int)) ∧ Below w.heap.size w w' := by
  by_cases hn0 : n = 0
  · subst hn0
    obtain ⟨a, cap, rfl⟩ := slice_ownM hown
    clear hown
    go_enter Tryz.func26, Tryz.ntmps26
    go_wp2
    refine wp_loop_rounds 1 ?_
    rw [rounds_succ]
    go_wp2
    go_ret
    exact ⟨rfl, Below.refl _ _⟩
  · obtain ⟨g, cap, rfl⟩ : ∃ g cap, v = .slice (some ⟨g, 0, none⟩) n cap := by
      rcases hown.2 with ⟨_, h⟩ | ⟨g, cap, cur, hv, hg, _⟩
      · exact absurd h hn0
      · exact ⟨g, cap, hv⟩
    have HC : Hid (∀ j, j < n → w.cell? ⟨g, j, none⟩ = some (.string (markB (k0 + j)))) := fun j hj => by
      rw [hown.cellAt j (by omega), marksV_get k0 n j hj]
    have hgl : g < w.heap.size := (hown.lt g rfl).2
    clear hown
    go_enter Tryz.func26, Tryz.ntmps26
    go_wp2
    go_loopw [1, 5] (fun k i wr => ∃ j : Nat, j ≤ n ∧ i = .int .i64 j ∧ k = .int .i64 ((k0 + j : Nat) : Int) ∧ Below w.heap.size w wr) (fun _ i _ => n - (intOf i).toNat)
    case atStart => exact ⟨0, Nat.zero_le _, rfl, rfl, Below.refl _ _⟩
    case round =>
      obtain ⟨j, hj, rfl, rfl, hbe⟩ := hrel
      by_cases hlt : j < n
      · have HM : Hid (∀ wx : World, Calls Tryz.prog 24 #[.int .i64 ((k0 : Int) + j)] wx fun e w' => e = .returned (.string (markB (k0 + j))) ∧ Below wx.heap.size wx w') := fun wx => by
          have := lawsMark (k0 + j) wx (by omega) (by omega)
          rw [show (((k0 + j : Nat)) : Int) = (k0 : Int) + j from by omega] at this
          exact this
        have hcell := (hbe.cell (p := ⟨g, j, none⟩) hgl).trans (HC.out j hlt)
        have hglr : g < wr.heap.size := Nat.lt_of_lt_of_le hgl hbe.size
        generalize markB (k0 + j) = V at *
        have hj0 : (0 : Int) ≤ j := by omega
        have hj1 : (j : Int) < n := by omega
        go_wp2_with fail
        go_region_with (go_at_call 24; refine (HM.out _).mono ?_; rintro e w2 ⟨rfl, hb2⟩; have hcell2 := (hb2.cell (p := ⟨g, j, none⟩) hglr).trans hcell)
        all_goals
          go_wp2
          go_roundw
          case rel => exact ⟨j + 1, by omega, by go_num, by go_num, hbe.trans ((((Below.refl _ _).drew).trans hb2).mono hbe.size)⟩
          case measure => simp [intOf]; omega
      · have hje : j = n := by omega
        subst hje
        go_wp2
        go_ret
        exact ⟨rfl, hbe⟩

end Go.Proofs.YtjihkebafoajdaaGreatDoor
