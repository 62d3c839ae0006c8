/-
  The walks of impl.newCopier, takes and ownTexts: texts that are told anew by one copier. A text that is put where it was turns nothing.
-/
import Derived.Test.YtllbfbllkefjeaaGreatDoorTextsD
import Derived.Test.YtllbfbllkefjeaaGreatDoorCloneLib
import Derived.Sort.Row
import Derived.Deep.RegionLaw
import Derived.Sort.Walk0
import Derived.MapKept
namespace Go.Proofs.YtllbfbllkefjeaaGreatDoor
open Go.RowKit Go.Sort

/-- an append onto a row of the call's own, as one step of a region that draws -/
theorem step_append_ownO {P : Program} {ops : Array Oper} {o : Oper} {a : Act} {w : World} {K : Act → World → Prop} {Q : Exit → Act → World → Prop} {E : Prop}
    (hg : o.guard = none) (s x : Operand) (t : TypeId) (hop : o.op = Op.call { callee := Callee.builtin Builtin.append, args := #[s, x], argTypes := #[t, t] })
    (base : Nat) (e : TypeId) (i : TypeInfo) (z : Value) (size bytes : Nat) (h1 : P.underlying t = some (.slice e)) (h2 : P.info? e = some i) (h3 : i.zero = some z) (h4 : i.size = size) (h5 : i.bytes = bytes) (h6 : z.cells.size = size) (h7 : 0 < size)
    (v : Value) (n : Nat) (xs : List Value) (hs : a.eval s = v) (hown : w.ownsRow base e size v n xs)
    (ad : Addr) (m c : Nat) (news : List Value) (hx : a.eval x = .slice (some ad) m c) (hn : news.length = m * size) (hc : ∀ j u, news[j]? = some u → w.cell? (ad.add j) = some u) (h1c : ∀ u ∈ news, u.oneCell' = true)
    (b1 : n + m ≤ maxLen) (b2 : (n + m) * bytes ≤ 140737488355328) (b3 : base ≤ w.heap.size)
    (hK : ∀ v' w', w'.ownsRow base e size v' (n + m) (xs ++ news) → w.grownBy w' v.ownBlock → (v' = .slice none 0 0 ↔ v = .slice none 0 0 ∧ m = 0) → K (a.put o.dst v') w') :
    if Region.wanted o (yielded ops a.tmps) = true then Oper.wp P o a w K Q else E := by
  have hw : Region.wanted o (yielded ops a.tmps) = true := by simp [Region.wanted, hg]
  rw [if_pos hw]
  obtain ⟨v', w', hrun, r1, r2, r3⟩ := run_append_own (P := P) w base t o.type e i z size bytes h1 h2 h3 h4 h5 h6 h7 v n xs hown ad m c news hn hc h1c b1 b2 b3
  unfold Oper.wp
  simp [execOp, hop, resolve, invoke, builtin, hs, hx, hrun, Result.andThen]
  exact hK v' w' r1 r2 r3

/-- a value put where it was -/
theorem setCell_self {w : World} {b o : Nat} {v : Value} (h : w.cell? ⟨b, o, none⟩ = some v) : w.setCell ⟨b, o, none⟩ v = w := by
  obtain ⟨c, e, fr, hb, hc⟩ := cells_of_cell? h
  rw [setCell_eq_setRow w b o c e fr v hb]
  have hs : c.setIfInBounds o v = c := by
    apply Array.ext_getElem?
    intro i
    rw [Array.getElem?_setIfInBounds]
    split
    · subst_vars
      obtain ⟨hl, hq⟩ := Array.getElem?_eq_some_iff.1 hc
      rw [if_pos hl, hc]
    · rfl
  rw [hs]
  exact setRow_self w b c e fr hb

theorem own_sliceO {w : World} {B e z : Nat} {v : Value} {n : Nat} {xs : List Value} (h : w.ownsRow B e z v n xs) : ∃ a cap, v = .slice a n cap := by
  rcases h.2 with ⟨e, h0⟩ | ⟨g, cap, cur, e, _⟩
  · exact ⟨none, 0, by rw [e, h0]⟩
  · exact ⟨_, cap, e⟩
/-- a row of places, each of which holds a text -/
def PtrsAt (w : World) (v : Value) (ps : List ((Nat × Nat) × ByteArray)) : Prop :=
  ∃ a cap, v = .slice a ps.length cap ∧ ∀ j (h : j < ps.length), ∃ b off, a = some ⟨b, off, none⟩ ∧ w.cell? ⟨b, off + j, none⟩ = some (.pointer (some ⟨ps[j].1.1, ps[j].1.2, none⟩)) ∧ w.cell? ⟨ps[j].1.1, ps[j].1.2, none⟩ = some (.string ps[j].2) ∧ w.frozen? ⟨ps[j].1.1, ps[j].1.2, none⟩ = false
theorem PtrsAt.below {w w' : World} {v : Value} {ps : List ((Nat × Nat) × ByteArray)} (h : PtrsAt w v ps) (hb : Below w.heap.size w w') : PtrsAt w' v ps := by
  obtain ⟨a, cap, e, hc⟩ := h
  refine ⟨a, cap, e, fun j hj => ?_⟩
  obtain ⟨b, off, e2, h1, h2, h3⟩ := hc j hj
  have l1 := World.block_lt_of_cell? w ⟨b, off + j, none⟩ h1
  have l2 := World.block_lt_of_cell? w ⟨ps[j].1.1, ps[j].1.2, none⟩ h2
  exact ⟨b, off, e2, (hb.cell (p := ⟨b, off + j, none⟩) l1).trans h1, (hb.cell (p := ⟨ps[j].1.1, ps[j].1.2, none⟩) l2).trans h2, (hb.frozen (p := ⟨ps[j].1.1, ps[j].1.2, none⟩) l2).trans h3⟩
/-- a number that is put elsewhere -/
theorem PtrsAt.num {w : World} {v : Value} {ps : List ((Nat × Nat) × ByteArray)} {cb : Nat} {z z' : Int} (h : PtrsAt w v ps) (hc : w.cell? ⟨cb, 0, none⟩ = some (.int .i64 z)) : PtrsAt (w.setCell ⟨cb, 0, none⟩ (.int .i64 z')) v ps := by
  obtain ⟨a, cap, e, hcs⟩ := h
  refine ⟨a, cap, e, fun j hj => ?_⟩
  obtain ⟨b, off, e2, h1, h2, h3⟩ := hcs j hj
  refine ⟨b, off, e2, ?_, ?_, ?_⟩
  · rw [World.cell?_setCell_other _ _ _ _ fun q => ?_]
    · exact h1
    · rw [← q, hc] at h1
      cases h1
  · rw [World.cell?_setCell_other _ _ _ _ fun q => ?_]
    · exact h2
    · rw [← q, hc] at h2
      cases h2
  · simpa using h3
/-- how many bytes these texts have -/
def ptrSum (ps : List ((Nat × Nat) × ByteArray)) : Nat := (ps.map fun p => p.2.size).sum
theorem ptrSum_more (ps : List ((Nat × Nat) × ByteArray)) (k : Nat) (h : k < ps.length) : ptrSum (ps.take (k + 1)) = ptrSum (ps.take k) + ps[k].2.size := by
  unfold ptrSum
  rw [List.take_succ_eq_append_getElem h, List.map_append, List.sum_append]
  simp
theorem ptrSum_le (ps : List ((Nat × Nat) × ByteArray)) (k : Nat) : ptrSum (ps.take k) ≤ ptrSum ps := by
  have : ps.map (fun p => p.2.size) = (ps.take k).map (fun p => p.2.size) ++ (ps.drop k).map (fun p => p.2.size) := by rw [← List.map_append, List.take_append_drop]
  unfold ptrSum
  rw [this, List.sum_append]
  omega

set_option maxHeartbeats 400000 in
theorem implNewCopier (w : World) :
    Calls Tryz.prog 58 #[] w fun e w' => e = .returned (.pointer (some ⟨w.heap.size, 0, none⟩)) ∧ w' = w.alloc (.cells #[.int .i64 8589934592, .bool false, .map none, .map none] 157) := by
  go_enter Tryz.func58, Tryz.ntmps58
  go_wp2_with fail
  go_ret
  exact ⟨rfl, rfl⟩

set_option maxHeartbeats 800000 in
theorem implTakes (cb : Nat) (room : Int) (k : Nat) (w : World) (hc : w.cell? ⟨cb, 0, none⟩ = some (.int .i64 room)) (hf : w.frozen? ⟨cb, 0, none⟩ = false) (hk : (k : Int) ≤ room) (hr : room ≤ 8589934592) :
    Calls Tryz.prog 103 #[.pointer (some ⟨cb, 0, none⟩), .int .i64 (k : Int)] w fun e w' => e = .returned (.bool true) ∧ w' = w.setCell ⟨cb, 0, none⟩ (.int .i64 (room - k)) := by
  have hn : ¬ (room < (k : Int)) := by omega
  go_enter Tryz.func103, Tryz.ntmps103
  go_wp2_with fail
  go_ret
  exact ⟨rfl, rfl⟩

set_option maxHeartbeats 1600000 in
set_option maxRecDepth 100000 in
theorem implOwnTexts (cb : Nat) (room : Int) (v : Value) (ps : List ((Nat × Nat) × ByteArray)) (w : World) (hp : PtrsAt w v ps) (hc : w.cell? ⟨cb, 0, none⟩ = some (.int .i64 room)) (hf : w.frozen? ⟨cb, 0, none⟩ = false) (hs : (ptrSum ps : Int) ≤ room) (hr : room ≤ 8589934592) (hl : ps.length ≤ 100000000) :
    Calls Tryz.prog 86 #[.pointer (some ⟨cb, 0, none⟩), v] w fun e w' => e = .returned (.tuple #[]) ∧ Below w.heap.size (w.setCell ⟨cb, 0, none⟩ (.int .i64 (room - (ptrSum ps : Nat)))) w' := by
  have hp2 := hp.num (z' := room - (ptrSum ps : Nat)) hc
  have hzc : (w.setCell ⟨cb, 0, none⟩ (.int .i64 (room - (ptrSum ps : Nat)))).heap.size = w.heap.size := by simp
  obtain ⟨a, cap, rfl, hel⟩ := hp
  obtain ⟨a', cap', e', hel2⟩ := hp2
  simp only [Value.slice.injEq, true_and] at e'
  obtain ⟨rfl, rfl⟩ := e'
  have HEL : Hid (type_of% hel) := hel
  have HEL2 : Hid (type_of% hel2) := hel2
  have HSM : Hid (∀ k, ptrSum (ps.take k) ≤ 8589934592) := fun k => by
    have := ptrSum_le ps k
    omega
  have HT : Hid (type_of% (implTakes cb room (ptrSum ps) w hc hf hs hr)) := implTakes cb room (ptrSum ps) w hc hf hs hr
  obtain ⟨WC, hWC⟩ : ∃ WC, WC = w.setCell ⟨cb, 0, none⟩ (.int .i64 (room - (ptrSum ps : Nat))) := ⟨_, rfl⟩
  rw [← hWC] at HEL2 HT hzc ⊢
  have HSZ : Hid (∀ k (h : k < ps.length), ps[k].2.size ≤ 8589934592) := fun k h => by
    have h1 := ptrSum_more ps k h
    have h2 := HSM.out (k + 1)
    omega
  clear hel hel2 hWC hc hf hs
  go_enter Tryz.func86, Tryz.ntmps86
  go_wp2_with fail
  go_loop [4, 11] (fun z i => ∃ k : Nat, k ≤ ps.length ∧ i = .int .i64 k ∧ z = .int .i64 ((ptrSum (ps.take k) : Nat) : Int)) (fun _ i => ps.length - (intOf i).toNat)
  case atStart => exact ⟨0, Nat.zero_le _, rfl, by simp [ptrSum]⟩
  case round =>
    obtain ⟨k, hk, rfl, rfl⟩ := hrel
    by_cases hlt : k < ps.length
    · obtain ⟨b, off, rfl, q1, q2, q3⟩ := HEL.out k hlt
      have HM : Hid (ptrSum (ps.take (k + 1)) = ptrSum (ps.take k) + ps[k].2.size) := ptrSum_more ps k hlt
      have h1 := HSM.out (k + 1)
      rw [HM.out] at h1
      have hmin : ¬ (8589934593 : Int) < ((ptrSum (ps.take k) : Nat) : Int) + (ps[k].2.size : Int) := by omega
      have hmin2 : ((ptrSum (ps.take k) : Nat) : Int) + (ps[k].2.size : Int) ≤ 8589934593 := by omega
      clear HEL HEL2 HSM HT HSZ
      generalize ptrSum (ps.take k) = S at *
      generalize ps[k].2 = x at *
      generalize ps[k].1.1 = pb at *
      generalize ps[k].1.2 = po at *
      have hk0 : (0 : Int) ≤ k := by omega
      have hk1 : (k : Int) < ps.length := by omega
      go_wp2_with fail
      go_round
      case rel => exact ⟨k + 1, by omega, by go_num, by rw [HM.out]; simp only [Value.int.injEq, true_and]; omega⟩
      case measure => simp [intOf]; omega
    · have hke : ps.take k = ps := List.take_of_length_le (by omega)
      rw [hke]
      clear hke HEL
      generalize ptrSum ps = S at *
      go_wp2_with fail
      refine HT.out.mono ?_
      rintro e w2 ⟨rfl, hw2⟩
      rw [hw2]
      clear HT hw2
      go_wp2_with fail
      go_loopw [29] (fun i wr => ∃ k : Nat, k ≤ ps.length ∧ i = .int .i64 k ∧ Below w.heap.size WC wr) (fun i _ => ps.length - (intOf i).toNat)
      case atStart => exact ⟨0, Nat.zero_le _, rfl, Below.refl _ _⟩
      case round =>
        obtain ⟨k2, hk2, rfl, hbe⟩ := hrel
        by_cases hlt2 : k2 < ps.length
        · obtain ⟨b, off, rfl, q1, q2, q3⟩ := HEL2.out k2 hlt2
          have l1 := World.block_lt_of_cell? WC ⟨b, off + k2, none⟩ q1
          have l2 := World.block_lt_of_cell? WC ⟨ps[k2].1.1, ps[k2].1.2, none⟩ q2
          have hbe' : Below WC.heap.size WC wr := hbe.mono (Nat.le_of_eq hzc)
          have c1 := (hbe'.cell (p := ⟨b, off + k2, none⟩) l1).trans q1
          have c2 := (hbe'.cell (p := ⟨ps[k2].1.1, ps[k2].1.2, none⟩) l2).trans q2
          have hx := HSZ.out k2 hlt2
          have HCL : Hid (Calls Tryz.prog 99 #[.string ps[k2].2] wr fun e w' => e = .returned (.string ps[k2].2) ∧ Below wr.heap.size wr w') := stringsClone _ wr (by omega)
          have HAF : Hid (∀ wx : World, Below wr.heap.size wr wx → wx.cell? ⟨ps[k2].1.1, ps[k2].1.2, none⟩ = some (.string ps[k2].2) ∧ wx.frozen? ⟨ps[k2].1.1, ps[k2].1.2, none⟩ = false) := fun wx hx => by
            have hy : Below WC.heap.size WC wx := hbe'.trans (hx.mono hbe'.size)
            exact ⟨(hy.cell (p := ⟨ps[k2].1.1, ps[k2].1.2, none⟩) l2).trans q2, (hy.frozen (p := ⟨ps[k2].1.1, ps[k2].1.2, none⟩) l2).trans q3⟩
          clear q1 q2 q3 l1 l2 hbe' HEL2 HSM HSZ hx
          generalize ps[k2].2 = x at *
          generalize ps[k2].1.1 = pb at *
          generalize ps[k2].1.2 = po at *
          have hk0 : (0 : Int) ≤ k2 := by omega
          have hk1 : (k2 : Int) < ps.length := by omega
          go_wp2_with fail
          refine HCL.out.mono ?_
          rintro e w5 ⟨rfl, hb5⟩
          obtain ⟨d1, d2⟩ := HAF.out w5 hb5
          have hself := setCell_self d1
          have hb6 : Below w.heap.size WC w5 := hbe.trans (hb5.mono (by rw [← hzc]; exact hbe.size))
          clear HCL HAF c1 c2 hb5
          go_wp2_with fail
          go_roundw
          case rel => exact ⟨k2 + 1, by omega, by go_num, by first | exact hb6 | (rw [hself]; exact hb6)⟩
          case measure => simp [intOf]; omega
        · clear HEL2 HSM HSZ
          go_wp2_with fail
          go_end0
          exact ⟨rfl, hbe⟩

end Go.Proofs.YtllbfbllkefjeaaGreatDoor
