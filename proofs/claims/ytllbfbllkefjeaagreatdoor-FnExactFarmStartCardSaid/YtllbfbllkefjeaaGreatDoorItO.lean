/-
  The walk of impl.StoreOk.
  errors.Is where the target is an error of errors.New's make: of the same error, and of none.
  The walks of impl.isWait, impl.raiseAll and impl.startYard.
-/
import Derived.Test.YtllbfbllkefjeaaGreatDoorItN
import Derived.Test.YtllbfbllkefjeaaGreatDoorRows
import Derived.WalkKit
import Derived.LaidEql
import Derived.Stop.Asserts
import Derived.RowKitTokens
import Derived.Test.YtllbfbllkefjeaaGreatDoorFsY
import Derived.Test.YtllbfbllkefjeaaGreatDoorMarkB
import Derived.Test.YtllbfbllkefjeaaGreatDoorSrS
import Derived.Deep.RegionHeld3
namespace Go.Proofs.YtllbfbllkefjeaaGreatDoor
open Go.RowKit

set_option maxHeartbeats 800000 in
set_option maxRecDepth 100000 in
open Classical in
theorem implStoreOk (room : Int) (v : Value) (es : List Itm) (w : World) (hrow : ItAt w v es) (hb : itsBulk es ≤ 4194304) (htab : w.cell? ⟨5, 15, none⟩ = some (.int .u8 4)) :
    Calls Tryz.prog 52 #[.agg #[.int .i64 room, v]] w fun e w' => e = .returned (.bool (decide (StoreRight room es))) ∧ Below w.heap.size w w' := by
  obtain ⟨av, capv, rfl, _⟩ := itOpen hrow
  have hB1 : Below w.heap.size w (w.alloc (.cells #[.int .i64 room, .slice av es.length capv] 35)) := (Below.refl _ _).alloc (Nat.le_refl _) _
  have HC0 := implNewStock room _ es _ (hrow.below hB1) hb ((hB1.cell (p := ⟨5, 15, none⟩) (World.block_lt_of_cell? w ⟨5, 15, none⟩ htab)).trans htab)
  have HC : Hid (type_of% HC0) := HC0
  clear HC0 hrow hb htab
  go_enter Tryz.func52, Tryz.ntmps52
  go_wp2_with fail
  refine HC.out.mono ?_
  rintro e w2 ⟨hb2, ⟨hno, rfl⟩ | ⟨hyes, sb, M, a, c, rfl, _⟩⟩
  · have HR : Hid (decide (StoreRight room es) = false) := decide_eq_false hno
    clear hno HC
    go_wp2_with fail
    go_ret
    exact ⟨by rw [HR.out]; rfl, hB1.trans (hb2.mono hB1.size)⟩
  · have HR : Hid (decide (StoreRight room es) = true) := decide_eq_true hyes
    clear hyes HC
    go_wp2_with fail
    go_ret
    exact ⟨by rw [HR.out]; rfl, hB1.trans (hb2.mono hB1.size)⟩

end Go.Proofs.YtllbfbllkefjeaaGreatDoor

namespace Go.Proofs.YtllbfbllkefjeaaGreatDoor
open Go.RowKit Go.Extern.Stop Go.Stop Go.Extern

theorem Tryz.esTypeOf (v : Value) (w : World) : (Extern.ReflectliteType.typeOf #[.iface 271 v]).run Tryz.prog w = .ok (.iface 134 (.agg #[.pointer (some ⟨6, 271, none⟩)])) w := by kernel_rfl
theorem Tryz.esComparable (w : World) : ((Extern.ReflectliteType.method fun t => do Rtype.noPackHeld "Comparable" t; (fun a => Value.bool a.comparable) <$> typeInfo t) #[.agg #[.pointer (some ⟨6, 271, none⟩)]]).run Tryz.prog w = .ok (.bool true) w := by kernel_rfl
theorem Tryz.esComp : (Tryz.prog.info? 271).map (·.comparable) = some true := by kernel_rfl
theorem Tryz.esSize : (Tryz.prog.info? 297).map (·.size) = some 1 := by kernel_rfl

theorem Tryz.esMethod (v : Value) (w : World) : (Go.method 409 134 v "Comparable").run Tryz.prog w = .ok (201, v) w := by kernel_rfl

set_option maxHeartbeats 800000 in
set_option maxRecDepth 100000 in
/-- errors.Is of an error and itself, made by errors.New -/
theorem esSame (a : Addr) (w : World) :
    Calls Tryz.prog 26 #[.iface 271 (.pointer (some a)), .iface 271 (.pointer (some a))] w fun e w' => e = .returned (.bool true) ∧ w' = w := by
  obtain ⟨i, hi, hcmp⟩ := Option.map_eq_some_iff.1 Tryz.esComp
  obtain ⟨j, hj, hjs⟩ := Option.map_eq_some_iff.1 Tryz.esSize
  have hT := @run_callFunc_extern Tryz.prog 55 _ Extern.ReflectliteType.typeOf Tryz.func55 (by kernel_rfl) (by kernel_rfl) (by kernel_rfl) (by kernel_rfl)
  have hC := @run_callFunc_extern Tryz.prog 201 _ (Extern.ReflectliteType.method fun t => do Rtype.noPackHeld "Comparable" t; pure (.bool (← typeInfo t).comparable)) Tryz.func201 (by kernel_rfl) (by kernel_rfl) (by kernel_rfl) (by kernel_rfl)
  have tT := Tryz.esTypeOf
  have cT := Tryz.esComparable
  have mR := Tryz.esMethod
  have heq := run_eql_iface_ptr_same (P := Tryz.prog) w a Tryz.underlying62 Tryz.underlying271 hi hcmp hj
  go_enter Tryz.func26, Tryz.ntmps26
  go_wp2
  refine wp_loop_rounds 1 ?_
  rw [rounds_succ]
  go_wp2
  go_ret
  exact ⟨rfl, rfl⟩

/-- errors.Is of none -/
theorem esNil (b : Addr) (w : World) :
    Calls Tryz.prog 26 #[.nilIface, .iface 271 (.pointer (some b))] w fun e w' => e = .returned (.bool false) ∧ w' = w := by
  have hn := run_eql_iface_nil_left (P := Tryz.prog) w 271 (.pointer (some b)) Tryz.underlying62
  go_enter Tryz.func26, Tryz.ntmps26
  go_wp2
  go_ret
  exact ⟨rfl, rfl⟩

end Go.Proofs.YtllbfbllkefjeaaGreatDoor

namespace Go.Proofs.YtllbfbllkefjeaaGreatDoor
open Go.RowKit

theorem implIsWait (x : Int) (w : World) : Calls Tryz.prog 51 #[.int .i64 x] w fun e w' => e = .returned (.bool (decide (1 ≤ x) && decide (x ≤ 50))) ∧ w' = w := by
  by_cases h : 1 ≤ x
  · go_enter Tryz.func51, Tryz.ntmps51
    go_wp2
    go_ret
    exact ⟨by simp [h], rfl⟩
  · go_enter Tryz.func51, Tryz.ntmps51
    go_wp2
    go_ret
    exact ⟨by simp; omega, rfl⟩

def trues (n : Nat) : List Bool := List.replicate n true

set_option maxHeartbeats 800000 in
set_option maxRecDepth 100000 in
theorem implRaiseAll (B yb : Nat) (a1 : Option Addr) (n1 c1 : Nat) (wt : Int) (a : Option Addr) (c : Nat) (U : List Bool) (rm : Int) (a3 : Option Addr) (n3 c3 : Nat) (st gr dn un : Value) (w : World) (hr : w.heap[yb]? = some (.cells (yardCells a1 n1 c1 wt a U.length c rm a3 n3 c3 st gr dn un) 97 (0, 0))) (ho : w.ownsRow B 4 1 (.slice a U.length c) U.length (flatA BoF U)) (hU : U.length ≤ 4194304) (hne : ∀ g, (Value.slice a U.length c).ownBlock = some g → g ≠ yb) :
    Calls Tryz.prog 54 #[.pointer (some ⟨yb, 0, none⟩)] w fun e w' => e = .returned (.tuple #[]) ∧ w'.ownsRow B 4 1 (.slice a U.length c) U.length (flatA BoF (trues U.length)) ∧ w.grownBy w' (Value.slice a U.length c).ownBlock := by
  by_cases hn0 : U.length = 0
  · obtain rfl : U = [] := List.length_eq_zero_iff.1 hn0
    have c2 := cell_of_row _ _ 2 _ _ (0, 0) hr
    have HO : Hid (type_of% ho) := ho
    clear ho hr hn0 hU
    go_enter Tryz.func54, Tryz.ntmps54
    go_wp2
    refine wp_loop_rounds 1 ?_
    rw [rounds_succ]
    go_wp2
    go_end0
    exact ⟨rfl, HO.out, grown_reflG _ _⟩
  · obtain ⟨g, hg⟩ : ∃ g, a = some ⟨g, 0, none⟩ := by
      rcases ho.2 with ⟨_, h⟩ | ⟨g, cap, cur, hv, hg, _⟩
      · exact absurd h hn0
      · simp only [Value.slice.injEq, true_and] at hv
        exact ⟨g, hv.1⟩
    subst hg
    have hgy : g ≠ yb := hne g rfl
    have HR : Hid (∀ X, w.grownBy X (some g) → X.cell? ⟨yb, 2, none⟩ = some (.slice (some ⟨g, 0, none⟩) U.length c)) := fun X hX => by
      rw [cell_of_row X yb 2 _ _ (0, 0) ((hX.block yb (Array.getElem?_eq_some_iff.1 hr).1 fun e => hgy (by simpa using e.symm)).trans hr)]
      rfl
    have c2 := HR.out w (grown_reflG _ _)
    have HO : Hid (type_of% ho) := ho
    clear ho hr hne
    go_enter Tryz.func54, Tryz.ntmps54
    go_wp2_with fail
    go_loopw [9] (fun i wr => ∃ j : Nat, j ≤ U.length ∧ i = .int .i64 j ∧ wr.ownsRow B 4 1 (.slice (some ⟨g, 0, none⟩) U.length c) U.length (flatA BoF (trues j ++ U.drop j)) ∧ w.grownBy wr (some g)) (fun i _ => U.length - (intOf i).toNat)
    case atStart => exact ⟨0, Nat.zero_le _, rfl, HO.out, grown_reflG _ _⟩
    case round =>
      obtain ⟨j, hj, rfl, ho, hgr⟩ := hrel
      clear HO c2
      have c2 := HR.out wr hgr
      by_cases hlt : j < U.length
      · have hl3 : (flatA BoF (trues j ++ U.drop j)).length = U.length * 1 := ho.1
        have htl : (trues j).length = j := by simp [trues]
        have HS : Hid ((flatA BoF (trues j ++ U.drop j)).set j (.bool true) = flatA BoF (trues (j + 1) ++ U.drop (j + 1))) := by
          show _ = _
          have e1 : trues (j + 1) ++ U.drop (j + 1) = (trues j ++ U.drop j).set j true := by
            rw [List.set_append_right _ _ (by omega), htl, Nat.sub_self, List.drop_eq_getElem_cons hlt]
            show _ = trues j ++ (true :: U.drop (j + 1))
            unfold trues
            rw [List.replicate_succ', List.append_assoc]
            rfl
          rw [e1]
          refine flatA_set (z := 1) (fun _ => rfl) _ j _ _ (by rw [List.length_set, hl3]; simp [htl]; omega) (fun c hc => ?_) (fun i hi => ?_)
          · match c, hc with
            | 0, _ =>
              rw [Nat.mul_one, Nat.add_zero, List.getElem?_set_self (by omega)]
              rfl
          · rw [List.getElem?_set_ne (by omega)]
        have q1 : ∃ u, wr.cell? ⟨g, j, none⟩ = some u := by rw [ho.cellAt j (by omega)]; exact ⟨_, List.getElem?_eq_getElem (by omega)⟩
        obtain ⟨u0, c0⟩ := q1
        have f0 := ho.frozenAt j
        obtain ⟨S0, _⟩ := ho.stored j (.bool true)
        rw [HS.out] at S0
        have g3 : w.grownBy (wr.setCell ⟨g, j, none⟩ (.bool true)) (some g) := grown_setG hgr
        have HS0 : Hid (type_of% S0) := S0
        have HG3 : Hid (type_of% g3) := g3
        have hj0 : (0 : Int) ≤ j := by omega
        have hj1 : (j : Int) < U.length := by omega
        clear hl3 htl HS S0 g3 ho hgr
        go_wp2_with fail
        go_roundw
        case rel => exact ⟨j + 1, by omega, by go_num, HS0.out, HG3.out⟩
        case measure => simp [intOf]; omega
      · have hje : j = U.length := by omega
        subst hje
        have HO : Hid (type_of% ho) := ho
        rw [List.drop_length, List.append_nil] at HO
        clear ho
        go_wp2
        go_end0
        exact ⟨rfl, HO.out, hgr⟩

end Go.Proofs.YtllbfbllkefjeaaGreatDoor
