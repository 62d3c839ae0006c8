/-
  What the library's sort asks of this translation.
  Contracts of the library, laid at this translation.
  The walk of slices.SortFunc at forms with their texts, and of the function that it sorts by.
-/
import Derived.Shelf.SlSortCmp.WholeK
import Derived.Ground.SlsfProg
import Derived.Test.YtjihkebafoajdaaGreatDoorProg
import Derived.Shelf.Strings.Builder1
import Derived.Shelf.Strings.Builder2
import Derived.Shelf.Strings.OnBuilder
import Derived.Shelf.Small.Bits
import Derived.Shelf.Small.Strs
import Derived.Shelf.Strings.BuilderF
import Derived.Shelf.Strings.BuilderK
import Derived.Shelf.Strings.Builder2Cap
import Derived.Shelf.Strconv.Itoa0
import Derived.Shelf.LaysM
import Derived.Shelf.Strconv.Clone
import Derived.Shelf.Strings.Search1
import Derived.Shelf.Strings.Search2
import Derived.Shelf.Strings.Search3
import Derived.Shelf.Strings.Cut
import Derived.Shelf.Strings.Shaped
import Derived.Ground.Names2Prog
import Derived.Shelf.Slices.Clone
import Derived.Ground.SlgnProg
import Derived.Shelf.SlicesE.Clone
import Derived.WalkKit
import Derived.Test.YtjihkebafoajdaaGreatDoorUnD
import Derived.Sort.OwnSorted
import Derived.Sort.Grow
import Derived.Lib.OwnBridge
namespace Go.Proofs
open Go.Shelf
def Tryz.sortW_ren : Go.Shelf.Ren := ⟨fun | 6 => 41 | 15 => 67 | 14 => 66 | 28 => 91 | 29 => 92 | 20 => 83 | 21 => 84 | 22 => 85 | 23 => 86 | 24 => 87 | 25 => 88 | 26 => 89 | 27 => 90 | 46 => 99 | 47 => 100 | 48 => 101 | 49 => 102 | 50 => 103 | 57 => 110 | n => n, fun | 22 => 63 | 24 => 73 | 25 => 75 | 3 => 3 | 39 => 105 | 0 => 0 | 53 => 138 | 55 => 140 | 4 => 4 | 46 => 131 | 45 => 130 | 50 => 135 | 5 => 5 | 9 => 9 | 66 => 145 | 70 => 149 | 76 => 156 | 77 => 157 | n => n, fun | n => n⟩
theorem Tryz.sortW : Go.Proofs.SlLaysF0.n6 Tryz.prog Tryz.sortW_ren := {
  mixed := by kernel_rfl
  f6 := ⟨Tryz.f41.name, by decide, Tryz.func41.trans (congrArg some (by kernel_rfl))⟩
  f14 := ⟨Tryz.f66.name, by decide, Tryz.func66.trans (congrArg some (by kernel_rfl))⟩
  f15 := Tryz.func67.trans (congrArg some (by kernel_rfl))
  f20 := ⟨Tryz.f83.name, by decide, Tryz.func83.trans (congrArg some (by kernel_rfl))⟩
  f21 := ⟨Tryz.f84.name, by decide, Tryz.func84.trans (congrArg some (by kernel_rfl))⟩
  f22 := ⟨Tryz.f85.name, by decide, Tryz.func85.trans (congrArg some (by kernel_rfl))⟩
  f23 := ⟨Tryz.f86.name, by decide, Tryz.func86.trans (congrArg some (by kernel_rfl))⟩
  f24 := ⟨Tryz.f87.name, by decide, Tryz.func87.trans (congrArg some (by kernel_rfl))⟩
  f25 := ⟨Tryz.f88.name, by decide, Tryz.func88.trans (congrArg some (by kernel_rfl))⟩
  f26 := ⟨Tryz.f89.name, by decide, Tryz.func89.trans (congrArg some (by kernel_rfl))⟩
  f27 := ⟨Tryz.f90.name, by decide, Tryz.func90.trans (congrArg some (by kernel_rfl))⟩
  f28 := Tryz.func91.trans (congrArg some (by kernel_rfl))
  f29 := Tryz.func92.trans (congrArg some (by kernel_rfl))
  f46 := ⟨Tryz.f99.name, by decide, Tryz.func99.trans (congrArg some (by kernel_rfl))⟩
  f47 := Tryz.func100.trans (congrArg some (by kernel_rfl))
  f48 := Tryz.func101.trans (congrArg some (by kernel_rfl))
  f49 := ⟨Tryz.f102.name, by decide, Tryz.func102.trans (congrArg some (by kernel_rfl))⟩
  f50 := ⟨Tryz.f103.name, by decide, Tryz.func103.trans (congrArg some (by kernel_rfl))⟩
  f57 := ⟨Tryz.f110.name, by decide, Tryz.func110.trans (congrArg some (by kernel_rfl))⟩
  t0 := Tryz.underlying0
  a0 := Tryz.isAgg0
  z0 := Tryz.sizeOf0
  v0 := Tryz.zeroValue0
  t3 := Tryz.underlying3
  a3 := Tryz.isAgg3
  z3 := Tryz.sizeOf3
  v3 := Tryz.zeroValue3
  t4 := Tryz.underlying4
  a4 := Tryz.isAgg4
  z4 := Tryz.sizeOf4
  v4 := Tryz.zeroValue4
  t5 := Tryz.underlying5
  a5 := Tryz.isAgg5
  z5 := Tryz.sizeOf5
  v5 := Tryz.zeroValue5
  t9 := Tryz.underlying9
  a9 := Tryz.isAgg9
  z9 := Tryz.sizeOf9
  v9 := Tryz.zeroValue9
  t22 := Tryz.underlying63
  a22 := Tryz.isAgg63
  z22 := Tryz.sizeOf63
  v22 := Tryz.zeroValue63
  t25 := Tryz.underlying75
  a25 := Tryz.isAgg75
  z25 := Tryz.sizeOf75
  v25 := Tryz.zeroValue75
  t39 := Tryz.underlying105
  a39 := Tryz.isAgg105
  z39 := Tryz.sizeOf105
  v39 := Tryz.zeroValue105
  t45 := Tryz.underlying130
  a45 := Tryz.isAgg130
  z45 := Tryz.sizeOf130
  v45 := Tryz.zeroValue130
  t46 := Tryz.underlying131
  a46 := Tryz.isAgg131
  z46 := Tryz.sizeOf131
  v46 := Tryz.zeroValue131
  t50 := Tryz.underlying135
  a50 := Tryz.isAgg135
  z50 := Tryz.sizeOf135
  v50 := Tryz.zeroValue135
  t53 := Tryz.underlying138
  a53 := Tryz.isAgg138
  z53 := Tryz.sizeOf138
  v53 := Tryz.zeroValue138
  t55 := Tryz.underlying140
  a55 := Tryz.isAgg140
  z55 := Tryz.sizeOf140
  v55 := Tryz.zeroValue140
  t66 := Tryz.underlying145
  a66 := Tryz.isAgg145
  z66 := Tryz.sizeOf145
  v66 := Tryz.zeroValue145
  t70 := Tryz.underlying149
  a70 := Tryz.isAgg149
  z70 := Tryz.sizeOf149
  v70 := Tryz.zeroValue149
  t76 := Tryz.underlying156
  a76 := Tryz.isAgg156
  z76 := Tryz.sizeOf156
  v76 := Tryz.zeroValue156
  t77 := Tryz.underlying157
  a77 := Tryz.isAgg157
  z77 := Tryz.sizeOf157
  v77 := Tryz.zeroValue157 }
end Go.Proofs

namespace Go.Proofs
open Go.Shelf

def Tryz.lays106_ren : Go.Shelf.Ren := ⟨fun | 106 => 43 | 213 => 68 | 265 => 93 | n => n, fun | 9 => 9 | 3 => 3 | n => n, fun | n => n⟩

theorem Tryz.lays106 : Go.Proofs.Lays.n106 Tryz.prog Tryz.lays106_ren := {
  mixed := by kernel_rfl
  f106 := Tryz.func43.trans (congrArg some (by kernel_rfl))
  f213 := Tryz.func68.trans (congrArg some (by kernel_rfl))
  f265 := Tryz.func93.trans (congrArg some (by kernel_rfl))
  t3 := Tryz.underlying3
  a3 := Tryz.isAgg3
  z3 := Tryz.sizeOf3
  v3 := Tryz.zeroValue3
  t9 := Tryz.underlying9
  a9 := Tryz.isAgg9
  z9 := Tryz.sizeOf9
  v9 := Tryz.zeroValue9 }

open Go.RowKit in
theorem Tryz.strings_Compare (a b : ByteArray) (w : World) :
    Calls Tryz.prog 43 #[.string a, .string b] w fun e w' => e = .returned (.int .i64 (Lib.compareBytes a.data.toList b.data.toList)) ∧ w' = w := Any.strings_Compare Tryz.lays106 a b w

end Go.Proofs

namespace Go.Proofs.YtjihkebafoajdaaGreatDoor
open Go.RowKit Go.Sort Go.Shelf

theorem cmpB_neg (a b : List UInt8) : Lib.compareBytes a b < 0 ↔ a < b := by
  induction a generalizing b with
  | nil =>
    cases b with
    | nil => simp [Lib.compareBytes]
    | cons y bs => simp [Lib.compareBytes]
  | cons x xs ih =>
    cases b with
    | nil => simp [Lib.compareBytes]
    | cons y bs =>
      unfold Lib.compareBytes
      rw [List.cons_lt_cons_iff]
      by_cases h1 : x < y
      · simp [h1]
      · by_cases h2 : y < x
        · rw [if_neg h1, if_pos h2]
          constructor
          · intro h; omega
          · rintro (h | ⟨h, _⟩)
            · exact absurd h h1
            · subst h; exact absurd h2 h1
        · rw [if_neg h1, if_neg h2, ih bs]
          have e : x = y := UInt8.le_antisymm (UInt8.not_lt.1 h2) (UInt8.not_lt.1 h1)
          constructor
          · intro h; exact .inr ⟨e, h⟩
          · rintro (h | ⟨_, h⟩)
            · exact absurd h h1
            · exact h

/-- the order of these by their texts -/
def cfW (n : Nat) (x y : WE) : Int := Lib.compareBytes (Ty.text n x.t).data.toList (Ty.text n y.t).data.toList
theorem lt_cfW (n : Nat) (x y : WE) : ltOf (cfW n) x y = true ↔ lessB (Ty.text n x.t) (Ty.text n y.t) := by
  unfold ltOf cfW lessB
  rw [decide_eq_true_eq, cmpB_neg]
theorem lt_cfW_no (n : Nat) (x y : WE) : ltOf (cfW n) x y = false ↔ ¬ lessB (Ty.text n x.t) (Ty.text n y.t) := by
  rw [← lt_cfW n, Bool.not_eq_true]
theorem swo_cfW (n : Nat) : SWO (ltOf (cfW n)) where
  irrefl x := by rw [lt_cfW_no]; exact List.lt_irrefl _
  trans x y z h1 h2 := by rw [lt_cfW] at *; exact List.lt_trans h1 h2
  ntrans x y z h1 h2 := by
    rw [lt_cfW_no] at *
    unfold lessB at *
    exact List.not_lt.2 (List.le_trans (List.not_lt.1 h2) (List.not_lt.1 h1))

set_option maxHeartbeats 800000 in
set_option maxRecDepth 100000 in
theorem implWordCmp (a b : ByteArray) (T T' : Nat) (x x' : Value) (W : World) :
    Calls Tryz.prog 42 #[.agg #[.string a, .iface T x], .agg #[.string b, .iface T' x']] W fun e w' => e = .returned (.int .i64 (Lib.compareBytes a.data.toList b.data.toList)) ∧ ∃ q os', w' = grow (W.drewN q) os' := by
  have HCM : Hid (∀ wx : World, Calls Tryz.prog 43 #[.string a, .string b] wx fun e w' => e = .returned (.int .i64 (Lib.compareBytes a.data.toList b.data.toList)) ∧ w' = wx) := fun wx => Tryz.strings_Compare a b wx
  generalize Lib.compareBytes a.data.toList b.data.toList = r at *
  go_enter Tryz.func42, Tryz.ntmps42
  go_wp2_with (go_at_call 43; refine (HCM.out _).mono ?_; rintro e w' ⟨rfl, rfl⟩)
  go_ret
  exact ⟨rfl, 0, _, by rw [alloc_eq_grow, alloc_eq_grow, grow_grow]; rfl⟩

theorem flat_eq [Inhabited WE] (n : Nat) (E : List WE) : (Go.Sort.flatK (encW n) 2 E.toArray).toList = flatW n E := by
  apply List.ext_getElem?
  intro t
  by_cases h : t < E.length * 2
  · have hz : (Go.Sort.flatK (encW n) 2 E.toArray).size = E.length * 2 := by rw [size_flatK]; simp
    rw [Array.getElem?_toList, Array.getElem?_eq_getElem (by omega), ← getElem!_pos (Go.Sort.flatK (encW n) 2 E.toArray) t (by omega), get_flatK _ _ _ _ (by simpa using h)]
    clear hz
    obtain ⟨i, r, rfl, hr⟩ : ∃ i r, t = i * 2 + r ∧ r < 2 := ⟨t / 2, t % 2, by omega, by omega⟩
    have hd : i < E.length := by omega
    obtain ⟨q1, q2⟩ := flatW_get n E i hd
    have he : E.toArray[i]! = E[i] := by rw [getElem!_pos _ _ (by simpa using hd)]; simp
    rw [show (i * 2 + r) / 2 = i by omega, show (i * 2 + r) % 2 = r by omega, he]
    have hc : r = 0 ∨ r = 1 := by omega
    rcases hc with rfl | rfl
    · rw [Nat.add_zero, q1]; rfl
    · rw [q2]; rfl
  · have hz : (Go.Sort.flatK (encW n) 2 E.toArray).size = E.length * 2 := by rw [size_flatK]; simp
    rw [List.getElem?_eq_none (by simp; omega), List.getElem?_eq_none (by rw [flatW_len]; omega)]

theorem own_put {w : World} {base : Nat} {e : TypeId} {z g n cap q : Nat} {xs : List Value} (ys : Array Value) (h : w.ownsRow base e z (.slice (some ⟨g, 0, none⟩) n cap) n xs) (hy : ys.size = n * z) :
    (putRow id (Sort.ahead w q) g 0 ys).ownsRow base e z (.slice (some ⟨g, 0, none⟩) n cap) n ys.toList := by
  rcases h.2 with ⟨e0, _⟩ | ⟨g', cap', cur, e0, hb, hg, hn, hm, hs, ht⟩
  · cases e0
  · injection e0 with e1 _ e3
    injection e1 with e1
    injection e1 with e1
    subst e1; subst e3
    have hle : n * z ≤ cap * z := Nat.mul_le_mul_right _ hn
    refine ⟨by simp; omega, .inr ⟨g, cap, putCells id 0 ys cur, rfl, hb, ?_, hn, hm, by simpa [putCells] using hs, ?_⟩⟩
    · simp [putRow, mapBlock, Sort.ahead, Array.getElem?_modify, hg, onCells]
    · apply List.ext_getElem?
      intro j
      rw [List.getElem?_take, Array.getElem?_toList, Array.getElem?_toList]
      by_cases hj : j < n * z
      · have hjc : j < cur.size := by omega
        simp only [if_pos hj, putCells, Array.getElem?_mapIdx, Array.getElem?_eq_getElem hjc, Option.map_some]
        rw [if_pos (by simp; omega), Array.getElem?_eq_getElem (by omega)]
        simp [getElem!_pos, show j < ys.size by omega]
      · rw [if_neg hj, Array.getElem?_eq_none (by omega)]

theorem below_growW (w : World) (os : Array Obj) : RowKit.Below w.heap.size w (grow w os) := by
  have := below_regrown w w.drawn os
  exact this

set_option maxHeartbeats 1600000 in
set_option maxRecDepth 100000 in
/-- slices.SortFunc at forms with their texts -/
theorem slSortW (B g cap nT : Nat) (E : List WE) (w : World) (ho : w.ownsRow B 73 2 (.slice (some ⟨g, 0, none⟩) E.length cap) E.length (flatW nT E)) (hl : E.length ≤ 1099511627776) :
    Calls Tryz.prog 41 #[.slice (some ⟨g, 0, none⟩) E.length cap, .func (Fn.func 42) #[] #[]] w fun e w' => e = .returned (.tuple #[]) ∧ ∃ L : List WE, L.Perm E ∧ (∀ i j (hij : i < j) (hj : j < L.length), ¬ lessB (Ty.text nT L[j].t) (Ty.text nT (L[i]'(by omega)).t)) ∧ w'.ownsRow B 73 2 (.slice (some ⟨g, 0, none⟩) L.length cap) L.length (flatW nT L) ∧ RowKit.Below B w w' := by
  haveI : Inhabited WE := ⟨⟨0, .nilIface, ⟨0, ⟨#[]⟩, [], []⟩⟩⟩
  obtain ⟨hBg, hgl, hH⟩ : B ≤ g ∧ g < w.heap.size ∧ HoldsK (encW nT) 2 w g 0 E.toArray := by
    rcases ho.2 with ⟨h0, _⟩ | ⟨g', cap', cur, hv, h1, h2, h3, h4, _⟩
    · cases h0
    · cases hv
      refine ⟨h1, (Array.getElem?_eq_some_iff.1 h2).1, fun j hj => ⟨?_, by simp [World.frozen?, h2]⟩⟩
      have hj' : j < E.length * 2 := by simpa using hj
      rw [Nat.zero_add, ho.cellAt j hj', ← flat_eq, Array.getElem?_toList, Array.getElem?_eq_getElem hj, ← getElem!_pos (Go.Sort.flatK (encW nT) 2 E.toArray) j hj]
      rfl
  have eg : ∀ args w, (callFunc 42 args).run Tryz.prog w = .ok (.enter 42 args) w := enters_of Tryz.func42 (by kernel_rfl) rfl
  have hcmp : CmpLays Tryz.prog 42 #[] (encW nT) 2 (cfW nT) g 0 E.toArray.size w := fun _ _ _ _ x y => implWordCmp _ _ _ _ _ _ _
  have hcon := AnyQ.slices_SortFunc Tryz.sortW 2 Tryz.isAgg73 Tryz.sizeOf73 (encW nT) (fun _ => rfl) (fun x v hv => by simp [encW] at hv; rcases hv with rfl | rfl <;> rfl) (cfW nT) (swo_cfW nT) 42 #[] g 0 cap E.toArray w eg hcmp hH hgl (by simp; omega)
  change Calls Tryz.prog 41 _ _ _ at hcon
  have hzE : E.toArray.size = E.length := by simp
  rw [hzE] at hcon
  refine hcon.mono fun e w' hh => ?_
  obtain ⟨he, d', nq, os, hp, hs, hw⟩ := hh
  obtain ⟨p1, _, p3⟩ := hp
  have hz : d'.size = E.length := by simpa using p1
  have e1 : d'.extract 0 E.length = d' := Array.extract_eq_self_of_le (by omega)
  have e2 : E.toArray.extract 0 E.length = E.toArray := Array.extract_eq_self_of_le (by simp)
  rw [e1, e2] at p3
  have hlL : d'.toList.length = E.length := by simpa using hz
  refine ⟨he, d'.toList, p3, fun i j hij hj => ?_, ?_, ?_⟩
  · have hj' : j < d'.size := by simpa using hj
    have := hs i j (Nat.zero_le _) hij (by omega)
    rw [lt_cfW_no, getElem!_pos d' j (by omega), getElem!_pos d' i (by omega)] at this
    simpa using this
  · rw [hw]
    unfold sortWorldK putRowK
    have o1 := own_put (q := nq) (Go.Sort.flatK (encW nT) 2 d') ho (by rw [size_flatK]; omega)
    rw [show Go.Sort.flatK (encW nT) 2 d' = Go.Sort.flatK (encW nT) 2 d'.toList.toArray by simp, flat_eq] at o1
    rw [hlL]
    exact kept_belowT o1 (below_growW _ _)
  · rw [hw]
    unfold sortWorldK putRowK
    have b1 : RowKit.Below B w (putRow id (Sort.ahead w nq) g 0 (Go.Sort.flatK (encW nT) 2 d')) := Lib.below_putRow (RowKit.Below.refl _ _) hBg
    exact b1.trans ((below_growW _ os).mono (by have := b1.size; omega))

end Go.Proofs.YtjihkebafoajdaaGreatDoor
