/-
  Contracts of the library, laid at this translation.
  The walks of impl.placesByName and of the function that it sorts by.
  The walk of impl.placesByName: the places of names, in the order of the names.
  The walk of impl.placesByName.
  A record as it is told by names and kids in an order; where it lies while it is made.
  The walk of impl.Record.
-/
import Derived.Shelf.Strings.Builder1
import Derived.Shelf.Strings.Builder2
import Derived.Shelf.Strings.OnBuilder
import Derived.Shelf.Small.Bits
import Derived.Shelf.Small.Strs
import Derived.Shelf.Strings.BuilderF
import Derived.Shelf.Strings.BuilderK
import Derived.Shelf.Strings.Builder2Cap
import Derived.Shelf.Strconv.Itoa0
import Derived.Shelf.LaysM
import Derived.Shelf.Strconv.Clone
import Derived.Shelf.Strings.Search1
import Derived.Shelf.Strings.Search2
import Derived.Shelf.Strings.Cut
import Derived.Shelf.Strings.Shaped
import Derived.Ground.Names2Prog
import Derived.Shelf.Slices.Clone
import Derived.Ground.SlgnProg
import Derived.Shelf.SlicesE.Clone
import Derived.Ground.SlsfProg
import Derived.Shelf.SlSortCmp.Insertion
import Derived.Shelf.SlSortCmp.SiftDown1
import Derived.Shelf.SlSortCmp.HeapSort1
import Derived.Shelf.SlSortCmp.Insertion1
import Derived.Shelf.SlSortCmp.Median1
import Derived.Shelf.SlSortCmp.Pivot1
import Derived.Shelf.SlSortCmp.ReverseRange1
import Derived.Shelf.SlSortCmp.PartialInsertion1
import Derived.Shelf.SlSortCmp.PartitionEqual1
import Derived.Shelf.SlSortCmp.Partition1
import Derived.Shelf.SlSortCmp.Pdq1
import Derived.Shelf.SlSortCmp.Whole1
import Derived.Shelf.SlSortCmp.NoneTotal
import Derived.Test.YtekegcfelaefhaaDoorProg
import Derived.WalkKit
import Derived.Test.YtekegcfelaefhaaDoorOwnI
import Derived.Test.YtekegcfelaefhaaDoorCopyT
import Derived.Sort.OwnSorted
import Derived.Sort.Grow
import Derived.Lib.OwnBridge
import Derived.Lib.QuietBelow
import Derived.BigQuiet
import Derived.Test.YtekegcfelaefhaaDoorTypeJ
import Derived.Test.YtekegcfelaefhaaDoorFormU
namespace Go.Proofs
open Go.Shelf

def Tryd.laysSlF6_f28_ren : Go.Shelf.Ren := ⟨fun | 6 => 28 | 15 => 43 | 14 => 42 | 28 => 64 | 29 => 65 | 20 => 56 | 21 => 57 | 22 => 58 | 23 => 59 | 24 => 60 | 25 => 61 | 26 => 62 | 27 => 63 | 46 => 73 | 47 => 74 | 48 => 75 | 49 => 76 | 50 => 77 | 57 => 83 | n => n, fun | 22 => 45 | 24 => 3 | 25 => 56 | 3 => 3 | 39 => 82 | 0 => 0 | 53 => 99 | 55 => 101 | 4 => 4 | 46 => 92 | 45 => 91 | 50 => 96 | 5 => 5 | 9 => 9 | 66 => 107 | 70 => 111 | 76 => 118 | 77 => 119 | n => n, fun | n => n⟩

theorem Tryd.laysSlF6_f28 : Go.Proofs.SlLaysF.n6 Tryd.prog Tryd.laysSlF6_f28_ren := {
  mixed := by kernel_rfl
  f6 := ⟨Tryd.f28.name, by decide, Tryd.func28.trans (congrArg some (by kernel_rfl))⟩
  f14 := ⟨Tryd.f42.name, by decide, Tryd.func42.trans (congrArg some (by kernel_rfl))⟩
  f15 := Tryd.func43.trans (congrArg some (by kernel_rfl))
  f20 := ⟨Tryd.f56.name, by decide, Tryd.func56.trans (congrArg some (by kernel_rfl))⟩
  f21 := ⟨Tryd.f57.name, by decide, Tryd.func57.trans (congrArg some (by kernel_rfl))⟩
  f22 := ⟨Tryd.f58.name, by decide, Tryd.func58.trans (congrArg some (by kernel_rfl))⟩
  f23 := ⟨Tryd.f59.name, by decide, Tryd.func59.trans (congrArg some (by kernel_rfl))⟩
  f24 := ⟨Tryd.f60.name, by decide, Tryd.func60.trans (congrArg some (by kernel_rfl))⟩
  f25 := ⟨Tryd.f61.name, by decide, Tryd.func61.trans (congrArg some (by kernel_rfl))⟩
  f26 := ⟨Tryd.f62.name, by decide, Tryd.func62.trans (congrArg some (by kernel_rfl))⟩
  f27 := ⟨Tryd.f63.name, by decide, Tryd.func63.trans (congrArg some (by kernel_rfl))⟩
  f28 := Tryd.func64.trans (congrArg some (by kernel_rfl))
  f29 := Tryd.func65.trans (congrArg some (by kernel_rfl))
  f46 := ⟨Tryd.f73.name, by decide, Tryd.func73.trans (congrArg some (by kernel_rfl))⟩
  f47 := Tryd.func74.trans (congrArg some (by kernel_rfl))
  f48 := Tryd.func75.trans (congrArg some (by kernel_rfl))
  f49 := ⟨Tryd.f76.name, by decide, Tryd.func76.trans (congrArg some (by kernel_rfl))⟩
  f50 := ⟨Tryd.f77.name, by decide, Tryd.func77.trans (congrArg some (by kernel_rfl))⟩
  f57 := ⟨Tryd.f83.name, by decide, Tryd.func83.trans (congrArg some (by kernel_rfl))⟩
  t0 := Tryd.underlying0
  a0 := Tryd.isAgg0
  z0 := Tryd.sizeOf0
  v0 := Tryd.zeroValue0
  t3 := Tryd.underlying3
  a3 := Tryd.isAgg3
  z3 := Tryd.sizeOf3
  v3 := Tryd.zeroValue3
  t4 := Tryd.underlying4
  a4 := Tryd.isAgg4
  z4 := Tryd.sizeOf4
  v4 := Tryd.zeroValue4
  t5 := Tryd.underlying5
  a5 := Tryd.isAgg5
  z5 := Tryd.sizeOf5
  v5 := Tryd.zeroValue5
  t9 := Tryd.underlying9
  a9 := Tryd.isAgg9
  z9 := Tryd.sizeOf9
  v9 := Tryd.zeroValue9
  t22 := Tryd.underlying45
  a22 := Tryd.isAgg45
  z22 := Tryd.sizeOf45
  v22 := Tryd.zeroValue45
  a24 := Tryd.isAgg3
  z24 := Tryd.sizeOf3
  t25 := Tryd.underlying56
  a25 := Tryd.isAgg56
  z25 := Tryd.sizeOf56
  v25 := Tryd.zeroValue56
  t39 := Tryd.underlying82
  a39 := Tryd.isAgg82
  z39 := Tryd.sizeOf82
  v39 := Tryd.zeroValue82
  t45 := Tryd.underlying91
  a45 := Tryd.isAgg91
  z45 := Tryd.sizeOf91
  v45 := Tryd.zeroValue91
  t46 := Tryd.underlying92
  a46 := Tryd.isAgg92
  z46 := Tryd.sizeOf92
  v46 := Tryd.zeroValue92
  t50 := Tryd.underlying96
  a50 := Tryd.isAgg96
  z50 := Tryd.sizeOf96
  v50 := Tryd.zeroValue96
  t53 := Tryd.underlying99
  a53 := Tryd.isAgg99
  z53 := Tryd.sizeOf99
  v53 := Tryd.zeroValue99
  t55 := Tryd.underlying101
  a55 := Tryd.isAgg101
  z55 := Tryd.sizeOf101
  v55 := Tryd.zeroValue101
  t66 := Tryd.underlying107
  a66 := Tryd.isAgg107
  z66 := Tryd.sizeOf107
  v66 := Tryd.zeroValue107
  t70 := Tryd.underlying111
  a70 := Tryd.isAgg111
  z70 := Tryd.sizeOf111
  v70 := Tryd.zeroValue111
  t76 := Tryd.underlying118
  a76 := Tryd.isAgg118
  z76 := Tryd.sizeOf118
  v76 := Tryd.zeroValue118
  t77 := Tryd.underlying119
  a77 := Tryd.isAgg119
  z77 := Tryd.sizeOf119
  v77 := Tryd.zeroValue119 }

open Go.RowKit Go.Lib Go.Sort in
theorem Tryd.slices_SortFunc {α : Type} [Inhabited α] (enc : α → Value) (h1 : OneCell enc) (cf : α → α → Int) (hO : SWO (ltOf cf)) (g : Nat) (cb : Array Value) (blk off cap : Nat) (d : Array α) (w : World) (eg : ∀ args w, (callFunc g args).run Tryd.prog w = .ok (.enter g args) w) (hcmp : CmpLays1 Tryd.prog g cb enc cf blk off d.size w) (hH : Holds enc w blk off d) (hblk : blk < w.heap.size) (hsz : d.size < 4611686018427387904) :
    Calls Tryd.prog 28 #[.slice (some ⟨blk, off, none⟩) d.size cap, .func (.func g) #[] cb] w fun e w' =>
      e = .returned (.tuple #[]) ∧ ∃ d' n os, PermIn 0 d.size d d' ∧ SortedIn (ltOf cf) 0 d.size d' ∧ w' = sortWorld enc w blk off n d' os := Any.slices_SortFunc Tryd.laysSlF6_f28 enc h1 cf hO g cb blk off cap d w eg hcmp hH hblk hsz

def Tryd.laysSlF06_f28_ren : Go.Shelf.Ren := ⟨fun | 6 => 28 | 15 => 43 | 14 => 42 | 28 => 64 | 29 => 65 | 20 => 56 | 21 => 57 | 22 => 58 | 23 => 59 | 24 => 60 | 25 => 61 | 26 => 62 | 27 => 63 | 46 => 73 | 47 => 74 | 48 => 75 | 49 => 76 | 50 => 77 | 57 => 83 | n => n, fun | 22 => 45 | 24 => 3 | 25 => 56 | 3 => 3 | 39 => 82 | 0 => 0 | 53 => 99 | 55 => 101 | 4 => 4 | 46 => 92 | 45 => 91 | 50 => 96 | 5 => 5 | 9 => 9 | 66 => 107 | 70 => 111 | 76 => 118 | 77 => 119 | n => n, fun | n => n⟩

theorem Tryd.laysSlF06_f28 : Go.Proofs.SlLaysF0.n6 Tryd.prog Tryd.laysSlF06_f28_ren := {
  mixed := by kernel_rfl
  f6 := ⟨Tryd.f28.name, by decide, Tryd.func28.trans (congrArg some (by kernel_rfl))⟩
  f14 := ⟨Tryd.f42.name, by decide, Tryd.func42.trans (congrArg some (by kernel_rfl))⟩
  f15 := Tryd.func43.trans (congrArg some (by kernel_rfl))
  f20 := ⟨Tryd.f56.name, by decide, Tryd.func56.trans (congrArg some (by kernel_rfl))⟩
  f21 := ⟨Tryd.f57.name, by decide, Tryd.func57.trans (congrArg some (by kernel_rfl))⟩
  f22 := ⟨Tryd.f58.name, by decide, Tryd.func58.trans (congrArg some (by kernel_rfl))⟩
  f23 := ⟨Tryd.f59.name, by decide, Tryd.func59.trans (congrArg some (by kernel_rfl))⟩
  f24 := ⟨Tryd.f60.name, by decide, Tryd.func60.trans (congrArg some (by kernel_rfl))⟩
  f25 := ⟨Tryd.f61.name, by decide, Tryd.func61.trans (congrArg some (by kernel_rfl))⟩
  f26 := ⟨Tryd.f62.name, by decide, Tryd.func62.trans (congrArg some (by kernel_rfl))⟩
  f27 := ⟨Tryd.f63.name, by decide, Tryd.func63.trans (congrArg some (by kernel_rfl))⟩
  f28 := Tryd.func64.trans (congrArg some (by kernel_rfl))
  f29 := Tryd.func65.trans (congrArg some (by kernel_rfl))
  f46 := ⟨Tryd.f73.name, by decide, Tryd.func73.trans (congrArg some (by kernel_rfl))⟩
  f47 := Tryd.func74.trans (congrArg some (by kernel_rfl))
  f48 := Tryd.func75.trans (congrArg some (by kernel_rfl))
  f49 := ⟨Tryd.f76.name, by decide, Tryd.func76.trans (congrArg some (by kernel_rfl))⟩
  f50 := ⟨Tryd.f77.name, by decide, Tryd.func77.trans (congrArg some (by kernel_rfl))⟩
  f57 := ⟨Tryd.f83.name, by decide, Tryd.func83.trans (congrArg some (by kernel_rfl))⟩
  t0 := Tryd.underlying0
  a0 := Tryd.isAgg0
  z0 := Tryd.sizeOf0
  v0 := Tryd.zeroValue0
  t3 := Tryd.underlying3
  a3 := Tryd.isAgg3
  z3 := Tryd.sizeOf3
  v3 := Tryd.zeroValue3
  t4 := Tryd.underlying4
  a4 := Tryd.isAgg4
  z4 := Tryd.sizeOf4
  v4 := Tryd.zeroValue4
  t5 := Tryd.underlying5
  a5 := Tryd.isAgg5
  z5 := Tryd.sizeOf5
  v5 := Tryd.zeroValue5
  t9 := Tryd.underlying9
  a9 := Tryd.isAgg9
  z9 := Tryd.sizeOf9
  v9 := Tryd.zeroValue9
  t22 := Tryd.underlying45
  a22 := Tryd.isAgg45
  z22 := Tryd.sizeOf45
  v22 := Tryd.zeroValue45
  t25 := Tryd.underlying56
  a25 := Tryd.isAgg56
  z25 := Tryd.sizeOf56
  v25 := Tryd.zeroValue56
  t39 := Tryd.underlying82
  a39 := Tryd.isAgg82
  z39 := Tryd.sizeOf82
  v39 := Tryd.zeroValue82
  t45 := Tryd.underlying91
  a45 := Tryd.isAgg91
  z45 := Tryd.sizeOf91
  v45 := Tryd.zeroValue91
  t46 := Tryd.underlying92
  a46 := Tryd.isAgg92
  z46 := Tryd.sizeOf92
  v46 := Tryd.zeroValue92
  t50 := Tryd.underlying96
  a50 := Tryd.isAgg96
  z50 := Tryd.sizeOf96
  v50 := Tryd.zeroValue96
  t53 := Tryd.underlying99
  a53 := Tryd.isAgg99
  z53 := Tryd.sizeOf99
  v53 := Tryd.zeroValue99
  t55 := Tryd.underlying101
  a55 := Tryd.isAgg101
  z55 := Tryd.sizeOf101
  v55 := Tryd.zeroValue101
  t66 := Tryd.underlying107
  a66 := Tryd.isAgg107
  z66 := Tryd.sizeOf107
  v66 := Tryd.zeroValue107
  t70 := Tryd.underlying111
  a70 := Tryd.isAgg111
  z70 := Tryd.sizeOf111
  v70 := Tryd.zeroValue111
  t76 := Tryd.underlying118
  a76 := Tryd.isAgg118
  z76 := Tryd.sizeOf118
  v76 := Tryd.zeroValue118
  t77 := Tryd.underlying119
  a77 := Tryd.isAgg119
  z77 := Tryd.sizeOf119
  v77 := Tryd.zeroValue119 }

open Go.RowKit Go.Lib Go.Sort in
theorem Tryd.slices_SortFunc_none {α : Type} [Inhabited α] (p : Option Addr) (cap : Nat) (fv : Value) (w : World) :
    Calls Tryd.prog 28 #[.slice p 0 cap, fv] w fun e w' => e = .returned (.tuple #[]) ∧ w' = w := AnyF.slices_SortFunc_none Tryd.laysSlF06_f28 p cap fv w

def Tryd.lays106_ren : Go.Shelf.Ren := ⟨fun | 106 => 30 | 213 => 44 | 265 => 66 | n => n, fun | 9 => 9 | 3 => 3 | n => n, fun | n => n⟩

theorem Tryd.lays106 : Go.Proofs.Lays.n106 Tryd.prog Tryd.lays106_ren := {
  mixed := by kernel_rfl
  f106 := Tryd.func30.trans (congrArg some (by kernel_rfl))
  f213 := Tryd.func44.trans (congrArg some (by kernel_rfl))
  f265 := Tryd.func66.trans (congrArg some (by kernel_rfl))
  t3 := Tryd.underlying3
  a3 := Tryd.isAgg3
  z3 := Tryd.sizeOf3
  v3 := Tryd.zeroValue3
  t9 := Tryd.underlying9
  a9 := Tryd.isAgg9
  z9 := Tryd.sizeOf9
  v9 := Tryd.zeroValue9 }

open Go.RowKit in
theorem Tryd.strings_Compare (a b : ByteArray) (w : World) :
    Calls Tryd.prog 30 #[.string a, .string b] w fun e w' => e = .returned (.int .i64 (Lib.compareBytes a.data.toList b.data.toList)) ∧ w' = w := Any.strings_Compare Tryd.lays106 a b w

end Go.Proofs

namespace Go.Proofs.YtekegcfelaefhaaDoor
open Go.RowKit Go.Sort Go.Shelf

theorem cmp_neg (a b : List UInt8) : Lib.compareBytes a b < 0 ↔ a < b := by
  induction a generalizing b with
  | nil =>
    cases b with
    | nil => simp [Lib.compareBytes]
    | cons y bs => simp [Lib.compareBytes]
  | cons x xs ih =>
    cases b with
    | nil => simp [Lib.compareBytes]
    | cons y bs =>
      unfold Lib.compareBytes
      rw [List.cons_lt_cons_iff]
      by_cases h1 : x < y
      · simp [h1]
      · by_cases h2 : y < x
        · rw [if_neg h1, if_pos h2]
          constructor
          · intro h; omega
          · rintro (h | ⟨h, _⟩)
            · exact absurd h h1
            · subst h; exact absurd h2 h1
        · rw [if_neg h1, if_neg h2, ih bs]
          have e : x = y := UInt8.le_antisymm (UInt8.not_lt.1 h2) (UInt8.not_lt.1 h1)
          constructor
          · intro h; exact .inr ⟨e, h⟩
          · rintro (h | ⟨_, h⟩)
            · exact absurd h h1
            · exact h

/-- the order of places by the names that stand there -/
def cfAt (nms : List ByteArray) (m : Nat) (h : nms.length = m + 1) (x y : Fin (m + 1)) : Int := Lib.compareBytes (nms[x.val]'(by omega)).data.toList (nms[y.val]'(by omega)).data.toList
theorem lt_cfAt (nms : List ByteArray) (m : Nat) (h : nms.length = m + 1) (x y : Fin (m + 1)) : ltOf (cfAt nms m h) x y = true ↔ lessB (nms[x.val]'(by omega)) (nms[y.val]'(by omega)) := by
  unfold ltOf cfAt lessB
  rw [decide_eq_true_eq, cmp_neg]
theorem lt_cfAt_no (nms : List ByteArray) (m : Nat) (h : nms.length = m + 1) (x y : Fin (m + 1)) : ltOf (cfAt nms m h) x y = false ↔ ¬ lessB (nms[x.val]'(by omega)) (nms[y.val]'(by omega)) := by
  rw [← lt_cfAt nms m h, Bool.not_eq_true]
theorem swo_cfAt (nms : List ByteArray) (m : Nat) (h : nms.length = m + 1) : SWO (ltOf (cfAt nms m h)) where
  irrefl x := by rw [lt_cfAt_no]; exact List.lt_irrefl _
  trans x y z h1 h2 := by rw [lt_cfAt] at *; exact List.lt_trans h1 h2
  ntrans x y z h1 h2 := by
    rw [lt_cfAt_no] at *
    unfold lessB at *
    exact List.not_lt.2 (List.le_trans (List.not_lt.1 h2) (List.not_lt.1 h1))

set_option maxHeartbeats 800000 in
set_option maxRecDepth 100000 in
theorem implPlacesCmp (Bx : Nat) (ad : Option Addr) (c : Nat) (nms : List ByteArray) (x y : Nat) (hx : x < nms.length) (hy : y < nms.length) (W : World) (hB : W.cell? ⟨Bx, 0, none⟩ = some (.slice ad nms.length c)) (hT : Texts W (.slice ad nms.length c) nms) :
    Calls Tryd.prog 29 #[.int .i64 x, .int .i64 y, .pointer (some ⟨Bx, 0, none⟩)] W fun e w' => e = .returned (.int .i64 (Lib.compareBytes nms[x].data.toList nms[y].data.toList)) ∧ ∃ q os', w' = grow (W.drewN q) os' := by
  obtain ⟨a', c', e', hc⟩ := textsOpen hT
  simp only [Value.slice.injEq, true_and] at e'
  obtain ⟨rfl, rfl⟩ := e'
  obtain ⟨b, off, rfl, cx⟩ := hc x hx
  obtain ⟨b', off', e', cy⟩ := hc y hy
  simp only [Option.some.injEq, Addr.mk.injEq, and_true] at e'
  obtain ⟨rfl, rfl⟩ := e'
  have HCM : Hid (∀ wx : World, Calls Tryd.prog 30 #[.string nms[x], .string nms[y]] wx fun e w' => e = .returned (.int .i64 (Lib.compareBytes nms[x].data.toList nms[y].data.toList)) ∧ w' = wx) := fun wx => Tryd.strings_Compare nms[x] nms[y] wx
  have hx0 : (0 : Int) ≤ (x : Int) := by omega
  have hx1 : (x : Int) < (nms.length : Int) := by omega
  have hy0 : (0 : Int) ≤ (y : Int) := by omega
  have hy1 : (y : Int) < (nms.length : Int) := by omega
  clear hc hT
  generalize Lib.compareBytes nms[x].data.toList nms[y].data.toList = r at *
  generalize nms[x] = sx at *
  generalize nms[y] = sy at *
  go_enter Tryd.func29, Tryd.ntmps29
  go_wp2_with fail
  go_quiet ((go_at_call 30; exact Calls.quiet_of_same (HCM.out _)))
  go_wp2_with fail
  go_ret
  exact ⟨rfl, _, #[], by rw [grow_empty]⟩

end Go.Proofs.YtekegcfelaefhaaDoor

namespace Go.Proofs.YtekegcfelaefhaaDoor
open Go.RowKit Go.Sort Go.Shelf

/-- the name at a place -/
def nameAt (nms : List ByteArray) (p : Nat) : ByteArray := nms.getD p ⟨#[]⟩
theorem nameAt_eq (nms : List ByteArray) (p : Nat) (h : p < nms.length) : nameAt nms p = nms[p] := by unfold nameAt; simp [List.getD, h]

/-- places as cells -/
def placeV (ps : List Nat) : List Value := List.map (fun (p : Nat) => Value.int .i64 (p : Int)) ps

theorem sortWorld_block {α : Type} [Inhabited α] (enc : α → Value) (w : World) (blk off m : Nat) (dk : Array α) (os : Array Obj) (b : Nat) (hb : b < w.heap.size) (hne : b ≠ blk) : (sortWorld enc w blk off m dk os).heap[b]? = w.heap[b]? := by
  unfold sortWorld
  rw [heap_grow_old _ _ (by simpa [putRow, mapBlock, Sort.ahead] using hb)]
  simp only [putRow, mapBlock, Sort.ahead, Array.getElem?_modify]
  rw [if_neg (fun e => hne e.symm)]

theorem below_grow (w : World) (os : Array Obj) : RowKit.Below w.heap.size w (grow w os) := by
  have := below_regrown w w.drawn os
  exact this

theorem Tryd.infoInt : (Tryd.prog.info? 3).map (fun i => (i.zero, i.size, i.bytes)) = some (some (.int .i64 0), 1, 8) := by kernel_rfl

theorem placeV_more (k : Nat) : placeV (List.range (k + 1)) = placeV (List.range k) ++ [.int .i64 (k : Int)] := by simp [placeV, List.range_succ]
theorem placeV_len (ps : List Nat) : (placeV ps).length = ps.length := by simp [placeV]

theorem one_cellP {X : World} {G : Nat} {z : Int} (h : X.cell? ⟨G, 0, none⟩ = some (.int .i64 z)) : ∀ j u, [Value.int .i64 z][j]? = some u → X.cell? ((⟨G, 0, none⟩ : Addr).add j) = some u := by
  intro j u hj
  match j, hj with
  | 0, hj => simp at hj; subst hj; simpa [Addr.add] using h
  | j + 1, hj => simp at hj

/-- sorted places, told by the sort's own words -/
theorem sorted_places (nms : List ByteArray) (m : Nat) (h : nms.length = m + 1) (d' : Array (Fin (m + 1))) (hp : PermIn 0 (m + 1) (List.finRange (m + 1)).toArray d') (hs : SortedIn (ltOf (cfAt nms m h)) 0 (m + 1) d') :
    (d'.toList.map (·.val)).Perm (List.range nms.length) ∧ (∀ i j (hij : i < j) (hj : j < (d'.toList.map (·.val)).length), ¬ lessB (nameAt nms (d'.toList.map (·.val))[j]) (nameAt nms ((d'.toList.map (·.val))[i]'(by omega)))) ∧ d'.size = m + 1 := by
  have hz : (List.finRange (m + 1)).toArray.size = m + 1 := by simp
  obtain ⟨p1, _, p3⟩ := hp
  rw [hz] at p1
  have e1 : d'.extract 0 (m + 1) = d' := Array.extract_eq_self_of_le (by omega)
  have e2 : (List.finRange (m + 1)).toArray.extract 0 (m + 1) = (List.finRange (m + 1)).toArray := Array.extract_eq_self_of_le (by omega)
  rw [e1, e2] at p3
  refine ⟨?_, fun i j hij hj => ?_, p1⟩
  · have := p3.map (·.val)
    rw [h]
    refine this.trans (List.Perm.of_eq ?_)
    apply List.ext_getElem
    · simp
    · intro i h1 h2
      simp
  · rw [List.length_map, Array.length_toList] at hj
    have := hs i j (Nat.zero_le _) hij (by omega)
    rw [lt_cfAt_no, getElem!_pos d' j (by omega), getElem!_pos d' i (by omega)] at this
    rw [List.getElem_map, List.getElem_map, nameAt_eq _ _ (by simp; omega), nameAt_eq _ _ (by simp; omega)]
    exact this

end Go.Proofs.YtekegcfelaefhaaDoor

namespace Go.Proofs.YtekegcfelaefhaaDoor
open Go.RowKit Go.Sort Go.Shelf

theorem enc_fin (m : Nat) (l : List (Fin (m + 1))) : l.map (fun x => Value.int .i64 (x.val : Int)) = placeV (l.map (·.val)) := by
  unfold placeV
  rw [List.map_map]
  rfl
theorem range_fin (m : Nat) : placeV (List.range (m + 1)) = (List.finRange (m + 1)).map (fun x => Value.int .i64 (x.val : Int)) := by
  rw [enc_fin]
  congr 1
  apply List.ext_getElem
  · simp
  · intro i h1 h2
    simp

theorem ownsRow_monoP {w : World} {B B' e z : Nat} {v : Value} {n : Nat} {xs : List Value} (h : w.ownsRow B e z v n xs) (hB : B' ≤ B) : w.ownsRow B' e z v n xs := by
  refine ⟨h.1, ?_⟩
  rcases h.2 with h | ⟨g, cap, cur, h1, h2, h3⟩
  · exact .inl h
  · exact .inr ⟨g, cap, cur, h1, Nat.le_trans hB h2, h3⟩

/-- slices.SortFunc at places, by names -/
theorem sortPlaces (Bx g cap : Nat) (ad : Option Addr) (c B : Nat) (nms : List ByteArray) (m : Nat) (h : nms.length = m + 1) (w : World) (hbx : w.cell? ⟨Bx, 0, none⟩ = some (.slice ad nms.length c)) (hT : Texts w (.slice ad nms.length c) nms) (hne : Bx ≠ g) (hng : ∀ b off, ad = some ⟨b, off, none⟩ → b ≠ g)
    (ho : w.ownsRow B 3 1 (.slice (some ⟨g, 0, none⟩) (m + 1) cap) (m + 1) (placeV (List.range (m + 1)))) (hm : m ≤ 1048576) :
    Calls Tryd.prog 28 #[.slice (some ⟨g, 0, none⟩) (m + 1) cap, .func (.func 29) #[] #[.pointer (some ⟨Bx, 0, none⟩)]] w fun e w' => e = .returned (.tuple #[]) ∧ ∃ ps : List Nat, ps.Perm (List.range nms.length) ∧ (∀ i j (hij : i < j) (hj : j < ps.length), ¬ lessB (nameAt nms ps[j]) (nameAt nms (ps[i]'(by omega)))) ∧ w'.ownsRow B 3 1 (.slice (some ⟨g, 0, none⟩) (m + 1) cap) (m + 1) (placeV ps) ∧ RowKit.Below B w w' := by
  have ho' := ho
  rw [range_fin] at ho
  obtain ⟨g', cap', e', hgB, hgl, _, _, _, hH⟩ := Lib.holds_of_ownsRow ho (by simp)
  simp only [Value.slice.injEq, Option.some.injEq, Addr.mk.injEq, true_and, and_true] at e'
  obtain ⟨rfl, rfl⟩ := e'
  have hsz : (List.finRange (m + 1)).toArray.size = m + 1 := by simp
  have eg : ∀ args w, (callFunc 29 args).run Tryd.prog w = .ok (.enter 29 args) w := enters_of Tryd.func29 (by kernel_rfl) rfl
  have hcmp : CmpLays1 Tryd.prog 29 #[.pointer (some ⟨Bx, 0, none⟩)] (fun x : Fin (m + 1) => Value.int .i64 (x.val : Int)) (cfAt nms m h) g 0 (List.finRange (m + 1)).toArray.size w := fun mm os dk hs x y => by
    have hb1 : Bx < w.heap.size := World.block_lt_of_cell? w _ hbx
    refine implPlacesCmp Bx ad c nms x.val y.val (by omega) (by omega) _ ?_ ?_
    · rw [← hbx]
      simp only [World.cell?, sortWorld_block _ _ _ _ _ _ _ Bx hb1 hne]
    · rcases hT with h0 | ⟨b, off, cap2, e2, hc⟩
      · exact .inl h0
      · simp only [Value.slice.injEq, true_and] at e2
        obtain ⟨e3, rfl⟩ := e2
        refine .inr ⟨b, off, c, by rw [e3], fun j hj => ?_⟩
        have h1 := hc j hj
        have hb : b < w.heap.size := World.block_lt_of_cell? w ⟨b, off + j, none⟩ h1
        rw [← h1]
        simp only [World.cell?, sortWorld_block _ _ _ _ _ _ _ b hb (hng b off e3)]
  have hcon := Tryd.slices_SortFunc (fun x : Fin (m + 1) => Value.int .i64 (x.val : Int)) (fun _ => rfl) (cfAt nms m h) (swo_cfAt nms m h) 29 #[.pointer (some ⟨Bx, 0, none⟩)] g 0 cap (List.finRange (m + 1)).toArray w eg hcmp hH hgl (by rw [hsz]; omega)
  rw [hsz] at hcon
  refine hcon.mono fun e w' hh => ?_
  obtain ⟨he, d', nq, os, hp, hs, hw⟩ := hh
  obtain ⟨q1, q2, q3⟩ := sorted_places nms m h d' hp hs
  refine ⟨he, d'.toList.map (·.val), q1, q2, ?_, ?_⟩
  · have o1 := Lib.ownsRow_putRow (q := nq) (k := m + 1) (ys := d'.toList) ho (by simpa using q3) (Nat.le_refl _)
    rw [List.take_of_length_le (by simp; omega), enc_fin] at o1
    rw [hw]
    unfold sortWorld
    exact kept_belowT (by simpa using o1) (below_grow _ _)
  · rw [hw]
    unfold sortWorld
    have b1 : RowKit.Below B w (putRow (fun x : Fin (m + 1) => Value.int .i64 (x.val : Int)) (Sort.ahead w nq) g 0 d') := Lib.below_putRow (RowKit.Below.refl _ _) hgB
    exact b1.trans ((below_grow _ os).mono (by have := b1.size; omega))

set_option maxHeartbeats 1600000 in
set_option maxRecDepth 100000 in
theorem implPlaces (v : Value) (nms : List ByteArray) (w : World) (hT : Texts w v nms) (hl : nms.length ≤ 1048576) :
    Calls Tryd.prog 21 #[v] w fun e w' => ∃ (a : Option Addr) (c : Nat) (ps : List Nat), e = .returned (.slice a nms.length c) ∧ ps.Perm (List.range nms.length) ∧ (∀ i j (hij : i < j) (hj : j < ps.length), ¬ lessB (nameAt nms ps[j]) (nameAt nms (ps[i]'(by omega)))) ∧ w'.ownsRow w.heap.size 3 1 (.slice a nms.length c) nms.length (placeV ps) ∧ RowKit.Below w.heap.size w w' := by
  obtain ⟨i0, hi0, hz0, hz1, hz2⟩ := info_parts Tryd.infoInt
  obtain ⟨an, cn, rfl, hco⟩ := textsOpen hT
  have HT : Hid (type_of% hT) := hT
  have HN : Hid (∀ b off, an = some ⟨b, off, none⟩ → 0 < nms.length → b < w.heap.size) := fun b off e hp => by
    obtain ⟨b', off', e', h⟩ := hco 0 hp
    rw [e] at e'
    simp only [Option.some.injEq, Addr.mk.injEq, and_true] at e'
    rw [e'.1]
    exact World.block_lt_of_cell? w ⟨b', off' + 0, none⟩ h
  clear hT hco
  have hbox : ∀ wx : World, RowKit.Below (w.heap.size + 1) (w.alloc (.cells #[.slice an nms.length cn] 22)) wx → wx.cell? ⟨w.heap.size, 0, none⟩ = some (.slice an nms.length cn) ∧ RowKit.Below w.heap.size w wx := fun wx hx => by
    refine ⟨?_, ((RowKit.Below.refl _ _).alloc (Nat.le_refl _) _).trans (hx.mono (by omega))⟩
    rw [hx.cell (p := ⟨w.heap.size, 0, none⟩) (Nat.lt_succ_self _), cellNew 0 rfl]; rfl
  have HBX : Hid (type_of% hbox) := hbox
  clear hbox
  go_enter Tryd.func21, Tryd.ntmps21
  go_wp2_with fail
  go_loopw [3, 7] (fun v i wr => ∃ k : Nat, k ≤ nms.length ∧ i = .int .i64 k ∧ wr.ownsRow (w.heap.size + 1) 3 1 v k (placeV (List.range k)) ∧ RowKit.Below (w.heap.size + 1) (w.alloc (.cells #[.slice an nms.length cn] 22)) wr) (fun _ i _ => nms.length - (intOf i).toNat)
  case atStart => exact ⟨0, Nat.zero_le _, rfl, World.ownsRow_nil _ _ _ _, RowKit.Below.refl _ _⟩
  case round =>
    obtain ⟨k, hk, rfl, ho, hbe⟩ := hrel
    have hz : w.heap.size + 1 ≤ wr.heap.size := by have := hbe.size; simpa using this
    obtain ⟨bx, hbw⟩ := HBX.out wr hbe
    obtain ⟨av, cv, hv⟩ := slice_ownM ho
    subst hv
    by_cases hlt : k < nms.length
    · clear HT HN HBX
      go_wp2_with (at_builtin; refine wpList_append_own _ rfl _ _ 45 rfl (w.heap.size + 1) 3 i0 (.int .i64 0) 1 8 Tryd.underlying45 hi0 hz0 hz1 hz2 rfl (by decide) _ _ _ rfl (ho.alloc _) ⟨wr.heap.size, 0, none⟩ 1 1 [.int .i64 (k : Int)] rfl rfl ?c1 ?c2 ?c3 ?c4 ?c5 ?_)
      case c1 => exact one_cellP (cellNew 0 rfl)
      case c2 => intro u hu; simp at hu; subst hu; rfl
      case c3 => unfold maxLen; omega
      case c4 => omega
      case c5 => simp; omega
      intro v' w3 hown' hgrow _
      have R1 : w3.ownsRow (w.heap.size + 1) 3 1 v' (k + 1) (placeV (List.range (k + 1))) := by rw [placeV_more]; exact hown'
      have R2 : RowKit.Below (w.heap.size + 1) (w.alloc (.cells #[.slice an nms.length cn] 22)) w3 := (hbe.alloc hz _).grown hgrow (by simp; omega) (fun j hj => (ho.lt j hj).1)
      clear hown' hgrow ho hbe
      go_wp2_with fail
      go_roundw
      case rel => exact ⟨k + 1, by omega, by go_num, R1, R2⟩
      case measure => simp [intOf]; omega
    · have hke : k = nms.length := by omega
      cases hm : nms.length with
      | zero =>
        have hk0 : k = 0 := by omega
        subst hk0
        have HF : Hid (wr.ownsRow w.heap.size 3 1 (.slice av 0 cv) 0 (placeV [])) := ownsRow_monoP ho (by omega)
        have HS : Hid (type_of% (Tryd.slices_SortFunc_none (α := Nat) av cv (.func (.func 29) #[] #[.pointer (some ⟨w.heap.size, 0, none⟩)]) wr)) := Tryd.slices_SortFunc_none (α := Nat) av cv _ wr
        have HM : Hid (nms.length = 0) := hm
        clear ho HT HN HBX hm hke
        go_wp2_with fail
        refine HS.out.mono ?_
        rintro e w4 ⟨rfl, rfl⟩
        go_wp2_with fail
        go_ret
        refine ⟨av, cv, [], ?_, ?_, fun i j hij hj => absurd hj (by simp), ?_, hbw⟩
        · rw [HM.out]; rfl
        · rw [HM.out]; exact List.Perm.refl _
        · rw [HM.out]; exact HF.out
      | succ m =>
        have hkm : k = m + 1 := by omega
        subst hkm
        obtain ⟨g, hga⟩ : ∃ g, av = some ⟨g, 0, none⟩ ∧ w.heap.size + 1 ≤ g := by
          rcases ho.2 with ⟨_, h0⟩ | ⟨g, cap, cur, hv, hg, _⟩
          · omega
          · simp only [Value.slice.injEq, true_and] at hv
            exact ⟨g, hv.1, hg⟩
        obtain ⟨rfl, hgl⟩ := hga
        have HS0 := sortPlaces w.heap.size g cv an cn (w.heap.size + 1) nms m hm wr bx (HT.out.below hbw) (by omega) (fun b off e => by have := HN.out b off e (by omega); omega) ho (by omega)
        have HS : Hid (type_of% HS0) := HS0
        have HM : Hid (nms.length = m + 1) := hm
        clear ho HT HN HBX hm hke HS0
        go_wp2_with fail
        refine HS.out.mono ?_
        rintro e w4 ⟨rfl, ps, p1, p2, p3, p4⟩
        have HP1 : Hid (type_of% p1) := p1
        have HP2 : Hid (type_of% p2) := p2
        have HP3 : Hid (w4.ownsRow w.heap.size 3 1 (.slice (some ⟨g, 0, none⟩) (m + 1) cv) (m + 1) (placeV ps)) := ownsRow_monoP p3 (by omega)
        have R4 : RowKit.Below w.heap.size w w4 := hbw.trans (p4.mono (by omega))
        clear p1 p2 p3 p4 HS
        go_wp2_with fail
        go_ret
        refine ⟨some ⟨g, 0, none⟩, cv, ps, ?_, HP1.out, HP2.out, ?_, R4⟩
        · rw [HM.out]; rfl
        · rw [HM.out]; exact HP3.out

end Go.Proofs.YtekegcfelaefhaaDoor

namespace Go.Proofs.YtekegcfelaefhaaDoor
open Go.RowKit

/-- the kid at a place -/
def kidAt (ks : List Ty) (p : Nat) : Ty := ks.getD p (.mk 0 ⟨#[]⟩ [] [])
theorem kidAt_eq (ks : List Ty) (p : Nat) (h : p < ks.length) : kidAt ks p = ks[p] := by unfold kidAt; simp [List.getD, h]
/-- the record of these, in this order of places -/
def recOf (nms : List ByteArray) (ks : List Ty) (ps : List Nat) : Ty := .mk 5 ⟨#[]⟩ (ps.map (nameAt nms)) (ps.map (kidAt ks))

/-- the cells of kids by their places -/
def flatP (C : Nat → List Value) (ps : List Nat) : List Value := ps.flatMap C
theorem flatP_snoc (C : Nat → List Value) (ps : List Nat) (p : Nat) : flatP C (ps ++ [p]) = flatP C ps ++ C p := by simp [flatP]
theorem flatP_len (C : Nat → List Value) (ps : List Nat) (h : ∀ p ∈ ps, (C p).length = 4) : (flatP C ps).length = ps.length * 4 := by
  induction ps with
  | nil => rfl
  | cons p r ih =>
    have h1 := h p (by simp)
    have h2 := ih fun q hq => h q (by simp [hq])
    unfold flatP at h2 ⊢
    rw [List.flatMap_cons, List.length_append, h1, h2, List.length_cons]
    omega
theorem flatP_get (C : Nat → List Value) (ps : List Nat) (h : ∀ p ∈ ps, (C p).length = 4) (j c : Nat) (hj : j < ps.length) (hc : c < 4) : (flatP C ps)[j * 4 + c]? = (C ps[j])[c]? := by
  induction ps generalizing j with
  | nil => simp at hj
  | cons p r ih =>
    have h1 := h p (by simp)
    unfold flatP
    rw [List.flatMap_cons]
    cases j with
    | zero => rw [List.getElem?_append_left (by omega)]; simp
    | succ j =>
      rw [List.getElem?_append_right (by omega), h1, show (j + 1) * 4 + c - 4 = j * 4 + c from by omega]
      exact ih (fun q hq => h q (by simp [hq])) j (by simpa using hj)

/-- what a row of types is, its cells told by place -/
def CellsAt (w : World) (n : Nat) (C : Nat → List Value) (ks : List Ty) : Prop := ∀ p, p < ks.length → TyAt w n (C p) (kidAt ks p)
theorem choose_cells {w : World} {n : Nat} {v : Value} {ks : List Ty} (h : RowAt w (TyAt w n) v ks) : ∃ (C : Nat → List Value) (a : Option Addr) (cap : Nat), v = .slice a ks.length cap ∧ CellsAt w n C ks ∧ ∀ p, p < ks.length → ∃ b off, a = some ⟨b, off, none⟩ ∧ b < w.heap.size ∧ ∀ c u, (C p)[c]? = some u → w.cell? ⟨b, off + p * 4 + c, none⟩ = some u := by
  rcases h with ⟨h, a, cap, e⟩ | ⟨b, off, cap, e, hc⟩
  · subst h
    exact ⟨fun _ => [], a, cap, e, fun p hp => absurd hp (by simp), fun p hp => absurd hp (by simp)⟩
  · have each : ∀ p, p < ks.length → ∃ cs, TyAt w n cs (kidAt ks p) ∧ ∀ c u, cs[c]? = some u → w.cell? ⟨b, off + p * 4 + c, none⟩ = some u := fun p hp => by
      rw [kidAt_eq ks p hp]; exact hc p hp
    haveI : Inhabited (List Value) := ⟨[]⟩
    obtain ⟨C, hC⟩ := Go.Deep.choose_lt each
    refine ⟨C, _, cap, e, fun p hp => (hC p hp).1, fun p hp => ⟨b, off, rfl, ?_, (hC p hp).2⟩⟩
    have hl := (hC p hp).1.len
    exact World.block_lt_of_cell? w _ ((hC p hp).2 0 _ (List.getElem?_eq_getElem (by omega)))

/-- the record that was gathered, as a type in memory -/
theorem rec_at {w0 w : World} {n B B' : Nat} {vn vk : Value} {nms : List ByteArray} {ks : List Ty} {ps : List Nat} {C : Nat → List Value} (hC : CellsAt w0 n C ks) (hb : Below w0.heap.size w0 w) (hps : ∀ p ∈ ps, p < ks.length ∧ p < nms.length) (hn : w.ownsRow B 9 1 vn ps.length (strV (ps.map (nameAt nms)))) (hk : w.ownsRow B' 28 4 vk ps.length (flatP C ps))
    (hl : ps.length ≤ 1048577) (hs : ∀ x ∈ nms, x.size ≤ 1048576) : TyAt w (n + 1) [.int .i64 5, .string ⟨#[]⟩, vn, vk] (recOf nms ks ps) := by
  have h4 : ∀ p ∈ ps, (C p).length = 4 := fun p hp => (hC p (hps p hp).1).len
  refine ⟨vn, vk, rfl, ⟨by show (-9223372036854775808 : Int) ≤ 5; omega, by show (5 : Int) ≤ _; omega⟩, by show (0 : Nat) ≤ _; omega, ⟨?_, ?_, ?_⟩, ?_, ?_⟩
  · have e : ps.length = (ps.map (nameAt nms)).length := by rw [List.length_map]
    rw [e] at hn
    exact texts_owns (OwnS.of hn)
  · show (ps.map (nameAt nms)).length ≤ maxLen
    rw [List.length_map]; unfold maxLen; omega
  · intro x hx
    obtain ⟨p, hp, rfl⟩ := List.mem_map.1 hx
    rw [nameAt_eq nms p (hps p hp).2]
    have := hs _ (List.getElem_mem (hps p hp).2)
    unfold maxLen; omega
  · show (ps.map (kidAt ks)).length ≤ maxLen
    rw [List.length_map]; unfold maxLen; omega
  · show RowAt w (TyAt w n) vk (ps.map (kidAt ks))
    rcases hk.2 with ⟨e, h0⟩ | ⟨g, cap, cur, e, _⟩
    · exact .inl ⟨by rw [List.length_eq_zero_iff.1 h0]; rfl, _, _, e⟩
    · subst e
      refine .inr ⟨g, 0, cap, by rw [List.length_map], fun j hj => ⟨C (ps[j]'(by simpa using hj)), ?_, fun c u hu => ?_⟩⟩
      · rw [List.getElem_map]
        have hj' : j < ps.length := by simpa using hj
        exact (hC _ (hps _ (List.getElem_mem hj')).1).below hb
      · have hj' : j < ps.length := by simpa using hj
        have hc : c < 4 := by
          have := (List.getElem?_eq_some_iff.1 hu).1
          rw [h4 _ (List.getElem_mem hj')] at this
          exact this
        rw [Nat.zero_add, hk.cellAt (j * 4 + c) (by omega), flatP_get C ps h4 j c hj' hc]
        exact hu

end Go.Proofs.YtekegcfelaefhaaDoor

namespace Go.Proofs.YtekegcfelaefhaaDoor
open Go.RowKit

/-- the record that is being made -/
structure Rec2 (W2 wr : World) (T : Nat) (vN vK : Value) (kN kK : Nat) (xN xK : List Value) : Prop where
  box : wr.heap[T]? = some (.cells #[.int .i64 5, .string ⟨#[]⟩, vN, vK] 28 (0, 0))
  names : wr.ownsRow W2.heap.size 9 1 vN kN xN
  kids : wr.ownsRow W2.heap.size 28 4 vK kK xK
  apart : ∀ g, vN.ownBlock = some g → vK.ownBlock ≠ some g
  only : OnlyL [T] W2 wr
  lt : T < W2.heap.size

theorem owns_apart {w w' : World} {B e z : Nat} {v : Value} {n : Nat} {xs : List Value} (h : w.ownsRow B e z v n xs) (hs : ∀ g, v.ownBlock = some g → w'.heap[g]? = w.heap[g]?) : w'.ownsRow B e z v n xs := by
  refine ⟨h.1, ?_⟩
  rcases h.2 with h | ⟨g, cap, cur, h1, h2, h3, h4⟩
  · exact .inl h
  · refine .inr ⟨g, cap, cur, h1, h2, ?_, h4⟩
    rw [hs g (by rw [h1]; rfl)]
    exact h3

theorem Rec2.name {W2 wr w4 : World} {T : Nat} {vN vK : Value} {kN kK gg cap : Nat} {xN xK xN' : List Value} {o : Obj} (h : Rec2 W2 wr T vN vK kN kK xN xK) (hg : (wr.alloc o).grownBy w4 vN.ownBlock) (hat : vN.ownBlock = some gg ∨ gg = wr.heap.size + 1) (hown : w4.ownsRow W2.heap.size 9 1 (.slice (some ⟨gg, 0, none⟩) (kN + 1) cap) (kN + 1) xN') :
    Rec2 W2 (w4.setCell ⟨T, 2, none⟩ (.slice (some ⟨gg, 0, none⟩) (kN + 1) cap)) T (.slice (some ⟨gg, 0, none⟩) (kN + 1) cap) vK (kN + 1) kK xN' xK := by
  have hlt := h.lt
  have hz := h.only.size
  have keep : ∀ b, b < wr.heap.size → vN.ownBlock ≠ some b → w4.heap[b]? = wr.heap[b]? := fun b hb hne => (hg.block b (by simp; omega) fun e => hne e.symm).trans ((MapKept.heap_alloc wr o).2 b hb)
  have hset : ∀ b, b ≠ T → (w4.setCell ⟨T, 2, none⟩ (.slice (some ⟨gg, 0, none⟩) (kN + 1) cap)).heap[b]? = w4.heap[b]? := fun b hb => Below.heap_setCell _ _ _ _ (by simpa using hb)
  have hN : ∀ g, vN.ownBlock = some g → W2.heap.size ≤ g := fun g e => (h.names.lt g e).1
  have hK : ∀ g, vK.ownBlock = some g → W2.heap.size ≤ g ∧ g < wr.heap.size := fun g e => h.kids.lt g e
  have hgg : W2.heap.size ≤ gg := by rcases hat with e | e; exact hN gg e; omega
  have hz4 : wr.heap.size + 1 ≤ w4.heap.size := by have := hg.size; simpa using this
  refine ⟨?_, ?_, ?_, fun g e1 e2 => ?_, ?_, hlt⟩
  · have hb : w4.heap[T]? = some (.cells #[.int .i64 5, .string ⟨#[]⟩, vN, vK] 28 (0, 0)) := (keep T (by omega) fun e => by have := hN T e; omega).trans h.box
    exact heap_setCell_same w4 T 2 _ _ _ hb
  · exact owns_apart hown fun g e => hset g (by simp only [Value.ownBlock, Option.some.injEq] at e; omega)
  · refine owns_apart h.kids fun g e => ?_
    have := hK g e
    rw [hset g (by omega), keep g (by omega) fun e3 => h.apart g e3 e]
  · simp only [Value.ownBlock, Option.some.injEq] at e1
    subst e1
    rcases hat with e | e
    · exact h.apart gg e e2
    · have := (hK gg e2).2; omega
  · refine ⟨h.only.os ▸ hg.os, ?_, ?_, by simp; omega, fun b hb hm => ?_⟩
    · exact (hg.tape).trans h.only.tape
    · exact (hg.output).trans h.only.output
    · rw [hset b (by simpa using hm), keep b (by omega) (fun e => by have := hN b e; omega)]
      exact h.only.block b hb hm

theorem Rec2.kid {W2 wr w4 : World} {T : Nat} {vN vK : Value} {kN kK gg cap : Nat} {xN xK xK' : List Value} {o : Obj} (h : Rec2 W2 wr T vN vK kN kK xN xK) (hg : (wr.alloc o).grownBy w4 vK.ownBlock) (hat : vK.ownBlock = some gg ∨ gg = wr.heap.size + 1) (hown : w4.ownsRow W2.heap.size 28 4 (.slice (some ⟨gg, 0, none⟩) (kK + 1) cap) (kK + 1) xK') :
    Rec2 W2 (w4.setCell ⟨T, 3, none⟩ (.slice (some ⟨gg, 0, none⟩) (kK + 1) cap)) T vN (.slice (some ⟨gg, 0, none⟩) (kK + 1) cap) kN (kK + 1) xN xK' := by
  have hlt := h.lt
  have hz := h.only.size
  have keep : ∀ b, b < wr.heap.size → vK.ownBlock ≠ some b → w4.heap[b]? = wr.heap[b]? := fun b hb hne => (hg.block b (by simp; omega) fun e => hne e.symm).trans ((MapKept.heap_alloc wr o).2 b hb)
  have hset : ∀ b, b ≠ T → (w4.setCell ⟨T, 3, none⟩ (.slice (some ⟨gg, 0, none⟩) (kK + 1) cap)).heap[b]? = w4.heap[b]? := fun b hb => Below.heap_setCell _ _ _ _ (by simpa using hb)
  have hK : ∀ g, vK.ownBlock = some g → W2.heap.size ≤ g := fun g e => (h.kids.lt g e).1
  have hN : ∀ g, vN.ownBlock = some g → W2.heap.size ≤ g ∧ g < wr.heap.size := fun g e => h.names.lt g e
  have hgg : W2.heap.size ≤ gg := by rcases hat with e | e; exact hK gg e; omega
  have hz4 : wr.heap.size + 1 ≤ w4.heap.size := by have := hg.size; simpa using this
  refine ⟨?_, ?_, ?_, fun g e1 e2 => ?_, ?_, hlt⟩
  · have hb : w4.heap[T]? = some (.cells #[.int .i64 5, .string ⟨#[]⟩, vN, vK] 28 (0, 0)) := (keep T (by omega) fun e => by have := hK T e; omega).trans h.box
    exact heap_setCell_same w4 T 3 _ _ _ hb
  · refine owns_apart h.names fun g e => ?_
    have := hN g e
    rw [hset g (by omega), keep g (by omega) fun e3 => h.apart g e e3]
  · exact owns_apart hown fun g e => hset g (by simp only [Value.ownBlock, Option.some.injEq] at e; omega)
  · simp only [Value.ownBlock, Option.some.injEq] at e2
    subst e2
    rcases hat with e | e
    · exact h.apart gg e1 e
    · have := (hN gg e1).2; omega
  · refine ⟨h.only.os ▸ hg.os, ?_, ?_, by simp; omega, fun b hb hm => ?_⟩
    · exact (hg.tape).trans h.only.tape
    · exact (hg.output).trans h.only.output
    · rw [hset b (by simpa using hm), keep b (by omega) (fun e => by have := hK b e; omega)]
      exact h.only.block b hb hm

theorem ret_rec {R : Ending → World → Prop} {W : World} {tmps : Array Value} {b : Nat} {x0 x1 x2 x3 : Value} {ok : Bool} (hp : tmps[4]?.getD undef = .pointer (some ⟨b, 0, none⟩)) (hq : tmps[5]?.getD undef = .bool ok)
    (h : W.cell? ⟨b, 0, none⟩ = some x0 ∧ W.cell? ⟨b, 1, none⟩ = some x1 ∧ W.cell? ⟨b, 2, none⟩ = some x2 ∧ W.cell? ⟨b, 3, none⟩ = some x3) (hR : R (.returned (.tuple #[.agg #[x0, x1, x2, x3], .bool ok])) W) :
    bodyPost Tryd.prog Tryd.f9 R .ret { tmps := tmps, defers := [] } W := by
  obtain ⟨h0, h1, h2, h3⟩ := h
  refine bodyPost_ret (v := .tuple #[.agg #[x0, x1, x2, x3], .bool ok]) ?_ rfl hR
  simp [results, Tryd.results9, go_sem, hp, hq, h0, h1, h2, h3]

end Go.Proofs.YtekegcfelaefhaaDoor
