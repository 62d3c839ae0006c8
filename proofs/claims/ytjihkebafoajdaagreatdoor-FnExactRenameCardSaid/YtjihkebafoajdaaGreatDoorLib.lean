/-
  The contracts of the library that the program's join leans on, laid at this translation: strings.Builder's Grow, WriteString, String.
  The walk of impl.join: it answers its parts one behind the other, and turns nothing that was there.
-/
import Derived.Shelf.Strings.Builder1
import Derived.Shelf.Strings.Builder2
import Derived.Test.YtjihkebafoajdaaGreatDoorProg
import Derived.Test.YtjihkebafoajdaaGreatDoorRows
import Derived.WalkKit
import Derived.WalkSpells
import Derived.WalkLawsBesides
namespace Go.Proofs.YtjihkebafoajdaaGreatDoor
open Go.Shelf Go.RowKit

def Tryz.shelfRen : Go.Shelf.Ren := ⟨fun | 165 => 77 | 166 => 78 | 169 => 79 | 240 => 96 | 241 => 97 | 276 => 108 | 277 => 109 | n => n, fun | 0 => 0 | 3 => 3 | 4 => 4 | 5 => 5 | 9 => 9 | 20 => 20 | 37 => 87 | 70 => 117 | 72 => 119 | 75 => 122 | 80 => 125 | 127 => 141 | 164 => 153 | n => n, fun | n => n⟩

theorem Tryz.lays165 : Go.Proofs.Lays.n165 Tryz.prog Tryz.shelfRen := {
  mixed := by kernel_rfl
  f165 := Tryz.func77.trans (congrArg some (by kernel_rfl))
  f240 := Tryz.func96.trans (congrArg some (by kernel_rfl))
  f241 := Tryz.func97.trans (congrArg some (by kernel_rfl))
  f276 := Tryz.func108.trans (congrArg some (by kernel_rfl))
  f277 := Tryz.func109.trans (congrArg some (by kernel_rfl))
  t0 := Tryz.underlying0
  a0 := Tryz.isAgg0
  z0 := Tryz.sizeOf0
  v0 := Tryz.zeroValue0
  t3 := Tryz.underlying3
  a3 := Tryz.isAgg3
  z3 := Tryz.sizeOf3
  v3 := Tryz.zeroValue3
  t4 := Tryz.underlying4
  a4 := Tryz.isAgg4
  z4 := Tryz.sizeOf4
  v4 := Tryz.zeroValue4
  t9 := Tryz.underlying9
  a9 := Tryz.isAgg9
  z9 := Tryz.sizeOf9
  v9 := Tryz.zeroValue9
  t20 := Tryz.underlying20
  a20 := Tryz.isAgg20
  z20 := Tryz.sizeOf20
  v20 := Tryz.zeroValue20
  t37 := Tryz.underlying87
  a37 := Tryz.isAgg87
  z37 := Tryz.sizeOf87
  v37 := Tryz.zeroValue87
  t70 := Tryz.underlying117
  a70 := Tryz.isAgg117
  z70 := Tryz.sizeOf117
  v70 := Tryz.zeroValue117
  t72 := Tryz.underlying119
  a72 := Tryz.isAgg119
  z72 := Tryz.sizeOf119
  v72 := Tryz.zeroValue119
  t164 := Tryz.underlying153
  a164 := Tryz.isAgg153
  z164 := Tryz.sizeOf153
  v164 := Tryz.zeroValue153 }

theorem Tryz.lays166 : Go.Proofs.Lays.n166 Tryz.prog Tryz.shelfRen := {
  mixed := by kernel_rfl
  f166 := Tryz.func78.trans (congrArg some (by kernel_rfl))
  f240 := Tryz.func96.trans (congrArg some (by kernel_rfl))
  f276 := Tryz.func108.trans (congrArg some (by kernel_rfl))
  t0 := Tryz.underlying0
  a0 := Tryz.isAgg0
  z0 := Tryz.sizeOf0
  v0 := Tryz.zeroValue0
  t3 := Tryz.underlying3
  a3 := Tryz.isAgg3
  z3 := Tryz.sizeOf3
  v3 := Tryz.zeroValue3
  t4 := Tryz.underlying4
  a4 := Tryz.isAgg4
  z4 := Tryz.sizeOf4
  v4 := Tryz.zeroValue4
  t9 := Tryz.underlying9
  a9 := Tryz.isAgg9
  z9 := Tryz.sizeOf9
  v9 := Tryz.zeroValue9
  t20 := Tryz.underlying20
  a20 := Tryz.isAgg20
  z20 := Tryz.sizeOf20
  v20 := Tryz.zeroValue20
  t37 := Tryz.underlying87
  a37 := Tryz.isAgg87
  z37 := Tryz.sizeOf87
  v37 := Tryz.zeroValue87
  t70 := Tryz.underlying117
  a70 := Tryz.isAgg117
  z70 := Tryz.sizeOf117
  v70 := Tryz.zeroValue117
  t72 := Tryz.underlying119
  a72 := Tryz.isAgg119
  z72 := Tryz.sizeOf119
  v72 := Tryz.zeroValue119
  t75 := Tryz.underlying122
  a75 := Tryz.isAgg122
  z75 := Tryz.sizeOf122
  v75 := Tryz.zeroValue122
  t164 := Tryz.underlying153
  a164 := Tryz.isAgg153
  z164 := Tryz.sizeOf153
  v164 := Tryz.zeroValue153 }

theorem Tryz.lays169 : Go.Proofs.Lays.n169 Tryz.prog Tryz.shelfRen := {
  mixed := by kernel_rfl
  f169 := Tryz.func79.trans (congrArg some (by kernel_rfl))
  t0 := Tryz.underlying0
  a0 := Tryz.isAgg0
  z0 := Tryz.sizeOf0
  v0 := Tryz.zeroValue0
  t3 := Tryz.underlying3
  a3 := Tryz.isAgg3
  z3 := Tryz.sizeOf3
  v3 := Tryz.zeroValue3
  t9 := Tryz.underlying9
  a9 := Tryz.isAgg9
  z9 := Tryz.sizeOf9
  v9 := Tryz.zeroValue9
  t37 := Tryz.underlying87
  a37 := Tryz.isAgg87
  z37 := Tryz.sizeOf87
  v37 := Tryz.zeroValue87
  t70 := Tryz.underlying117
  a70 := Tryz.isAgg117
  z70 := Tryz.sizeOf117
  v70 := Tryz.zeroValue117
  t72 := Tryz.underlying119
  a72 := Tryz.isAgg119
  z72 := Tryz.sizeOf119
  v72 := Tryz.zeroValue119
  t127 := Tryz.underlying141
  a127 := Tryz.isAgg141
  z127 := Tryz.sizeOf141
  v127 := Tryz.zeroValue141 }

theorem Tryz.lays240 : Go.Proofs.Lays.n240 Tryz.prog Tryz.shelfRen := {
  mixed := by kernel_rfl
  f240 := Tryz.func96.trans (congrArg some (by kernel_rfl))
  f276 := Tryz.func108.trans (congrArg some (by kernel_rfl))
  t0 := Tryz.underlying0
  a0 := Tryz.isAgg0
  z0 := Tryz.sizeOf0
  v0 := Tryz.zeroValue0
  t4 := Tryz.underlying4
  a4 := Tryz.isAgg4
  z4 := Tryz.sizeOf4
  v4 := Tryz.zeroValue4
  t9 := Tryz.underlying9
  a9 := Tryz.isAgg9
  z9 := Tryz.sizeOf9
  v9 := Tryz.zeroValue9
  t20 := Tryz.underlying20
  a20 := Tryz.isAgg20
  z20 := Tryz.sizeOf20
  v20 := Tryz.zeroValue20
  t70 := Tryz.underlying117
  a70 := Tryz.isAgg117
  z70 := Tryz.sizeOf117
  v70 := Tryz.zeroValue117
  t72 := Tryz.underlying119
  a72 := Tryz.isAgg119
  z72 := Tryz.sizeOf119
  v72 := Tryz.zeroValue119
  t164 := Tryz.underlying153
  a164 := Tryz.isAgg153
  z164 := Tryz.sizeOf153
  v164 := Tryz.zeroValue153 }

theorem Tryz.lays241 : Go.Proofs.Lays.n241 Tryz.prog Tryz.shelfRen := {
  mixed := by kernel_rfl
  f241 := Tryz.func97.trans (congrArg some (by kernel_rfl))
  f277 := Tryz.func109.trans (congrArg some (by kernel_rfl))
  t0 := Tryz.underlying0
  a0 := Tryz.isAgg0
  z0 := Tryz.sizeOf0
  v0 := Tryz.zeroValue0
  t3 := Tryz.underlying3
  a3 := Tryz.isAgg3
  z3 := Tryz.sizeOf3
  v3 := Tryz.zeroValue3
  t37 := Tryz.underlying87
  a37 := Tryz.isAgg87
  z37 := Tryz.sizeOf87
  v37 := Tryz.zeroValue87
  t70 := Tryz.underlying117
  a70 := Tryz.isAgg117
  z70 := Tryz.sizeOf117
  v70 := Tryz.zeroValue117
  t72 := Tryz.underlying119
  a72 := Tryz.isAgg119
  z72 := Tryz.sizeOf119
  v72 := Tryz.zeroValue119 }

theorem Tryz.shelfExtra : Builder.Extra Tryz.prog Tryz.shelfRen := {
  sizeBuilder := by kernel_rfl
  liesBuilder := by kernel_rfl
  t5 := Tryz.underlying5
  a5 := Tryz.isAgg5
  z5 := Tryz.sizeOf5
  v5 := Tryz.zeroValue5
  infoByte := by kernel_rfl
  cellsByte := by kernel_rfl
  sizeByte := by kernel_rfl
  neB5 := by decide }

theorem builder_Grow (B b n : Nat) (w : World) (hB : B ≤ b) (hbk : w.heap[b]? = some (.cells #[.pointer none, .slice none 0 0] 119 (0, 0))) (hBw : B ≤ w.heap.size) (hn : n ≤ 281474976710656) :
    Calls Tryz.prog 77 #[.pointer (some ⟨b, 0, none⟩), .int .i64 n] w fun e w' => e = .returned (.tuple #[]) ∧ (Lib.BuilderAt 119 5 B b (.pointer (some ⟨b, 0, none⟩)) [] w' ∧ Below B w w') :=
  Any.Builder_Grow_fresh Tryz.lays165 Tryz.shelfExtra B b n w hB hbk hBw hn

theorem builder_WriteString (B b : Nat) (bs : List Value) (s : ByteArray) (w : World) (h : Lib.IsBuilder 119 5 B b bs w) (hlen : bs.length + s.size ≤ 140737488355328) (hBw : B ≤ w.heap.size) :
    Calls Tryz.prog 78 #[.pointer (some ⟨b, 0, none⟩), .string s] w fun e w' => e = .returned (.tuple #[.int .i64 s.size, .nilIface]) ∧ (Lib.BuilderAt 119 5 B b (.pointer (some ⟨b, 0, none⟩)) (bs ++ Lib.strCells s) w' ∧ Below B w w') :=
  Any.Builder_WriteString Tryz.lays166 Tryz.shelfExtra B b bs s w h hlen hBw

theorem builder_String (B b : Nat) (l : List UInt8) (w : World) (h : Lib.IsBuilder 119 5 B b (Lib.byteCells l) w) (hBw : B ≤ w.heap.size) :
    Calls Tryz.prog 79 #[.pointer (some ⟨b, 0, none⟩)] w fun e w' => e = .returned (.string ⟨l.toArray⟩) ∧ Below B w w' :=
  Any.Builder_String_any Tryz.lays169 Tryz.shelfExtra B b l w h hBw

end Go.Proofs.YtjihkebafoajdaaGreatDoor

namespace Go.Proofs.YtjihkebafoajdaaGreatDoor
open Go.RowKit

/-- the bytes of parts, one behind the other -/
def catL : List ByteArray → List UInt8
  | [] => []
  | p :: r => p.data.toList ++ catL r
theorem catL_append (a b : List ByteArray) : catL (a ++ b) = catL a ++ catL b := by
  induction a with
  | nil => rfl
  | cons p r ih => simp [catL, ih]
theorem catL_take_le (ps : List ByteArray) (k : Nat) : (catL (ps.take k)).length ≤ (catL ps).length := by
  have := congrArg List.length (catL_append (ps.take k) (ps.drop k))
  rw [List.take_append_drop, List.length_append] at this
  omega
theorem catL_more (ps : List ByteArray) (k : Nat) (h : k < ps.length) : catL (ps.take (k + 1)) = catL (ps.take k) ++ ps[k].data.toList := by
  rw [List.take_succ_eq_append_getElem h, catL_append]
  simp [catL]
theorem size_list (p : ByteArray) : p.data.toList.length = p.size := rfl

set_option maxHeartbeats 400000 in
theorem implJoin (b off cap : Nat) (ps : List ByteArray) (w : World) (hc : ∀ j (h : j < ps.length), w.cell? ⟨b, off + j, none⟩ = some (.string ps[j])) (hsum : (catL ps).length ≤ 140737488355328) (hlen : ps.length ≤ 140737488355328) :
    Calls Tryz.prog 61 #[.slice (some ⟨b, off, none⟩) ps.length cap] w fun e w' => e = .returned (.string ⟨(catL ps).toArray⟩) ∧ Below w.heap.size w w' := by
  have HC : Hid (∀ j (h : j < ps.length), w.cell? ⟨b, off + j, none⟩ = some (.string ps[j])) := hc
  clear hc
  go_enter Tryz.func61, Tryz.ntmps61
  go_wp2
  go_loop [3, 11] (fun z i => ∃ k : Nat, k ≤ ps.length ∧ i = .int .i64 k ∧ z = .int .i64 ((catL (ps.take k)).length : Nat)) (fun _ i => ps.length - (intOf i).toNat)
  case atStart => exact ⟨0, Nat.zero_le _, rfl, by simp [catL]⟩
  case round =>
    obtain ⟨k, hk, rfl, rfl⟩ := hrel
    by_cases hlt : k < ps.length
    · have hcell := HC.out k hlt
      have HM : Hid (catL (ps.take (k + 1)) = catL (ps.take k) ++ ps[k].data.toList) := catL_more ps k hlt
      have HT := catL_take_le ps (k + 1)
      rw [HM.out, List.length_append, size_list] at HT
      generalize hp : ps[k] = p at *
      generalize hcl : (catL (ps.take k)).length = c at *
      have HP : Hid (ps[k] = p) := hp
      have HCL : Hid ((catL (ps.take k)).length = c) := hcl
      clear hp hcl
      go_wp2
      go_round
      case rel => exact ⟨k + 1, by omega, by go_num, by rw [HM.out, List.length_append, HCL.out, size_list]; go_num⟩
      case measure => simp [intOf]; omega
    · have hke : k = ps.length := by omega
      subst hke
      rw [List.take_of_length_le (Nat.le_refl _)]
      go_wp2_with fail
      refine (builder_Grow w.heap.size w.heap.size (catL ps).length _ (Nat.le_refl _) (heap_alloc_new w _) (by simp) (by omega)).mono ?_
      rintro e w1 ⟨rfl, hB1, hb1⟩
      have hbel : Below w.heap.size w w1 := ((Below.refl _ _).alloc (Nat.le_refl _) _).trans hb1
      have hsz1 : w.heap.size ≤ w1.heap.size := hbel.size
      clear hb1
      go_wp2_with fail
      go_loopw [24] (fun i wr => ∃ k : Nat, k ≤ ps.length ∧ i = .int .i64 k ∧ Lib.IsBuilder 119 5 w.heap.size w.heap.size (Lib.byteCells (catL (ps.take k))) wr ∧ Below w.heap.size w wr ∧ w.heap.size ≤ wr.heap.size) (fun i _ => ps.length - (intOf i).toNat)
      case atStart => exact ⟨0, Nat.zero_le _, rfl, .inr hB1, hbel, hsz1⟩
      case round =>
        obtain ⟨k, hk, rfl, hbu, hbe, hsz⟩ := hrel
        clear hB1 hbel hsz1
        by_cases hlt : k < ps.length
        · have hc0 := HC.out k hlt
          have hblt : b < w.heap.size := World.block_lt_of_cell? w ⟨b, off + k, none⟩ hc0
          have hcell := (hbe.cell (p := ⟨b, off + k, none⟩) hblt).trans hc0
          have HM : Hid (catL (ps.take (k + 1)) = catL (ps.take k) ++ ps[k].data.toList) := catL_more ps k hlt
          have HT := catL_take_le ps (k + 1)
          rw [HM.out, List.length_append, size_list] at HT
          generalize hp : ps[k] = p at *
          have HP : Hid (ps[k] = p) := hp
          clear hp hc0
          go_wp2_with (go_at_call 78; refine (builder_WriteString w.heap.size w.heap.size _ p _ hbu (by rw [Lib.byteCells_length]; omega) hsz).mono ?_; rintro e w2 ⟨rfl, hB2, hb2⟩)
          have hR : Lib.IsBuilder 119 5 w.heap.size w.heap.size (Lib.byteCells (catL (ps.take (k + 1)))) w2 := by
            rw [HM.out]
            have e1 : Lib.byteCells (catL (ps.take k) ++ p.data.toList) = Lib.byteCells (catL (ps.take k)) ++ Lib.strCells p := by simp [Lib.byteCells, Lib.strCells]
            rw [e1]
            exact .inr hB2
          go_roundw
          case rel => exact ⟨k + 1, by omega, by go_num, hR, hbe.trans hb2, Nat.le_trans hsz hb2.size⟩
          case measure => simp [intOf]; omega
        · have hke : k = ps.length := by omega
          subst hke
          rw [List.take_of_length_le (Nat.le_refl _)] at hbu
          go_wp2_with (go_at_call 79; refine (builder_String w.heap.size w.heap.size (catL ps) _ hbu hsz).mono ?_; rintro e w2 ⟨rfl, hb2⟩)
          go_ret
          exact ⟨rfl, hbe.trans hb2⟩

end Go.Proofs.YtjihkebafoajdaaGreatDoor
