/-
  The walk of spec.l08Reach.
  Contracts of the library, laid at this translation.
-/
import Derived.Test.YtmbjknholcmpmaaGreatDoorSuI
import Derived.Test.YtmbjknholcmpmaaGreatDoorRcS
import Derived.Shelf.Strings.Builder1
import Derived.Shelf.Strings.Builder2
import Derived.Shelf.Small.Bits
import Derived.Shelf.Small.Strs
import Derived.Shelf.Small.Wraps
import Derived.Shelf.Strings.BuilderF
import Derived.Shelf.Strings.BuilderK
import Derived.Shelf.Strings.Builder2Cap
import Derived.Shelf.Strconv.Itoa0
import Derived.Shelf.Strconv.Itoa1
import Derived.Shelf.LaysM
import Derived.Shelf.Strconv.Itoa2
import Derived.Shelf.Strconv.Clone
import Derived.Shelf.Strings.Search1
import Derived.Shelf.Strings.Search2
import Derived.Shelf.Strings.Search3
import Derived.Shelf.Strings.Cut
import Derived.Shelf.Strings.Shaped
import Derived.Shelf.Sort.Plain
import Derived.Shelf.Strconv.AppendUint10
import Derived.Shelf.Strconv.AppendInt10
import Derived.Shelf.Strconv.AppendIntPublic10
import Derived.Shelf.Slices.CompactS
import Derived.Ground.Names2Prog
import Derived.Shelf.Slices.SearchI
import Derived.Shelf.Slices.Cells
import Derived.Shelf.Slices.In.SortNone
import Derived.Test.YtmbjknholcmpmaaGreatDoorProg
import Derived.WalkKit
namespace Go.Proofs.YtmbjknholcmpmaaGreatDoor
open Go.RowKit

set_option maxHeartbeats 3200000 in
set_option maxRecDepth 100000 in
theorem specReachAll (n : Nat) (vE vX : Value) (es xs : List (ByteArray × Ty)) (w : World) (hE : EnvAt w (n + 1) vE es) (hX : EnvAt w (n + 1) vX xs) (hbk : envBulk (n + 1) es + envBulk (n + 1) xs ≤ 1048576) :
    Calls Tryz.prog 15 #[vE, vX] w fun e w' => ∃ g cap r, e = .returned (.slice (some ⟨g, 0, none⟩) r.length cap) ∧ Held w' (.slice (some ⟨g, 0, none⟩) r.length cap) r ∧ r.length ≤ 1048577 ∧ (∀ x, x ∈ r ↔ ∃ e ∈ xs, Rch (n + 1) es e.2 x) ∧ Below w.heap.size w w' := by
  have hendE := hE.ends
  have hendX := hX.ends
  obtain ⟨aE, capE, rfl, helE⟩ := envOpen hE
  obtain ⟨aX, capX, rfl, helX⟩ := envOpen hX
  have hlen : xs.length ≤ 1048576 := by have : xs.length ≤ envBulk (n + 1) xs := by { unfold envBulk; omega }; omega
  have HSH : Hid (∀ r : List ByteArray, Asc r → (∀ x, x ∈ r → ∃ e ∈ xs, Rch (n + 1) es e.2 x) → r.length ≤ 1048577) := fun r ha hr => by
    have h1 := all_few (n + 1 + 1) es (fnOf xs)
    have h2 := fnOf_bulk (n + 1) xs
    have h3 := envBulk_ends hendE
    have e2 : ∀ y x, Nx (n + 1) es y x → Nx (n + 1 + 1) es y x := fun y x ⟨j, hj, k⟩ => ⟨j, hj, (names_more (hendE _ (List.getElem_mem hj.1))).2 k⟩
    have e1 : ∀ (t : Ty), Ty.ends (n + 1) t → ∀ i x, Lv (n + 1) es t i x → Lv (n + 1 + 1) es t i x := fun t ht i => by
      induction i with
      | zero => exact fun x k => (names_more ht).2 k
      | succ i ih => exact fun x k => k.imp (ih x) fun ⟨y, k1, k2⟩ => ⟨y, ih y k1, e2 y x k2⟩
    exact Nat.le_trans (nodup_len (asc_nodup ha) fun x hx => by
      obtain ⟨e, he, i, k⟩ := hr x hx
      exact rch_all ((reach_fnOf hendX).2 ⟨e, he, i, e1 _ (hendX e he) i x k⟩)) (by omega)
  have HRC : Hid (∀ k (hk : k < xs.length) (cs : List Value) (wx : World), Below w.heap.size w wx → TyAt wx (n + 1) cs xs[k].2 → Calls Tryz.prog 36 #[.slice aE es.length capE, .agg cs.toArray] wx fun e w' => ∃ g cap r, e = .returned (.slice (some ⟨g, 0, none⟩) r.length cap) ∧ Held w' (.slice (some ⟨g, 0, none⟩) r.length cap) r ∧ r.length ≤ 1048577 ∧ (∀ x, x ∈ r ↔ Rch (n + 1) es xs[k].2 x) ∧ Below wx.heap.size wx w') := fun k hk cs wx hx ht => specReach n _ es cs _ wx (hE.below hx) ht (by have := env_bulk (n + 1) xs k hk; omega)
  have HEL : Hid (type_of% helX) := helX
  clear hE hX helE helX hbk hendE hendX
  go_enter Tryz.func15, Tryz.ntmps15
  go_wp2_with fail
  go_loopw [5, 6] (fun v i wr => ∃ (k g cap : Nat) (r : List ByteArray), k ≤ xs.length ∧ i = .int .i64 k ∧ v = .slice (some ⟨g, 0, none⟩) r.length cap ∧ Held wr (.slice (some ⟨g, 0, none⟩) r.length cap) r ∧ (∀ x, x ∈ r ↔ ∃ j, ∃ h : j < xs.length, j < k ∧ Rch (n + 1) es xs[j].2 x) ∧ Below w.heap.size w wr) (fun _ i _ => xs.length - (intOf i).toNat)
  case atStart => exact ⟨0, _, _, [], Nat.zero_le _, rfl, rfl, held_none, fun x => ⟨fun h => by simp at h, fun ⟨_, _, h, _⟩ => absurd h (by omega)⟩, (Below.refl _ _).alloc (Nat.le_refl _) _⟩
  case round =>
    obtain ⟨w3, rfl⟩ : ∃ w3, w3 = wr := ⟨_, rfl⟩
    obtain ⟨k, ga, capa, ra, hk, rfl, rfl, hha, hma, hbe⟩ := hrel
    have HHA : Hid (type_of% hha) := hha
    have HMA : Hid (type_of% hma) := hma
    by_cases hlt : k < xs.length
    · obtain ⟨b, off, x0, x1, x2, x3, rfl, hbl, hsz, hty, q0, q1, q2, q3, q4⟩ := HEL.out k hlt
      have c1 := (hbe.cell (p := ⟨b, off + k * 5 + 1, none⟩) hbl).trans q1
      have c2 := (hbe.cell (p := ⟨b, off + k * 5 + 2, none⟩) hbl).trans q2
      have c3 := (hbe.cell (p := ⟨b, off + k * 5 + 3, none⟩) hbl).trans q3
      have c4 := (hbe.cell (p := ⟨b, off + k * 5 + 4, none⟩) hbl).trans q4
      have HC : Hid (type_of% (HRC.out k hlt _ w3 hbe (hty.below hbe))) := HRC.out k hlt _ w3 hbe (hty.below hbe)
      have hk0i : (0 : Int) ≤ (k : Int) := by omega
      have hk1i : (k : Int) < (xs.length : Int) := by omega
      have HRR : Hid (∀ r' : List ByteArray, (∀ x, x ∈ r' ↔ x ∈ ra ∨ Rch (n + 1) es xs[k].2 x) → ∀ x, x ∈ r' ↔ ∃ j, ∃ h : j < xs.length, j < k + 1 ∧ Rch (n + 1) es xs[j].2 x) := fun r' hr' x => by
        rw [hr', hma]
        constructor
        · rintro (⟨j, hj, hjk, h⟩ | h)
          · exact ⟨j, hj, by omega, h⟩
          · exact ⟨k, hlt, by omega, h⟩
        · rintro ⟨j, hj, hjk, h⟩
          by_cases c : j = k
          · subst c; exact .inr h
          · exact .inl ⟨j, hj, by omega, h⟩
      have HIN : Hid (∀ x, x ∈ ra ∨ Rch (n + 1) es xs[k].2 x → ∃ e ∈ xs, Rch (n + 1) es e.2 x) := fun x hx => by
        rcases hx with hx | hx
        · obtain ⟨j, hj, _, h⟩ := (hma x).1 hx
          exact ⟨_, List.getElem_mem hj, h⟩
        · exact ⟨_, List.getElem_mem hlt, hx⟩
      clear hha hma HMA q0 q1 q2 q3 q4 hty hsz HRC HEL
      generalize xs[k].2 = T at *
      go_wp2_with fail
      refine HC.out.mono ?_
      rintro e w6 ⟨gm, capm, rm, rfl, hhm, hrml, hmm, hb6⟩
      have hb36 : Below w.heap.size w w6 := hbe.trans (hb6.mono hbe.size)
      have HH6 : Hid (Held w6 (.slice (some ⟨ga, 0, none⟩) ra.length capa) ra) := HHA.out.below hb6
      have HCM : Hid (type_of% (held_cells hhm)) := held_cells hhm
      have HMX : Hid (type_of% hmm) := hmm
      clear HC hhm hmm HHA hb6 c1 c2 c3 c4
      go_wp2_with fail
      go_loopw [5, 8] (fun v i wr => ∃ (q g cap : Nat) (r' : List ByteArray), q ≤ rm.length ∧ i = .int .i64 q ∧ v = .slice (some ⟨g, 0, none⟩) r'.length cap ∧ Held wr (.slice (some ⟨g, 0, none⟩) r'.length cap) r' ∧ (∀ x, x ∈ r' ↔ x ∈ ra ∨ x ∈ rm.take q) ∧ Below w6.heap.size w6 wr) (fun _ i _ => rm.length - (intOf i).toNat)
      case atStart => exact ⟨0, _, _, ra, Nat.zero_le _, rfl, rfl, HH6.out, fun x => by simp, Below.refl _ _⟩
      case round =>
        obtain ⟨q, g3, cap3, r', hq, rfl, rfl, hheld, hmem, hb7⟩ := hrel
        by_cases hlq : q < rm.length
        · have hg2 : gm < w6.heap.size := World.block_lt_of_cell? w6 ⟨gm, q, none⟩ (HCM.out q hlq)
          have C := (hb7.cell (p := ⟨gm, q, none⟩) hg2).trans (HCM.out q hlq)
          have hq0i : (0 : Int) ≤ (q : Int) := by omega
          have hq1i : (q : Int) < (rm.length : Int) := by omega
          obtain ⟨g4, cap4, e4, hcap4⟩ := hheld.form
          simp only [Value.slice.injEq, Option.some.injEq, Addr.mk.injEq, true_and, and_true] at e4
          obtain ⟨rfl, rfl⟩ := e4
          have hrl := HSH.out r' hheld.asc fun x hx => HIN.out x (by
            rcases (hmem x).1 hx with h | h
            · exact .inl h
            · exact .inr ((HMX.out x).1 (List.mem_of_mem_take h)))
          have HP0 := specPut g3 cap3 r' rm[q] wr hheld.texts hcap4 hrl hheld.asc
          have HP : Hid (type_of% HP0) := HP0
          have HM3 : Hid (∀ r'' : List ByteArray, (∀ x, x ∈ r'' ↔ x = rm[q] ∨ x ∈ r') → ∀ x, x ∈ r'' ↔ x ∈ ra ∨ x ∈ rm.take (q + 1)) := fun r'' hr'' x => by
            rw [hr'', hmem, List.take_succ_eq_append_getElem hlq, List.mem_append, List.mem_singleton]
            constructor
            · rintro (h | h | h)
              · exact .inr (.inr h)
              · exact .inl h
              · exact .inr (.inl h)
            · rintro (h | h | h)
              · exact .inr (.inl h)
              · exact .inr (.inr h)
              · exact .inl h
          generalize rm[q] = z at *
          clear HP0 hheld hmem hcap4 HH6
          go_wp2_with fail
          refine HP.out.mono ?_
          rintro e w8 ⟨g5, cap5, r5, rfl, ht5, hc5, hl5, ha5, hm5, hb5⟩
          have HF5 : Hid (Held w8 (.slice (some ⟨g5, 0, none⟩) r5.length cap5) r5) := ⟨⟨g5, cap5, rfl, hc5⟩, ht5, ha5⟩
          have HM5 := HM3.out r5 hm5
          have HM6 : Hid (type_of% HM5) := HM5
          have hb8 : Below w6.heap.size w6 w8 := hb7.trans (hb5.mono hb7.size)
          clear ht5 hc5 ha5 hm5 HM5 hb5 HP
          go_wp2_with fail
          go_roundw
          case rel => exact ⟨q + 1, _, _, r5, by omega, by go_num, rfl, HF5.out, HM6.out, hb8⟩
          case measure => simp [intOf]; omega
        · have hqe : q = rm.length := by omega
          have HMY := HRR.out r' fun x => by rw [hmem, hqe, List.take_of_length_le (Nat.le_refl _), HMX.out]
          have HMZ : Hid (type_of% HMY) := HMY
          have HF : Hid (type_of% hheld) := hheld
          have hb38 := hb36.trans (hb7.mono hb36.size)
          clear hmem HMY hheld HCM HH6 HRR HMX HIN
          go_wp2_with fail
          go_roundw
          case rel => exact ⟨k + 1, _, _, r', by omega, by go_num, rfl, HF.out, HMZ.out, hb38⟩
          case measure => simp [intOf]; omega
    · have hke : k = xs.length := by omega
      have hral := HSH.out ra hha.asc fun x hx => by
        obtain ⟨j, hj, _, h⟩ := (hma x).1 hx
        exact ⟨_, List.getElem_mem hj, h⟩
      have HMZ : Hid (∀ x, x ∈ ra ↔ ∃ e ∈ xs, Rch (n + 1) es e.2 x) := fun x => by
        rw [hma]
        constructor
        · rintro ⟨j, hj, _, h⟩
          exact ⟨_, List.getElem_mem hj, h⟩
        · rintro ⟨e, he, h⟩
          obtain ⟨j, hj, rfl⟩ := List.getElem_of_mem he
          exact ⟨j, hj, by omega, h⟩
      clear hha hma HMA HRC HEL HSH
      go_wp2_with fail
      go_ret
      exact ⟨ga, capa, ra, rfl, HHA.out, hral, HMZ.out, hbe⟩

end Go.Proofs.YtmbjknholcmpmaaGreatDoor

namespace Go.Proofs
open Go.Shelf

def Tryz.lays144_ren : Go.Shelf.Ren := ⟨fun | 144 => 45 | 143 => 67 | 219 => 89 | 217 => 111 | 225 => 112 | 224 => 113 | 267 => 114 | 266 => 135 | 314 => 136 | n => n, fun | 9 => 9 | 4 => 4 | 3 => 3 | 5 => 5 | 46 => 126 | 146 => 177 | 51 => 163 | n => n, fun | 1 => 1 | n => n⟩

theorem Tryz.lays144 : Go.Proofs.Lays.n144 Tryz.prog Tryz.lays144_ren := {
  mixed := by kernel_rfl
  f143 := Tryz.func67.trans (congrArg some (by kernel_rfl))
  f144 := Tryz.func45.trans (congrArg some (by kernel_rfl))
  f217 := Tryz.func111.trans (congrArg some (by kernel_rfl))
  f219 := Tryz.func89.trans (congrArg some (by kernel_rfl))
  f224 := Tryz.func113.trans (congrArg some (by kernel_rfl))
  f225 := Tryz.func112.trans (congrArg some (by kernel_rfl))
  f266 := Tryz.func135.trans (congrArg some (by kernel_rfl))
  f267 := Tryz.func114.trans (congrArg some (by kernel_rfl))
  f314 := Tryz.func136.trans (congrArg some (by kernel_rfl))
  t3 := Tryz.underlying3
  a3 := Tryz.isAgg3
  z3 := Tryz.sizeOf3
  v3 := Tryz.zeroValue3
  t4 := Tryz.underlying4
  a4 := Tryz.isAgg4
  z4 := Tryz.sizeOf4
  v4 := Tryz.zeroValue4
  t5 := Tryz.underlying5
  a5 := Tryz.isAgg5
  z5 := Tryz.sizeOf5
  v5 := Tryz.zeroValue5
  t9 := Tryz.underlying9
  a9 := Tryz.isAgg9
  z9 := Tryz.sizeOf9
  v9 := Tryz.zeroValue9
  t46 := Tryz.underlying126
  a46 := Tryz.isAgg126
  z46 := Tryz.sizeOf126
  v46 := Tryz.zeroValue126
  t51 := Tryz.underlying163
  a51 := Tryz.isAgg163
  z51 := Tryz.sizeOf163
  v51 := Tryz.zeroValue163
  t146 := Tryz.underlying177
  a146 := Tryz.isAgg177
  z146 := Tryz.sizeOf177
  v146 := Tryz.zeroValue177
  g1 := by kernel_rfl }

open Go.RowKit Go.Lib in
theorem Tryz.strings_Contains_one (s : ByteArray) (c : UInt8) (w : World) :
    Calls Tryz.prog 45 #[.string s, .string ⟨#[c]⟩] w fun e w' => e = .returned (.bool (decide (0 ≤ Lib.indexByte s.data.toList c))) ∧ w' = w := Any.strings_Contains_one Tryz.lays144 s c w

end Go.Proofs
