/-
  Lists of leases, of packets and of bools: the walks of the laws' own helpers szLease, szLeaseS, eqLease, eqLeaseS, toLease, toLeaseS, and those of packets and of bools.
  The walks of slices.Clone at sources and at bools, and at nothing of leases, results and packets.
  The walk of the copier at no results.
-/
import Derived.Test.YtllbfbllkefjeaaGreatDoorFmD
import Derived.Lib.QuietBelow
import Derived.BigQuiet
import Derived.Deep.RegionWith
import Derived.Deep.Slices
import Derived.Lib.SmallJoins
import Derived.Sort.Walk0
import Derived.ChangeArms
import Derived.Test.YtllbfbllkefjeaaGreatDoorSrD
import Derived.Test.YtllbfbllkefjeaaGreatDoorOwT
namespace Go.Proofs.YtllbfbllkefjeaaGreatDoor
open Go.ChangeShapes Go.WideShapes Go.ChangeAt Go.RowKit

/-- leases -/
abbrev LeR := ByteArray × Int × Int
def LeF (e : LeR) : List Value := [.string e.1, .int .i64 e.2.1, .int .i64 e.2.2]
def LeS (e : LeR) : Nat := e.1.size

set_option maxHeartbeats 800000 in
set_option maxRecDepth 100000 in
theorem lawsEqLe (xa : ByteArray) (xb : Int) (xc : Int) (w : World) :
    Calls Tryz.prog 60 #[.agg #[.string xa, .int .i64 xb, .int .i64 xc], .agg #[.string xa, .int .i64 xb, .int .i64 xc]] w fun e w' => e = .returned (.bool true) ∧ Below w.heap.size w w' := by
  have hB2 : Below w.heap.size w ((w.alloc (.cells #[.string xa, .int .i64 xb, .int .i64 xc] 104)).alloc (.cells #[.string xa, .int .i64 xb, .int .i64 xc] 104)) := ((Below.refl _ _).alloc (Nat.le_refl _) _).alloc (by simp) _
  go_enter Tryz.func60, Tryz.ntmps60
  go_wp2_with fail
  go_ret
  exact ⟨rfl, hB2⟩

set_option maxHeartbeats 800000 in
set_option maxRecDepth 100000 in
theorem lawsEqLes (va vb : Value) (es : List LeR) (w : World) (hA : RowA 3 LeF w va es) (hB : RowA 3 LeF w vb es) (hkl : es.length ≤ 1048577) :
    Calls Tryz.prog 29 #[va, vb] w fun e w' => e = .returned (.bool true) ∧ Below w.heap.size w w' := by
  obtain ⟨a, capa, rfl, ha⟩ := rowA_open hA
  obtain ⟨b, capb, rfl, hb⟩ := rowA_open hB
  have HEA : Hid (type_of% ha) := ha
  have HEB : Hid (type_of% hb) := hb
  clear hA hB ha hb
  go_enter Tryz.func29, Tryz.ntmps29
  go_wp2_with fail
  go_loopw [5] (fun i wr => ∃ k : Nat, k ≤ es.length ∧ i = .int .i64 k ∧ Below w.heap.size w wr) (fun i _ => es.length - (intOf i).toNat)
  case atStart => exact ⟨0, Nat.zero_le _, rfl, Below.refl _ _⟩
  case round =>
    obtain ⟨k, hk, rfl, hbe⟩ := hrel
    by_cases hlt : k < es.length
    · obtain ⟨ba, oa, rfl, hba, p⟩ := HEA.out k hlt
      obtain ⟨bb, ob, rfl, hbb, q⟩ := HEB.out k hlt
      have A0 := (hbe.cell (p := ⟨ba, oa + k * 3 + 0, none⟩) hba).trans (p 0 _ rfl)
      have A1 := (hbe.cell (p := ⟨ba, oa + k * 3 + 1, none⟩) hba).trans (p 1 _ rfl)
      have A2 := (hbe.cell (p := ⟨ba, oa + k * 3 + 2, none⟩) hba).trans (p 2 _ rfl)
      have B0 := (hbe.cell (p := ⟨bb, ob + k * 3 + 0, none⟩) hbb).trans (q 0 _ rfl)
      have B1 := (hbe.cell (p := ⟨bb, ob + k * 3 + 1, none⟩) hbb).trans (q 1 _ rfl)
      have B2 := (hbe.cell (p := ⟨bb, ob + k * 3 + 2, none⟩) hbb).trans (q 2 _ rfl)
      rw [Nat.add_zero] at A0 B0
      have HC : Hid (∀ wx : World, Calls Tryz.prog 60 #[.agg #[.string es[k].1, .int .i64 es[k].2.1, .int .i64 es[k].2.2], .agg #[.string es[k].1, .int .i64 es[k].2.1, .int .i64 es[k].2.2]] wx fun e w' => e = .returned (.bool true) ∧ Below wx.heap.size wx w') := fun wx => lawsEqLe _ _ _ wx
      clear p q HEA HEB
      generalize es[k].1 = xa at *
      generalize es[k].2.1 = xb at *
      generalize es[k].2.2 = xc at *
      have hk0 : (0 : Int) ≤ k := by omega
      have hk1 : (k : Int) < es.length := by omega
      go_wp2_with fail
      go_region_with (go_at_call 60; refine (HC.out _).mono ?_; rintro e w2 ⟨rfl, hb2⟩)
      all_goals
        go_wp2_with fail
        go_roundw
        case rel => exact ⟨k + 1, by omega, by go_num, hbe.trans ((((Below.refl _ _).drew).trans hb2).mono hbe.size)⟩
        case measure => simp [intOf]; omega
    · clear HEA HEB
      go_wp2_with fail
      go_ret
      exact ⟨rfl, hbe⟩

theorem Tryz.infoLease : (Tryz.prog.info? 104).map (fun i => (i.zero, i.size, i.bytes)) = some (some (.agg #[.string ⟨#[]⟩, .int .i64 0, .int .i64 0]), 3, 32) := by kernel_rfl

/-- packets -/
abbrev PaR := Int × Int × ByteArray
def PaF (e : PaR) : List Value := [.int .i64 e.1, .int .i64 e.2.1, .string e.2.2]
def PaS (e : PaR) : Nat := e.2.2.size

set_option maxHeartbeats 800000 in
set_option maxRecDepth 100000 in
theorem lawsEqPa (xa : Int) (xb : Int) (xc : ByteArray) (w : World) :
    Calls Tryz.prog 62 #[.agg #[.int .i64 xa, .int .i64 xb, .string xc], .agg #[.int .i64 xa, .int .i64 xb, .string xc]] w fun e w' => e = .returned (.bool true) ∧ Below w.heap.size w w' := by
  have hB2 : Below w.heap.size w ((w.alloc (.cells #[.int .i64 xa, .int .i64 xb, .string xc] 114)).alloc (.cells #[.int .i64 xa, .int .i64 xb, .string xc] 114)) := ((Below.refl _ _).alloc (Nat.le_refl _) _).alloc (by simp) _
  go_enter Tryz.func62, Tryz.ntmps62
  go_wp2_with fail
  go_ret
  exact ⟨rfl, hB2⟩

set_option maxHeartbeats 800000 in
set_option maxRecDepth 100000 in
theorem lawsEqPas (va vb : Value) (es : List PaR) (w : World) (hA : RowA 3 PaF w va es) (hB : RowA 3 PaF w vb es) (hkl : es.length ≤ 1048577) :
    Calls Tryz.prog 31 #[va, vb] w fun e w' => e = .returned (.bool true) ∧ Below w.heap.size w w' := by
  obtain ⟨a, capa, rfl, ha⟩ := rowA_open hA
  obtain ⟨b, capb, rfl, hb⟩ := rowA_open hB
  have HEA : Hid (type_of% ha) := ha
  have HEB : Hid (type_of% hb) := hb
  clear hA hB ha hb
  go_enter Tryz.func31, Tryz.ntmps31
  go_wp2_with fail
  go_loopw [5] (fun i wr => ∃ k : Nat, k ≤ es.length ∧ i = .int .i64 k ∧ Below w.heap.size w wr) (fun i _ => es.length - (intOf i).toNat)
  case atStart => exact ⟨0, Nat.zero_le _, rfl, Below.refl _ _⟩
  case round =>
    obtain ⟨k, hk, rfl, hbe⟩ := hrel
    by_cases hlt : k < es.length
    · obtain ⟨ba, oa, rfl, hba, p⟩ := HEA.out k hlt
      obtain ⟨bb, ob, rfl, hbb, q⟩ := HEB.out k hlt
      have A0 := (hbe.cell (p := ⟨ba, oa + k * 3 + 0, none⟩) hba).trans (p 0 _ rfl)
      have A1 := (hbe.cell (p := ⟨ba, oa + k * 3 + 1, none⟩) hba).trans (p 1 _ rfl)
      have A2 := (hbe.cell (p := ⟨ba, oa + k * 3 + 2, none⟩) hba).trans (p 2 _ rfl)
      have B0 := (hbe.cell (p := ⟨bb, ob + k * 3 + 0, none⟩) hbb).trans (q 0 _ rfl)
      have B1 := (hbe.cell (p := ⟨bb, ob + k * 3 + 1, none⟩) hbb).trans (q 1 _ rfl)
      have B2 := (hbe.cell (p := ⟨bb, ob + k * 3 + 2, none⟩) hbb).trans (q 2 _ rfl)
      rw [Nat.add_zero] at A0 B0
      have HC : Hid (∀ wx : World, Calls Tryz.prog 62 #[.agg #[.int .i64 es[k].1, .int .i64 es[k].2.1, .string es[k].2.2], .agg #[.int .i64 es[k].1, .int .i64 es[k].2.1, .string es[k].2.2]] wx fun e w' => e = .returned (.bool true) ∧ Below wx.heap.size wx w') := fun wx => lawsEqPa _ _ _ wx
      clear p q HEA HEB
      generalize es[k].1 = xa at *
      generalize es[k].2.1 = xb at *
      generalize es[k].2.2 = xc at *
      have hk0 : (0 : Int) ≤ k := by omega
      have hk1 : (k : Int) < es.length := by omega
      go_wp2_with fail
      go_region_with (go_at_call 62; refine (HC.out _).mono ?_; rintro e w2 ⟨rfl, hb2⟩)
      all_goals
        go_wp2_with fail
        go_roundw
        case rel => exact ⟨k + 1, by omega, by go_num, hbe.trans ((((Below.refl _ _).drew).trans hb2).mono hbe.size)⟩
        case measure => simp [intOf]; omega
    · clear HEA HEB
      go_wp2_with fail
      go_ret
      exact ⟨rfl, hbe⟩

theorem Tryz.infoPacket : (Tryz.prog.info? 114).map (fun i => (i.zero, i.size, i.bytes)) = some (some (.agg #[.int .i64 0, .int .i64 0, .string ⟨#[]⟩]), 3, 32) := by kernel_rfl

/-- bools -/
def BoF (e : Bool) : List Value := [.bool e]

set_option maxHeartbeats 800000 in
set_option maxRecDepth 100000 in
theorem lawsEqBos (va vb : Value) (es : List Bool) (w : World) (hA : RowA 1 BoF w va es) (hB : RowA 1 BoF w vb es) (hkl : es.length ≤ 1048577) :
    Calls Tryz.prog 28 #[va, vb] w fun e w' => e = .returned (.bool true) ∧ Below w.heap.size w w' := by
  obtain ⟨a, capa, rfl, ha⟩ := rowA_open hA
  obtain ⟨b, capb, rfl, hb⟩ := rowA_open hB
  have HEA : Hid (type_of% ha) := ha
  have HEB : Hid (type_of% hb) := hb
  clear hA hB ha hb
  go_enter Tryz.func28, Tryz.ntmps28
  go_wp2_with fail
  go_loopw [5] (fun i wr => ∃ k : Nat, k ≤ es.length ∧ i = .int .i64 k ∧ Below w.heap.size w wr) (fun i _ => es.length - (intOf i).toNat)
  case atStart => exact ⟨0, Nat.zero_le _, rfl, Below.refl _ _⟩
  case round =>
    obtain ⟨k, hk, rfl, hbe⟩ := hrel
    by_cases hlt : k < es.length
    · obtain ⟨ba, oa, rfl, hba, p⟩ := HEA.out k hlt
      obtain ⟨bb, ob, rfl, hbb, q⟩ := HEB.out k hlt
      have A0 := (hbe.cell (p := ⟨ba, oa + k * 1 + 0, none⟩) hba).trans (p 0 _ rfl)
      have B0 := (hbe.cell (p := ⟨bb, ob + k * 1 + 0, none⟩) hbb).trans (q 0 _ rfl)
      rw [Nat.add_zero, Nat.mul_one] at A0 B0
      have hx : (es[k] != es[k]) = false := by cases es[k] <;> rfl
      clear p q HEA HEB
      generalize es[k] = xa at *
      have hk0 : (0 : Int) ≤ k := by omega
      have hk1 : (k : Int) < es.length := by omega
      go_wp2_with fail
      go_quiet (fail)
      go_wp2_with fail
      go_roundw
      case rel => exact ⟨k + 1, by omega, by go_num, below_drewN hbe _⟩
      case measure => simp [intOf]; omega
    · clear HEA HEB
      go_wp2_with fail
      go_ret
      exact ⟨rfl, hbe⟩

theorem Tryz.infoBool : (Tryz.prog.info? 4).map (fun i => (i.zero, i.size, i.bytes)) = some (some (.bool false), 1, 1) := by kernel_rfl

end Go.Proofs.YtllbfbllkefjeaaGreatDoor

namespace Go.Proofs.YtllbfbllkefjeaaGreatDoor
open Go.RowKit

theorem own_emptyA {w : World} {g B T z : Nat} (h : w.heap[g]? = some (.cells #[] T (0, 0))) (hg : B ≤ g) : w.ownsRow B T z (.slice (some ⟨g, 0, none⟩) 0 0) 0 [] :=
  ⟨by simp, .inr ⟨g, 0, #[], rfl, hg, h, by simp, by unfold maxLen; omega, by simp, by simp⟩⟩
theorem slice_ownS {w : World} {B e z : Nat} {v : Value} {n : Nat} {xs : List Value} (h : w.ownsRow B e z v n xs) : ∃ a c, v = .slice a n c := by
  rcases h.2 with ⟨e, h0⟩ | ⟨g, c, cur, e, _⟩
  · exact ⟨none, 0, by rw [e, h0]⟩
  · exact ⟨_, c, e⟩
def SrF (e : Src) : List Value := [.string e.1, .string e.2]
theorem SrF_one : ∀ e, ∀ u ∈ SrF e, u.oneCell' = true := fun e u hu => by
  simp only [SrF, List.mem_cons, List.not_mem_nil, or_false] at hu
  rcases hu with rfl | rfl <;> rfl
theorem BoF_one : ∀ e, ∀ u ∈ BoF e, u.oneCell' = true := fun e u hu => by
  simp only [BoF, List.mem_cons, List.not_mem_nil, or_false] at hu
  subst hu
  rfl
/-- a slice of sources, said both ways -/
theorem srcA {w : World} {v : Value} {es : List Src} (h : SrcAt w v es) : RowA 2 SrF w v es := by
  rcases h with ⟨h, a, cap, e⟩ | ⟨b, off, cap, e, hc⟩
  · exact .inl ⟨h, a, cap, e⟩
  · rcases Nat.eq_zero_or_pos es.length with h0 | h0
    · refine .inl ⟨List.length_eq_zero_iff.1 h0, some ⟨b, off, none⟩, cap, by rw [e, h0]⟩
    · refine .inr ⟨b, off, cap, e, World.block_lt_of_cell? w ⟨b, off + 0 * 2, none⟩ (hc 0 h0).1, fun j hj c u hu => ?_⟩
      match c, hu with
      | 0, hu => rw [Nat.add_zero, (hc j hj).1]; exact hu
      | 1, hu => rw [(hc j hj).2]; exact hu
      | c + 2, hu => simp [SrF] at hu
theorem aSrc {w : World} {v : Value} {es : List Src} (h : RowA 2 SrF w v es) : SrcAt w v es := by
  rcases h with ⟨h, a, cap, e⟩ | ⟨b, off, cap, e, _, hc⟩
  · exact .inl ⟨h, a, cap, e⟩
  · exact .inr ⟨b, off, cap, e, fun j hj => ⟨hc j hj 0 _ rfl, hc j hj 1 _ rfl⟩⟩
theorem Tryz.infoSr : (Tryz.prog.info? 57).map (fun i => (i.zero, i.size, i.bytes)) = some (some (.agg #[.string ⟨#[]⟩, .string ⟨#[]⟩]), 2, 32) := by kernel_rfl
theorem Tryz.infoBo : (Tryz.prog.info? 4).map (fun i => (i.zero, i.size, i.bytes)) = some (some (.bool false), 1, 1) := by kernel_rfl

set_option maxHeartbeats 800000 in
set_option maxRecDepth 100000 in
theorem slCloneSr (v : Value) (es : List Src) (w : World) (hT : RowA 2 SrF w v es) (hl : es.length ≤ 4194304) :
    Calls Tryz.prog 85 #[v] w fun e w' => ∃ (a : Option Addr) (c : Nat), e = .returned (.slice a es.length c) ∧ w'.ownsRow w.heap.size 57 2 (.slice a es.length c) es.length (flatA SrF es) ∧ Below w.heap.size w w' := by
  obtain ⟨i0, hi0, hz0, hz1, hz2⟩ := info_parts Tryz.infoSr
  obtain ⟨a, cap, rfl, hc⟩ := rowA_cells (z := 2) (f := SrF) (fun _ => rfl) hT
  clear hT
  cases a with
  | none =>
    have h0 : es.length = 0 := by
      cases hh : es.length with
      | zero => rfl
      | succ m => obtain ⟨b, off, e, _⟩ := hc (by omega); cases e
    have ht : es = [] := List.length_eq_zero_iff.1 h0
    subst ht
    clear hc hl h0
    have hq : ∀ w : World, Sem.run Tryz.prog (binOp BinOp.eql 28 (.slice none 0 cap) (.slice none 0 0)) w = .ok (.bool true) w := fun w => by kernel_rfl
    go_enter Tryz.func85, Tryz.ntmps85
    go_wp2
    go_ret
    exact ⟨none, 0, rfl, World.ownsRow_nil _ _ _ _, Below.refl _ _⟩
  | some ad =>
    have HC : Hid (∀ X : World, Below w.heap.size w X → ∀ j u, (flatA SrF es)[j]? = some u → X.cell? (ad.add j) = some u) := fun X hX j u hu => by
      have hj := (List.getElem?_eq_some_iff.1 hu).1
      rw [flatA_length (z := 2) (fun _ => rfl)] at hj
      obtain ⟨b, off, e, hbl, h⟩ := hc (by omega)
      simp only [Option.some.injEq] at e
      subst e
      rw [Addr.add_lit]
      exact (hX.cell (p := ⟨b, off + j, none⟩) hbl).trans (h j u hu)
    have hB1 : Below w.heap.size w (w.alloc (.cells #[] 57)) := (Below.refl _ _).alloc (Nat.le_refl _) _
    have hE : (w.alloc (.cells #[] 57)).ownsRow w.heap.size 57 2 (.slice (some ⟨w.heap.size, 0, none⟩) 0 0) 0 [] := own_emptyA (MapKept.heap_alloc w _).1 (Nat.le_refl _)
    have hfl : (flatA SrF es).length = es.length * 2 := flatA_length (f := SrF) (z := 2) (fun _ => rfl) es
    have hone : ∀ u ∈ flatA SrF es, u.oneCell' = true := flatA_one SrF_one es
    clear hc
    have hq : ∀ w : World, Sem.run Tryz.prog (binOp BinOp.eql 28 (.slice (some ad) es.length cap) (.slice none 0 0)) w = .ok (.bool false) w := fun w => by kernel_rfl
    have HFL : Hid (type_of% hfl) := hfl
    clear hfl
    generalize flatA SrF es = XS at *
    go_enter Tryz.func85, Tryz.ntmps85
    go_wp2_with (at_builtin; refine wpList_append_own _ rfl _ _ 28 rfl w.heap.size 57 i0 _ 2 32 Tryz.underlying28 hi0 hz0 hz1 hz2 rfl (by decide) _ _ _ rfl hE ad es.length cap XS rfl HFL.out (HC.out _ hB1) hone ?c3 ?c4 ?c5 ?_)
    case c3 => unfold maxLen; omega
    case c4 => omega
    case c5 => simp
    intro v' w3 hown' hgrow _
    have R1 : w3.ownsRow w.heap.size 57 2 v' es.length XS := by simpa using hown'
    have R2 : Below w.heap.size w w3 := hB1.grown hgrow (by simp) (fun j hj => by simp [Value.ownBlock] at hj; omega)
    obtain ⟨a', c', hv⟩ := slice_ownS R1
    subst hv
    have HO : Hid (type_of% R1) := R1
    clear hown' hgrow R1 HC hE hB1 hone HFL
    go_wp2_with fail
    go_ret
    exact ⟨a', c', rfl, HO.out, R2⟩

set_option maxHeartbeats 800000 in
set_option maxRecDepth 100000 in
theorem slCloneBo (v : Value) (es : List Bool) (w : World) (hT : RowA 1 BoF w v es) (hl : es.length ≤ 4194304) :
    Calls Tryz.prog 78 #[v] w fun e w' => ∃ (a : Option Addr) (c : Nat), e = .returned (.slice a es.length c) ∧ w'.ownsRow w.heap.size 4 1 (.slice a es.length c) es.length (flatA BoF es) ∧ Below w.heap.size w w' := by
  obtain ⟨i0, hi0, hz0, hz1, hz2⟩ := info_parts Tryz.infoBo
  obtain ⟨a, cap, rfl, hc⟩ := rowA_cells (z := 1) (f := BoF) (fun _ => rfl) hT
  clear hT
  cases a with
  | none =>
    have h0 : es.length = 0 := by
      cases hh : es.length with
      | zero => rfl
      | succ m => obtain ⟨b, off, e, _⟩ := hc (by omega); cases e
    have ht : es = [] := List.length_eq_zero_iff.1 h0
    subst ht
    clear hc hl h0
    have hq : ∀ w : World, Sem.run Tryz.prog (binOp BinOp.eql 29 (.slice none 0 cap) (.slice none 0 0)) w = .ok (.bool true) w := fun w => by kernel_rfl
    go_enter Tryz.func78, Tryz.ntmps78
    go_wp2
    go_ret
    exact ⟨none, 0, rfl, World.ownsRow_nil _ _ _ _, Below.refl _ _⟩
  | some ad =>
    have HC : Hid (∀ X : World, Below w.heap.size w X → ∀ j u, (flatA BoF es)[j]? = some u → X.cell? (ad.add j) = some u) := fun X hX j u hu => by
      have hj := (List.getElem?_eq_some_iff.1 hu).1
      rw [flatA_length (z := 1) (fun _ => rfl)] at hj
      obtain ⟨b, off, e, hbl, h⟩ := hc (by omega)
      simp only [Option.some.injEq] at e
      subst e
      rw [Addr.add_lit]
      exact (hX.cell (p := ⟨b, off + j, none⟩) hbl).trans (h j u hu)
    have hB1 : Below w.heap.size w (w.alloc (.cells #[] 4)) := (Below.refl _ _).alloc (Nat.le_refl _) _
    have hE : (w.alloc (.cells #[] 4)).ownsRow w.heap.size 4 1 (.slice (some ⟨w.heap.size, 0, none⟩) 0 0) 0 [] := own_emptyA (MapKept.heap_alloc w _).1 (Nat.le_refl _)
    have hfl : (flatA BoF es).length = es.length * 1 := flatA_length (f := BoF) (z := 1) (fun _ => rfl) es
    have hone : ∀ u ∈ flatA BoF es, u.oneCell' = true := flatA_one BoF_one es
    clear hc
    have hq : ∀ w : World, Sem.run Tryz.prog (binOp BinOp.eql 29 (.slice (some ad) es.length cap) (.slice none 0 0)) w = .ok (.bool false) w := fun w => by kernel_rfl
    have HFL : Hid (type_of% hfl) := hfl
    clear hfl
    generalize flatA BoF es = XS at *
    go_enter Tryz.func78, Tryz.ntmps78
    go_wp2_with (at_builtin; refine wpList_append_own _ rfl _ _ 29 rfl w.heap.size 4 i0 _ 1 1 Tryz.underlying29 hi0 hz0 hz1 hz2 rfl (by decide) _ _ _ rfl hE ad es.length cap XS rfl HFL.out (HC.out _ hB1) hone ?c3 ?c4 ?c5 ?_)
    case c3 => unfold maxLen; omega
    case c4 => omega
    case c5 => simp
    intro v' w3 hown' hgrow _
    have R1 : w3.ownsRow w.heap.size 4 1 v' es.length XS := by simpa using hown'
    have R2 : Below w.heap.size w w3 := hB1.grown hgrow (by simp) (fun j hj => by simp [Value.ownBlock] at hj; omega)
    obtain ⟨a', c', hv⟩ := slice_ownS R1
    subst hv
    have HO : Hid (type_of% R1) := R1
    clear hown' hgrow R1 HC hE hB1 hone HFL
    go_wp2_with fail
    go_ret
    exact ⟨a', c', rfl, HO.out, R2⟩

theorem slCloneLe (w : World) :
    Calls Tryz.prog 79 #[.slice none 0 0] w fun e w' => e = .returned (.slice none 0 0) ∧ w' = w := by
  have hq : ∀ w : World, Sem.run Tryz.prog (binOp BinOp.eql 30 (.slice none 0 0) (.slice none 0 0)) w = .ok (.bool true) w := fun w => by kernel_rfl
  go_enter Tryz.func79, Tryz.ntmps79
  go_wp2
  go_ret
  exact ⟨rfl, rfl⟩

theorem slCloneRs (w : World) :
    Calls Tryz.prog 80 #[.slice none 0 0] w fun e w' => e = .returned (.slice none 0 0) ∧ w' = w := by
  have hq : ∀ w : World, Sem.run Tryz.prog (binOp BinOp.eql 31 (.slice none 0 0) (.slice none 0 0)) w = .ok (.bool true) w := fun w => by kernel_rfl
  go_enter Tryz.func80, Tryz.ntmps80
  go_wp2
  go_ret
  exact ⟨rfl, rfl⟩

theorem slClonePa (w : World) :
    Calls Tryz.prog 81 #[.slice none 0 0] w fun e w' => e = .returned (.slice none 0 0) ∧ w' = w := by
  have hq : ∀ w : World, Sem.run Tryz.prog (binOp BinOp.eql 32 (.slice none 0 0) (.slice none 0 0)) w = .ok (.bool true) w := fun w => by kernel_rfl
  go_enter Tryz.func81, Tryz.ntmps81
  go_wp2
  go_ret
  exact ⟨rfl, rfl⟩

end Go.Proofs.YtllbfbllkefjeaaGreatDoor

namespace Go.Proofs.YtllbfbllkefjeaaGreatDoor
open Go.RowKit

set_option maxHeartbeats 800000 in
set_option maxRecDepth 100000 in
theorem implResults0 (cb : Nat) (room : Int) (y2 y3 : Value) (w : World) (hc : w.heap[cb]? = some (.cells #[.int .i64 room, .bool false, y2, y3] 157 (0, 0))) (h0 : 0 ≤ room) (hr : room ≤ 8589934592) :
    Calls Tryz.prog 88 #[.pointer (some ⟨cb, 0, none⟩), .slice none 0 0] w fun e w' => e = .returned (.slice none 0 0) ∧ Below w.heap.size w w' := by
  have e0 : ∀ X, Below w.heap.size w X → X.heap[cb]? = some (.cells #[.int .i64 room, .bool false, y2, y3] 157 (0, 0)) := fun X hX => (hX.block cb (Array.getElem?_eq_some_iff.1 hc).1).trans hc
  have HE0 : Hid (type_of% e0) := e0
  have HOT : Hid (Calls Tryz.prog 86 #[.pointer (some ⟨cb, 0, none⟩), .slice none 0 0] w fun e w' => e = .returned (.tuple #[]) ∧ Below w.heap.size w w') := by
    have h := implOwnTexts cb room (.slice none 0 0) [] w ⟨none, 0, rfl, fun j hj => by simp at hj⟩ (by rw [cell_of_row _ _ 0 _ _ (0, 0) hc]; rfl) (frozen_of_row _ _ 0 _ _ hc) (by simp [ptrSum]; omega) hr (by simp)
    have hs : (room - ((ptrSum ([] : List ((Nat × Nat) × ByteArray)) : Nat) : Int)) = room := by simp [ptrSum]
    rw [hs, setCell_self (by rw [cell_of_row _ _ 0 _ _ (0, 0) hc]; rfl)] at h
    exact h
  have HTK : Hid (∀ X, Below w.heap.size w X → Calls Tryz.prog 103 #[.pointer (some ⟨cb, 0, none⟩), .int .i64 0] X fun e w' => e = .returned (.bool true) ∧ w' = X) := fun X hX => by
    have h := HE0.out X hX
    have ht := implTakes cb room 0 X (by rw [cell_of_row _ _ 0 _ _ (0, 0) h]; rfl) (frozen_of_row _ _ 0 _ _ h) (by omega) hr
    have hs : (room - ((0 : Nat) : Int)) = room := by simp
    rw [hs, setCell_self (by rw [cell_of_row _ _ 0 _ _ (0, 0) h]; rfl)] at ht
    exact ht
  clear e0 hc
  go_enter Tryz.func88, Tryz.ntmps88
  go_wp2_with fail
  refine wp_loop_rounds 1 ?_
  rw [rounds_succ]
  go_wp2_with (first
    | (go_at_call 86; refine HOT.out.mono ?_; rintro e w2 ⟨rfl, hb2⟩; have r2 := HE0.out w2 hb2; have q1 := (cell_of_row _ _ 1 _ _ (0, 0) r2 : _ = _); have f1 := frozen_of_row _ _ 1 _ _ r2)
    | (go_at_call 103; refine (HTK.out w2 hb2).mono ?_; rintro e w3 ⟨rfl, hw3⟩; rw [hw3]; clear hw3))
  refine wp_loop_rounds 1 ?_
  rw [rounds_succ]
  have HSF := setCell_self (w := w2) (b := cb) (o := 1) (v := .bool false) (by rw [q1]; rfl)
  go_wp2_with fail
  go_ret
  refine ⟨rfl, ?_⟩
  first
    | exact hb2
    | (rw [HSF]; exact hb2)

end Go.Proofs.YtllbfbllkefjeaaGreatDoor
