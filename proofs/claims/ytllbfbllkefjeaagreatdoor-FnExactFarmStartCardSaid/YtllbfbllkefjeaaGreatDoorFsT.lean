/-
  A list of sources that the law makes, in memory of its own; eqFarm of two farms that hold no leases, results and packets.
  The law's memory at a drawn region that makes a farm's box; what FarmStart answers is one.
-/
import Derived.Test.YtllbfbllkefjeaaGreatDoorItQ
import Derived.Test.YtllbfbllkefjeaaGreatDoorSrD
import Derived.Test.YtllbfbllkefjeaaGreatDoorFmO
import Derived.Test.YtllbfbllkefjeaaGreatDoorFsK
namespace Go.Proofs.YtllbfbllkefjeaaGreatDoor
open Go.RowKit

theorem srFilled_flat {X : List Value} {es : List Src} (hl : X.length = es.length * 2) (h : SrFilled X es es.length) : X = flatA SrF es := by
  have hfl : (flatA SrF es).length = es.length * 2 := flatA_length (f := SrF) (z := 2) (fun _ => rfl) es
  apply List.ext_getElem?
  intro i
  by_cases hi : i < es.length * 2
  · have hq : i / 2 < es.length := Nat.div_lt_of_lt_mul (by omega)
    have hr : i % 2 < 2 := Nat.mod_lt _ (by decide)
    have hii : i = i / 2 * 2 + i % 2 := by omega
    obtain ⟨h0, h1⟩ := h (i / 2) hq hq
    rw [hii, flatA_at (f := SrF) (z := 2) (fun _ => rfl) es _ hq _ hr]
    rcases (show i % 2 = 0 ∨ i % 2 = 1 by omega) with e | e
    · rw [e, Nat.add_zero, h0]
      rfl
    · rw [e, h1]
      rfl
  · rw [List.getElem?_eq_none (by omega), List.getElem?_eq_none (by omega)]

set_option maxHeartbeats 1600000 in
set_option maxRecDepth 100000 in
theorem lawsToSrsO (v : Value) (es : List Src) (w : World) (hrow : SrcAt w v es) (hlen : es.length ≤ 1048576) :
    Calls Tryz.prog 7 #[v] w fun e w' => e = .returned (.slice (some ⟨w.heap.size, 0, none⟩) es.length es.length) ∧ w'.ownsRow w.heap.size 57 2 (.slice (some ⟨w.heap.size, 0, none⟩) es.length es.length) es.length (flatA SrF es) ∧ Below w.heap.size w w' := by
  obtain ⟨i0, hi, hz0, hz1, hz2⟩ := info_parts Tryz.infoSource
  obtain ⟨a, capa, rfl, ha⟩ := srcOpen hrow
  have HEA : Hid (type_of% ha) := ha
  clear hrow ha
  go_enter Tryz.func7, Tryz.ntmps7
  go_wp2_with (at_make; refine wpList_make_full _ rfl _ _ 28 rfl w.heap.size 57 i0 (.agg #[.string ⟨#[]⟩, .string ⟨#[]⟩]) 2 Tryz.underlying28 hi hz0 hz1 .i64 .i64 _ _ es.length rfl rfl rfl rfl (by rw [hz2]; omega) (by unfold maxLen; omega) (Nat.le_refl _) ?_)
  intro w1 hown hgrow
  have hB : Below w.heap.size w w1 := (Below.refl _ _).grown hgrow (Nat.le_refl _) (fun k hk => by cases hk)
  obtain ⟨X, hX⟩ : ∃ X, w1.ownsRow w.heap.size 57 2 (.slice (some ⟨w.heap.size, 0, none⟩) es.length es.length) es.length X := ⟨_, hown⟩
  have HX : Hid (type_of% hX) := hX
  clear hown hgrow hX
  go_wp2_with fail
  go_loopw [4] (fun i wr => ∃ (k : Nat) (X : List Value), k ≤ es.length ∧ i = .int .i64 k ∧ wr.ownsRow w.heap.size 57 2 (.slice (some ⟨w.heap.size, 0, none⟩) es.length es.length) es.length X ∧ SrFilled X es k ∧ Below w.heap.size w wr) (fun i _ => es.length - (intOf i).toNat)
  case atStart => exact ⟨0, X, Nat.zero_le _, rfl, HX.out, fun j _ h => absurd h (by omega), hB⟩
  case round =>
    obtain ⟨k, Y, hk, rfl, ho, hfil, hbe⟩ := hrel
    clear HX hB
    have HF : Hid (type_of% hfil) := hfil
    clear hfil
    have hYl : Y.length = es.length * 2 := ho.1
    by_cases hlt : k < es.length
    · obtain ⟨ba, oa, rfl, hba, a0, a1⟩ := HEA.out k hlt
      have A0 := (hbe.cell (p := ⟨ba, oa + k * 2, none⟩) hba).trans a0
      have A1 := (hbe.cell (p := ⟨ba, oa + k * 2 + 1, none⟩) hba).trans a1
      have HC0 := lawsToSr es[k].1 es[k].2 wr
      have HC : Hid (type_of% HC0) := HC0
      have HR2 : Hid (SrFilled _ es (k + 1)) := HF.out.more hlt hYl
      clear a0 a1 HEA HC0 HF
      generalize es[k].1 = nm at *
      generalize es[k].2 = tx at *
      go_wp2_with fail
      refine HC.out.mono ?_
      rintro e w2 ⟨rfl, hb2⟩
      have o1 := srKept ho hb2
      have hbe2 : Below w.heap.size w w2 := hbe.trans (hb2.mono hbe.size)
      clear ho hbe hb2 HC
      have f1 := o1.frozenAt (k * 2)
      have q1 : ∃ u, w2.cell? ⟨w.heap.size, k * 2, none⟩ = some u := by rw [o1.cellAt (k * 2) (by omega)]; exact ⟨_, List.getElem?_eq_getElem (by omega)⟩
      obtain ⟨u1, q1⟩ := q1
      obtain ⟨o2, _⟩ := o1.stored (k * 2) (.string nm)
      have f2 := o2.frozenAt (k * 2 + 1)
      have q2 : ∃ u, (w2.setCell ⟨w.heap.size, k * 2, none⟩ (.string nm)).cell? ⟨w.heap.size, k * 2 + 1, none⟩ = some u := by rw [o2.cellAt (k * 2 + 1) (by omega)]; exact ⟨_, List.getElem?_eq_getElem (by simp; omega)⟩
      obtain ⟨u2, q2⟩ := q2
      obtain ⟨o3, _⟩ := o2.stored (k * 2 + 1) (.string tx)
      have HR1 : Hid (type_of% o3) := o3
      have HR3 : Hid (Below w.heap.size w ((w2.setCell ⟨w.heap.size, k * 2, none⟩ (.string nm)).setCell ⟨w.heap.size, k * 2 + 1, none⟩ (.string tx))) := (hbe2.setCell (Nat.le_refl _) _).setCell (Nat.le_refl _) _
      clear o1 o2 o3 hbe2
      go_wp2_with fail
      go_roundw
      case rel => exact ⟨k + 1, _, by omega, by go_num, HR1.out, HR2.out, HR3.out⟩
      case measure => simp [intOf]; omega
    · have hke : k = es.length := by omega
      subst hke
      rw [srFilled_flat hYl HF.out] at ho
      have HR : Hid (type_of% ho) := ho
      clear HF HEA ho
      go_wp2_with fail
      go_ret
      exact ⟨rfl, HR.out, hbe⟩

/-- a farm that holds no leases, results and packets -/
def fv (b1 : Option Addr) (d1 : Nat) (S : List Src) (wt : Int) (b2 : Option Addr) (d2 : Nat) (U : List Bool) (rm : Int) (b3 : Option Addr) (d3 : Nat) (I : List Itm) : FarmV := ⟨.slice b1 S.length d1, S, wt, .slice b2 U.length d2, U, 0, 0, .slice none 0 0, [], .slice none 0 0, [], .slice none 0 0, [], rm, .slice b3 I.length d3, I⟩
theorem fv_at {b1 : Option Addr} {d1 : Nat} {S : List Src} {wt : Int} {b2 : Option Addr} {d2 : Nat} {U : List Bool} {rm : Int} {b3 : Option Addr} {d3 : Nat} {I : List Itm} {w : World} {B : Nat} (h1 : w.ownsRow B 57 2 (.slice b1 S.length d1) S.length (flatA SrF S)) (h2 : w.ownsRow B 4 1 (.slice b2 U.length d2) U.length (flatA BoF U)) (h3 : w.ownsRow B 83 3 (.slice b3 I.length d3) I.length (itV I)) : (fv b1 d1 S wt b2 d2 U rm b3 d3 I).at w 0 where
  set := aSrc (ownA (f := SrF) (z := 2) (fun _ => rfl) h1)
  up := ownA (f := BoF) (z := 1) (fun _ => rfl) h2
  leases := .inl ⟨rfl, none, 0, rfl⟩
  done := ⟨.inl ⟨rfl, none, 0, rfl⟩, fun _ he => (List.not_mem_nil he).elim⟩
  net := .inl ⟨rfl, none, 0, rfl⟩
  items := itRow h3
theorem lawsEqFv (w : World) (B b1 : Nat) (a1 a2 a3 p1 p2 p3 : Option Addr) (c1 c2 c3 q1 q2 q3 : Nat) (S : List Src) (U : List Bool) (I : List Itm) (wt rm : Int) (hS : S.length ≤ 1048576) (hU : U.length ≤ 1048576) (hI : I.length ≤ 1048576)
    (h1 : w.ownsRow B 57 2 (.slice a1 S.length c1) S.length (flatA SrF S)) (h2 : w.ownsRow B 4 1 (.slice a2 U.length c2) U.length (flatA BoF U)) (h3 : w.ownsRow B 83 3 (.slice a3 I.length c3) I.length (itV I))
    (k1 : w.ownsRow b1 57 2 (.slice p1 S.length q1) S.length (flatA SrF S)) (k2 : w.ownsRow b1 4 1 (.slice p2 U.length q2) U.length (flatA BoF U)) (k3 : w.ownsRow b1 83 3 (.slice p3 I.length q3) I.length (itV I)) :
    Calls Tryz.prog 10 #[.agg #[.slice a1 S.length c1, .int .i64 wt, .slice a2 U.length c2, .int .i64 0, .int .i64 0, .slice none 0 0, .slice none 0 0, .slice none 0 0, .int .i64 rm, .slice a3 I.length c3], .agg #[.slice p1 S.length q1, .int .i64 wt, .slice p2 U.length q2, .int .i64 0, .int .i64 0, .slice none 0 0, .slice none 0 0, .slice none 0 0, .int .i64 rm, .slice p3 I.length q3]] w fun r w' => r = .returned (.bool true) ∧ Below w.heap.size w w' :=
  lawsEqFarmP 0 (fv a1 c1 S wt a2 c2 U rm a3 c3 I) (fv p1 q1 S wt p2 q2 U rm p3 q3 I) w (fv_at h1 h2 h3) (fv_at k1 k2 k3) ⟨rfl, rfl, rfl, rfl, rfl, rfl, ⟨rfl, fun j h => absurd h (by simp [fv])⟩, rfl, rfl, rfl⟩ hS hU (Nat.zero_le _) (Nat.zero_le _) (Nat.zero_le _) hI (fun r hr => (List.not_mem_nil hr).elim)

end Go.Proofs.YtllbfbllkefjeaaGreatDoor

namespace Go.Proofs.YtllbfbllkefjeaaGreatDoor
open Go.RowKit

theorem FsOut.one {S : List Src} {wk wt rm : Int} {I S1 S2 I1 I2 : List _} {U1 U2 : List Bool} {t1 t2 r1 r2 : Int} {o1 o2 : Bool} (h : FsOut S wk wt rm I S1 U1 I1 t1 r1 o1) (k : FsOut S wk wt rm I S2 U2 I2 t2 r2 o2) : S2 = S1 ∧ U2 = U1 ∧ I2 = I1 ∧ t2 = t1 ∧ r2 = r1 ∧ o2 = o1 := by
  rcases h with ⟨hy, rfl, rfl, rfl, rfl, rfl, rfl⟩ | ⟨hy, rfl, rfl, rfl, rfl, rfl, rfl⟩
  · rcases k with ⟨_, rfl, rfl, rfl, rfl, rfl, rfl⟩ | ⟨hn, _⟩
    · exact ⟨rfl, rfl, rfl, rfl, rfl, rfl⟩
    · exact absurd hy hn
  · rcases k with ⟨hn, _⟩ | ⟨_, rfl, rfl, rfl, rfl, rfl, rfl⟩
    · exact absurd hn hy
    · exact ⟨rfl, rfl, rfl, rfl, rfl, rfl⟩
theorem FsOut.len {S S1 : List Src} {wk wt rm : Int} {I I1 : List Itm} {U1 : List Bool} {t1 r1 : Int} {o1 : Bool} (h : FsOut S wk wt rm I S1 U1 I1 t1 r1 o1) (hS : S.length ≤ 1048576) (hI : I.length ≤ 1048576) : S1.length ≤ 1048576 ∧ U1.length ≤ 1048576 ∧ I1.length ≤ 1048576 := by
  rcases h with ⟨hy, rfl, rfl, rfl, rfl, rfl, rfl⟩ | ⟨hy, rfl, rfl, rfl, rfl, rfl, rfl⟩
  · have h2 := hy.2.1
    exact ⟨hS, by simp [trues]; omega, hI⟩
  · exact ⟨Nat.zero_le _, Nat.zero_le _, Nat.zero_le _⟩
theorem GMem.sub {w Y : World} {bx bx' : List BoxS} {rs rs' : List RowS} (h : GMem w Y bx rs) (hb : bx'.Sublist bx) (hs : rs'.Sublist rs) : GMem w Y bx' rs' :=
  ⟨h.bel, fun e he => h.box e (hb.subset he), fun r hr => h.row r (hs.subset hr), h.dif.sublist hs, fun e he r hr => h.apa e (hb.subset he) r (hs.subset hr)⟩
/-- a box filled -/
theorem GMem.fill10 {w Y : World} {bx : List BoxS} {rs : List RowS} (h : GMem w Y bx rs) {tb : Nat} {z0 z1 z2 z3 z4 z5 z6 z7 z8 z9 : Value} (x0 x1 x2 x3 x4 x5 x6 x7 x8 x9 : Value) {t : TypeId} (rb : Y.heap[tb]? = some (.cells #[z0, z1, z2, z3, z4, z5, z6, z7, z8, z9] t (0, 0))) (hbx : ∀ e ∈ bx, e.1 ≠ tb) (hrs : ∀ r ∈ rs, r.T ≠ t) (hw : w.heap.size ≤ tb) : GMem w (put10 Y tb x0 x1 x2 x3 x4 x5 x6 x7 x8 x9) ((tb, #[x0, x1, x2, x3, x4, x5, x6, x7, x8, x9], t) :: bx) rs := by
  refine ⟨put10_belowN _ _ _ _ _ _ _ _ _ _ _ _ _ _ h.bel hw, fun e he => ?_, fun r hr => itLow (h.row r hr) (Nat.le_refl _) fun g hg => put10_heap _ _ _ _ _ _ _ _ _ _ _ _ g (ownNe (h.row r hr) rb (hrs r hr) g hg), h.dif, fun e he r hr hv => ?_⟩
  · rcases List.mem_cons.1 he with rfl | he
    · exact put10R rb
    · exact (put10_heap _ _ _ _ _ _ _ _ _ _ _ _ e.1 (hbx e he)).trans (h.box e he)
  · rcases List.mem_cons.1 he with rfl | he
    · exact ownNe (h.row r hr) rb (hrs r hr) _ hv rfl
    · exact h.apa e he r hr hv
theorem rows3_dif {X : World} {B1 B2 B3 : Nat} {b1 b2 b3 : Option Addr} {d1 d2 d3 : Nat} {S : List Src} {U : List Bool} {I : List Itm} (o1 : X.ownsRow B1 57 2 (.slice b1 S.length d1) S.length (flatA SrF S)) (o2 : X.ownsRow B2 4 1 (.slice b2 U.length d2) U.length (flatA BoF U)) (o3 : X.ownsRow B3 83 3 (.slice b3 I.length d3) I.length (itV I)) : ([rowS b1 d1 S.length S, rowU b2 d2 U.length U, rowI b3 d3 I.length I] : List RowS).Pairwise fun r s => r.v.ownBlock = none ∨ r.v.ownBlock ≠ s.v.ownBlock := by
  have one : ∀ {v v' : Value}, (∀ g, v.ownBlock = some g → v'.ownBlock ≠ some g) → v.ownBlock = none ∨ v.ownBlock ≠ v'.ownBlock := fun {v v'} h => by
    cases hv : v.ownBlock with
    | none => exact .inl rfl
    | some g => exact .inr fun e => h g hv e.symm
  refine List.Pairwise.cons (fun s hs => ?_) (List.Pairwise.cons (fun s hs => ?_) (List.Pairwise.cons (fun s hs => (List.not_mem_nil hs).elim) List.Pairwise.nil))
  · rcases List.mem_cons.1 hs with rfl | hs
    · exact one (ownNe2 o1 o2 (by decide))
    · rcases List.mem_cons.1 hs with rfl | hs
      · exact one (ownNe2 o1 o3 (by decide))
      · exact (List.not_mem_nil hs).elim
  · rcases List.mem_cons.1 hs with rfl | hs
    · exact one (ownNe2 o2 o3 (by decide))
    · exact (List.not_mem_nil hs).elim
theorem gm_rows {w w1 X : World} {bx : List BoxS} {rs : List RowS} {B1 B2 B3 : Nat} {b1 b2 b3 : Option Addr} {d1 d2 d3 : Nat} {S : List Src} {U : List Bool} {I : List Itm} (h : GMem w w1 bx rs) (hb : Below w1.heap.size w1 X) (o1 : X.ownsRow B1 57 2 (.slice b1 S.length d1) S.length (flatA SrF S)) (o2 : X.ownsRow B2 4 1 (.slice b2 U.length d2) U.length (flatA BoF U)) (o3 : X.ownsRow B3 83 3 (.slice b3 I.length d3) I.length (itV I)) (h1 : w1.heap.size ≤ B1) (h2 : w1.heap.size ≤ B2) (h3 : w1.heap.size ≤ B3) : GMem w X bx ([rowS b1 d1 S.length S, rowU b2 d2 U.length U, rowI b3 d3 I.length I] ++ rs) := by
  refine h.addRows hb _ (fun r hr => ?_) (rows3_dif o1 o2 o3)
  rcases List.mem_cons.1 hr with rfl | hr
  · exact itLow o1 h1 fun _ _ => rfl
  · rcases List.mem_cons.1 hr with rfl | hr
    · exact itLow o2 h2 fun _ _ => rfl
    · rcases List.mem_cons.1 hr with rfl | hr
      · exact itLow o3 h3 fun _ _ => rfl
      · exact (List.not_mem_nil hr).elim
theorem gm_early {w w1 X : World} {bx : List BoxS} {rs : List RowS} {tb B1 B2 B3 : Nat} {b1 b2 b3 : Option Addr} {d1 d2 d3 : Nat} {S : List Src} {U : List Bool} {I : List Itm} {wt rm : Int} {z0 z1 z2 z3 z4 z5 z6 z7 z8 z9 : Value} (h : GMem w w1 bx rs) (rb : X.heap[tb]? = some (.cells #[z0, z1, z2, z3, z4, z5, z6, z7, z8, z9] 37 (0, 0))) (htb : w1.heap.size ≤ tb) (hrs : ∀ r ∈ rs, r.T ≠ 37) (hb : Below w1.heap.size w1 X) (o1 : X.ownsRow B1 57 2 (.slice b1 S.length d1) S.length (flatA SrF S)) (o2 : X.ownsRow B2 4 1 (.slice b2 U.length d2) U.length (flatA BoF U)) (o3 : X.ownsRow B3 83 3 (.slice b3 I.length d3) I.length (itV I)) (h1 : w1.heap.size ≤ B1) (h2 : w1.heap.size ≤ B2) (h3 : w1.heap.size ≤ B3) : GMem w (put10 X tb (.slice b1 S.length d1) (.int .i64 wt) (.slice b2 U.length d2) (.int .i64 0) (.int .i64 0) (.slice none 0 0) (.slice none 0 0) (.slice none 0 0) (.int .i64 rm) (.slice b3 I.length d3)) ((tb, #[.slice b1 S.length d1, .int .i64 wt, .slice b2 U.length d2, .int .i64 0, .int .i64 0, .slice none 0 0, .slice none 0 0, .slice none 0 0, .int .i64 rm, .slice b3 I.length d3], 37) :: bx) ([rowS b1 d1 S.length S, rowU b2 d2 U.length U, rowI b3 d3 I.length I] ++ rs) := by
  refine (gm_rows h hb o1 o2 o3 h1 h2 h3).fill10 _ _ _ _ _ _ _ _ _ _ rb (fun e he q => ?_) (fun r hr => ?_) (Nat.le_trans h.bel.size htb)
  · have := (Array.getElem?_eq_some_iff.1 (h.box e he)).1
    omega
  · rcases List.mem_append.1 hr with hr | hr
    · rcases List.mem_cons.1 hr with rfl | hr
      · exact (by decide : (57 : TypeId) ≠ 37)
      · rcases List.mem_cons.1 hr with rfl | hr
        · exact (by decide : (4 : TypeId) ≠ 37)
        · rcases List.mem_cons.1 hr with rfl | hr
          · exact (by decide : (83 : TypeId) ≠ 37)
          · exact (List.not_mem_nil hr).elim
    · exact hrs r hr
theorem gm_late {w w1 X : World} {bx : List BoxS} {rs : List RowS} {B1 B2 B3 : Nat} {b1 b2 b3 : Option Addr} {d1 d2 d3 : Nat} {S : List Src} {U : List Bool} {I : List Itm} {wt rm : Int} (h : GMem w w1 bx rs) (hb : Below w1.heap.size w1 X) (o1 : X.ownsRow B1 57 2 (.slice b1 S.length d1) S.length (flatA SrF S)) (o2 : X.ownsRow B2 4 1 (.slice b2 U.length d2) U.length (flatA BoF U)) (o3 : X.ownsRow B3 83 3 (.slice b3 I.length d3) I.length (itV I)) (h1 : w1.heap.size ≤ B1) (h2 : w1.heap.size ≤ B2) (h3 : w1.heap.size ≤ B3) : GMem w (X.alloc (.cells #[.slice b1 S.length d1, .int .i64 wt, .slice b2 U.length d2, .int .i64 0, .int .i64 0, .slice none 0 0, .slice none 0 0, .slice none 0 0, .int .i64 rm, .slice b3 I.length d3] 37)) ((X.heap.size, #[.slice b1 S.length d1, .int .i64 wt, .slice b2 U.length d2, .int .i64 0, .int .i64 0, .slice none 0 0, .slice none 0 0, .slice none 0 0, .int .i64 rm, .slice b3 I.length d3], 37) :: bx) ([rowS b1 d1 S.length S, rowU b2 d2 U.length U, rowI b3 d3 I.length I] ++ rs) :=
  (gm_rows h hb o1 o2 o3 h1 h2 h3).addBox _ _
theorem two_cellsG {W : World} {b : Nat} {x0 x1 : Value} {t : TypeId} (h : W.heap[b]? = some (.cells #[x0, x1] t (0, 0))) : W.cell? ⟨b, 0, none⟩ = some x0 ∧ W.cell? ⟨b, 1, none⟩ = some x1 := by
  refine ⟨?_, ?_⟩
  · rw [cell_of_row _ _ 0 _ _ (0, 0) h]
    rfl
  · rw [cell_of_row _ _ 1 _ _ (0, 0) h]
    rfl
theorem GMem.deep {w X : World} {bx : List BoxS} {rs : List RowS} (h : GMem w X bx rs) {cs : Array Value} {t : TypeId} (he : (w.heap.size, cs, t) ∈ bx) : Below (w.heap.size + 1) (w.alloc (.cells cs t)) X := by
  have hr := h.box _ he
  refine ⟨h.bel.os.trans rfl, h.bel.tape.trans rfl, h.bel.output.trans rfl, ?_, fun c hc => ?_⟩
  · have := (Array.getElem?_eq_some_iff.1 hr).1
    have hz : (w.alloc (.cells cs t)).heap.size = w.heap.size + 1 := by simp
    omega
  · by_cases h0 : c = w.heap.size
    · subst h0
      exact hr.trans (MapKept.heap_alloc w _).1.symm
    · exact (h.bel.block c (by omega)).trans ((MapKept.heap_alloc w _).2 c (by omega)).symm
/-- one more row, in new memory -/
theorem GMem.addRow {w Y Z : World} {bx : List BoxS} {rs : List RowS} (h : GMem w Y bx rs) (hb : Below Y.heap.size Y Z) (r : RowS) (ho : Z.ownsRow Y.heap.size r.T r.z r.v r.n r.xs) : GMem w Z bx (r :: rs) :=
  h.addRows hb [r] (fun s hs => (List.mem_cons.1 hs).elim (fun e => by rw [e]; exact ho) fun hs => (List.not_mem_nil hs).elim) (List.Pairwise.cons (fun s hs => (List.not_mem_nil hs).elim) List.Pairwise.nil)

end Go.Proofs.YtllbfbllkefjeaaGreatDoor
