/-
  A union told again, with itself and in another order, and of one type alone. No program here. The body of the law FnUnion, given what its draw leaves.
  The body of the law FnUnion: the walk, given what its draw leaves.
-/
import Derived.Test.YthomlchbgcjcfaaGreatDoorUnA
import Derived.Test.YthomlchbgcjcfaaGreatDoorSameW
import Derived.Test.YthomlchbgcjcfaaGreatDoorFormE
import Derived.Deep.CutRange
import Derived.Deep.AppendLies
import Derived.Test.YthomlchbgcjcfaaGreatDoorDrT
import Derived.Lib.QuietBelow
import Derived.BigQuiet
namespace Go.Proofs.YthomlchbgcjcfaaGreatDoor
open Go.RowKit

theorem lessB_transQ {a b c : ByteArray} (h : lessB a b) (k : lessB b c) : lessB a c := List.lt_trans h k
/-- the kids of a right union ascend -/
theorem union_asc {n : Nat} {t : Ty} {d : Int} (h : Right (n + 1) t d) (h7 : t.kind = 7) : t.kids.Pairwise fun a b => lessB (Ty.text n a) (Ty.text n b) := by
  rcases h.2.2 with ⟨q, _⟩ | ⟨q, _⟩ | ⟨q, _⟩ | ⟨q, _⟩ | ⟨_, q1, _⟩
  · omega
  · omega
  · omega
  · omega
  · rw [List.pairwise_iff_getElem]
    intro i j hi hj hij
    induction j with
    | zero => omega
    | succ j ih =>
      have h1 := (q1 (j + 1) hj).2 (by omega)
      simp only [Nat.add_sub_cancel] at h1
      by_cases c : i = j
      · subst c; exact h1
      · exact lessB_transQ (ih (by omega) (by omega)) h1
theorem asc_up {n : Nat} {S : List Ty} {d : Int} (hr : ∀ s ∈ S, Right n s d) (h : S.Pairwise fun a b => lessB (Ty.text n a) (Ty.text n b)) : S.Pairwise fun a b => lessB (Ty.text (n + 1) a) (Ty.text (n + 1) b) := by
  rw [List.pairwise_iff_getElem] at h ⊢
  intro i j hi hj hij
  rw [text_up (hr _ (List.getElem_mem hi)), text_up (hr _ (List.getElem_mem hj))]
  exact h i j hi hj hij
theorem atom_kind {n : Nat} {ts : List Ty} (hr : ∀ q ∈ ts, Right n q 12) (hn : ∀ q ∈ ts, q.kind ≠ 3) {x : Ty} (hx : x ∈ atoms ts) : x.kind ≠ 3 ∧ x.kind ≠ 7 := by
  refine ⟨?_, (atom_right hr hx).2⟩
  obtain ⟨t, ht, ⟨c, hk⟩ | ⟨c, rfl⟩⟩ := atom_of.1 hx
  · cases n with
    | zero => exact (hr t ht).elim
    | succ n => exact ((right_union (hr t ht) c).2.2.1 x hk).2
  · exact hn x ht

/-- what is told is right, and so is what it is made of -/
theorem uans_right {n : Nat} {ts : List Ty} {t : Ty} (h : UAns n ts t true) : Right (n + 1) t 12 ∧ ts ≠ [] ∧ ∀ q ∈ ts, Right n q 12 := by
  rcases h with ⟨q, _⟩ | ⟨⟨h1, hr⟩, ⟨⟨q, hq, h3⟩, _, rfl⟩ | ⟨hn, S, hU, ⟨_, _, hS⟩ | ⟨h2, h11, _, rfl⟩ | ⟨_, _, q, _⟩⟩⟩
  · cases q
  · refine ⟨?_, h1, hr⟩
    have hq2 := hr q hq
    cases n with
    | zero => exact hq2.elim
    | succ n =>
      have e := right_plain hq2 (by omega)
      rw [h3] at e
      rw [e] at hq2
      exact right_up hq2
  · exact ⟨right_up (atom_right hr ((hU.1 t).1 (by rw [hS]; simp))).1, h1, hr⟩
  · exact ⟨(union_right hU hr hn h2).2 h11, h1, hr⟩
  · cases q

/-- told with itself, the others in the other order, it is the same -/
theorem uans_again {n : Nat} {ts : List Ty} {u : Ty} (h : UAns n ts u true) : UAns (n + 1) (u :: ts.reverse) u true := by
  obtain ⟨hu, _, hr0⟩ := uans_right h
  have hr : ∀ q ∈ u :: ts.reverse, Right (n + 1) q 12 := fun q hq => by
    rcases List.mem_cons.1 hq with rfl | hq
    · exact hu
    · exact right_up (hr0 q (List.mem_reverse.1 hq))
  have hrev : ∀ x, x ∈ atoms ts.reverse ↔ x ∈ atoms ts := fun x => by
    rw [atom_of, atom_of]
    exact ⟨fun ⟨t, ht, q⟩ => ⟨t, List.mem_reverse.1 ht, q⟩, fun ⟨t, ht, q⟩ => ⟨t, List.mem_reverse.2 ht, q⟩⟩
  have hat : ∀ x, x ∈ atoms (u :: ts.reverse) ↔ x ∈ atoms [u] ∨ x ∈ atoms ts := fun x => by
    rw [show u :: ts.reverse = [u] ++ ts.reverse from rfl, atoms_app, List.mem_append, hrev]
  rcases h with ⟨q, _⟩ | ⟨⟨h1, _⟩, ⟨_, _, rfl⟩ | ⟨hn, S, hU, ⟨_, _, hS⟩ | ⟨h2, h11, _, rfl⟩ | ⟨_, _, q, _⟩⟩⟩
  · cases q
  · exact uspec_any hr ⟨_, List.mem_cons_self .., rfl⟩
  · have hx : u ∈ atoms ts := (hU.1 u).1 (by rw [hS]; simp)
    have hk := atom_kind hr0 hn hx
    refine uspec_one hr (fun q hq => ?_) (S := [u]) ⟨fun x => ?_, List.pairwise_singleton _ _⟩ rfl
    · rcases List.mem_cons.1 hq with rfl | hq
      · exact hk.1
      · exact hn q (List.mem_reverse.1 hq)
    · rw [hat, atomsB_1 hk.2]
      refine ⟨.inl, fun q => ?_⟩
      rcases q with q | q
      · exact q
      · have := (hU.1 x).2 q
        rw [hS] at this
        exact this
  · refine (uspec_more hr (fun q hq => ?_) (S := S) ⟨fun x => ?_, asc_up (fun s hs => (atom_right hr0 ((hU.1 s).1 hs)).1) hU.2⟩ (by omega)).1 (right_up hu)
    · rcases List.mem_cons.1 hq with rfl | hq
      · show (7 : Int) ≠ 3; omega
      · exact hn q (List.mem_reverse.1 hq)
    · rw [hat, atomsB_7 rfl]
      show x ∈ S ↔ x ∈ S ∨ x ∈ atoms ts
      exact ⟨.inl, fun q => q.elim id (hU.1 x).2⟩
  · cases q

/-- of one type alone it is that type -/
theorem uans_self {n : Nat} {s : Ty} (h : Right n s 12) : UAns n [s] s true := by
  have hr : ∀ q ∈ [s], Right n q 12 := fun q hq => by rw [List.mem_singleton] at hq; subst hq; exact h
  cases n with
  | zero => exact h.elim
  | succ n =>
    by_cases c3 : s.kind = 3
    · have e := right_plain h (by omega)
      rw [c3] at e
      have := uspec_any hr ⟨s, by simp, c3⟩
      rw [← e] at this
      exact this
    · have hn : ∀ q ∈ [s], q.kind ≠ 3 := fun q hq => by rw [List.mem_singleton] at hq; subst hq; exact c3
      by_cases c7 : s.kind = 7
      · obtain ⟨e1, e2, _, a, b, r, e3⟩ := right_union h c7
        have e : s = .mk 7 ⟨#[]⟩ [] s.kids := by
          obtain ⟨k, nm, ns, ks⟩ := s
          dsimp only at *
          subst c7 e1 e2
          rfl
        have hU : UnionS (n + 1) [s] s.kids := ⟨fun x => by rw [atomsB_7 c7], asc_up (fun k hk => h.2.1 k hk) (union_asc h c7)⟩
        have := (uspec_more hr hn hU (by rw [e3]; simp)).1 (by rw [← e]; exact right_up h)
        rw [← e] at this
        exact this
      · exact uspec_one hr hn (S := [s]) ⟨fun x => by rw [atomsB_1 c7], List.pairwise_singleton _ _⟩ rfl

end Go.Proofs.YthomlchbgcjcfaaGreatDoor

namespace Go.Proofs.YthomlchbgcjcfaaGreatDoor
open Go.RowKit

theorem lawsBigU (a : Option Addr) (len cap : Nat) (w : World) :
    Calls Tryz.prog 4 #[.slice a len cap] w fun e w' => e = .returned (.bool (decide ((1048576 : Int) < len))) ∧ w = w' := by
  go_enter Tryz.func4, Tryz.ntmps4
  go_wp2
  go_ret
  exact ⟨rfl, rfl⟩

/-- what a draw of types leaves -/
def DrUn (n m : Nat) (w : World) (e : Ending) (w' : World) : Prop :=
  ∃ (v : Value) (S : List Ty) (ls : List Lay), e = .returned v ∧ S.length ≤ 4 ∧ KidsG w' w.heap.size n v S ls ∧ (∀ s ∈ S, Ty.sized n s ∧ Ty.bulk n s ≤ m) ∧ Below w.heap.size w w'

theorem KidsG.up {w : World} {B n : Nat} {v : Value} {S : List Ty} {ls : List Lay} (h : KidsG w B n v S ls) : KidsG w B (n + 1) v S ls :=
  ⟨h.len, h.own, fun j h1 h2 => (h.lay j h1 h2).up.1, fun l hl b hb => by
    obtain ⟨j, hj, rfl⟩ := List.getElem_of_mem hl
    exact h.new _ hl b (by rw [← (h.lay j hj (by rw [← h.len]; exact hj)).up.2]; exact hb)⟩
theorem told_arrU {w : World} {n : Nat} {l : Lay} {t : Ty} (h : LayAt w (n + 1) l t) : ∃ an cn ak ck, (cellsK t l).toArray = #[.int .i64 t.kind, .string t.name, .slice an t.names.length cn, .slice ak t.kids.length ck] ∧ cellsK t l = [.int .i64 t.kind, .string t.name, .slice an t.names.length cn, .slice ak t.kids.length ck] := by
  obtain ⟨an, cn, e1⟩ := h.1.slice
  obtain ⟨ak, ck, e2⟩ := h.2.2.1.slice
  have e3 : cellsK t l = [.int .i64 t.kind, .string t.name, .slice an t.names.length cn, .slice ak t.kids.length ck] := by unfold cellsK; rw [e1, e2]
  exact ⟨an, cn, ak, ck, by rw [e3], e3⟩
/-- the first one of a row, as a row -/
theorem KidsG.first {w : World} {B n : Nat} {a : Option Addr} {cap : Nat} {S : List Ty} {ls : List Lay} (h : KidsG w B n (.slice a S.length cap) S ls) (hs : ∀ s ∈ S, Ty.sized n s) (h0 : 0 < S.length) : ∃ g, a = some ⟨g, 0, none⟩ ∧ RowAt w (TyAt w n) (.slice (some ⟨g, 0, none⟩) 1 cap) [S[0]] ∧ TyAt w n (cellsK S[0] (ls[0]'(by rw [h.len]; exact h0))) S[0] ∧ ∀ c u, (cellsK S[0] (ls[0]'(by rw [h.len]; exact h0)))[c]? = some u → w.cell? ⟨g, c, none⟩ = some u := by
  obtain ⟨g, c0, e⟩ := slice_ownL (OwnS.of h.own) h0
  simp only [Value.slice.injEq, true_and] at e
  obtain ⟨rfl, rfl⟩ := e
  have hl0 : 0 < ls.length := by rw [h.len]; exact h0
  have hcell : ∀ c u, (cellsK S[0] ls[0])[c]? = some u → w.cell? ⟨g, c, none⟩ = some u := fun c u hu => by
    have hc : c < 4 := by
      have := (List.getElem?_eq_some_iff.1 hu).1
      simpa [cellsK] using this
    have := h.own.cellAt c (by omega)
    rw [this]
    have h2 := flatK_get S ls 0 c h0 hl0 hc
    rw [Nat.zero_mul, Nat.zero_add] at h2
    rw [h2]
    exact hu
  have hty : TyAt w n (cellsK S[0] ls[0]) S[0] := (h.lay 0 hl0 h0).at (hs _ (List.getElem_mem h0))
  refine ⟨g, rfl, .inr ⟨g, 0, cap, rfl, fun j hj => ?_⟩, hty, hcell⟩
  obtain rfl : j = 0 := by simp at hj; exact hj
  exact ⟨cellsK S[0] ls[0], hty, fun c u hu => by simpa using hcell c u hu⟩

end Go.Proofs.YthomlchbgcjcfaaGreatDoor

namespace Go.Proofs.YthomlchbgcjcfaaGreatDoor
open Go.RowKit Go.Sort

theorem uans_zero {n : Nat} {ts : List Ty} {t : Ty} (h : UAns n ts t false) : t = .mk 0 ⟨#[]⟩ [] [] := by
  rcases h with ⟨_, e, _⟩ | ⟨_, ⟨_, q, _⟩ | ⟨_, S, _, ⟨_, q, _⟩ | ⟨_, _, q, _⟩ | ⟨_, _, _, e⟩⟩⟩
  · exact e
  · cases q
  · cases q
  · cases q
  · exact e
theorem own_oneU {w : World} {B g : Nat} {x0 x1 x2 x3 : Value} (h : w.heap[g]? = some (.cells #[x0, x1, x2, x3] 28 (0, 0))) (hB : B ≤ g) : w.ownsRow B 28 4 (.slice (some ⟨g, 0, none⟩) 1 1) 1 [x0, x1, x2, x3] :=
  ⟨rfl, .inr ⟨g, 1, #[x0, x1, x2, x3], rfl, hB, h, Nat.le_refl _, by unfold maxLen; omega, rfl, rfl⟩⟩

set_option maxHeartbeats 3200000 in
set_option maxRecDepth 100000 in
open Classical in
theorem walkFnUnion (n : Nat) (a : Option Addr) (len cap : Nat) (w : World) (hD : len ≤ 1048576 → Calls Tryz.prog 5 #[.slice a len cap] w (DrUn n 400 w)) (hc : ClsIs w) :
    Calls Tryz.prog 3 #[.slice a len cap] w fun e w' => e = .returned (.bool true) ∧ Below w.heap.size w w' := by
  obtain ⟨i0, hi0, hz0, hz1, hz2⟩ := info_parts Tryz.infoTypeC
  by_cases hlen : len ≤ 1048576
  · have HBG := lawsBigU a len cap w
    rw [decide_eq_false (by omega : ¬ (1048576 : Int) < len)] at HBG
    have HB : Hid (type_of% HBG) := HBG
    have HD : Hid (type_of% (hD hlen)) := hD hlen
    have HCL : Hid (ClsIs w) := hc
    clear HBG hD hc
    go_enter Tryz.func3, Tryz.ntmps3
    go_wp2_with fail
    refine HB.out.mono ?_
    rintro e w0 ⟨rfl, rfl⟩
    go_wp2_with fail
    refine HD.out.mono ?_
    rintro e w1 ⟨v, S, ls, rfl, hS4, hK, hF, hb1⟩
    obtain ⟨av, cv, hv⟩ := slice_ownM hK.own
    subst hv
    have hsz : ∀ s ∈ S, Ty.sized n s := fun s hs => (hF s hs).1
    have hkb := kids_bulk (fun s hs => (hF s hs).2)
    have hrb : rowBulk n S ≤ 1604 := by
      unfold rowBulk
      have : S.length * 400 ≤ 4 * 400 := Nat.mul_le_mul_right _ hS4
      omega
    have HK : Hid (type_of% hK) := hK
    have HSZ : Hid (type_of% hsz) := hsz
    have HRW : Hid (∀ wx : World, Below w1.heap.size w1 wx → RowAt wx (TyAt wx n) (.slice av S.length cv) S) := fun wx hx => (hK.below hx).row hsz (by omega)
    have HIU : Hid (∀ (m : Nat) (vb : Value) (ts : List Ty) (wx : World), Below w1.heap.size w1 wx → RowAt wx (TyAt wx m) vb ts → rowBulk m ts ≤ 20000 → Calls Tryz.prog 6 #[vb] wx fun e w' => ∃ (l : Lay) (t : Ty) (ok : Bool), e = .returned (.tuple #[.agg (cellsK t l).toArray, .bool ok]) ∧ UAns m ts t ok ∧ NewLay wx.heap.size w' (m + 1) l t ∧ Below wx.heap.size wx w') := fun m vb ts wx hx hr hb => implUnion m vb ts wx hr (by omega) ((HCL.out.below hb1 HCL.out.lt).below hx (HCL.out.below hb1 HCL.out.lt).lt)
    have HST : Hid (∀ (m : Nat) (t : Ty) (l l' : Lay) (wx : World), LayAt wx m l t → LayAt wx m l' t → Ty.sized m t → Ty.bulk m t ≤ 20000 → Calls Tryz.prog 8 #[.agg (cellsK t l).toArray, .agg (cellsK t l').toArray] wx fun e w' => e = .returned (.bool true) ∧ Below wx.heap.size wx w') := fun m t l l' wx h1 h2 hs hb => lawsSameTy m _ _ t wx (h1.at hs) (h2.at hs) (by omega)
    have HTK : Hid (∀ (m : Nat) (t : Ty) (l : Lay) (wx : World), Below w1.heap.size w1 wx → LayAt wx m l t → Ty.sized m t → Ty.bulk m t ≤ 20000 → Right m t 12 → Calls Tryz.prog 9 #[.agg (cellsK t l).toArray] wx fun e w' => e = .returned (.bool true) ∧ Below wx.heap.size wx w') := fun m t l wx hx h1 hs hb hr => by
      have := implTypeOk m _ t wx (h1.at hs) (by omega) ((HCL.out.below hb1 HCL.out.lt).below hx (HCL.out.below hb1 HCL.out.lt).lt)
      rw [decide_eq_true hr] at this
      exact this
    have H1 : Hid (type_of% (HIU.out n _ S w1 (Below.refl _ _) (HRW.out w1 (Below.refl _ _)) (by omega))) := HIU.out n _ S w1 (Below.refl _ _) (HRW.out w1 (Below.refl _ _)) (by omega)
    clear hK hF hsz hkb HB HD
    go_wp2_with fail
    refine H1.out.mono ?_
    rintro e w2 ⟨lu, u, ok, rfl, hans, hlu, hb2⟩
    obtain ⟨p1, pc1, p2, pc2, ecu, ecl⟩ := told_arrU hlu.1
    rw [ecu]
    clear H1
    have hA3 : Below w2.heap.size w2 (w2.alloc (.cells #[.int .i64 u.kind, .string u.name, .slice p1 u.names.length pc1, .slice p2 u.kids.length pc2] 28)) := (Below.refl _ _).alloc (Nat.le_refl _) _
    have hx4 : (w2.alloc (.cells #[.int .i64 u.kind, .string u.name, .slice p1 u.names.length pc1, .slice p2 u.kids.length pc2] 28)).heap[w2.heap.size]? = some (.cells #[.int .i64 u.kind, .string u.name, .slice p1 u.names.length pc1, .slice p2 u.kids.length pc2] 28 (0, 0)) := heap_alloc_new w2 _
    go_upto_region 5 with fail
    obtain ⟨W3, hW3⟩ : ∃ W3, W3 = w2.alloc (.cells #[.int .i64 u.kind, .string u.name, .slice p1 u.names.length pc1, .slice p2 u.kids.length pc2] 28) := ⟨_, rfl⟩
    have hs3 : w2.heap.size < W3.heap.size := by rw [hW3]; simp
    rw [← hW3] at hA3 hx4 ⊢
    clear hW3
    have hb13 : Below w1.heap.size w1 W3 := hb2.trans (hA3.mono hb2.size)
    have HSU : Hid (type_of% (specUnion n _ S W3 (HRW.out W3 hb13) (by omega))) := specUnion n _ S W3 (HRW.out W3 hb13) (by omega)
    go_wp2_with fail
    refine HSU.out.mono ?_
    rintro e w4 ⟨l0, u0, ok0, rfl, hans0, ⟨hl0, _⟩, hb4⟩
    obtain ⟨rfl, rfl⟩ := hans.one hans0
    obtain ⟨q1, qc1, q2, qc2, ec0, _⟩ := told_arrU hl0
    rw [ec0]
    clear HSU hans0
    have hA5 : Below w4.heap.size w4 (w4.alloc (.cells #[.int .i64 u.kind, .string u.name, .slice q1 u.names.length qc1, .slice q2 u.kids.length qc2] 28)) := (Below.refl _ _).alloc (Nat.le_refl _) _
    have hx6 : (w4.alloc (.cells #[.int .i64 u.kind, .string u.name, .slice q1 u.names.length qc1, .slice q2 u.kids.length qc2] 28)).heap[w4.heap.size]? = some (.cells #[.int .i64 u.kind, .string u.name, .slice q1 u.names.length qc1, .slice q2 u.kids.length qc2] 28 (0, 0)) := heap_alloc_new w4 _
    go_upto_region 6 with fail
    obtain ⟨W5, hW5⟩ : ∃ W5, W5 = w4.alloc (.cells #[.int .i64 u.kind, .string u.name, .slice q1 u.names.length qc1, .slice q2 u.kids.length qc2] 28) := ⟨_, rfl⟩
    have hs5 : w4.heap.size < W5.heap.size := by rw [hW5]; simp
    rw [← hW5] at hA5 hx6 ⊢
    clear hW5
    have hb35 : Below W3.heap.size W3 W5 := hb4.trans (hA5.mono hb4.size)
    have hb15 : Below w1.heap.size w1 W5 := hb13.trans (hb35.mono hb13.size)
    have hx45 := (hb35.block w2.heap.size hs3).trans hx4
    have hlu5 : LayAt W5 (n + 1) lu u := (hlu.1.below hA3).below hb35
    have hl05 : LayAt W5 (n + 1) l0 u := hl0.below hA5
    have husz := un_bulkT hans HSZ.out (by omega)
    have hub : Ty.bulk (n + 1) u ≤ 20000 := by have := husz.2; omega
    have hlub : ∀ b ∈ Lay.blocks (n + 1) lu, w1.heap.size ≤ b := hlu.2.2
    have hsm := HST.out (n + 1) u lu l0 W5 hlu5 hl05 husz.1 hub
    rw [ecu, ec0] at hsm
    have HSM : Hid (type_of% hsm) := hsm
    obtain ⟨⟨c0, c1, c2, c3⟩, _⟩ := block4 hx45
    obtain ⟨⟨d0, d1, d2, d3⟩, _⟩ := block4 hx6
    have hok : (ok != ok) = false := by cases ok <;> rfl
    have hs35 := hb35.size
    clear hsm hl0 hl05 hx6 hA3 hA5 hb4 hlu hx4 hb2 hb13 hb35
    go_wp2_with fail
    refine HSM.out.mono ?_
    rintro e w6 ⟨rfl, hb6⟩
    have hb16 : Below w1.heap.size w1 w6 := hb15.trans (hb6.mono hb15.size)
    have hx46 := (hb6.block w2.heap.size (by omega)).trans hx45
    have hlu6 := hlu5.below hb6
    have hbw6 : Below w.heap.size w w6 := hb1.trans (hb16.mono hb1.size)
    clear c0 c1 c2 c3 d0 d1 d2 d3 HSM hlu5 hx45 hb15 hb6
    obtain ⟨⟨c0, c1, c2, c3⟩, _⟩ := block4 hx46
    cases ok with
    | false =>
      obtain rfl := uans_zero hans
      clear hans hok
      go_wp2_with fail
      go_ret
      exact ⟨rfl, hbw6⟩
    | true =>
      obtain ⟨hur, hne, hSr⟩ := uans_right hans
      have hag := uans_again hans
      have hS0 : 0 < S.length := by
        cases S with
        | nil => exact absurd rfl hne
        | cons _ _ => simp
      have hrvl : ∀ k (h : k < S.length), S.reverse.take (k + 1) = S.reverse.take k ++ [S[S.length - 1 - k]] := fun k h => by
        rw [List.take_succ_eq_append_getElem (by rw [List.length_reverse]; exact h), List.getElem_reverse]
      have hrvs : ∀ k (h : k < S.length), ls.reverse.take (k + 1) = ls.reverse.take k ++ [ls[S.length - 1 - k]'(by rw [HK.out.len]; omega)] := fun k h => by
        have hll := HK.out.len
        rw [List.take_succ_eq_append_getElem (by rw [List.length_reverse]; omega), List.getElem_reverse]
        congr 2
        simp only [hll]
      have HRL : Hid (type_of% hrvl) := hrvl
      have HRS : Hid (type_of% hrvs) := hrvs
      have hszu : ∀ s ∈ u :: S.reverse, Ty.sized (n + 1) s ∧ Ty.bulk (n + 1) s ≤ 1604 := fun s hs => by
        rcases List.mem_cons.1 hs with rfl | hs
        · exact ⟨husz.1, by have := husz.2; omega⟩
        · have h1 := HSZ.out s (List.mem_reverse.1 hs)
          refine ⟨sized_up h1, ?_⟩
          rw [bulk_sz h1]
          obtain ⟨j, hj, rfl⟩ := List.getElem_of_mem (List.mem_reverse.1 hs)
          have := kid_bulk n S j hj
          unfold rowBulk at hrb
          omega
      have HSU : Hid (type_of% hszu) := hszu
      have HAG : Hid (type_of% hag) := hag
      have HUR : Hid (Right (n + 1) u 12 ∧ Right n S[0] 12) := ⟨hur, hSr _ (List.getElem_mem hS0)⟩
      have hA7 : Below w6.heap.size w6 (w6.alloc (.cells #[.int .i64 u.kind, .string u.name, .slice p1 u.names.length pc1, .slice p2 u.kids.length pc2] 28)) := (Below.refl _ _).alloc (Nat.le_refl _) _
      have HK7 : Hid (KidsG (w6.alloc (.cells #[.int .i64 u.kind, .string u.name, .slice p1 u.names.length pc1, .slice p2 u.kids.length pc2] 28)) w.heap.size (n + 1) (.slice (some ⟨w6.heap.size, 0, none⟩) 1 1) [u] [lu]) := ⟨rfl, by
          show World.ownsRow _ _ _ _ _ 1 (cellsK u lu ++ [])
          rw [List.append_nil, ecl]
          exact own_oneU (heap_alloc_new w6 _) (by have := hbw6.size; omega), fun j h1 h2 => by
          obtain rfl : j = 0 := by simp at h1; exact h1
          exact hlu6.below hA7, fun l hl b hb => by
          rw [List.mem_singleton] at hl
          subst hl
          have h1 := hlub b hb
          have h2 := hlu6.lt hb
          have h3 := hb1.size
          exact ⟨by omega, fun e => by simp only [Value.ownBlock, Option.some.injEq] at e; omega⟩⟩
      have HLU : Hid (LayAt w6 (n + 1) lu u) := hlu6
      have HX4 : Hid (type_of% hx46) := hx46
      have HW6 : Hid (Below w.heap.size w w6 ∧ Below w1.heap.size w1 w6) := ⟨hbw6, hb16⟩
      have hz61 := hb16.size
      have hz1w := hb1.size
      have HUS : Hid (Ty.sized (n + 1) u ∧ Ty.bulk (n + 1) u ≤ 1604) := ⟨husz.1, by have := husz.2; omega⟩
      clear hrvl hrvs hszu hag hur hSr hne hlu6 hx46 hbw6 hb16 husz hub hlub hans hok hb1
      go_wp2_with fail
      clear c0 c1 c2 c3
      go_loopw [8, 9] (fun vt i wr => ∃ (k : Nat), k ≤ S.length ∧ i = .int .i64 ((S.length : Int) - 1 - (k : Int)) ∧ KidsG wr w.heap.size (n + 1) vt (u :: S.reverse.take k) (lu :: ls.reverse.take k) ∧ (∀ g, vt.ownBlock = some g → w6.heap.size ≤ g) ∧ Below w6.heap.size w6 wr) (fun _ i _ => (intOf i + 1).toNat)
      case atStart => exact ⟨0, Nat.zero_le _, by simp, HK7.out, fun g hg => by simp only [Value.ownBlock, Option.some.injEq] at hg; omega, hA7⟩
      case round =>
        obtain ⟨k, hk, rfl, hKt, hg7, hbe⟩ := hrel
        obtain ⟨at', ct, hvt⟩ := slice_ownM hKt.own
        subst hvt
        have hlt1 : (u :: S.reverse.take k).length = k + 1 := by simp; omega
        have HKT : Hid (type_of% hKt) := hKt
        have hownt := hKt.own
        have hb1r : Below w1.heap.size w1 wr := HW6.out.2.trans (hbe.mono hz61)
        have hzr := hbe.size
        clear HK7 hA7 hKt
        by_cases hlt : k < S.length
        · obtain ⟨j, hj⟩ : ∃ j : Nat, j = S.length - 1 - k := ⟨_, rfl⟩
          have hji : (S.length : Int) - 1 - (k : Int) = (j : Int) := by omega
          have hjl : j < S.length := by omega
          obtain ⟨gv, cv', ev⟩ := slice_ownL (OwnS.of HK.out.own) hS0
          simp only [Value.slice.injEq, true_and] at ev
          obtain ⟨rfl, rfl⟩ := ev
          have hjs : j < ls.length := by rw [HK.out.len]; exact hjl
          have hLj := HK.out.lay j hjs hjl
          obtain ⟨y1, yc1, y2, yc2, _, ecj⟩ := told_arrU hLj.up.1
          have hgl := (HK.out.own.lt gv rfl).2
          have cc : ∀ c, c < 4 → wr.cell? ⟨gv, j * 4 + c, none⟩ = (cellsK S[j] ls[j])[c]? := fun c hc => by
            rw [hb1r.cell (p := ⟨gv, j * 4 + c, none⟩) hgl, HK.out.own.cellAt (j * 4 + c) (by omega), flatK_get S ls j c hjl hjs hc]
          have Z0 := cc 0 (by omega)
          have Z1 := cc 1 (by omega)
          have Z2 := cc 2 (by omega)
          have Z3 := cc 3 (by omega)
          rw [ecj] at Z0 Z1 Z2 Z3
          simp only [List.getElem?_cons_zero, List.getElem?_cons_succ, Nat.add_zero] at Z0 Z1 Z2 Z3
          have hlb : ∀ b ∈ Lay.blocks (n + 1) ls[j], w.heap.size ≤ b ∧ (Value.slice at' (u :: S.reverse.take k).length ct).ownBlock ≠ some b := fun b hb => by
            rw [hLj.up.2] at hb
            have h1 := (HK.out.new _ (List.getElem_mem hjs) b hb).1
            have h2 := hLj.lt hb
            exact ⟨h1, fun e => by have := hg7 b e; omega⟩
          have HLJ : Hid (LayAt wr (n + 1) ls[j] S[j] ∧ type_of% hlb) := ⟨hLj.up.1.below hb1r, hlb⟩
          have HCJ : Hid (type_of% ecj) := ecj
          have HJ : Hid (type_of% hj) := hj
          have hj0 : (0 : Int) ≤ (j : Int) := by omega
          have hj1 : (j : Int) < (S.length : Int) := by omega
          clear cc hLj hlb ecj hj
          generalize S[j].kind = kj at *
          generalize S[j].name = nj at *
          generalize S[j].names.length = nlj at *
          generalize S[j].kids.length = klj at *
          rw [hji]
          go_wp2_with (at_builtin; refine wpList_append_lies _ rfl _ _ 24 rfl w.heap.size 28 i0 _ 4 72 Tryz.underlying24 hi0 hz0 hz1 hz2 rfl (by decide) _ _ _ rfl (hownt.alloc _) ⟨wr.heap.size, 0, none⟩ 1 1 [.int .i64 kj, .string nj, .slice y1 nlj yc1, .slice y2 klj yc2] rfl rfl ?c1 ?c2 (by omega) ?c3 ?c4 ?c5 (wr.heap.size + 1) (by simp) ?_)
          case c1 => exact World.news_of_block (cs := #[.int .i64 kj, .string nj, .slice y1 nlj yc1, .slice y2 klj yc2]) (t := 28) (fr := (0, 0)) (heap_alloc_new wr _)
          case c2 => simp [Value.oneCell']
          case c3 => rw [hlt1]; unfold maxLen; omega
          case c4 => rw [hlt1]; omega
          case c5 => simp; omega
          intro gg cap' w9 hown' hgrow hat hlt9
          have R1 := HKT.out.snoc HLJ.out.1 HLJ.out.2 (by rw [hlt1]; exact hgrow) (by rw [hlt1, HCJ.out]; exact hown') (by rw [hlt1]; exact hat)
          have e1 : (u :: S.reverse.take k) ++ [S[j]] = u :: S.reverse.take (k + 1) := by
            have := HRL.out k hlt
            rw [this, List.cons_append]
            simp only [HJ.out]
          have e2 : (lu :: ls.reverse.take k) ++ [ls[j]] = lu :: ls.reverse.take (k + 1) := by
            have := HRS.out k hlt
            rw [this, List.cons_append]
            simp only [HJ.out]
          rw [e1, e2] at R1
          have hB9 : Below w6.heap.size wr w9 := ((Below.refl w6.heap.size wr).alloc hzr _).grown hgrow (Nat.le_trans hzr (by simp)) (fun x hx => hg7 x (by rw [hlt1]; exact hx))
          have R2 : Below w6.heap.size w6 w9 := hbe.trans hB9
          have R3 : w6.heap.size ≤ gg := by
            rcases hat with q | q
            · exact hg7 gg (by rw [hlt1]; exact q)
            · omega
          have hln : (u :: S.reverse.take (k + 1)).length = k + 1 + 1 := by simp; omega
          rw [hln] at R1
          have HR1 : Hid (type_of% R1) := R1
          clear hown' hgrow hat hownt R1 e1 e2 hB9 HLJ HCJ HKT Z0 Z1 Z2 Z3
          go_wp2_with fail
          go_roundw
          case rel => exact ⟨k + 1, by omega, by go_num, HR1.out, fun g hg => by simp only [Value.ownBlock, Option.some.injEq] at hg; omega, R2⟩
          case measure => simp [intOf] <;> omega
        · have hke : k = S.length := by omega
          subst hke
          have hin : (S.length : Int) - 1 - (S.length : Int) = -1 := by omega
          have htk : S.reverse.take S.length = S.reverse := List.take_of_length_le (by simp)
          have hag' : UAns (n + 1) (u :: S.reverse.take S.length) u true := by rw [htk]; exact HAG.out
          have hsz' : ∀ s ∈ u :: S.reverse.take S.length, Ty.sized (n + 1) s ∧ Ty.bulk (n + 1) s ≤ 1604 := by rw [htk]; exact HSU.out
          have hkb' := kids_bulk (fun s hs => (hsz' s hs).2)
          have hu2 := HIU.out (n + 1) _ (u :: S.reverse.take S.length) wr hb1r (HKT.out.row (fun s hs => (hsz' s hs).1) (by omega)) (by unfold rowBulk; rw [hlt1] at hkb' ⊢; omega)
          rw [hlt1] at hu2
          have HU2 : Hid (type_of% hu2) := hu2
          clear hu2
          have HAG2 : Hid (type_of% hag') := hag'
          have hx4r := (hbe.block w2.heap.size (Array.getElem?_eq_some_iff.1 HX4.out).1).trans HX4.out
          have hlur := HLU.out.below hbe
          clear hsz' hkb' hag' HSU HAG HKT hownt HRL HRS hg7
          rw [hin]
          go_wp2_with fail
          refine HU2.out.mono ?_
          rintro e w8 ⟨lt, t2, ok2, rfl, hans2, hlt2, hb8⟩
          obtain ⟨rfl, rfl⟩ := HAG2.out.one hans2
          obtain ⟨r1, rc1, r2, rc2, ect, _⟩ := told_arrU hlt2.1
          rw [ect]
          have hA9 : Below w8.heap.size w8 (w8.alloc (.cells #[.int .i64 u.kind, .string u.name, .slice r1 u.names.length rc1, .slice r2 u.kids.length rc2] 28)) := (Below.refl _ _).alloc (Nat.le_refl _) _
          have hxt : (w8.alloc (.cells #[.int .i64 u.kind, .string u.name, .slice r1 u.names.length rc1, .slice r2 u.kids.length rc2] 28)).heap[w8.heap.size]? = some (.cells #[.int .i64 u.kind, .string u.name, .slice r1 u.names.length rc1, .slice r2 u.kids.length rc2] 28 (0, 0)) := heap_alloc_new w8 _
          clear HU2 HAG2 hans2
          go_upto_region 16 with fail
          obtain ⟨W9, hW9⟩ : ∃ W9, W9 = w8.alloc (.cells #[.int .i64 u.kind, .string u.name, .slice r1 u.names.length rc1, .slice r2 u.kids.length rc2] 28) := ⟨_, rfl⟩
          have hs9 : w8.heap.size < W9.heap.size := by rw [hW9]; simp
          rw [← hW9] at hA9 hxt ⊢
          clear hW9
          have hbr9 : Below wr.heap.size wr W9 := hb8.trans (hA9.mono hb8.size)
          have hb19 : Below w1.heap.size w1 W9 := hb1r.trans (hbr9.mono hb1r.size)
          obtain ⟨gv, hgv, hrow1, hr7, hr6⟩ := (HK.out.below hb19).first HSZ.out hS0
          clear hr7 hr6
          subst hgv
          have hcv : S.length ≤ cv := by
            rcases HK.out.own.2 with ⟨e0, h0⟩ | ⟨g', c', cur, e, _, _, q, _⟩
            · cases e0
            · cases e; exact q
          have hcv1 : (1 : Int) ≤ (cv : Int) := by omega
          have hb0 := kid_bulk n S 0 hS0
          have HU3 : Hid (type_of% (HIU.out n _ [S[0]] W9 hb19 hrow1 (by unfold rowBulk at hrb ⊢; simp only [List.map_cons, List.map_nil, List.sum_cons, List.sum_nil, List.length_cons, List.length_nil]; omega))) := HIU.out n _ [S[0]] W9 hb19 hrow1 (by unfold rowBulk at hrb ⊢; simp only [List.map_cons, List.map_nil, List.sum_cons, List.sum_nil, List.length_cons, List.length_nil]; omega)
          have hx49 := (hbr9.block w2.heap.size (Array.getElem?_eq_some_iff.1 hx4r).1).trans hx4r
          have hlu9 := hlur.below hbr9
          have hlt9 := hlt2.1.below hA9
          clear hrow1 hx4r hlur hlt2 hA9 hb8 HIU
          go_wp2_with fail
          refine HU3.out.mono ?_
          rintro e w10 ⟨lh, t3, ok3, rfl, hans3, hlh, hb10⟩
          obtain ⟨rfl, rfl⟩ := (uans_self HUR.out.2).one hans3
          obtain ⟨s1, sc1, s2, sc2, ech, _⟩ := told_arrU hlh.1
          rw [ech]
          have hA11 : Below w10.heap.size w10 (w10.alloc (.cells #[.int .i64 S[0].kind, .string S[0].name, .slice s1 S[0].names.length sc1, .slice s2 S[0].kids.length sc2] 28)) := (Below.refl _ _).alloc (Nat.le_refl _) _
          have hxh : (w10.alloc (.cells #[.int .i64 S[0].kind, .string S[0].name, .slice s1 S[0].names.length sc1, .slice s2 S[0].kids.length sc2] 28)).heap[w10.heap.size]? = some (.cells #[.int .i64 S[0].kind, .string S[0].name, .slice s1 S[0].names.length sc1, .slice s2 S[0].kids.length sc2] 28 (0, 0)) := heap_alloc_new w10 _
          clear HU3 hans3
          go_upto_region 17 with fail
          obtain ⟨WE, hWE⟩ : ∃ WE, WE = w10.alloc (.cells #[.int .i64 S[0].kind, .string S[0].name, .slice s1 S[0].names.length sc1, .slice s2 S[0].kids.length sc2] 28) := ⟨_, rfl⟩
          rw [← hWE] at hA11 hxh ⊢
          clear hWE
          have hb9E : Below W9.heap.size W9 WE := hb10.trans (hA11.mono hb10.size)
          have hb1E : Below w1.heap.size w1 WE := hb19.trans (hb9E.mono hb19.size)
          have hx4E := (hb9E.block w2.heap.size (Array.getElem?_eq_some_iff.1 hx49).1).trans hx49
          have hxtE := (hb9E.block w8.heap.size hs9).trans hxt
          obtain ⟨gv', hgv', hr7, hr6, hcell0⟩ := (HK.out.below hb1E).first HSZ.out hS0
          clear hr7 hr6
          simp only [Option.some.injEq, Addr.mk.injEq, and_true] at hgv'
          subst hgv'
          have hLj := HK.out.lay 0 (by rw [HK.out.len]; exact hS0) hS0
          obtain ⟨y1, yc1, y2, yc2, eca, ecj⟩ := told_arrU hLj.up.1
          rw [ecj] at hcell0
          have hluE : LayAt WE (n + 1) lu u := hlu9.below hb9E
          have hltE : LayAt WE (n + 1 + 1) lt u := hlt9.below hb9E
          have hlhE : LayAt WE (n + 1) lh S[0] := hlh.1.below hA11
          have hljE : LayAt WE (n + 1) (ls[0]'(by rw [HK.out.len]; exact hS0)) S[0] := hLj.up.1.below hb1E
          have hbu2 : Ty.bulk (n + 1 + 1) u ≤ 20000 := by rw [bulk_sz HUS.out.1]; have := HUS.out.2; omega
          have hs0 := HSZ.out S[0] (List.getElem_mem hS0)
          have hb00 : Ty.bulk (n + 1) S[0] ≤ 20000 := by rw [bulk_sz hs0]; unfold rowBulk at hrb; omega
          have HSA : Hid (∀ wx : World, Below WE.heap.size WE wx → Calls Tryz.prog 8 #[.agg #[.int .i64 u.kind, .string u.name, .slice r1 u.names.length rc1, .slice r2 u.kids.length rc2], .agg #[.int .i64 u.kind, .string u.name, .slice p1 u.names.length pc1, .slice p2 u.kids.length pc2]] wx fun e w' => e = .returned (.bool true) ∧ Below wx.heap.size wx w') := fun wx hx => by
            have := HST.out (n + 1 + 1) u lt lu wx (hltE.below hx) (hluE.up.1.below hx) (sized_up HUS.out.1) hbu2
            rw [ect, ecu] at this
            exact this
          have HSB : Hid (∀ wx : World, Below WE.heap.size WE wx → Calls Tryz.prog 8 #[.agg #[.int .i64 S[0].kind, .string S[0].name, .slice s1 S[0].names.length sc1, .slice s2 S[0].kids.length sc2], .agg #[.int .i64 S[0].kind, .string S[0].name, .slice y1 S[0].names.length yc1, .slice y2 S[0].kids.length yc2]] wx fun e w' => e = .returned (.bool true) ∧ Below wx.heap.size wx w') := fun wx hx => by
            have := HST.out (n + 1) S[0] lh _ wx (hlhE.below hx) (hljE.below hx) (sized_up hs0) hb00
            rw [ech, eca] at this
            exact this
          have HTO : Hid (∀ wx : World, Below WE.heap.size WE wx → Calls Tryz.prog 9 #[.agg #[.int .i64 u.kind, .string u.name, .slice p1 u.names.length pc1, .slice p2 u.kids.length pc2]] wx fun e w' => e = .returned (.bool true) ∧ Below wx.heap.size wx w') := fun wx hx => by
            have := HTK.out (n + 1) u lu wx (hb1E.trans (hx.mono hb1E.size)) (hluE.below hx) HUS.out.1 (by have := HUS.out.2; omega) HUR.out.1
            rw [ecu] at this
            exact this
          have hgl : gv < WE.heap.size := Nat.lt_of_lt_of_le (HK.out.own.lt gv rfl).2 hb1E.size
          have HFE : Hid (∀ wx : World, Below WE.heap.size WE wx → (wx.heap[w2.heap.size]? = some (.cells #[.int .i64 u.kind, .string u.name, .slice p1 u.names.length pc1, .slice p2 u.kids.length pc2] 28 (0, 0)) ∧ wx.heap[w10.heap.size]? = some (.cells #[.int .i64 S[0].kind, .string S[0].name, .slice s1 S[0].names.length sc1, .slice s2 S[0].kids.length sc2] 28 (0, 0))) ∧ wx.cell? ⟨gv, 0, none⟩ = some (.int .i64 S[0].kind) ∧ wx.cell? ⟨gv, 1, none⟩ = some (.string S[0].name) ∧ wx.cell? ⟨gv, 2, none⟩ = some (.slice y1 S[0].names.length yc1) ∧ wx.cell? ⟨gv, 3, none⟩ = some (.slice y2 S[0].kids.length yc2)) := fun wx hx => ⟨⟨(hx.block _ (Array.getElem?_eq_some_iff.1 hx4E).1).trans hx4E, (hx.block _ (Array.getElem?_eq_some_iff.1 hxh).1).trans hxh⟩, (hx.cell (p := ⟨gv, 0, none⟩) hgl).trans (hcell0 0 _ rfl), (hx.cell (p := ⟨gv, 1, none⟩) hgl).trans (hcell0 1 _ rfl), (hx.cell (p := ⟨gv, 2, none⟩) hgl).trans (hcell0 2 _ rfl), (hx.cell (p := ⟨gv, 3, none⟩) hgl).trans (hcell0 3 _ rfl)⟩
          have hbwE : Below w.heap.size w WE := HW6.out.1.trans ((hbe.trans (hbr9.mono hzr)).mono HW6.out.1.size |>.trans (hb9E.mono (by have := hbr9.size; have := HW6.out.1.size; omega)))
          obtain ⟨⟨g4, gh⟩, l0', l1', l2', l3'⟩ := HFE.out WE (Below.refl _ _)
          obtain ⟨⟨c0, c1, c2, c3⟩, _⟩ := block4 g4
          obtain ⟨⟨d0, d1, d2, d3⟩, _⟩ := block4 gh
          obtain ⟨⟨t0, t1, t2, t3⟩, _⟩ := block4 hxtE
          clear g4 gh hcell0 hluE hltE hlhE hljE hx4E hxtE hxh hx49 hxt hlu9 hlt9 hlh hb9E hb1E hb19 hbr9 hLj ecj eca ech ect ecu ecl HK HSZ HRW HST HTK HLU HX4
          have R : ∀ (p : Addr) (v : Value), WE.cell? p = some v → ∀ d os, (grow (redrawn WE d) os).cell? p = some v := fun p v h d os => cell_regrown h d os
          have rc0 := R _ _ c0
          have rc1 := R _ _ c1
          have rc2 := R _ _ c2
          have rc3 := R _ _ c3
          have rd0 := R _ _ d0
          have rd1 := R _ _ d1
          have rd2 := R _ _ d2
          have rd3 := R _ _ d3
          have rt0 := R _ _ t0
          have rt1 := R _ _ t1
          have rt2 := R _ _ t2
          have rt3 := R _ _ t3
          have rl0 := R _ _ l0'
          have rl1 := R _ _ l1'
          have rl2 := R _ _ l2'
          have rl3 := R _ _ l3'
          have hS0i : (0 : Int) < (S.length : Int) := by omega
          clear R HFE
          go_wp2_with fail
          refine wp_region_quiet_below (by kernel_rfl) (by kernel_rfl) ?_
          repeat (go_big_quiet_step (first | with_reducible exact Calls.regrown_of (HSA.out _ (below_regrown WE _ _)) | with_reducible exact Calls.regrown_of (HTO.out _ (below_regrown WE _ _)) | with_reducible exact Calls.regrown_of (HSB.out _ (below_regrown WE _ _))))
          refine wpQuiet_nil ?_
          intro _ hw'
          obtain ⟨⟨dq, osq⟩, hw''⟩ := hw'
          subst hw''
          have D2 := hbwE.trans ((below_regrown WE dq osq).mono hbwE.size)
          clear rc0 rc1 rc2 rc3 rd0 rd1 rd2 rd3 rt0 rt1 rt2 rt3 rl0 rl1 rl2 rl3 HSA HSB HTO
          generalize grow (redrawn WE dq) osq = w30 at *
          go_wp2_with fail
          go_ret
          exact ⟨rfl, D2⟩
  · have HBG := lawsBigU a len cap w
    rw [decide_eq_true (by omega : (1048576 : Int) < len)] at HBG
    have HB : Hid (type_of% HBG) := HBG
    clear HBG hD hc
    go_enter Tryz.func3, Tryz.ntmps3
    go_wp2_with fail
    refine HB.out.mono ?_
    rintro e w0 ⟨rfl, rfl⟩
    go_wp2_with fail
    go_ret
    exact ⟨rfl, Below.refl _ _⟩

end Go.Proofs.YthomlchbgcjcfaaGreatDoor
