/-
  The walk of the draw l03Type: some type, not too great.
-/
import Derived.Test.YthomlchbgcjcfaaGreatDoorSameW
import Derived.Test.YthomlchbgcjcfaaGreatDoorUnA
import Derived.Test.YthomlchbgcjcfaaGreatDoorRecS
import Derived.Deep.CutRange
import Derived.Deep.AppendLies
namespace Go.Proofs.YthomlchbgcjcfaaGreatDoor
open Go.RowKit

def drNames : List ByteArray := [⟨#[97]⟩, ⟨#[98]⟩, ⟨#[110, 101, 120, 116]⟩]
def drPicks : List ByteArray := [⟨#[84]⟩, ⟨#[85]⟩, ⟨#[109, 46, 84]⟩, ⟨#[76, 105, 115, 116]⟩, ⟨#[84]⟩]
theorem texts_lit {w : World} {nb k : Nat} (h : w.heap[nb]? = some (.cells (strV drNames).toArray 9 (0, 0))) (hk : k ≤ 3) : Texts w (.slice (some ⟨nb, 0, none⟩) k 3) (drNames.take k) := by
  have hl : (drNames.take k).length = k := by rw [List.length_take]; show min k 3 = k; omega
  refine .inr ⟨nb, 0, 3, by rw [hl], fun j hj => ?_⟩
  rw [hl] at hj
  have hj3 : j < drNames.length := by show j < 3; omega
  rw [List.getElem_take]
  simp only [World.cell?, h, Nat.zero_add]
  have := strV_get drNames j hj3
  simpa using this
theorem names_lit (k : Nat) (hk : k ≤ 3) : (drNames.take k).length + Ty.textsBulk (drNames.take k) ≤ 9 ∧ (drNames.take k).length = k := by
  have : k = 0 ∨ k = 1 ∨ k = 2 ∨ k = 3 := by omega
  rcases this with rfl | rfl | rfl | rfl <;> decide
theorem names_small : ∀ x ∈ drNames, x.size ≤ 1048576 := fun x hx => by
  have : x.size ≤ 4 := (by decide : ∀ t ∈ drNames, t.size ≤ 4) x hx
  omega
theorem rec_bulkT {n : Nat} {nms : List ByteArray} {ks : List Ty} {t : Ty} {ok : Bool} (h : RecAns n nms ks t ok) : Ty.bulk (n + 1) t ≤ nms.length + Ty.textsBulk nms + rowBulk n ks := by
  rcases h with ⟨_, hl, ps, p1, _, rfl, _⟩ | ⟨_, rfl, _⟩
  · rw [recOf_bulk hl p1]; exact Nat.le_refl _
  · show (0 : Nat) + (0 + 0) + (0 + 0) ≤ _; omega
theorem un_bulkT {n : Nat} {ts : List Ty} {t : Ty} {ok : Bool} (h : UAns n ts t ok) (hs : ∀ q ∈ ts, Ty.sized n q) (hbk : rowBulk n ts ≤ 1048576) : Ty.sized (n + 1) t ∧ Ty.bulk (n + 1) t ≤ rowBulk n ts := by
  have z0 : Ty.bulk (n + 1) (.mk 0 ⟨#[]⟩ [] []) ≤ rowBulk n ts := by show (0 : Nat) + (0 + 0) + (0 + 0) ≤ _; omega
  have z3 : Ty.bulk (n + 1) (.mk 3 ⟨#[]⟩ [] []) ≤ rowBulk n ts := by show (0 : Nat) + (0 + 0) + (0 + 0) ≤ _; omega
  rcases h with ⟨_, rfl, _⟩ | ⟨⟨_, hr⟩, ⟨_, _, rfl⟩ | ⟨_, S, hU, ⟨_, _, hS⟩ | ⟨_, _, _, rfl⟩ | ⟨_, _, _, rfl⟩⟩⟩
  · exact ⟨leaf_sized n 0 ⟨#[]⟩ (by omega) (by show (0 : Nat) ≤ 100; omega), z0⟩
  · exact ⟨leaf_sized n 3 ⟨#[]⟩ (by omega) (by show (0 : Nat) ≤ 100; omega), z3⟩
  · have hx := atom_facts hr hs (by omega) ((hU.1 t).1 (by rw [hS]; simp))
    have hb := hU.bulk hr
    rw [hS] at hb
    simp only [List.map_cons, List.map_nil, List.sum_cons, List.sum_nil, List.length_cons, List.length_nil] at hb
    refine ⟨sized_up hx.2.1, ?_⟩
    rw [bulk_up hx.1]
    unfold rowBulk
    omega
  · have hb := hU.bulk hr
    have e9 : Ty.bulk (n + 1) (.mk 7 ⟨#[]⟩ [] S) = 0 + (0 + 0) + (S.length + (S.map (Ty.bulk n)).sum) := rfl
    unfold rowBulk at hbk ⊢
    exact ⟨union_sized (fun s hs' => (atom_facts hr hs (by unfold rowBulk; omega) ((hU.1 s).1 hs')).2.1) (by omega), by omega⟩
  · exact ⟨leaf_sized n 0 ⟨#[]⟩ (by omega) (by show (0 : Nat) ≤ 100; omega), z0⟩

theorem ret_drT {R : Ending → World → Prop} {w0 : World} {tmps : Array Value} {b : Nat} {x0 x1 x2 x3 : Value} (hp : tmps[4]?.getD undef = .pointer (some ⟨b, 0, none⟩))
    (h : ∀ j, j < 4 → (w0.cell? ⟨b, j, none⟩).isSome = true) (hR : R (.returned (.agg #[x0, x1, x2, x3])) ((((w0.setCell ⟨b, 0, none⟩ x0).setCell ⟨b, 1, none⟩ x1).setCell ⟨b, 2, none⟩ x2).setCell ⟨b, 3, none⟩ x3)) :
    bodyPost Tryz.prog Tryz.f23 R .ret { tmps := tmps, defers := [] } ((((w0.setCell ⟨b, 0, none⟩ x0).setCell ⟨b, 1, none⟩ x1).setCell ⟨b, 2, none⟩ x2).setCell ⟨b, 3, none⟩ x3) := by
  obtain ⟨h0, h1, h2, h3⟩ := put4T (x0 := x0) (x1 := x1) (x2 := x2) (x3 := x3) h
  generalize ((((w0.setCell ⟨b, 0, none⟩ x0).setCell ⟨b, 1, none⟩ x1).setCell ⟨b, 2, none⟩ x2).setCell ⟨b, 3, none⟩ x3) = W at *
  refine bodyPost_ret (v := .agg #[x0, x1, x2, x3]) ?_ rfl hR
  simp [results, Tryz.results23, go_sem, hp, h0, h1, h2, h3]

/-- what l03Type does so deep -/
def DrTyAt (B cb : Nat) (a : Option Addr) (len cap : Nat) (d : Nat) : Prop := ∀ w, Cur B w cb a len cap → Calls Tryz.prog 23 #[.pointer (some ⟨cb, 0, none⟩), .int .i64 d] w (DrTy B cb a len cap w (d + 1) (bT d))

/-- the end: what is answered is put into the answer's block -/
theorem dr_end {B cb : Nat} {a : Option Addr} {len cap : Nat} {w w5 : World} {n m : Nat} {l : Lay} {t : Ty} {x0 x1 x2 x3 : Value} (hC0 : Cur B w cb a len cap) (hl : LayAt w5 n l t) (hb : ∀ b ∈ Lay.blocks n l, w.heap.size < b) (hs : Ty.sized n t) (hbk : Ty.bulk n t ≤ m ∧ (t.kids = [] → l.vk = .slice none 0 0)) (hC : Cur B w5 cb a len cap) (hg : w.grownBy w5 (some cb)) (e : (cellsK t l).toArray = #[x0, x1, x2, x3]) :
    DrTy B cb a len cap w n m (.returned (.agg #[x0, x1, x2, x3])) ((((w5.setCell ⟨w.heap.size, 0, none⟩ x0).setCell ⟨w.heap.size, 1, none⟩ x1).setCell ⟨w.heap.size, 2, none⟩ x2).setCell ⟨w.heap.size, 3, none⟩ x3) := by
  have hlt := hC0.ltC
  have hh := hC0.here
  have hB : Below w.heap.size w5 ((((w5.setCell ⟨w.heap.size, 0, none⟩ x0).setCell ⟨w.heap.size, 1, none⟩ x1).setCell ⟨w.heap.size, 2, none⟩ x2).setCell ⟨w.heap.size, 3, none⟩ x3) := put_below (Below.refl _ _) (Nat.le_refl _)
  exact ⟨l, t, by rw [e], hl.same fun b hb' => put_other (by have := hb b hb'; omega), fun b hb' => by have := hb b hb'; omega, hs, hbk, hC.thenT hB hlt (by omega), hg.thenT hB⟩

set_option maxHeartbeats 3200000 in
set_option maxRecDepth 100000 in
theorem drawTypeStep (B cb : Nat) (a : Option Addr) (len cap : Nat) (D d : Nat) (hd : D = 0 ∨ D = d + 1) (hbig : bT d ≤ 100000) (ih : D = d + 1 → DrTyAt B cb a len cap d) (w : World) (hC : Cur B w cb a len cap) (z : Int) (HZ : Hid (z = (D : Int))) (hz10 : 0 ≤ z ∧ z ≤ 10) :
    Calls Tryz.prog 23 #[.pointer (some ⟨cb, 0, none⟩), .int .i64 z] w (DrTy B cb a len cap w (D + 1) (bT D)) := by
  obtain ⟨i0, hi0, hz0, hz1, hz2⟩ := info_parts Tryz.infoTypeC
  have hlt0 := hC.ltC
  have hhere := hC.here
  have hb4 : 4 ≤ bT D := by
    rcases hd with rfl | rfl
    · exact Nat.le_refl _
    · show 4 ≤ 12 + 3 * bT d; omega
  have HC : Hid (Cur B w cb a len cap) := hC
  have hbx : (w.alloc (.cells #[.int .i64 0, .string ⟨#[]⟩, .slice none 0 0, .slice none 0 0] 28)).heap[w.heap.size]? = some (.cells #[.int .i64 0, .string ⟨#[]⟩, .slice none 0 0, .slice none 0 0] 28 (0, 0)) := heap_alloc_new w _
  clear hC
  go_enter Tryz.func23, Tryz.ntmps23
  go_wp2_with fail
  refine (drawBelow B cb a len cap _ 9 (HC.out.allocC _) (by omega)).mono ?_
  rintro e w1 ⟨x, rfl, hx0, hx1, _, hC1, hg1⟩
  have hx2 := hx1 (by omega)
  have hs1 : w.heap.size + 1 ≤ w1.heap.size := by have := hg1.size; simpa using this
  have hbx1 := (hg1.block w.heap.size (by simp) (by simp; omega)).trans hbx
  have HC1 : Hid (Cur B w1 cb a len cap ∧ w.grownBy w1 (some cb)) := ⟨hC1, grown_trans (World.grownBy_alloc _ _ _) hg1⟩
  have HBX : Hid (type_of% hbx1) := hbx1
  have HIH : Hid (type_of% ih) := ih
  clear ih
  have HFIN : Hid (∀ (w5 : World) (l : Lay) (t : Ty) (x0 x1 x2 x3 : Value), LayAt w5 (D + 1) l t → (∀ b ∈ Lay.blocks (D + 1) l, w.heap.size < b) → Ty.sized (D + 1) t → (Ty.bulk (D + 1) t ≤ bT D ∧ (t.kids = [] → l.vk = .slice none 0 0)) → Cur B w5 cb a len cap → w.grownBy w5 (some cb) → (cellsK t l).toArray = #[x0, x1, x2, x3] → DrTy B cb a len cap w (D + 1) (bT D) (.returned (.agg #[x0, x1, x2, x3])) ((((w5.setCell ⟨w.heap.size, 0, none⟩ x0).setCell ⟨w.heap.size, 1, none⟩ x1).setCell ⟨w.heap.size, 2, none⟩ x2).setCell ⟨w.heap.size, 3, none⟩ x3)) := fun w5 l t x0 x1 x2 x3 q1 q2 q3 q4 q5 q6 q7 => dr_end HC.out q1 q2 q3 q4 q5 q6 q7
  clear hC1 hg1 hbx hbx1 HC hx1
  obtain ⟨bb, hbb⟩ : ∃ bb, bb = (decide (z ≤ 0) && decide (x > 5)) := ⟨_, rfl⟩
  have HBB : Hid (type_of% hbb) := hbb
  clear hbb
  go_upto_region 2 with fail
  go_cut [27] from 22 to 27 (fun c wx => c = .bool bb ∧ wx = w1)
  case first =>
    by_cases h1 : z ≤ 0
    · by_cases h2 : x > 5
      · go_wp2_with fail
        go_meet
        exact ⟨by rw [HBB.out, decide_eq_true h1, decide_eq_true h2]; rfl, rfl⟩
      · go_wp2_with fail
        go_meet
        exact ⟨by rw [HBB.out, decide_eq_true h1, decide_eq_false (by omega : ¬ x > 5)]; rfl, rfl⟩
    · go_wp2_with fail
      go_meet
      exact ⟨by rw [HBB.out, decide_eq_false (by omega : ¬ z ≤ 0)]; rfl, rfl⟩
  case rest =>
    obtain ⟨rfl, rfl⟩ := hcut
    obtain ⟨w1, rfl⟩ : ∃ w1, w1 = wc := ⟨_, rfl⟩
    go_upto_if 27 with fail
    go_cut [5] from 28 to 29 (fun v wx => (∃ k : Int, v = .int .i64 k ∧ 0 ≤ k ∧ k ≤ 8 ∧ (D = 0 → k ≤ 5)) ∧ wx = w1)
    case first =>
      cases bb with
      | true =>
        have h5 : z ≤ 0 ∧ x > 5 := by simpa using HBB.out.symm
        go_wp2_with fail
        go_meet
        exact ⟨⟨_, rfl, by omega, by omega, fun _ => by omega⟩, rfl⟩
      | false =>
        have h5 : z ≤ 0 → x ≤ 5 := by simpa using HBB.out.symm
        go_wp2_with fail
        go_meet
        exact ⟨⟨_, rfl, by omega, by omega, fun q => h5 (by have := HZ.out; omega)⟩, rfl⟩
    case rest =>
      obtain ⟨⟨k, rfl, hk0, hk8, hk5⟩, rfl⟩ := hcut
      obtain ⟨w1, rfl⟩ : ∃ w1, w1 = wc := ⟨_, rfl⟩
      clear HBB
      obtain ⟨⟨rc0, rc1, rc2, rc3⟩, rf⟩ := block4 HBX.out
      have rf0 := rf 0
      have rf1 := rf 1
      have rf2 := rf 2
      have rf3 := rf 3
      clear rf
      have hkc : (k = 0 ∨ k = 1 ∨ k = 2) ∨ k = 3 ∨ (k = 4 ∨ k = 5) ∨ k = 6 ∨ k = 7 ∨ k = 8 := by omega
      rcases hkc with hk | rfl | hk | rfl | rfl | rfl
      · have HL : Hid (∀ k : Int, 0 ≤ k → k ≤ 2 → DrTy B cb a len cap w (D + 1) (bT D) (.returned (.agg #[.int .i64 k, .string ⟨#[]⟩, .slice none 0 0, .slice none 0 0])) ((((w1.setCell ⟨w.heap.size, 0, none⟩ (.int .i64 k)).setCell ⟨w.heap.size, 1, none⟩ (.string ⟨#[]⟩)).setCell ⟨w.heap.size, 2, none⟩ (.slice none 0 0)).setCell ⟨w.heap.size, 3, none⟩ (.slice none 0 0))) := fun k q1 q2 => HFIN.out w1 _ _ _ _ _ _ (leaf_lay w1 D k ⟨#[]⟩).1 (fun b hb => ((leaf_lay w1 D k ⟨#[]⟩).2 b hb).elim) (leaf_sized D k ⟨#[]⟩ (by omega) (by show (0 : Nat) ≤ 100; omega)) ⟨by show (0 : Nat) + (0 + 0) + (0 + 0) ≤ _; omega, fun _ => rfl⟩ HC1.out.1 HC1.out.2 rfl
        clear hk5 HIH hd
        rcases hk with rfl | rfl | rfl
        all_goals
          go_wp2_with fail
          refine ret_drT rfl (fun j hj => ?_) (HL.out _ (by omega) (by omega))
          match j, hj with
          | 0, _ => rw [rc0]; rfl
          | 1, _ => rw [rc1]; rfl
          | 2, _ => rw [rc2]; rfl
          | 3, _ => rw [rc3]; rfl
      · -- a number out of a literal
        have HP : Hid (type_of% (drawPickI B cb w1.heap.size a len cap (w1.alloc (.cells (([0, 1, 2, 3] : List Int).map (Value.int .i64)).toArray 3)) [0, 1, 2, 3] (HC1.out.1.allocC _) (by omega) (by decide) (by decide) (cells_litI w1 [0, 1, 2, 3] 3))) := drawPickI B cb w1.heap.size a len cap (w1.alloc (.cells (([0, 1, 2, 3] : List Int).map (Value.int .i64)).toArray 3)) [0, 1, 2, 3] (HC1.out.1.allocC _) (by omega) (by decide) (by decide) (cells_litI w1 [0, 1, 2, 3] 3)
        clear hk5 HIH hd
        go_wp2_with fail
        refine HP.out.mono ?_
        rintro e w3 ⟨zz, rfl, hz, hC3, hg3⟩
        have hz4 : 0 ≤ zz ∧ zz ≤ 3 := by simp at hz; omega
        have hg13 : w1.grownBy w3 (some cb) := grown_trans (World.grownBy_alloc _ _ _) hg3
        have hbx3 := (hg13.block w.heap.size (by omega) (by simp; omega)).trans HBX.out
        have HL : Hid (type_of% (HFIN.out w3 _ _ _ _ _ _ (leaf_lay w3 D zz ⟨#[]⟩).1 (fun b hb => ((leaf_lay w3 D zz ⟨#[]⟩).2 b hb).elim) (leaf_sized D zz ⟨#[]⟩ (by omega) (by show (0 : Nat) ≤ 100; omega)) ⟨by show (0 : Nat) + (0 + 0) + (0 + 0) ≤ _; omega, fun _ => rfl⟩ hC3 (grown_trans HC1.out.2 hg13) rfl)) := HFIN.out w3 _ _ _ _ _ _ (leaf_lay w3 D zz ⟨#[]⟩).1 (fun b hb => ((leaf_lay w3 D zz ⟨#[]⟩).2 b hb).elim) (leaf_sized D zz ⟨#[]⟩ (by omega) (by show (0 : Nat) ≤ 100; omega)) ⟨by show (0 : Nat) + (0 + 0) + (0 + 0) ≤ _; omega, fun _ => rfl⟩ hC3 (grown_trans HC1.out.2 hg13) rfl
        clear rc0 rc1 rc2 rc3 rf0 rf1 rf2 rf3 hC3 hg3 hg13 HP hz
        obtain ⟨⟨rc0, rc1, rc2, rc3⟩, rf⟩ := block4 hbx3
        have rf0 := rf 0
        have rf1 := rf 1
        have rf2 := rf 2
        have rf3 := rf 3
        go_wp2_with fail
        refine ret_drT rfl (fun j hj => ?_) HL.out
        match j, hj with
        | 0, _ => rw [rc0]; rfl
        | 1, _ => rw [rc1]; rfl
        | 2, _ => rw [rc2]; rfl
        | 3, _ => rw [rc3]; rfl
      · -- a name
        have HP : Hid (type_of% (drawPickS B cb w1.heap.size a len cap (w1.alloc (.cells (strV drPicks).toArray 9)) drPicks (HC1.out.1.allocC _) (by omega) (by decide) (by decide) (str_cells w1 drPicks 9))) := drawPickS B cb w1.heap.size a len cap (w1.alloc (.cells (strV drPicks).toArray 9)) drPicks (HC1.out.1.allocC _) (by omega) (by decide) (by decide) (str_cells w1 drPicks 9)
        clear hk5 HIH hd
        rcases hk with rfl | rfl
        all_goals
          go_wp2_with fail
          refine HP.out.mono ?_
          rintro e w3 ⟨zz, rfl, hz, hC3, hg3⟩
          have hz4 : zz.size ≤ 4 := (by decide : ∀ t ∈ drPicks, t.size ≤ 4) zz hz
          have hg13 : w1.grownBy w3 (some cb) := grown_trans (World.grownBy_alloc _ _ _) hg3
          have hbx3 := (hg13.block w.heap.size (by omega) (by simp; omega)).trans HBX.out
          have HL : Hid (type_of% (HFIN.out w3 _ _ _ _ _ _ (leaf_lay w3 D 4 zz).1 (fun b hb => ((leaf_lay w3 D 4 zz).2 b hb).elim) (leaf_sized D 4 zz (by omega) (by omega)) ⟨by show zz.size + (0 + 0) + (0 + 0) ≤ _; omega, fun _ => rfl⟩ hC3 (grown_trans HC1.out.2 hg13) rfl)) := HFIN.out w3 _ _ _ _ _ _ (leaf_lay w3 D 4 zz).1 (fun b hb => ((leaf_lay w3 D 4 zz).2 b hb).elim) (leaf_sized D 4 zz (by omega) (by omega)) ⟨by show zz.size + (0 + 0) + (0 + 0) ≤ _; omega, fun _ => rfl⟩ hC3 (grown_trans HC1.out.2 hg13) rfl
          clear rc0 rc1 rc2 rc3 rf0 rf1 rf2 rf3 hC3 hg3 hg13 HP hz
          obtain ⟨⟨rc0, rc1, rc2, rc3⟩, rf⟩ := block4 hbx3
          have rf0 := rf 0
          have rf1 := rf 1
          have rf2 := rf 2
          have rf3 := rf 3
          go_wp2_with fail
          refine ret_drT rfl (fun j hj => ?_) HL.out
          match j, hj with
          | 0, _ => rw [rc0]; rfl
          | 1, _ => rw [rc1]; rfl
          | 2, _ => rw [rc2]; rfl
          | 3, _ => rw [rc3]; rfl
      · -- a record
        obtain rfl : D = d + 1 := by
          rcases hd with q | q
          · have := hk5 q; omega
          · exact q
        have IH : Hid (DrTyAt B cb a len cap d) := HIH.out rfl
        have hzd : z - 1 = (d : Int) := by have := HZ.out; omega
        have HZD : Hid (type_of% hzd) := hzd
        have hzp : 1 ≤ z := by omega
        clear hk5 hd HIH hzd HZ
        have hnb : (w1.alloc (.cells (strV drNames).toArray 9)).heap[w1.heap.size]? = some (.cells (strV drNames).toArray 9 (0, 0)) := heap_alloc_new w1 _
        go_wp2_with fail
        refine (drawBelow B cb a len cap _ 4 (HC1.out.1.allocC _) (by omega)).mono ?_
        rintro e w2 ⟨y, rfl, hy0, hy1, _, hC2, hg2⟩
        have hy2 := hy1 (by omega)
        obtain ⟨N, rfl⟩ := Int.eq_ofNat_of_zero_le hy0
        have hs2 : w1.heap.size + 1 ≤ w2.heap.size := by have := hg2.size; simpa using this
        have hnb2 := (hg2.block w1.heap.size (by simp) (by simp; omega)).trans hnb
        have hg12 : w1.grownBy w2 (some cb) := grown_trans (World.grownBy_alloc _ _ _) hg2
        have HC2 : Hid (Cur B w2 cb a len cap) := hC2
        have HG2 : Hid (w1.grownBy w2 (some cb)) := hg12
        have HNB : Hid (type_of% hnb2) := hnb2
        have HK0 : Hid (KidsG (w2.alloc (.cells #[] 28)) w2.heap.size (d + 1) (.slice (some ⟨w2.heap.size, 0, none⟩) 0 0) [] []) := KidsG.nil (heap_alloc_new w2 _) (Nat.le_refl _)
        clear hC2 hg2 hg12 hnb hnb2 hy1 rc0 rc1 rc2 rc3 rf0 rf1 rf2 rf3
        go_wp2_with fail
        go_loopw [8, 9] (fun v i wr => ∃ (S : List Ty) (ls : List Lay), S.length ≤ N ∧ i = .int .i64 (S.length : Nat) ∧ KidsG wr w2.heap.size (d + 1) v S ls ∧ (∀ s ∈ S, Ty.sized (d + 1) s ∧ Ty.bulk (d + 1) s ≤ bT d) ∧ Cur B wr cb a len cap ∧ w2.grownBy wr (some cb)) (fun _ i _ => N - (intOf i).toNat)
        case atStart => exact ⟨[], [], Nat.zero_le _, rfl, HK0.out, fun s hs => absurd hs (by simp), HC2.out.allocC _, grown_of_belowT ((Below.refl _ _).alloc (Nat.le_refl _) _) _⟩
        case round =>
          obtain ⟨S, ls, hl, rfl, hK, hF, hcur, hgr⟩ := hrel
          have HCr : Hid (Cur B wr cb a len cap) := hcur
          have HGr : Hid (w2.grownBy wr (some cb)) := hgr
          have HF : Hid (type_of% hF) := hF
          have hszr := hgr.size
          obtain ⟨va, cva, hv⟩ := slice_ownM hK.own
          subst hv
          clear hcur hgr hF HK0
          by_cases hlt : S.length < N
          · have HTY : Hid (type_of% (IH.out wr HCr.out)) := IH.out wr HCr.out
            have hln : (S.length : Int) < (N : Int) := by omega
            go_wp2_with fail
            rw [HZD.out]
            refine HTY.out.mono ?_
            rintro e w3 h3
            obtain ⟨kd, nm, an, ln, cn, ak, lk, ck, rfl, ⟨l, t, hcl, hll, hlb, hsz, hbk, _⟩, hC3, hg3⟩ := h3.told
            have hK3 := hK.grownC hg3 (by omega)
            have hs3 := hg3.size
            have hown3 := hK3.own
            have HC3 : Hid (Cur B w3 cb a len cap ∧ w2.grownBy w3 (some cb)) := ⟨hC3, grown_trans HGr.out hg3⟩
            have HK3 : Hid (type_of% hK3) := hK3
            have HL : Hid (LayAt w3 (d + 1) l t ∧ (∀ b ∈ Lay.blocks (d + 1) l, w2.heap.size ≤ b ∧ (Value.slice va S.length cva).ownBlock ≠ some b) ∧ Ty.sized (d + 1) t ∧ Ty.bulk (d + 1) t ≤ bT d) := ⟨hll, fun b hb => ⟨by have := hlb b hb; omega, fun e => by have := (hK.own.lt b e).2; have := hlb b hb; omega⟩, hsz, hbk⟩
            have HCL : Hid (type_of% hcl) := hcl
            clear hC3 hg3 hK hK3 HTY HCr HGr h3 hll hlb hsz hbk hcl
            go_wp2_with (at_builtin; refine wpList_append_lies _ rfl _ _ 24 rfl w2.heap.size 28 i0 _ 4 72 Tryz.underlying24 hi0 hz0 hz1 hz2 rfl (by decide) _ _ _ rfl (hown3.alloc _) ⟨w3.heap.size, 0, none⟩ 1 1 [.int .i64 kd, .string nm, .slice an ln cn, .slice ak lk ck] rfl rfl ?c1 ?c2 (by omega) ?c3 ?c4 ?c5 (w3.heap.size + 1) (by simp) ?_)
            case c1 => exact World.news_of_block (cs := #[.int .i64 kd, .string nm, .slice an ln cn, .slice ak lk ck]) (t := 28) (fr := (0, 0)) (heap_alloc_new w3 _)
            case c2 => simp [Value.oneCell']
            case c3 => unfold maxLen; omega
            case c4 => omega
            case c5 => simp; omega
            intro gg cap' w5 hown' hgrow hat hlt5
            have R1 : KidsG w5 w2.heap.size (d + 1) (.slice (some ⟨gg, 0, none⟩) (S ++ [t]).length cap') (S ++ [t]) (ls ++ [l]) := HK3.out.snoc HL.out.1 HL.out.2.1 hgrow (by rw [HCL.out]; exact hown') hat
            have R3 := HC3.out.2.thenT (grown_off hgrow hown3 (by omega) (Nat.le_refl _))
            have R2 := HC3.out.1.thenT (w := w2) (grown_off hgrow hown3 (by omega) (Nat.le_refl _)) (by omega) (by omega)
            have R4 : ∀ s ∈ S ++ [t], Ty.sized (d + 1) s ∧ Ty.bulk (d + 1) s ≤ bT d := fun s hs => by
              rcases List.mem_append.1 hs with q | q
              · exact HF.out s q
              · rw [List.mem_singleton] at q; subst q; exact ⟨HL.out.2.2.1, HL.out.2.2.2⟩
            rw [show (S ++ [t]).length = S.length + 1 by simp] at R1
            have HR : Hid (KidsG w5 w2.heap.size (d + 1) (.slice (some ⟨gg, 0, none⟩) (S.length + 1) cap') (S ++ [t]) (ls ++ [l]) ∧ (∀ s ∈ S ++ [t], Ty.sized (d + 1) s ∧ Ty.bulk (d + 1) s ≤ bT d) ∧ Cur B w5 cb a len cap ∧ w2.grownBy w5 (some cb)) := ⟨R1, R4, R2, R3⟩
            clear hown' hgrow hown3 HC3 HK3 HL HCL HF R1 R2 R3 R4 hat hlt5
            go_wp2_with fail
            go_roundw
            case rel => exact ⟨S ++ [t], ls ++ [l], by simp; omega, by simp only [List.length_append, List.length_singleton]; go_num, HR.out.1, HR.out.2.1, HR.out.2.2.1, HR.out.2.2.2⟩
            case measure => simp [intOf]; omega
          · have hle : N = S.length := by omega
            subst hle
            have hnl : ¬ (S.length : Int) < (S.length : Int) := by omega
            have hS3 : S.length ≤ 3 := by omega
            have hnb5 := (HGr.out.block w1.heap.size (by omega) (by simp; omega)).trans HNB.out
            have hbx5 := ((grown_trans HG2.out HGr.out).block w.heap.size (by omega) (by simp; omega)).trans HBX.out
            have hT5 : Texts wr (.slice (some ⟨w1.heap.size, 0, none⟩) S.length 3) (drNames.take S.length) := texts_lit hnb5 hS3
            have hkb := kids_bulk (fun s hs => (HF.out s hs).2)
            have hsz : ∀ s ∈ S, Ty.sized (d + 1) s := fun s hs => (HF.out s hs).1
            have hnbk := names_lit S.length hS3
            have hbd : S.length * bT d ≤ 3 * bT d := Nat.mul_le_mul_right _ hS3
            have hbT : bT d ≤ 100000 := hbig
            have HREC : Hid (type_of% (specRecordN (d + 1) _ _ (drNames.take S.length) S wr hT5 (hK.row hsz (by omega)) (by unfold rowBulk; omega))) := specRecordN (d + 1) _ _ (drNames.take S.length) S wr hT5 (hK.row hsz (by omega)) (by unfold rowBulk; omega)
            have HSZ : Hid (∀ t ok, RecAns (d + 1) (drNames.take S.length) S t ok → Ty.sized (d + 1 + 1) t ∧ Ty.bulk (d + 1 + 1) t ≤ bT (d + 1)) := fun t ok h => ⟨rec_sized h (by rw [List.length_take]; simp [drNames]; omega) (fun x hx => names_small x (List.mem_of_mem_take hx)) hsz, by
              have h1 := rec_bulkT h
              show _ ≤ 12 + 3 * bT d
              unfold rowBulk at h1
              omega⟩
            have hN0 : (0 : Int) ≤ (S.length : Int) := by omega
            have hN3 : (S.length : Int) ≤ 3 := by omega
            clear hK HF hkb hsz hnbk hbd hT5 hnb5 HNB
            go_wp2_with fail
            refine HREC.out.mono ?_
            rintro e w6 ⟨l, t, ok, rfl, hans, ⟨hl6, hlb6⟩, hb6, hvd6⟩
            obtain ⟨p1, pc1, p2, pc2, _, _, ecs⟩ := lay_cells hl6
            rw [ecs]
            have hg6 : w.grownBy w6 (some cb) := grown_trans (grown_trans HC1.out.2 (grown_trans HG2.out HGr.out)) (grown_of_belowT hb6 _)
            have hC6 := HCr.out.farT hb6
            have hs5 : w.heap.size + 1 ≤ wr.heap.size := by omega
            have hs6 := hb6.size
            have hbx6 := (hb6.block w.heap.size (by omega)).trans hbx5
            have hA : Below w6.heap.size w6 (w6.alloc (.cells #[.int .i64 t.kind, .string t.name, .slice p1 t.names.length pc1, .slice p2 t.kids.length pc2] 28)) := (Below.refl _ _).alloc (Nat.le_refl _) _
            have hbx7 := (hA.block w.heap.size (by omega)).trans hbx6
            have hq := HSZ.out t ok hans
            have HL : Hid (type_of% (HFIN.out _ l t _ _ _ _ (hl6.below hA) (fun b hb => by have := hlb6 b hb; omega) hq.1 ⟨hq.2, hvd6⟩ (hC6.farT hA) (hg6.thenT (hA.mono (by omega))) ecs)) := HFIN.out _ l t _ _ _ _ (hl6.below hA) (fun b hb => by have := hlb6 b hb; omega) hq.1 ⟨hq.2, hvd6⟩ (hC6.farT hA) (hg6.thenT (hA.mono (by omega))) ecs
            clear hbx5 hbx6 hg6 hC6 hl6 hlb6 hb6 hans ecs hq hvd6 HREC HSZ HCr HGr HG2 HC1 HC2 hA HFIN
            obtain ⟨⟨rc0, rc1, rc2, rc3⟩, rf⟩ := block4 hbx7
            have rf0 := rf 0
            have rf1 := rf 1
            have rf2 := rf 2
            have rf3 := rf 3
            clear hbx7 rf
            go_wp2_with fail
            refine ret_drT rfl (fun j hj => ?_) HL.out
            match j, hj with
            | 0, _ => rw [rc0]; rfl
            | 1, _ => rw [rc1]; rfl
            | 2, _ => rw [rc2]; rfl
            | 3, _ => rw [rc3]; rfl
      · -- a function
        obtain rfl : D = d + 1 := by
          rcases hd with q | q
          · have := hk5 q; omega
          · exact q
        have IH : Hid (DrTyAt B cb a len cap d) := HIH.out rfl
        have hzd : z - 1 = (d : Int) := by have := HZ.out; omega
        have HZD : Hid (type_of% hzd) := hzd
        have HZW : Hid (IntKind.i64.wrap (z - 1) = (d : Int)) := by show _ = _; rw [hzd]; exact IntWalk.i64_in _ ⟨by omega, by omega⟩
        have hzp : 1 ≤ z := by omega
        clear hk5 hd HIH hzd HZ
        have htb : (w1.alloc (.cells #[.int .i64 6, .string ⟨#[]⟩, .slice none 0 0, .slice none 0 0] 28)).heap[w1.heap.size]? = some (.cells #[.int .i64 6, .string ⟨#[]⟩, .slice none 0 0, .slice none 0 0] 28 (0, 0)) := heap_alloc_new w1 _
        go_wp2_with fail
        refine (drawBelow B cb a len cap _ 3 (HC1.out.1.allocC _) (by omega)).mono ?_
        rintro e w3 ⟨y, rfl, hy0, hy1, _, hC2, hg2⟩
        have hy2 := hy1 (by omega)
        obtain ⟨N, hN⟩ : ∃ N : Nat, (N : Int) = 1 + y := ⟨(1 + y).toNat, by omega⟩
        have hN3 : N ≤ 3 := by omega
        have hN1 : 1 ≤ N := by omega
        have HN : Hid (type_of% hN) := hN
        have hg12 : w1.grownBy w3 (some cb) := grown_trans (World.grownBy_alloc _ _ _) hg2
        have HC2 : Hid (Cur B w3 cb a len cap) := hC2
        have HG2 : Hid (w1.grownBy w3 (some cb)) := hg12
        have htb3 := (hg2.block w1.heap.size (by simp) (by simp; omega)).trans htb
        have hs3 : w1.heap.size + 1 ≤ w3.heap.size := by have := hg2.size; simpa using this
        have HTB : Hid (type_of% htb3) := htb3
        clear hC2 hg2 hg12 hy1 rc0 rc1 rc2 rc3 rf0 rf1 rf2 rf3 hN htb htb3
        go_wp2_with fail
        rw [← HN.out]
        clear HN hy0 hy2
        go_loopw [14] (fun i wr => ∃ (S : List Ty) (v : Value) (ls : List Lay), S.length ≤ N ∧ i = .int .i64 (S.length : Nat) ∧ KidsG wr (w1.heap.size + 1) (d + 1) v S ls ∧ (∀ s ∈ S, Ty.sized (d + 1) s ∧ Ty.bulk (d + 1) s ≤ bT d) ∧ wr.heap[w1.heap.size]? = some (.cells #[.int .i64 6, .string ⟨#[]⟩, .slice none 0 0, v] 28 (0, 0)) ∧ w1.heap.size + 1 ≤ wr.heap.size ∧ Cur B wr cb a len cap ∧ w1.grownBy wr (some cb)) (fun i _ => N - (intOf i).toNat)
        case atStart => exact ⟨[], .slice none 0 0, [], Nat.zero_le _, rfl, KidsG.void _ _ _, fun s hs => absurd hs (by simp), HTB.out, by omega, HC2.out, HG2.out⟩
        case round =>
          obtain ⟨S, v, ls, hl, rfl, hK, hF, hbt, hszT, hcur, hgr⟩ := hrel
          have HCr : Hid (Cur B wr cb a len cap) := hcur
          have HGr : Hid (w1.grownBy wr (some cb)) := hgr
          have HF : Hid (type_of% hF) := hF
          have HK : Hid (type_of% hK) := hK
          have hown := hK.own
          obtain ⟨av2, cv2, hv⟩ := slice_ownM hown
          subst hv
          obtain ⟨⟨tc0, tc1, tc2, tc3⟩, tf⟩ := block4 hbt
          have tf3 := tf 3
          have hcbT : cb < w1.heap.size := by omega
          have HBT : Hid (type_of% hbt) := hbt
          have hnT : (Value.slice av2 S.length cv2).ownBlock ≠ some w1.heap.size := fun e => by have := (hown.lt _ e).1; omega
          clear hcur hgr hF hK hbt HTB HC2 HG2
          by_cases hlt : S.length < N
          · have HTY : Hid (∀ wx : World, Below wr.heap.size wr wx → Calls Tryz.prog 23 #[.pointer (some ⟨cb, 0, none⟩), .int .i64 d] wx fun e w' => ∃ (kd : Int) (nm : ByteArray) (an : Option Addr) (ln cn : Nat) (ak : Option Addr) (lk ck : Nat), e = .returned (.agg #[.int .i64 kd, .string nm, .slice an ln cn, .slice ak lk ck]) ∧ (∃ (l : Lay) (t : Ty), cellsK t l = [.int .i64 kd, .string nm, .slice an ln cn, .slice ak lk ck] ∧ LayAt w' (d + 1) l t ∧ (∀ b ∈ Lay.blocks (d + 1) l, wx.heap.size ≤ b) ∧ Ty.sized (d + 1) t ∧ Ty.bulk (d + 1) t ≤ bT d ∧ (t.kids = [] → l.vk = .slice none 0 0)) ∧ Cur B w' cb a len cap ∧ wx.grownBy w' (some cb)) := fun wx hx => (IH.out wx (HCr.out.farT hx)).mono fun e w' h => h.told
            have hln : (S.length : Int) < (N : Int) := by omega
            clear tf
            go_wp2_with fail
            go_region_law
              (first
                | (refine step_openC (by rfl) ?_; go_simp; rw [HZW.out]; go_at_call 23; refine (HTY.out _ (by first | exact (Below.refl _ _).drew | exact Below.refl _ _)).mono ?_; rintro e w2 ⟨kd, nm, an, ln, cn, ak, lk, ck, rfl, ⟨l, t, hcl, hll, hlb, hsz, hbk, _⟩, hC3, hg3'⟩; have hg3 : wr.grownBy w2 (some cb) := (by first | exact hg3' | exact grown_trans (grown_of_belowT ((Below.refl wr.heap.size wr).drew) _) hg3'); have hlb2 : ∀ b ∈ Lay.blocks (d + 1) l, wr.heap.size ≤ b := hlb; have hbT2 := hg3.block w1.heap.size (by omega) (by simp; omega); have x3 := cell_same tc3 hbT2; have xf := (frozen_sameC 3 hbT2).trans tf3; have lt2 : w1.heap.size < w2.heap.size := (by have := hg3.size; omega); have y3 : ∀ o, (w2.alloc o).cell? ⟨w1.heap.size, 3, none⟩ = some (.slice av2 S.length cv2) := (fun o => (cellOld 3 lt2).trans x3); have yf : ∀ o, (w2.alloc o).frozen? ⟨w1.heap.size, 3, none⟩ = false := (fun o => (frozenOld 3 lt2).trans xf); have hK2 := HK.out.grownC hg3 (by omega); have ho2 := hK2.own)
                | (revert hbT2; intro hbT2; (refine step_append_lies _ (by rfl) _ _ _ (by rfl) (w1.heap.size + 1) 28 i0 _ 4 72 Tryz.underlying24 hi0 hz0 hz1 hz2 rfl (by omega) (.slice av2 S.length cv2) S.length _ (by rfl) (by first | exact (ho2.alloc _) | exact (ho2.alloc _).drew) ⟨w2.heap.size, 0, none⟩ 1 1 [.int .i64 kd, .string nm, .slice an ln cn, .slice ak lk ck] (by rfl) (by rfl) (World.news_of_block (cs := #[.int .i64 kd, .string nm, .slice an ln cn, .slice ak lk ck]) (t := 28) (fr := (0, 0)) (heap_alloc_new w2 _)) (by simp [Value.oneCell']) (by omega) (by unfold maxLen; omega) (by omega) (by simp; omega) (w2.heap.size + 1) (by simp) ?_; intro gg cap' w4 hown1 hgrow hat hlt4); have hT4 := hgrow.block w1.heap.size (by simp; omega) (fun e => hnT e.symm); have z3 := cell_same (y3 _) hT4; have zf := (frozen_sameC 3 hT4).trans (yf _)))
            all_goals
              rw [← hcl] at hown1
              have hs2 := hg3.size
              have hs4 : w2.heap.size + 1 ≤ w4.heap.size := by have := hgrow.size; simpa using this
              have R1 : KidsG w4 (w1.heap.size + 1) (d + 1) (.slice (some ⟨gg, 0, none⟩) (S ++ [t]).length cap') (S ++ [t]) (ls ++ [l]) := hK2.snoc hll (fun b hb => ⟨by have := hlb2 b hb; omega, fun e => by have := (hown.lt b e).2; have := hlb2 b hb; omega⟩) hgrow hown1 hat
              have R2 := R1.off (c := 3) (x := .slice (some ⟨gg, 0, none⟩) (S ++ [t]).length cap') (Nat.lt_succ_self w1.heap.size)
              have hB4 : Below w1.heap.size w2 w4 := grown_off hgrow ho2 (by omega) (by omega)
              have hB5 : Below w1.heap.size w2 (w4.setCell ⟨w1.heap.size, 3, none⟩ (.slice (some ⟨gg, 0, none⟩) (S ++ [t]).length cap')) := hB4.setCell (by show w1.heap.size ≤ w1.heap.size; omega) _
              have R3 : w1.grownBy (w4.setCell ⟨w1.heap.size, 3, none⟩ (.slice (some ⟨gg, 0, none⟩) (S ++ [t]).length cap')) (some cb) := (grown_trans HGr.out hg3).thenT hB5
              have R4 : Cur B (w4.setCell ⟨w1.heap.size, 3, none⟩ (.slice (some ⟨gg, 0, none⟩) (S ++ [t]).length cap')) cb a len cap := hC3.thenT (w := w1) hB5 (by omega) (by omega)
              have hb4 : w4.heap[w1.heap.size]? = some (.cells #[.int .i64 6, .string ⟨#[]⟩, .slice none 0 0, .slice av2 S.length cv2] 28 (0, 0)) := (hT4.trans ((MapKept.heap_alloc w2 _).2 w1.heap.size (by omega))).trans (hbT2.trans HBT.out)
              have R5 : (w4.setCell ⟨w1.heap.size, 3, none⟩ (.slice (some ⟨gg, 0, none⟩) (S ++ [t]).length cap')).heap[w1.heap.size]? = some (.cells #[.int .i64 6, .string ⟨#[]⟩, .slice none 0 0, .slice (some ⟨gg, 0, none⟩) (S ++ [t]).length cap'] 28 (0, 0)) := heap_setCell_same w4 w1.heap.size 3 _ _ _ hb4
              have R6 : ∀ s ∈ S ++ [t], Ty.sized (d + 1) s ∧ Ty.bulk (d + 1) s ≤ bT d := fun s hs => by
                rcases List.mem_append.1 hs with q | q
                · exact HF.out s q
                · rw [List.mem_singleton] at q; subst q; exact ⟨hsz, hbk⟩
              have hle : (S ++ [t]).length = S.length + 1 := by simp
              rw [hle] at R1 R2 R3 R4 R5
              have HR : Hid (type_of% R2) := R2
              have HR3 : Hid (type_of% R3) := R3
              have HR4 : Hid (type_of% R4) := R4
              have HR5 : Hid (type_of% R5) := R5
              have HR6 : Hid (type_of% R6) := R6
              clear R1 R2 R3 R4 R5 R6 hown hown1 hgrow hll hlb hlb2 hcl hsz hbk hK2 ho2 hB4 hB5 hb4 hbT2 hC3 hg3 hg3' x3 xf y3 yf z3 zf hT4 HTY HK HF HCr HGr HBT
              go_wp2_with fail
              go_roundw
              case rel => exact ⟨S ++ [t], _, ls ++ [l], by simp; omega, by rw [hle]; go_num, HR.out, HR6.out, HR5.out, by simp; omega, HR4.out, HR3.out⟩
              case measure => simp [intOf]; omega
          · have hle : N = S.length := by omega
            subst hle
            have hnl : ¬ (S.length : Int) < (S.length : Int) := by omega
            have hbx5 := (HGr.out.block w.heap.size (by omega) (by simp; omega)).trans HBX.out
            have hkb := kids_bulk (fun s hs => (HF.out s hs).2)
            have hbd : S.length * bT d ≤ 3 * bT d := Nat.mul_le_mul_right _ hN3
            have hlies := HK.out.lies 6 ⟨#[]⟩
            have HL : Hid (type_of% (HFIN.out wr _ _ _ _ _ _ hlies.1 (fun b hb => by have := hlies.2 b hb; omega) (kids_sized (fun s hs => (HF.out s hs).1) (by omega) 6 (by omega)) ⟨by show (0 : Nat) + (0 + 0) + (S.length + (S.map (Ty.bulk (d + 1))).sum) ≤ 12 + 3 * bT d; omega, fun q => by have q' : S = [] := q; rw [q'] at hN1; simp at hN1⟩ HCr.out (grown_trans HC1.out.2 HGr.out) rfl)) := HFIN.out wr _ _ _ _ _ _ hlies.1 (fun b hb => by have := hlies.2 b hb; omega) (kids_sized (fun s hs => (HF.out s hs).1) (by omega) 6 (by omega)) ⟨by show (0 : Nat) + (0 + 0) + (S.length + (S.map (Ty.bulk (d + 1))).sum) ≤ 12 + 3 * bT d; omega, fun q => by have q' : S = [] := q; rw [q'] at hN1; simp at hN1⟩ HCr.out (grown_trans HC1.out.2 HGr.out) rfl
            obtain ⟨⟨rc0, rc1, rc2, rc3⟩, rf⟩ := block4 hbx5
            have rf0 := rf 0
            have rf1 := rf 1
            have rf2 := rf 2
            have rf3 := rf 3
            clear hbx5 rf hkb hbd hlies HFIN HK HF HCr HGr HC1 hown
            go_wp2_with fail
            refine ret_drT rfl (fun j hj => ?_) HL.out
            match j, hj with
            | 0, _ => rw [rc0]; rfl
            | 1, _ => rw [rc1]; rfl
            | 2, _ => rw [rc2]; rfl
            | 3, _ => rw [rc3]; rfl
      · -- a union
        obtain rfl : D = d + 1 := by
          rcases hd with q | q
          · have := hk5 q; omega
          · exact q
        have IH : Hid (DrTyAt B cb a len cap d) := HIH.out rfl
        have hzd : z - 1 = (d : Int) := by have := HZ.out; omega
        have HZD : Hid (type_of% hzd) := hzd
        have hzp : 1 ≤ z := by omega
        clear hk5 hd HIH hzd HZ
        go_wp2_with fail
        refine (drawBelow B cb a len cap _ 2 (HC1.out.1.allocC _) (by omega)).mono ?_
        rintro e w3 ⟨y, rfl, hy0, hy1, _, hC2, hg2⟩
        have hy2 := hy1 (by omega)
        obtain ⟨N, hN⟩ : ∃ N : Nat, (N : Int) = 2 + y := ⟨(2 + y).toNat, by omega⟩
        have hN3 : N ≤ 3 := by omega
        have HN : Hid (type_of% hN) := hN
        have hg12 : w1.grownBy w3 (some cb) := grown_trans (World.grownBy_alloc _ _ _) hg2
        have HC2 : Hid (Cur B w3 cb a len cap) := hC2
        have HG2 : Hid (w1.grownBy w3 (some cb)) := hg12
        have HK0 : Hid (KidsG w3 w1.heap.size (d + 1) (.slice (some ⟨w1.heap.size, 0, none⟩) 0 0) [] []) := (KidsG.nil (heap_alloc_new w1 _) (Nat.le_refl _)).grownC hg2 (by omega)
        clear hC2 hg2 hg12 hy1 rc0 rc1 rc2 rc3 rf0 rf1 rf2 rf3 hN
        go_wp2_with fail
        rw [← HN.out]
        clear HN hy0 hy2
        go_loopw [15, 17] (fun v i wr => ∃ (S : List Ty) (ls : List Lay), S.length ≤ N ∧ i = .int .i64 (S.length : Nat) ∧ KidsG wr w1.heap.size (d + 1) v S ls ∧ (∀ s ∈ S, Ty.sized (d + 1) s ∧ Ty.bulk (d + 1) s ≤ bT d) ∧ Cur B wr cb a len cap ∧ w1.grownBy wr (some cb)) (fun _ i _ => N - (intOf i).toNat)
        case atStart => exact ⟨[], [], Nat.zero_le _, rfl, HK0.out, fun s hs => absurd hs (by simp), HC2.out, HG2.out⟩
        case round =>
          obtain ⟨S, ls, hl, rfl, hK, hF, hcur, hgr⟩ := hrel
          have HCr : Hid (Cur B wr cb a len cap) := hcur
          have HGr : Hid (w1.grownBy wr (some cb)) := hgr
          have HF : Hid (type_of% hF) := hF
          have hszr := hgr.size
          obtain ⟨va, cva, hv⟩ := slice_ownM hK.own
          subst hv
          clear hcur hgr hF HK0
          by_cases hlt : S.length < N
          · have HTY : Hid (type_of% (IH.out wr HCr.out)) := IH.out wr HCr.out
            have hln : (S.length : Int) < (N : Int) := by omega
            go_wp2_with fail
            rw [HZD.out]
            refine HTY.out.mono ?_
            rintro e w3 h3
            obtain ⟨kd, nm, an, ln, cn, ak, lk, ck, rfl, ⟨l, t, hcl, hll, hlb, hsz, hbk, _⟩, hC3, hg3⟩ := h3.told
            have hK3 := hK.grownC hg3 (by omega)
            have hs3 := hg3.size
            have hown3 := hK3.own
            have HC3 : Hid (Cur B w3 cb a len cap ∧ w1.grownBy w3 (some cb)) := ⟨hC3, grown_trans HGr.out hg3⟩
            have HK3 : Hid (type_of% hK3) := hK3
            have HL : Hid (LayAt w3 (d + 1) l t ∧ (∀ b ∈ Lay.blocks (d + 1) l, w1.heap.size ≤ b ∧ (Value.slice va S.length cva).ownBlock ≠ some b) ∧ Ty.sized (d + 1) t ∧ Ty.bulk (d + 1) t ≤ bT d) := ⟨hll, fun b hb => ⟨by have := hlb b hb; omega, fun e => by have := (hK.own.lt b e).2; have := hlb b hb; omega⟩, hsz, hbk⟩
            have HCL : Hid (type_of% hcl) := hcl
            clear hC3 hg3 hK hK3 HTY HCr HGr h3 hll hlb hsz hbk hcl
            go_wp2_with (at_builtin; refine wpList_append_lies _ rfl _ _ 24 rfl w1.heap.size 28 i0 _ 4 72 Tryz.underlying24 hi0 hz0 hz1 hz2 rfl (by decide) _ _ _ rfl (hown3.alloc _) ⟨w3.heap.size, 0, none⟩ 1 1 [.int .i64 kd, .string nm, .slice an ln cn, .slice ak lk ck] rfl rfl ?c1 ?c2 (by omega) ?c3 ?c4 ?c5 (w3.heap.size + 1) (by simp) ?_)
            case c1 => exact World.news_of_block (cs := #[.int .i64 kd, .string nm, .slice an ln cn, .slice ak lk ck]) (t := 28) (fr := (0, 0)) (heap_alloc_new w3 _)
            case c2 => simp [Value.oneCell']
            case c3 => unfold maxLen; omega
            case c4 => omega
            case c5 => simp; omega
            intro gg cap' w5 hown' hgrow hat hlt5
            have R1 : KidsG w5 w1.heap.size (d + 1) (.slice (some ⟨gg, 0, none⟩) (S ++ [t]).length cap') (S ++ [t]) (ls ++ [l]) := HK3.out.snoc HL.out.1 HL.out.2.1 hgrow (by rw [HCL.out]; exact hown') hat
            have R3 := HC3.out.2.thenT (grown_off hgrow hown3 (by omega) (Nat.le_refl _))
            have R2 := HC3.out.1.thenT (w := w1) (grown_off hgrow hown3 (by omega) (Nat.le_refl _)) (by omega) (by omega)
            have R4 : ∀ s ∈ S ++ [t], Ty.sized (d + 1) s ∧ Ty.bulk (d + 1) s ≤ bT d := fun s hs => by
              rcases List.mem_append.1 hs with q | q
              · exact HF.out s q
              · rw [List.mem_singleton] at q; subst q; exact ⟨HL.out.2.2.1, HL.out.2.2.2⟩
            rw [show (S ++ [t]).length = S.length + 1 by simp] at R1
            have HR : Hid (KidsG w5 w1.heap.size (d + 1) (.slice (some ⟨gg, 0, none⟩) (S.length + 1) cap') (S ++ [t]) (ls ++ [l]) ∧ (∀ s ∈ S ++ [t], Ty.sized (d + 1) s ∧ Ty.bulk (d + 1) s ≤ bT d) ∧ Cur B w5 cb a len cap ∧ w1.grownBy w5 (some cb)) := ⟨R1, R4, R2, R3⟩
            clear hown' hgrow hown3 HC3 HK3 HL HCL HF R1 R2 R3 R4 hat hlt5
            go_wp2_with fail
            go_roundw
            case rel => exact ⟨S ++ [t], ls ++ [l], by simp; omega, by simp only [List.length_append, List.length_singleton]; go_num, HR.out.1, HR.out.2.1, HR.out.2.2.1, HR.out.2.2.2⟩
            case measure => simp [intOf]; omega
          · have hle : N = S.length := by omega
            subst hle
            have hnl : ¬ (S.length : Int) < (S.length : Int) := by omega
            have hS3 : S.length ≤ 3 := by omega
            have hbx5 := (HGr.out.block w.heap.size (by omega) (by simp; omega)).trans HBX.out
            have hkb := kids_bulk (fun s hs => (HF.out s hs).2)
            have hsz : ∀ s ∈ S, Ty.sized (d + 1) s := fun s hs => (HF.out s hs).1
            have hbd : S.length * bT d ≤ 3 * bT d := Nat.mul_le_mul_right _ hS3
            have hbT : bT d ≤ 100000 := hbig
            have hrb : rowBulk (d + 1) S ≤ 3 + 3 * bT d := by unfold rowBulk; omega
            have HREC : Hid (type_of% (specUnionN (d + 1) _ S wr (hK.row hsz (by omega)) (by omega))) := specUnionN (d + 1) _ S wr (hK.row hsz (by omega)) (by omega)
            have HSZ : Hid (∀ t ok, UAns (d + 1) S t ok → Ty.sized (d + 1 + 1) t ∧ Ty.bulk (d + 1 + 1) t ≤ bT (d + 1)) := fun t ok h => ⟨(un_bulkT h hsz (by omega)).1, by
              have h1 := (un_bulkT h hsz (by omega)).2
              show _ ≤ 12 + 3 * bT d
              omega⟩
            have hN0 : (0 : Int) ≤ (S.length : Int) := by omega
            have hN3 : (S.length : Int) ≤ 3 := by omega
            clear hK HF hkb hsz hbd hrb
            go_wp2_with fail
            refine HREC.out.mono ?_
            rintro e w6 ⟨l, t, ok, rfl, hans, ⟨hl6, hlb6⟩, hb6, hvd6⟩
            obtain ⟨p1, pc1, p2, pc2, _, _, ecs⟩ := lay_cells hl6
            rw [ecs]
            have hg6 : w.grownBy w6 (some cb) := grown_trans (grown_trans HC1.out.2 HGr.out) (grown_of_belowT hb6 _)
            have hC6 := HCr.out.farT hb6
            have hs5 : w.heap.size + 1 ≤ wr.heap.size := by omega
            have hs6 := hb6.size
            have hbx6 := (hb6.block w.heap.size (by omega)).trans hbx5
            have hA : Below w6.heap.size w6 (w6.alloc (.cells #[.int .i64 t.kind, .string t.name, .slice p1 t.names.length pc1, .slice p2 t.kids.length pc2] 28)) := (Below.refl _ _).alloc (Nat.le_refl _) _
            have hbx7 := (hA.block w.heap.size (by omega)).trans hbx6
            have hq := HSZ.out t ok hans
            have HL : Hid (type_of% (HFIN.out _ l t _ _ _ _ (hl6.below hA) (fun b hb => by have := hlb6 b hb; omega) hq.1 ⟨hq.2, hvd6⟩ (hC6.farT hA) (hg6.thenT (hA.mono (by omega))) ecs)) := HFIN.out _ l t _ _ _ _ (hl6.below hA) (fun b hb => by have := hlb6 b hb; omega) hq.1 ⟨hq.2, hvd6⟩ (hC6.farT hA) (hg6.thenT (hA.mono (by omega))) ecs
            clear hbx5 hbx6 hg6 hC6 hl6 hlb6 hb6 hans ecs hq hvd6 HREC HSZ HCr HGr HG2 HC1 HC2 hA HFIN
            obtain ⟨⟨rc0, rc1, rc2, rc3⟩, rf⟩ := block4 hbx7
            have rf0 := rf 0
            have rf1 := rf 1
            have rf2 := rf 2
            have rf3 := rf 3
            clear hbx7 rf
            go_wp2_with fail
            refine ret_drT rfl (fun j hj => ?_) HL.out
            match j, hj with
            | 0, _ => rw [rc0]; rfl
            | 1, _ => rw [rc1]; rfl
            | 2, _ => rw [rc2]; rfl
            | 3, _ => rw [rc3]; rfl

theorem bT_small (d : Nat) (h : d ≤ 4) : bT d ≤ 100000 := by
  have : d = 0 ∨ d = 1 ∨ d = 2 ∨ d = 3 ∨ d = 4 := by omega
  rcases this with rfl | rfl | rfl | rfl | rfl <;> decide
theorem drawType (B cb : Nat) (a : Option Addr) (len cap : Nat) (d : Nat) (h : d ≤ 4) : DrTyAt B cb a len cap d := by
  induction d with
  | zero => exact fun w hC => drawTypeStep B cb a len cap 0 0 (.inl rfl) (by decide) (fun e => absurd e (by omega)) w hC 0 rfl (by omega)
  | succ d ih => exact fun w hC => drawTypeStep B cb a len cap (d + 1) d (.inr rfl) (bT_small d (by omega)) (fun _ => ih (by omega)) w hC _ rfl (by omega)

end Go.Proofs.YthomlchbgcjcfaaGreatDoor
