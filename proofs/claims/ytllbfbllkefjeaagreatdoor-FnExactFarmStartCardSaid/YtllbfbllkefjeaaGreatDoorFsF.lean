/-
  The walk of the copier at a farm that holds no leases, results and packets.
-/
import Derived.Test.YtllbfbllkefjeaaGreatDoorFmL
import Derived.Test.YtllbfbllkefjeaaGreatDoorItT
import Derived.Test.YtllbfbllkefjeaaGreatDoorRegT
import Derived.Test.YtllbfbllkefjeaaGreatDoorItC
import Derived.Test.YtllbfbllkefjeaaGreatDoorItN
import Derived.Deep.RegionHeld3
namespace Go.Proofs.YtllbfbllkefjeaaGreatDoor
open Go.RowKit

/-- the places of the texts of sources that lie in a row -/
def srT (es : List Src) : List ByteArray := es.flatMap fun e => [e.1, e.2]
theorem srV_T (es : List Src) : flatA SrF es = (srT es).map Value.string := by
  induction es with
  | nil => rfl
  | cons e r ih =>
    show SrF e ++ flatA SrF r = _
    rw [ih]
    rfl
theorem srT_length (es : List Src) : (srT es).length = es.length * 2 := by
  have := congrArg List.length (srV_T es)
  rw [flatA_length (f := SrF) (z := 2) (fun _ => rfl), List.length_map] at this
  exact this.symm
theorem srT_sum (es : List Src) : ((srT es).map ByteArray.size).sum = (es.map srBulk).sum := by
  induction es with
  | nil => rfl
  | cons e r ih =>
    have h : srT (e :: r) = e.1 :: e.2 :: srT r := rfl
    rw [h, List.map_cons, List.map_cons, List.sum_cons, List.sum_cons, ih, List.map_cons, List.sum_cons]
    unfold srBulk
    omega
def srPs (g : Nat) (es : List Src) : List ((Nat × Nat) × ByteArray) := (srT es).zipIdx.map fun p => ((g, p.2), p.1)
theorem srPs_length (g : Nat) (es : List Src) : (srPs g es).length = es.length * 2 := by simp [srPs, srT_length]
theorem srPs_at (g : Nat) (es : List Src) (j : Nat) (h : j < (srPs g es).length) : (srPs g es)[j] = ((g, j), (srT es)[j]'(by rw [srPs_length] at h; rw [srT_length]; exact h)) := by simp [srPs]
theorem srPs_sum (g : Nat) (es : List Src) : ptrSum (srPs g es) = (es.map srBulk).sum := by
  rw [← srT_sum]
  unfold ptrSum srPs
  rw [List.map_map]
  congr 1
  apply List.ext_getElem
  · simp
  · intro i h1 h2
    simp
theorem ptrV_two (g k : Nat) : ptrV g (k * 2 + 2) = ptrV g (k * 2) ++ [.pointer (some ⟨g, k * 2, none⟩), .pointer (some ⟨g, k * 2 + 1, none⟩)] := by
  unfold ptrV
  rw [List.range_succ, List.range_succ, List.map_append, List.map_append, List.append_assoc]
  rfl

theorem ret_cFarm {R : Ending → World → Prop} {W : World} {tmps : Array Value} {b : Nat} {t : TypeId} {x0 x1 x2 x3 x4 x5 x6 x7 x8 x9 : Value} (hp : tmps[4]?.getD undef = .pointer (some ⟨b, 0, none⟩))
    (h : W.heap[b]? = some (.cells #[x0, x1, x2, x3, x4, x5, x6, x7, x8, x9] t (0, 0))) (hR : R (.returned (.agg #[x0, x1, x2, x3, x4, x5, x6, x7, x8, x9])) W) :
    bodyPost Tryz.prog Tryz.f59 R .ret { tmps := tmps, defers := [] } W := by
  obtain ⟨h0, h1, h2, h3, h4, h5, h6, h7, h8, h9⟩ := tenR_of h
  refine bodyPost_ret (v := .agg #[x0, x1, x2, x3, x4, x5, x6, x7, x8, x9]) ?_ rfl hR
  simp [results, Tryz.results59, go_sem, hp, h0, h1, h2, h3, h4, h5, h6, h7, h8, h9]

/-- the state of the copy of a farm: the argument's box, the answer's, the copier, the lists that are copied -/
structure CF (B : Nat) (w : World) (cb m1 m2 : Nat) (v1 : Value) (n1 : Nat) (x1 : List Value) (v2 : Value) (n2 : Nat) (x2 : List Value) (X : World) (A cp : Array Value) : Prop where
  bel : Below B w X
  arg : X.heap[w.heap.size]? = some (.cells A 37 (0, 0))
  res : X.heap[w.heap.size + 1]? = some (.cells #[.slice none 0 0, .int .i64 0, .slice none 0 0, .int .i64 0, .int .i64 0, .slice none 0 0, .slice none 0 0, .slice none 0 0, .int .i64 0, .slice none 0 0] 37 (0, 0))
  cop : X.heap[cb]? = some (.cells cp 157 (0, 0))
  r1 : X.ownsRow w.heap.size 57 2 v1 n1 x1
  r2 : X.ownsRow w.heap.size 4 1 v2 n2 x2
  e1 : ∀ g, v1.ownBlock = some g → w.heap.size + 1 < g ∧ g < m1
  e2 : ∀ g, v2.ownBlock = some g → w.heap.size + 1 < g ∧ m1 ≤ g ∧ g < m2
  sz : m2 ≤ X.heap.size
  cbl : cb < w.heap.size
  ba : B ≤ cb
  low : ∀ k, k < w.heap.size → k ≠ cb → X.heap[k]? = w.heap[k]?
section
variable {B : Nat} {w : World} {cb m1 m2 : Nat} {v1 : Value} {n1 : Nat} {x1 : List Value} {v2 : Value} {n2 : Nat} {x2 : List Value} {X Y : World} {A cp A' cp' : Array Value}
theorem CF.size (h : CF B w cb m1 m2 v1 n1 x1 v2 n2 x2 X A cp) : w.heap.size + 1 < X.heap.size := (Array.getElem?_eq_some_iff.1 h.res).1
theorem CF.below (h : CF B w cb m1 m2 v1 n1 x1 v2 n2 x2 X A cp) (hb : Below X.heap.size X Y) : CF B w cb m1 m2 v1 n1 x1 v2 n2 x2 Y A cp := by
  have hs := h.size
  have hc := h.cbl
  have hbb := h.ba
  exact ⟨h.bel.trans (hb.mono (by omega)), (hb.block _ (by omega)).trans h.arg, (hb.block _ (by omega)).trans h.res, (hb.block _ (by omega)).trans h.cop, rowKeptA h.r1 hb, rowKeptA h.r2 hb, h.e1, h.e2, Nat.le_trans h.sz hb.size, h.cbl, h.ba, fun k hk hne => (hb.block k (by omega)).trans (h.low k hk hne)⟩
theorem CF.setCop (h : CF B w cb m1 m2 v1 n1 x1 v2 n2 x2 X A cp) (i : Nat) (u : Value) (hr : (X.setCell ⟨cb, i, none⟩ u).heap[cb]? = some (.cells cp' 157 (0, 0))) : CF B w cb m1 m2 v1 n1 x1 v2 n2 x2 (X.setCell ⟨cb, i, none⟩ u) A cp' := by
  have hs := h.size
  have hc := h.cbl
  have hbb := h.ba
  have hk : ∀ k, k ≠ cb → (X.setCell ⟨cb, i, none⟩ u).heap[k]? = X.heap[k]? := fun k hk => Below.heap_setCell _ _ _ _ (by simpa using hk)
  refine ⟨h.bel.setCell (by simpa using hbb) _, (hk _ (by omega)).trans h.arg, (hk _ (by omega)).trans h.res, hr, itLow h.r1 (Nat.le_refl _) fun g hg => hk g ?_, itLow h.r2 (Nat.le_refl _) fun g hg => hk g ?_, h.e1, h.e2, by simpa using h.sz, h.cbl, h.ba, fun k hkl hne => (hk k (by omega)).trans (h.low k hkl hne)⟩
  · have := (h.e1 g hg).1
    omega
  · have := (h.e2 g hg).1
    omega
theorem CF.setArg (h : CF B w cb m1 m2 v1 n1 x1 v2 n2 x2 X A cp) (i : Nat) (u : Value) (hr : (X.setCell ⟨w.heap.size, i, none⟩ u).heap[w.heap.size]? = some (.cells A' 37 (0, 0))) : CF B w cb m1 m2 v1 n1 x1 v2 n2 x2 (X.setCell ⟨w.heap.size, i, none⟩ u) A' cp := by
  have hs := h.size
  have hc := h.cbl
  have hbb := h.ba
  have hk : ∀ k, k ≠ w.heap.size → (X.setCell ⟨w.heap.size, i, none⟩ u).heap[k]? = X.heap[k]? := fun k hk => Below.heap_setCell _ _ _ _ (by simpa using hk)
  refine ⟨h.bel.setCell (by simp; omega) _, hr, (hk _ (by omega)).trans h.res, (hk _ (by omega)).trans h.cop, itLow h.r1 (Nat.le_refl _) fun g hg => hk g ?_, itLow h.r2 (Nat.le_refl _) fun g hg => hk g ?_, h.e1, h.e2, by simpa using h.sz, h.cbl, h.ba, fun k hkl hne => (hk k (by omega)).trans (h.low k hkl hne)⟩
  · have := (h.e1 g hg).1
    omega
  · have := (h.e2 g hg).1
    omega
end
theorem itOther {w X : World} {cb : Nat} {z : Int} {y1 : Bool} {v : Value} {es : List Itm} (h : ItAt w v es) (hc : w.heap[cb]? = some (.cells #[.int .i64 z, .bool y1, .map none, .map none] 157 (0, 0))) (hk : ∀ k, k < w.heap.size → k ≠ cb → X.heap[k]? = w.heap[k]?) : ItAt X v es := by
  rcases h with h | ⟨b, off, cap, e, hcell⟩
  · exact .inl h
  · have hmove : ∀ i s, w.cell? ⟨b, i, none⟩ = some (.string s) → X.cell? ⟨b, i, none⟩ = some (.string s) := fun i s hs => by
      have hb : b ≠ cb := fun e => by
        subst e
        rw [cell_of_row w b i _ _ (0, 0) hc] at hs
        match i, hs with
        | 0, hs => simp at hs
        | 1, hs => simp at hs
        | 2, hs => simp at hs
        | 3, hs => simp at hs
        | i + 4, hs => simp at hs
      have hl := World.block_lt_of_cell? w ⟨b, i, none⟩ hs
      have hh := hk b hl hb
      rw [← hs]
      unfold World.cell?
      rw [hh]
    exact .inr ⟨b, off, cap, e, fun j hj => by
      obtain ⟨h0, h1, h2⟩ := hcell j hj
      exact ⟨hmove _ _ h0, hmove _ _ h1, hmove _ _ h2⟩⟩

set_option maxHeartbeats 3200000 in
set_option maxRecDepth 100000 in
theorem implCFarm (B cb : Nat) (a1 a2 a3 : Option Addr) (c1 c2 c3 : Nat) (S : List Src) (U : List Bool) (I : List Itm) (wt rm : Int) (w : World) (hS : SrcAt w (.slice a1 S.length c1) S) (hSb : srsBulk S ≤ 1048576) (hU : RowA 1 BoF w (.slice a2 U.length c2) U) (hUl : U.length ≤ 4194304) (hI : ItAt w (.slice a3 I.length c3) I) (hIb : itsBulk I ≤ 4194304) (hcb : w.heap[cb]? = some (.cells #[.int .i64 8589934592, .bool false, .map none, .map none] 157 (0, 0))) (hB : B ≤ cb) :
    Calls Tryz.prog 59 #[.pointer (some ⟨cb, 0, none⟩), .agg #[.slice a1 S.length c1, .int .i64 wt, .slice a2 U.length c2, .int .i64 0, .int .i64 0, .slice none 0 0, .slice none 0 0, .slice none 0 0, .int .i64 rm, .slice a3 I.length c3]] w fun e w' => ∃ (b1 b2 b3 : Option Addr) (d1 d2 d3 m1 m2 : Nat), e = .returned (.agg #[.slice b1 S.length d1, .int .i64 wt, .slice b2 U.length d2, .int .i64 0, .int .i64 0, .slice none 0 0, .slice none 0 0, .slice none 0 0, .int .i64 rm, .slice b3 I.length d3]) ∧ w'.ownsRow w.heap.size 57 2 (.slice b1 S.length d1) S.length (flatA SrF S) ∧ w'.ownsRow w.heap.size 4 1 (.slice b2 U.length d2) U.length (flatA BoF U) ∧ w'.ownsRow w.heap.size 83 3 (.slice b3 I.length d3) I.length (itV I) ∧ ((∀ g, (Value.slice b1 S.length d1).ownBlock = some g → g < m1) ∧ (∀ g, (Value.slice b2 U.length d2).ownBlock = some g → m1 ≤ g ∧ g < m2) ∧ (∀ g, (Value.slice b3 I.length d3).ownBlock = some g → m2 ≤ g)) ∧ Below B w w' := by
  obtain ⟨i0, hi, hz0, hz1, hz2'⟩ := info_parts Tryz.infoPtrS
  obtain ⟨W2, hW2⟩ : ∃ W2, W2 = (w.alloc (.cells #[.slice a1 S.length c1, .int .i64 wt, .slice a2 U.length c2, .int .i64 0, .int .i64 0, .slice none 0 0, .slice none 0 0, .slice none 0 0, .int .i64 rm, .slice a3 I.length c3] 37)).alloc (.cells #[.slice none 0 0, .int .i64 0, .slice none 0 0, .int .i64 0, .int .i64 0, .slice none 0 0, .slice none 0 0, .slice none 0 0, .int .i64 0, .slice none 0 0] 37) := ⟨_, rfl⟩
  have hB2 : Below w.heap.size w W2 := by rw [hW2]; exact ((Below.refl _ _).alloc (Nat.le_refl _) _).alloc (by simp) _
  have hz2 : W2.heap.size = w.heap.size + 1 + 1 := by rw [hW2]; simp
  have ra : W2.heap[w.heap.size]? = some (.cells #[.slice a1 S.length c1, .int .i64 wt, .slice a2 U.length c2, .int .i64 0, .int .i64 0, .slice none 0 0, .slice none 0 0, .slice none 0 0, .int .i64 rm, .slice a3 I.length c3] 37 (0, 0)) := by
    rw [hW2, (MapKept.heap_alloc (w.alloc (.cells #[.slice a1 S.length c1, .int .i64 wt, .slice a2 U.length c2, .int .i64 0, .int .i64 0, .slice none 0 0, .slice none 0 0, .slice none 0 0, .int .i64 rm, .slice a3 I.length c3] 37)) _).2 w.heap.size (by simp)]
    exact (MapKept.heap_alloc w _).1
  have rr : W2.heap[w.heap.size + 1]? = some (.cells #[.slice none 0 0, .int .i64 0, .slice none 0 0, .int .i64 0, .int .i64 0, .slice none 0 0, .slice none 0 0, .slice none 0 0, .int .i64 0, .slice none 0 0] 37 (0, 0)) := by
    have := (MapKept.heap_alloc (w.alloc (.cells #[.slice a1 S.length c1, .int .i64 wt, .slice a2 U.length c2, .int .i64 0, .int .i64 0, .slice none 0 0, .slice none 0 0, .slice none 0 0, .int .i64 rm, .slice a3 I.length c3] 37)) (.cells #[.slice none 0 0, .int .i64 0, .slice none 0 0, .int .i64 0, .int .i64 0, .slice none 0 0, .slice none 0 0, .slice none 0 0, .int .i64 0, .slice none 0 0] 37)).1
    rw [hW2]
    rwa [show (w.alloc (.cells #[.slice a1 S.length c1, .int .i64 wt, .slice a2 U.length c2, .int .i64 0, .int .i64 0, .slice none 0 0, .slice none 0 0, .slice none 0 0, .int .i64 rm, .slice a3 I.length c3] 37)).heap.size = w.heap.size + 1 from by simp] at this
  have hcl : cb < w.heap.size := (Array.getElem?_eq_some_iff.1 hcb).1
  have HA : Hid (∀ X, Below W2.heap.size W2 X → X.heap[w.heap.size]? = some (.cells #[.slice a1 S.length c1, .int .i64 wt, .slice a2 U.length c2, .int .i64 0, .int .i64 0, .slice none 0 0, .slice none 0 0, .slice none 0 0, .int .i64 rm, .slice a3 I.length c3] 37 (0, 0)) ∧ X.heap[w.heap.size + 1]? = some (.cells #[.slice none 0 0, .int .i64 0, .slice none 0 0, .int .i64 0, .int .i64 0, .slice none 0 0, .slice none 0 0, .slice none 0 0, .int .i64 0, .slice none 0 0] 37 (0, 0)) ∧ X.heap[cb]? = some (.cells #[.int .i64 8589934592, .bool false, .map none, .map none] 157 (0, 0)) ∧ Below w.heap.size w X) := fun X hX => ⟨(hX.block _ (by omega)).trans ra, (hX.block _ (by omega)).trans rr, (hX.block _ (by omega)).trans ((hB2.block cb hcl).trans hcb), hB2.trans (hX.mono (by omega))⟩
  have HS4 : Hid (∀ X, Below W2.heap.size W2 X → X.cell? ⟨w.heap.size, 0, none⟩ = some (.slice a1 S.length c1) ∧ X.cell? ⟨w.heap.size, 2, none⟩ = some (.slice a2 U.length c2) ∧ X.cell? ⟨w.heap.size, 5, none⟩ = some (.slice none 0 0) ∧ X.cell? ⟨w.heap.size, 7, none⟩ = some (.slice none 0 0)) := fun X hX => by
    obtain ⟨h0, _, h2, _, _, h5, _, h7, _, _⟩ := tenR_of (HA.out X hX).1
    exact ⟨h0, h2, h5, h7⟩
  have HC1 : Hid (∀ X, Below W2.heap.size W2 X → _) := fun X hX => slCloneSr (.slice a1 S.length c1) S X (srcA (hS.below (HA.out X hX).2.2.2)) (by unfold srsBulk at hSb; omega)
  have HC2 : Hid (∀ X, Below W2.heap.size W2 X → _) := fun X hX => slCloneBo (.slice a2 U.length c2) U X (hU.below (HA.out X hX).2.2.2) hUl
  have HIT : Hid (∀ X, Below W2.heap.size W2 X → ItAt X (.slice a3 I.length c3) I) := fun X hX => hI.below (HA.out X hX).2.2.2
  have HI0 : Hid (type_of% hI) := hI
  have HSB : Hid (type_of% hSb) := hSb
  have HIB : Hid (type_of% hIb) := hIb
  have HZ2 : Hid (type_of% hz2) := hz2
  have HB2 : Hid (type_of% hB2) := hB2
  have HCB : Hid (type_of% hcb) := hcb
  clear hS hSb hU hI hIb hcb ra rr hz2 hB2
  go_enter Tryz.func59, Tryz.ntmps59
  go_wp2_with fail
  rw [← hW2]
  clear hW2
  have hQ0 := HS4.out W2.drew (Below.refl _ _).drew
  refine wp_region_noPanic ?_
  refine wp_region_to (fun w' => w'.cell? ⟨w.heap.size, 0, none⟩ = some (.slice a1 S.length c1) ∧ w'.cell? ⟨w.heap.size, 2, none⟩ = some (.slice a2 U.length c2) ∧ w'.cell? ⟨w.heap.size, 5, none⟩ = some (.slice none 0 0) ∧ w'.cell? ⟨w.heap.size, 7, none⟩ = some (.slice none 0 0)) 13 (by kernel_rfl) ?_
  refine wpTo.take (i := 0) (v := ?_) rfl rfl (by kernel_rfl) (by kernel_rfl) (by kernel_rfl) (by kernel_rfl) (fun _ _ _ h => h) (Or.inl ⟨by rfl, ?_⟩) hQ0 (by kernel_rfl) ?_
  rotate_left
  · intro w9 hs9
    obtain ⟨s0, s1, s2, s3⟩ := hs9
    go_simp
    try rfl
  refine wpTo.take (i := 1) (v := ?_) rfl rfl (by kernel_rfl) (by kernel_rfl) (by kernel_rfl) (by kernel_rfl) (fun _ _ _ h => h) (Or.inl ⟨by rfl, ?_⟩) hQ0 (by kernel_rfl) ?_
  rotate_left
  · intro w9 hs9
    obtain ⟨s0, s1, s2, s3⟩ := hs9
    go_simp
    try rfl
  refine wpTo.take (i := 3) (v := ?_) rfl rfl (by kernel_rfl) (by kernel_rfl) (by kernel_rfl) (by kernel_rfl) (fun _ _ _ h => h) (Or.inl ⟨by rfl, ?_⟩) hQ0 (by kernel_rfl) ?_
  rotate_left
  · intro w9 hs9
    obtain ⟨s0, s1, s2, s3⟩ := hs9
    go_simp
    try rfl
  refine wpTo.take (i := 4) (v := ?_) rfl rfl (by kernel_rfl) (by kernel_rfl) (by kernel_rfl) (by kernel_rfl) (fun _ _ _ h => h) (Or.inl ⟨by rfl, ?_⟩) hQ0 (by kernel_rfl) ?_
  rotate_left
  · intro w9 hs9
    obtain ⟨s0, s1, s2, s3⟩ := hs9
    go_simp
    try rfl
  refine wpTo.take (i := 6) (v := ?_) rfl rfl (by kernel_rfl) (by kernel_rfl) (by kernel_rfl) (by kernel_rfl) (fun _ _ _ h => h) (Or.inl ⟨by rfl, ?_⟩) hQ0 (by kernel_rfl) ?_
  rotate_left
  · intro w9 hs9
    obtain ⟨s0, s1, s2, s3⟩ := hs9
    go_simp
    try rfl
  refine wpTo.take (i := 7) (v := ?_) rfl rfl (by kernel_rfl) (by kernel_rfl) (by kernel_rfl) (by kernel_rfl) (fun _ _ _ h => h) (Or.inl ⟨by rfl, ?_⟩) hQ0 (by kernel_rfl) ?_
  rotate_left
  · intro w9 hs9
    obtain ⟨s0, s1, s2, s3⟩ := hs9
    go_simp
    try rfl
  refine wpTo.take (i := 9) (v := ?_) rfl rfl (by kernel_rfl) (by kernel_rfl) (by kernel_rfl) (by kernel_rfl) (fun _ _ _ h => h) (Or.inl ⟨by rfl, ?_⟩) hQ0 (by kernel_rfl) ?_
  rotate_left
  · intro w9 hs9
    obtain ⟨s0, s1, s2, s3⟩ := hs9
    go_simp
    try rfl
  refine wpTo.take (i := 10) (v := ?_) rfl rfl (by kernel_rfl) (by kernel_rfl) (by kernel_rfl) (by kernel_rfl) (fun _ _ _ h => h) (Or.inl ⟨by rfl, ?_⟩) hQ0 (by kernel_rfl) ?_
  rotate_left
  · intro w9 hs9
    obtain ⟨s0, s1, s2, s3⟩ := hs9
    go_simp
    try rfl
  refine wpTo.ready (rs := [2]) (by kernel_rfl) (by simp) ?_
  intro i9 hi9
  simp only [List.mem_cons, List.not_mem_nil, or_false] at hi9
  subst hi9
  refine wpOp_ofT rfl (step_openI (by rfl) ?_)
  go_simp
  go_at_call 85
  refine (HC1.out _ (Below.refl _ _).drew).mono ?_
  rintro e w3 ⟨b1, d1, rfl, ho1, hb3'⟩
  have hb3 : Below W2.heap.size W2 w3 := (Below.refl _ _).drew.trans hb3'
  have hQ3 := HS4.out w3 hb3
  refine ⟨hQ3, ?_⟩
  refine wpTo.take (i := 12) (v := ?_) rfl rfl (by kernel_rfl) (by kernel_rfl) (by kernel_rfl) (by kernel_rfl) (fun _ _ _ h => h) (Or.inl ⟨by rfl, ?_⟩) hQ3 (by kernel_rfl) ?_
  rotate_left
  · intro w9 hs9
    obtain ⟨s0, s1, s2, s3⟩ := hs9
    go_simp
    try rfl
  refine wpTo.ready (rs := [5]) (by kernel_rfl) (by simp) ?_
  intro i9 hi9
  simp only [List.mem_cons, List.not_mem_nil, or_false] at hi9
  subst hi9
  refine wpOp_ofT rfl (step_openI (by rfl) ?_)
  go_simp
  go_at_call 78
  refine (HC2.out _ hb3).mono ?_
  rintro e w4 ⟨b2, d2, rfl, ho2, hb4'⟩
  have hb4 : Below W2.heap.size W2 w4 := hb3.trans (hb4'.mono hb3.size)
  have hQ4 := HS4.out w4 hb4
  refine ⟨hQ4, ?_⟩
  refine wpTo.ready (rs := [8]) (by kernel_rfl) (by simp) ?_
  intro i9 hi9
  simp only [List.mem_cons, List.not_mem_nil, or_false] at hi9
  subst hi9
  refine wpOp_ofT rfl (step_openI (by rfl) ?_)
  go_simp
  go_at_call 79
  refine (slCloneLe _).mono ?_
  rintro e w5 ⟨rfl, hw5⟩
  rw [hw5]
  clear hw5
  refine ⟨hQ4, ?_⟩
  refine wpTo.ready (rs := [11]) (by kernel_rfl) (by simp) ?_
  intro i9 hi9
  simp only [List.mem_cons, List.not_mem_nil, or_false] at hi9
  subst hi9
  refine wpOp_ofT rfl (step_openI (by rfl) ?_)
  go_simp
  go_at_call 81
  refine (slClonePa _).mono ?_
  rintro e w6 ⟨rfl, hw6⟩
  rw [hw6]
  clear hw6
  refine ⟨hQ4, ?_⟩
  obtain ⟨ra4, rr4, rc4, hbw4⟩ := HA.out w4 hb4
  have q0 := hQ4.1
  have q2 := hQ4.2.1
  have q5 := hQ4.2.2.1
  have q7 := hQ4.2.2.2
  have f0 := frozen_of_row _ _ 0 _ _ ra4
  have f2 := frozen_of_row _ _ 2 _ _ ra4
  have f5 := frozen_of_row _ _ 5 _ _ ra4
  have f7 := frozen_of_row _ _ 7 _ _ ra4
  have HZ : Hid (((((w4.setCell ⟨w.heap.size, 0, none⟩ (.slice b1 S.length d1)).setCell ⟨w.heap.size, 2, none⟩ (.slice b2 U.length d2)).setCell ⟨w.heap.size, 5, none⟩ (.slice none 0 0)).setCell ⟨w.heap.size, 7, none⟩ (.slice none 0 0)).heap[w.heap.size]? = some (.cells #[.slice b1 S.length d1, .int .i64 wt, .slice b2 U.length d2, .int .i64 0, .int .i64 0, .slice none 0 0, .slice none 0 0, .slice none 0 0, .int .i64 rm, .slice a3 I.length c3] 37 (0, 0)) ∧ (∀ k, k ≠ w.heap.size → ((((w4.setCell ⟨w.heap.size, 0, none⟩ (.slice b1 S.length d1)).setCell ⟨w.heap.size, 2, none⟩ (.slice b2 U.length d2)).setCell ⟨w.heap.size, 5, none⟩ (.slice none 0 0)).setCell ⟨w.heap.size, 7, none⟩ (.slice none 0 0)).heap[k]? = w4.heap[k]?) ∧ Below w.heap.size w ((((w4.setCell ⟨w.heap.size, 0, none⟩ (.slice b1 S.length d1)).setCell ⟨w.heap.size, 2, none⟩ (.slice b2 U.length d2)).setCell ⟨w.heap.size, 5, none⟩ (.slice none 0 0)).setCell ⟨w.heap.size, 7, none⟩ (.slice none 0 0)) ∧ ((((w4.setCell ⟨w.heap.size, 0, none⟩ (.slice b1 S.length d1)).setCell ⟨w.heap.size, 2, none⟩ (.slice b2 U.length d2)).setCell ⟨w.heap.size, 5, none⟩ (.slice none 0 0)).setCell ⟨w.heap.size, 7, none⟩ (.slice none 0 0)).heap.size = w4.heap.size) := ⟨heap_setCell_same _ _ 7 _ _ _ (heap_setCell_same _ _ 5 _ _ _ (heap_setCell_same _ _ 2 _ _ _ (heap_setCell_same _ _ 0 _ _ _ ra4))), fun k hk => by rw [Below.heap_setCell _ _ _ _ (by simpa using hk), Below.heap_setCell _ _ _ _ (by simpa using hk), Below.heap_setCell _ _ _ _ (by simpa using hk), Below.heap_setCell _ _ _ _ (by simpa using hk)], (((hbw4.setCell (Nat.le_refl _) _).setCell (Nat.le_refl _) _).setCell (Nat.le_refl _) _).setCell (Nat.le_refl _) _, by simp⟩
  refine wpTo.ready (rs := [13]) (by kernel_rfl) (by simp) ?_
  intro i9 hi9
  simp only [List.mem_cons, List.not_mem_nil, or_false] at hi9
  subst hi9
  refine wpOp_ofT rfl (step_openI (by rfl) ?_)
  go_simp
  refine wpTo.ready (rs := [14]) (by kernel_rfl) (by simp) ?_
  intro i9 hi9
  simp only [List.mem_cons, List.not_mem_nil, or_false] at hi9
  subst hi9
  refine wpOp_ofT rfl (step_openI (by rfl) ?_)
  go_simp
  refine wpTo.ready (rs := [15]) (by kernel_rfl) (by simp) ?_
  intro i9 hi9
  simp only [List.mem_cons, List.not_mem_nil, or_false] at hi9
  subst hi9
  refine wpOp_ofT rfl (step_openI (by rfl) ?_)
  go_simp
  refine wpTo.ready (rs := [16]) (by kernel_rfl) (by simp) ?_
  intro i9 hi9
  simp only [List.mem_cons, List.not_mem_nil, or_false] at hi9
  subst hi9
  refine wpOp_ofT rfl (step_openI (by rfl) ?_)
  go_simp
  refine wpTo.ready (rs := [17]) (by kernel_rfl) (by simp) ?_
  intro i9 hi9
  simp only [List.mem_cons, List.not_mem_nil, or_false] at hi9
  subst hi9
  refine wpOp_ofT rfl (step_openI (by rfl) ?_)
  go_simp
  refine wpTo.ready (rs := [18]) (by kernel_rfl) (by simp) ?_
  intro i9 hi9
  simp only [List.mem_cons, List.not_mem_nil, or_false] at hi9
  subst hi9
  refine wpOp_ofT rfl (step_openI (by rfl) ?_)
  go_simp
  refine wpTo.ready (rs := [19]) (by kernel_rfl) (by simp) ?_
  intro i9 hi9
  simp only [List.mem_cons, List.not_mem_nil, or_false] at hi9
  subst hi9
  refine wpOp_ofT rfl (step_openI (by rfl) ?_)
  go_simp
  refine wpTo.done (by kernel_rfl) ?_ _
  refine NoPanic.normal ?_
  obtain ⟨z0, zk, zb, zs⟩ := HZ.out
  generalize ((((w4.setCell ⟨w.heap.size, 0, none⟩ (.slice b1 S.length d1)).setCell ⟨w.heap.size, 2, none⟩ (.slice b2 U.length d2)).setCell ⟨w.heap.size, 5, none⟩ (.slice none 0 0)).setCell ⟨w.heap.size, 7, none⟩ (.slice none 0 0)) = Z at *
  have M0 : CF B w cb w3.heap.size w4.heap.size (.slice b1 S.length d1) S.length (flatA SrF S) (.slice b2 U.length d2) U.length (flatA BoF U) Z #[.slice b1 S.length d1, .int .i64 wt, .slice b2 U.length d2, .int .i64 0, .int .i64 0, .slice none 0 0, .slice none 0 0, .slice none 0 0, .int .i64 rm, .slice a3 I.length c3] #[.int .i64 8589934592, .bool false, .map none, .map none] := by
    have hw3s := hb3.size
    have hw4s := hb4.size
    have hz := HZ2.out
    have hzd : W2.drew.heap.size = W2.heap.size := rfl
    refine ⟨?_, z0, (zk _ (by omega)).trans rr4, (zk _ (by omega)).trans rc4, ?_, ?_, fun g hg => ?_, fun g hg => ?_, by omega, hcl, hB, fun k hk hne => (zk k (by omega)).trans (hbw4.block k hk)⟩
    · exact zb.mono (by omega)
    · refine itLow (itKept ho1 hb4') (by omega) fun g hg => zk g ?_
      have := (ho1.lt g hg).1
      omega
    · refine itLow ho2 (by omega) fun g hg => zk g ?_
      have := (ho2.lt g hg).1
      omega
    · have := ho1.lt g hg
      omega
    · have := ho2.lt g hg
      omega
  have HM0 : Hid (type_of% M0) := M0
  clear z0 zk zb zs ho1 ho2 hb3' hb4' hb3 hb4 hQ0 hQ3 hQ4 q0 q2 q5 q7 f0 f2 f5 f7 ra4 rr4 rc4 hbw4 HZ M0 HA HS4 HC1 HC2
  obtain ⟨x0, x1, x2, x3, x4, x5, x6, x7, x8, x9⟩ := tenR_of HM0.out.arg
  go_wp2_with fail
  have hSl : S.length ≤ 1048576 := by have := HSB.out; unfold srsBulk at this; omega
  obtain ⟨g, hg⟩ : ∃ g, S.length = 0 ∨ (b1 = some ⟨g, 0, none⟩) := by
    rcases HM0.out.r1.2 with ⟨_, h0⟩ | ⟨g, cap, cur, hv, hg, hh, _⟩
    · exact ⟨0, .inl h0⟩
    · simp only [Value.slice.injEq, true_and] at hv
      exact ⟨g, .inr hv.1⟩
  have HG : Hid (type_of% hg) := hg
  clear hg
  go_loopw [5, 28] (fun o i wr => ∃ k : Nat, k ≤ S.length ∧ i = .int .i64 k ∧ wr.ownsRow Z.heap.size 160 1 o (k * 2) (ptrV g (k * 2)) ∧ Below Z.heap.size Z wr) (fun _ i _ => S.length - (intOf i).toNat)
  case atStart => exact ⟨0, Nat.zero_le _, rfl, World.ownsRow_nil _ _ _ _, Below.refl _ _⟩
  case round =>
    obtain ⟨k, hk, rfl, ho, hbe⟩ := hrel
    clear x0 x1 x2 x3 x4 x5 x6 x7 x8 x9
    have hlew := hbe.size
    obtain ⟨x0, x1, x2, x3, x4, x5, x6, x7, x8, x9⟩ := tenR_of (HM0.out.below hbe).arg
    by_cases hlt : k < S.length
    · have ha : b1 = some ⟨g, 0, none⟩ := by
        rcases HG.out with h | h
        · omega
        · exact h
      subst ha
      have HP2 : Hid (ptrV g (k * 2 + 2) = ptrV g (k * 2) ++ [.pointer (some ⟨g, k * 2, none⟩), .pointer (some ⟨g, k * 2 + 1, none⟩)]) := ptrV_two g k
      have hk0 : (0 : Int) ≤ k := by omega
      have hk1 : (k : Int) < S.length := by omega
      have HO : Hid (type_of% ho) := ho
      have HX0 : Hid (∀ X, Below wr.heap.size wr X → X.cell? ⟨w.heap.size, 0, none⟩ = some (.slice (some ⟨g, 0, none⟩) S.length d1)) := fun X hX => (hX.cell (p := ⟨w.heap.size, 0, none⟩) (by have := (HM0.out.below hbe).size; show w.heap.size < _; omega)).trans x0
      clear ho HG
      go_wp2_with fail
      go_region_held3 (fun w' => w'.cell? ⟨w.heap.size, 0, none⟩ = some (.slice (some ⟨g, 0, none⟩) S.length d1))
        (first
          | exact x0
          | exact HX0.out _ (Below.refl _ _).drew
          | exact HX0.out _ ((Below.refl _ _).alloc (Nat.le_refl _) _).drew
          | exact HX0.out _ ((Below.refl _ _).alloc (Nat.le_refl _) _)
          | (revert hx6; intro hx6; exact hx6))
        (first | (refine step_append_ownO rfl (.tmp 31) (.tmp 42) 159 rfl Z.heap.size 160 i0 (.pointer none) 1 8 Tryz.underlying159 hi hz0 hz1 hz2' rfl (by decide) _ _ _ rfl (by first | exact HO.out.alloc _ | exact (HO.out.alloc _).drew | exact itKept (HO.out.alloc _) (Below.refl _ _).drew) ⟨wr.heap.size, 0, none⟩ 2 2 [.pointer (some ⟨g, k * 2, none⟩), .pointer (some ⟨g, k * 2 + 1, none⟩)] rfl rfl (by first | exact World.news_of_block (cs := #[.pointer (some ⟨g, k * 2, none⟩), .pointer (some ⟨g, k * 2 + 1, none⟩)]) (t := 160) (fr := (0, 0)) (MapKept.heap_alloc wr _).1) (by simp [Value.oneCell']) (by unfold maxLen; omega) (by omega) (by simp; omega) ?_; intro v6 w6 o6 g6 n6; have hb6 : Below Z.heap.size Z w6 := (by first | exact (hbe.alloc hlew _).grown g6 (by simp; omega) (fun j hj => (HO.out.lt j hj).1) | exact (hbe.alloc hlew _).drew.grown g6 (by simp; omega) (fun j hj => (HO.out.lt j hj).1)); have hx6 := (tenR_of (HM0.out.below hb6).arg).1))
      all_goals
        have HR6 : Hid (w6.ownsRow Z.heap.size 160 1 v6 ((k + 1) * 2) (ptrV g ((k + 1) * 2))) := by
          rw [show (k + 1) * 2 = k * 2 + 2 from by omega, HP2.out]
          exact o6
        clear o6 g6 n6 HO HP2 HX0 hx6
        go_wp2_with fail
        go_roundw
        case rel => exact ⟨k + 1, by omega, by go_num, HR6.out, hb6⟩
        case measure => simp [intOf]; omega
    · have hke : k = S.length := by omega
      subst hke
      have M1 := HM0.out.below hbe
      obtain ⟨ap, cp, hvp⟩ := own_sliceO ho
      subst hvp
      have hpt : PtrsAt wr (.slice ap (S.length * 2) cp) (srPs g S) := by
        refine ⟨ap, cp, by rw [srPs_length], fun j hj => ?_⟩
        have hj3 : j < S.length * 2 := by rw [srPs_length] at hj; exact hj
        rcases HG.out with h0 | hga
        · omega
        · subst hga
          rcases ho.2 with ⟨_, h0⟩ | ⟨gg, cap, cur, hv, _, hh, _⟩
          · omega
          · simp only [Value.slice.injEq, true_and] at hv
            obtain ⟨rfl, rfl⟩ := hv
            refine ⟨gg, 0, rfl, ?_, ?_, ?_⟩
            · rw [Nat.zero_add, ho.cellAt j (by omega), srPs_at g S j hj]
              simp [ptrV, hj3]
            · rw [srPs_at g S j hj, M1.r1.cellAt j (by omega), srV_T, List.getElem?_map, List.getElem?_eq_getElem (by rw [srT_length]; exact hj3)]
              rfl
            · rw [srPs_at g S j hj]
              exact M1.r1.frozenAt j
      have hps := srPs_sum g S
      have hsm : (S.map srBulk).sum ≤ 1048576 := by have := HSB.out; unfold srsBulk at this; omega
      have HOT0 := implOwnTexts cb 8589934592 _ (srPs g S) wr hpt (by rw [cell_of_row _ _ 0 _ _ (0, 0) M1.cop]; rfl) (frozen_of_row _ _ 0 _ _ M1.cop) (by rw [hps]; omega) (by omega) (by rw [srPs_length]; omega)
      rw [hps] at HOT0
      obtain ⟨zz, hzz⟩ : ∃ zz : Int, zz = 8589934592 - ((S.map srBulk).sum : Nat) := ⟨_, rfl⟩
      rw [← hzz] at HOT0
      have hz1 : 4194304 ≤ zz := by omega
      have hz2 : zz ≤ 8589934592 := by omega
      have HOT : Hid (type_of% HOT0) := HOT0
      have HM1 : Hid (type_of% M1) := M1
      clear HOT0 hpt hps hsm hzz ho HG M1 hbe HM0
      go_wp2_with fail
      refine wp_loop_rounds 1 ?_
      rw [rounds_succ]
      go_wp2_with fail
      refine wp_loop_rounds 1 ?_
      rw [rounds_succ]
      go_wp2_with fail
      refine HOT.out.mono ?_
      rintro e w5 ⟨rfl, h5⟩
      have M2 : CF B w cb w3.heap.size w4.heap.size (.slice b1 S.length d1) S.length (flatA SrF S) (.slice b2 U.length d2) U.length (flatA BoF U) w5 #[.slice b1 S.length d1, .int .i64 wt, .slice b2 U.length d2, .int .i64 0, .int .i64 0, .slice none 0 0, .slice none 0 0, .slice none 0 0, .int .i64 rm, .slice a3 I.length c3] #[.int .i64 zz, .bool false, .map none, .map none] := (HM1.out.setCop 0 (.int .i64 zz) (heap_setCell_same _ cb 0 _ _ _ HM1.out.cop)).below (h5.mono (by simp))
      have HST0 := implCStore cb zz rm (.bool false) (.map none) (.map none) (.slice a3 I.length c3) I w5 (itOther HI0.out HCB.out M2.low) HIB.out M2.cop hz1 hz2
      have HST : Hid (type_of% HST0) := HST0
      have HM2 : Hid (type_of% M2) := M2
      clear x0 x1 x2 x3 x4 x5 x6 x7 x8 x9 HOT h5 HM1 HST0
      obtain ⟨x0, x1, x2, x3, x4, x5, x6, x7, x8, x9⟩ := tenR_of M2.arg
      clear M2
      go_wp2_with fail
      refine HST.out.mono ?_
      rintro e w6 ⟨b3, d3, S2, rfl, o6, hS2, h6⟩
      have M3 : CF B w cb w3.heap.size w4.heap.size (.slice b1 S.length d1) S.length (flatA SrF S) (.slice b2 U.length d2) U.length (flatA BoF U) w6 #[.slice b1 S.length d1, .int .i64 wt, .slice b2 U.length d2, .int .i64 0, .int .i64 0, .slice none 0 0, .slice none 0 0, .slice none 0 0, .int .i64 rm, .slice a3 I.length c3] #[.int .i64 (zz - (S2 : Nat)), .bool false, .map none, .map none] := (HM2.out.setCop 0 (.int .i64 (zz - (S2 : Nat))) (heap_setCell_same _ cb 0 _ _ _ HM2.out.cop)).below (h6.mono (by simp))
      have hw5 := HM2.out.size
      have hm5 := HM2.out.sz
      have HO6 : Hid (type_of% o6) := o6
      have HM3 : Hid (type_of% M3) := M3
      clear x0 x1 x2 x3 x4 x5 x6 x7 x8 x9 HST h6 o6
      obtain ⟨x0, x1, x2, x3, x4, x5, x6, x7, x8, x9⟩ := tenR_of M3.arg
      have f6 := frozen_of_row _ _ 6 _ _ M3.arg
      have f8 := frozen_of_row _ _ 8 _ _ M3.arg
      have f9 := frozen_of_row _ _ 9 _ _ M3.arg
      have M4 : CF B w cb w3.heap.size w4.heap.size (.slice b1 S.length d1) S.length (flatA SrF S) (.slice b2 U.length d2) U.length (flatA BoF U) ((w6.setCell ⟨w.heap.size, 8, none⟩ (.int .i64 rm)).setCell ⟨w.heap.size, 9, none⟩ (.slice b3 I.length d3)) #[.slice b1 S.length d1, .int .i64 wt, .slice b2 U.length d2, .int .i64 0, .int .i64 0, .slice none 0 0, .slice none 0 0, .slice none 0 0, .int .i64 rm, .slice b3 I.length d3] #[.int .i64 (zz - (S2 : Nat)), .bool false, .map none, .map none] := (M3.setArg (A' := #[.slice b1 S.length d1, .int .i64 wt, .slice b2 U.length d2, .int .i64 0, .int .i64 0, .slice none 0 0, .slice none 0 0, .slice none 0 0, .int .i64 rm, .slice a3 I.length c3]) 8 (.int .i64 rm) (heap_setCell_same _ _ 8 _ _ _ M3.arg)).setArg 9 (.slice b3 I.length d3) (heap_setCell_same _ _ 9 _ _ _ (heap_setCell_same _ _ 8 _ _ _ M3.arg))
      have HO7 : Hid (((w6.setCell ⟨w.heap.size, 8, none⟩ (.int .i64 rm)).setCell ⟨w.heap.size, 9, none⟩ (.slice b3 I.length d3)).ownsRow w5.heap.size 83 3 (.slice b3 I.length d3) I.length (itV I)) := itLow HO6.out (Nat.le_refl _) fun gg hgg => by
        have := (HO6.out.lt gg hgg).1
        rw [Below.heap_setCell _ _ _ _ (by simp; omega), Below.heap_setCell _ _ _ _ (by simp; omega)]
      have HM4 : Hid (type_of% M4) := M4
      clear M3 M4
      go_wp2_with fail
      generalize ((w6.setCell ⟨w.heap.size, 8, none⟩ (.int .i64 rm)).setCell ⟨w.heap.size, 9, none⟩ (.slice b3 I.length d3)) = w7 at *
      clear x0 x1 x2 x3 x4 x5 x6 x7 x8 x9 f6 f8 f9 HM3
      refine (implResults0 cb (zz - (S2 : Nat)) (.map none) (.map none) w7 HM4.out.cop (by omega) (by omega)).mono ?_
      rintro e w8 ⟨rfl, h8⟩
      have M5 := HM4.out.below h8
      have HO8 : Hid (type_of% (itKept HO7.out h8)) := itKept HO7.out h8
      have M6 : CF B w cb w3.heap.size w4.heap.size (.slice b1 S.length d1) S.length (flatA SrF S) (.slice b2 U.length d2) U.length (flatA BoF U) (w8.setCell ⟨w.heap.size, 6, none⟩ (.slice none 0 0)) #[.slice b1 S.length d1, .int .i64 wt, .slice b2 U.length d2, .int .i64 0, .int .i64 0, .slice none 0 0, .slice none 0 0, .slice none 0 0, .int .i64 rm, .slice b3 I.length d3] #[.int .i64 (zz - (S2 : Nat)), .bool false, .map none, .map none] := M5.setArg 6 (.slice none 0 0) (heap_setCell_same _ _ 6 _ _ _ M5.arg)
      have x6 := (tenR_of M5.arg).2.2.2.2.2.2.1
      have f6 := frozen_of_row _ _ 6 _ _ M5.arg
      have HSELF := setCell_self x6
      have HM6 : Hid (type_of% M5) := M5
      clear M5 M6 h8 HM4 HO7
      obtain ⟨x0, x1, x2, x3, x4, x5, _, x7, x8, x9⟩ := tenR_of HM6.out.arg
      obtain ⟨t0, t1, t2, t3, t4, t5, t6, t7, t8, t9⟩ := tenR_of HM6.out.res
      have g0 := frozen_of_row _ _ 0 _ _ HM6.out.res
      have g1 := frozen_of_row _ _ 1 _ _ HM6.out.res
      have g2 := frozen_of_row _ _ 2 _ _ HM6.out.res
      have g3 := frozen_of_row _ _ 3 _ _ HM6.out.res
      have g4 := frozen_of_row _ _ 4 _ _ HM6.out.res
      have g5 := frozen_of_row _ _ 5 _ _ HM6.out.res
      have g6 := frozen_of_row _ _ 6 _ _ HM6.out.res
      have g7 := frozen_of_row _ _ 7 _ _ HM6.out.res
      have g8 := frozen_of_row _ _ 8 _ _ HM6.out.res
      have g9 := frozen_of_row _ _ 9 _ _ HM6.out.res
      go_wp2_with fail
      have HP : ∀ k, k ≠ w.heap.size + 1 → (put10 w8 (w.heap.size + 1) (.slice b1 S.length d1) (.int .i64 wt) (.slice b2 U.length d2) (.int .i64 0) (.int .i64 0) (.slice none 0 0) (.slice none 0 0) (.slice none 0 0) (.int .i64 rm) (.slice b3 I.length d3)).heap[k]? = w8.heap[k]? := fun k hk => by
        unfold put10
        rw [Below.heap_setCell _ _ _ _ (by simpa using hk), Below.heap_setCell _ _ _ _ (by simpa using hk), Below.heap_setCell _ _ _ _ (by simpa using hk), Below.heap_setCell _ _ _ _ (by simpa using hk), Below.heap_setCell _ _ _ _ (by simpa using hk), Below.heap_setCell _ _ _ _ (by simpa using hk), Below.heap_setCell _ _ _ _ (by simpa using hk), Below.heap_setCell _ _ _ _ (by simpa using hk), Below.heap_setCell _ _ _ _ (by simpa using hk), Below.heap_setCell _ _ _ _ (by simpa using hk)]
      have hbw : B ≤ w.heap.size + 1 := by omega
      have HBE : Below B w (put10 w8 (w.heap.size + 1) (.slice b1 S.length d1) (.int .i64 wt) (.slice b2 U.length d2) (.int .i64 0) (.int .i64 0) (.slice none 0 0) (.slice none 0 0) (.slice none 0 0) (.int .i64 rm) (.slice b3 I.length d3)) := by
        unfold put10
        exact (((((((((HM6.out.bel.setCell hbw _).setCell hbw _).setCell hbw _).setCell hbw _).setCell hbw _).setCell hbw _).setCell hbw _).setCell hbw _).setCell hbw _).setCell hbw _
      refine ret_cFarm (b := w.heap.size + 1) rfl (put10R HM6.out.res) ⟨b1, b2, b3, d1, d2, d3, w3.heap.size, w4.heap.size, rfl, ?_, ?_, ?_, ⟨fun g hg => (HM6.out.e1 g hg).2, fun g hg => (HM6.out.e2 g hg).2, fun g hg => ?_⟩, HBE⟩
      · exact itLow HM6.out.r1 (Nat.le_refl _) fun g hg => HP g (by have := (HM6.out.e1 g hg).1; omega)
      · exact itLow HM6.out.r2 (Nat.le_refl _) fun g hg => HP g (by have := (HM6.out.e2 g hg).1; omega)
      · exact itLow HO8.out (by omega) fun g hg => HP g (by have := (HO8.out.lt g hg).1; omega)
      · have := (HO8.out.lt g hg).1
        omega

end Go.Proofs.YtllbfbllkefjeaaGreatDoor
