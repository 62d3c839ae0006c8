/-
  The walk of spec.l03Add: an ascending list of types with one more, where it is not there.
-/
import Derived.Test.YtjihkebafoajdaaGreatDoorUnP
import Derived.Test.YtjihkebafoajdaaGreatDoorCopyS
import Derived.Test.YtjihkebafoajdaaGreatDoorTextT
import Derived.Test.YtjihkebafoajdaaGreatDoorTyR
import Derived.Test.YtjihkebafoajdaaGreatDoorStepA
namespace Go.Proofs.YtjihkebafoajdaaGreatDoor
open Go.RowKit

theorem flatK_app {A C : List Ty} {la lc : List Lay} (h : la.length = A.length) : flatK (A ++ C) (la ++ lc) = flatK A la ++ flatK C lc := by
  induction A generalizing la with
  | nil =>
    obtain rfl : la = [] := List.eq_nil_of_length_eq_zero (by simpa using h)
    rfl
  | cons a r ih =>
    cases la with
    | nil => simp at h
    | cons l q =>
      show cellsK a l ++ flatK (r ++ C) (q ++ lc) = (cellsK a l ++ flatK r q) ++ flatK C lc
      rw [ih (by simpa using h), List.append_assoc]
/-- types in a row of their own, in their order -/
structure KidsS (w : World) (B n g cap : Nat) (S : List Ty) (ls : List Lay) : Prop where
  len : ls.length = S.length
  own : w.ownsRow B 27 4 (.slice (some ⟨g, 0, none⟩) S.length cap) S.length (flatK S ls)
  lay : ∀ j (h1 : j < ls.length) (h2 : j < S.length), LayAt w n ls[j] S[j] ∧ ∀ b ∈ Lay.blocks n ls[j], B ≤ b
theorem KidsS.below {w w' : World} {B n g cap : Nat} {S : List Ty} {ls : List Lay} (h : KidsS w B n g cap S ls) (hb : Below w.heap.size w w') : KidsS w' B n g cap S ls :=
  ⟨h.len, kept_belowT h.own hb, fun j h1 h2 => ⟨(h.lay j h1 h2).1.below hb, (h.lay j h1 h2).2⟩⟩
theorem KidsS.cell {w : World} {B n g cap : Nat} {S : List Ty} {ls : List Lay} (h : KidsS w B n g cap S ls) (j : Nat) (h1 : j < ls.length) (h2 : j < S.length) (c : Nat) (hc : c < 4) : w.cell? ⟨g, j * 4 + c, none⟩ = (cellsK S[j] ls[j])[c]? := by
  rw [h.own.cellAt (j * 4 + c) (by omega), flatK_get S ls j c h2 h1 hc]
theorem flat_oneK {w : World} {n : Nat} {S : List Ty} {ls : List Lay} (hl : ls.length = S.length) (h : ∀ j (h1 : j < ls.length) (h2 : j < S.length), LayAt w n ls[j] S[j]) : ∀ u ∈ flatK S ls, u.oneCell' = true := by
  induction S generalizing ls with
  | nil =>
    obtain rfl : ls = [] := List.eq_nil_of_length_eq_zero (by simpa using hl)
    intro u hu
    simp [flatK] at hu
  | cons a r ih =>
    cases ls with
    | nil => simp at hl
    | cons l q =>
      intro u hu
      rcases List.mem_append.1 (show u ∈ cellsK a l ++ flatK r q from hu) with hu | hu
      · have h0 := h 0 (by simp) (by simp)
        cases n with
        | zero => exact h0.elim
        | succ n =>
          obtain ⟨a1, c1, e1⟩ := OwnS.slice h0.1
          obtain ⟨a2, c2, e2⟩ := OwnS.slice h0.2.2.1
          simp only [List.getElem_cons_zero] at e1 e2
          simp only [cellsK, e1, e2, List.mem_cons, List.not_mem_nil, or_false] at hu
          rcases hu with rfl | rfl | rfl | rfl <;> rfl
      · exact ih (by simpa using hl) (fun j h1 h2 => by
          have := h (j + 1) (by simpa using h1) (by simpa using h2)
          simpa using this) u hu
theorem KidsS.one {w : World} {B n g cap : Nat} {S : List Ty} {ls : List Lay} (h : KidsS w B n g cap S ls) (k : Nat) : (∀ u ∈ flatK (S.take k) (ls.take k), u.oneCell' = true) ∧ (∀ u ∈ flatK (S.drop k) (ls.drop k), u.oneCell' = true) := by
  refine ⟨flat_oneK (w := w) (n := n) (by rw [List.length_take, List.length_take, h.len]) fun j h1 h2 => ?_, flat_oneK (w := w) (n := n) (by rw [List.length_drop, List.length_drop, h.len]) fun j h1 h2 => ?_⟩
  · rw [List.length_take] at h1 h2
    rw [List.getElem_take, List.getElem_take]
    exact (h.lay j (by omega) (by omega)).1
  · rw [List.length_drop] at h1 h2
    rw [List.getElem_drop, List.getElem_drop]
    exact (h.lay (k + j) (by omega) (by omega)).1
theorem KidsS.split {w : World} {B n g cap : Nat} {S : List Ty} {ls : List Lay} (h : KidsS w B n g cap S ls) (k : Nat) : flatK S ls = flatK (S.take k) (ls.take k) ++ flatK (S.drop k) (ls.drop k) := by
  rw [← flatK_app (by rw [List.length_take, List.length_take, h.len]), List.take_append_drop, List.take_append_drop]
theorem KidsS.lens {w : World} {B n g cap : Nat} {S : List Ty} {ls : List Lay} (h : KidsS w B n g cap S ls) (k : Nat) (hk : k ≤ S.length) : (flatK (S.take k) (ls.take k)).length = k * 4 ∧ (flatK (S.drop k) (ls.drop k)).length = (S.length - k) * 4 := by
  have hl := h.len
  refine ⟨?_, ?_⟩
  · rw [flatK_len _ _ (by rw [List.length_take, List.length_take, hl]), List.length_take]; omega
  · rw [flatK_len _ _ (by rw [List.length_drop, List.length_drop, hl]), List.length_drop]
theorem KidsS.front {w : World} {B n g cap : Nat} {S : List Ty} {ls : List Lay} (h : KidsS w B n g cap S ls) (k : Nat) (hk : k ≤ S.length) {X : World} (hX : Below w.heap.size w X) : ∀ j u, (flatK (S.take k) (ls.take k))[j]? = some u → X.cell? ((⟨g, 0, none⟩ : Addr).add j) = some u := fun j u hu => by
  obtain ⟨l1, l2⟩ := h.lens k hk
  have hj : j < k * 4 := by rw [← l1]; exact (List.getElem?_eq_some_iff.1 hu).1
  have ho := kept_belowT h.own hX
  have hadd : (⟨g, 0, none⟩ : Addr).add j = ⟨g, j, none⟩ := by unfold Addr.add; split <;> simp_all
  rw [hadd, ho.cellAt j (by omega), h.split k, List.getElem?_append_left (by omega), hu]
theorem KidsS.back {w : World} {B n g cap : Nat} {S : List Ty} {ls : List Lay} (h : KidsS w B n g cap S ls) (k : Nat) (hk : k ≤ S.length) {X : World} (hX : Below w.heap.size w X) : ∀ j u, (flatK (S.drop k) (ls.drop k))[j]? = some u → X.cell? ((⟨g, k * 4, none⟩ : Addr).add j) = some u := fun j u hu => by
  obtain ⟨l1, l2⟩ := h.lens k hk
  have hj : j < (S.length - k) * 4 := by rw [← l2]; exact (List.getElem?_eq_some_iff.1 hu).1
  have ho := kept_belowT h.own hX
  have hadd : (⟨g, k * 4, none⟩ : Addr).add j = ⟨g, k * 4 + j, none⟩ := by unfold Addr.add; split <;> simp_all
  rw [hadd, ho.cellAt (k * 4 + j) (by omega), h.split k, List.getElem?_append_right (by omega), l1, Nat.add_sub_cancel_left, hu]
theorem own_empty4 {X : World} {B G : Nat} {e : TypeId} (h : X.heap[G]? = some (.cells #[] e (0, 0))) (hB : B ≤ G) : X.ownsRow B e 4 (.slice (some ⟨G, 0, none⟩) 0 0) 0 [] := ⟨rfl, .inr ⟨G, 0, #[], rfl, hB, h, Nat.le_refl _, Nat.zero_le _, rfl, rfl⟩⟩

/-- one more between -/
theorem put_mem {S : List Ty} {t x : Ty} (k : Nat) : x ∈ S.take k ++ ([t] ++ S.drop k) ↔ x = t ∨ x ∈ S := by
  conv => rhs; rw [← List.take_append_drop k S]
  simp only [List.mem_append, List.mem_singleton]
  constructor
  · rintro (h | h | h)
    · exact .inr (.inl h)
    · exact .inl h
    · exact .inr (.inr h)
  · rintro (h | h | h)
    · exact .inr (.inl h)
    · exact .inl h
    · exact .inr (.inr h)
theorem put_asc {f : Ty → ByteArray} {S : List Ty} {t : Ty} (k : Nat) (hS : S.Pairwise fun a b => lessB (f a) (f b)) (h1 : ∀ j (hj : j < S.length), j < k → lessB (f S[j]) (f t)) (h2 : ∀ (hk : k < S.length), lessB (f t) (f S[k])) : (S.take k ++ ([t] ++ S.drop k)).Pairwise fun a b => lessB (f a) (f b) := by
  have hP := hS
  rw [← List.take_append_drop k S, List.pairwise_append] at hP
  obtain ⟨p1, p2, p3⟩ := hP
  have ht : ∀ b ∈ S.drop k, lessB (f t) (f b) := fun b hb => by
    obtain ⟨j, hj, rfl⟩ := List.getElem_of_mem hb
    rw [List.length_drop] at hj
    rw [List.getElem_drop]
    have h0 := h2 (by omega)
    by_cases c : j = 0
    · subst c; exact h0
    · exact List.lt_trans h0 (List.pairwise_iff_getElem.1 hS k (k + j) (by omega) (by omega) (by omega))
  refine List.pairwise_append.2 ⟨p1, List.pairwise_append.2 ⟨by simp, p2, fun a ha b hb => ?_⟩, fun a ha b hb => ?_⟩
  · simp only [List.mem_singleton] at ha
    subst ha
    exact ht b hb
  · rcases List.mem_append.1 hb with hb | hb
    · simp only [List.mem_singleton] at hb
      subst hb
      obtain ⟨j, hj, rfl⟩ := List.getElem_of_mem ha
      rw [List.length_take] at hj
      rw [List.getElem_take]
      exact h1 j (by omega) (by omega)
    · exact p3 a ha b hb
/-- the row with one more between -/
theorem KidsS.put {w W0 w1 wc w2 w3 : World} {B n g cap k g2 : Nat} {S : List Ty} {ls : List Lay} {t : Ty} {l : Lay} {v1 v3 : Value} {o : Obj} {X1 : List Value} (h : KidsS w B n g cap S ls) (hk : k ≤ S.length) (hB : B ≤ w.heap.size) (hW : Below w.heap.size w W0)
    (hb1 : Below W0.heap.size W0 w1) (o1 : w1.ownsRow W0.heap.size 27 4 v1 (0 + k) X1) (hbc : Below w1.heap.size w1 wc) (hl : NewLay w1.heap.size wc n l t) (gr2 : (wc.alloc o).grownBy w2 v1.ownBlock) (hat : v1.ownBlock = some g2 ∨ g2 = wc.heap.size + 1)
    (gr3 : w2.grownBy w3 (some g2)) (hb4 : Below W0.heap.size W0 w3)
    (o3 : w3.ownsRow W0.heap.size 27 4 v3 (0 + k + 1 + (S.length - k)) ([] ++ flatK (S.take k) (ls.take k) ++ cellsK t l ++ flatK (S.drop k) (ls.drop k))) :
    ∃ g' cap', v3 = .slice (some ⟨g', 0, none⟩) (S.take k ++ ([t] ++ S.drop k)).length cap' ∧ KidsS w3 B n g' cap' (S.take k ++ ([t] ++ S.drop k)) (ls.take k ++ ([l] ++ ls.drop k)) := by
  have hlen := h.len
  have e1 : 0 + k + 1 + (S.length - k) = (S.take k ++ ([t] ++ S.drop k)).length := by simp; omega
  have e2 : [] ++ flatK (S.take k) (ls.take k) ++ cellsK t l ++ flatK (S.drop k) (ls.drop k) = flatK (S.take k ++ ([t] ++ S.drop k)) (ls.take k ++ ([l] ++ ls.drop k)) := by
    rw [flatK_app (by rw [List.length_take, List.length_take, hlen])]
    show _ = _ ++ (cellsK t l ++ flatK (S.drop k) (ls.drop k))
    simp
  rw [e1, e2] at o3
  have hzW : w.heap.size ≤ W0.heap.size := hW.size
  have hz1 := hb1.size
  have hz2 := hbc.size
  have hw3 : Below w.heap.size w w3 := hW.trans (hb4.mono hzW)
  have hnew : LayAt w3 n l t := hl.1.same fun b hb => by
    have b1 := hl.2.2 b hb
    have b2 := hl.1.lt hb
    have q1 : w2.heap[b]? = wc.heap[b]? := (gr2.block b (by simp; omega) fun e => by have := (o1.lt b e.symm).2; omega).trans ((MapKept.heap_alloc wc o).2 b b2)
    have q2 : w3.heap[b]? = w2.heap[b]? := gr3.block b (by have := gr2.size; simp at this; omega) fun e => by
      simp only [Option.some.injEq] at e
      rcases hat with e3 | e3
      · have := (o1.lt g2 e3).2; omega
      · omega
    exact q2.trans q1
  rcases o3.2 with ⟨_, h0⟩ | ⟨g', cap', cur, hv, q1, q2, q3⟩
  · simp at h0
  · refine ⟨g', cap', hv, ⟨by simp [hlen], ⟨o3.1, .inr ⟨g', cap', cur, rfl, by omega, q2, q3⟩⟩, fun j h1 h2 => ?_⟩⟩
    by_cases c1 : j < k
    · rw [List.getElem_append_left (by rw [List.length_take]; omega), List.getElem_append_left (by rw [List.length_take]; omega), List.getElem_take, List.getElem_take]
      have := h.lay j (by omega) (by omega)
      exact ⟨this.1.below hw3, this.2⟩
    · have hk1 : (ls.take k).length = k := by rw [List.length_take]; omega
      have hk2 : (S.take k).length = k := by rw [List.length_take]; omega
      have hj9 : j < k + (1 + (S.length - k)) := by simp at h2; omega
      by_cases c2 : j = k
      · subst c2
        have x1 : (ls.take j ++ ([l] ++ ls.drop j))[j] = l := by rw [List.getElem_append_right (by omega)]; simp [hk1]
        have x2 : (S.take j ++ ([t] ++ S.drop j))[j] = t := by rw [List.getElem_append_right (by omega)]; simp [hk2]
        rw [x1, x2]
        exact ⟨hnew, fun b hb => by have := hl.2.2 b hb; omega⟩
      · obtain ⟨i, rfl⟩ : ∃ i, j = k + 1 + i := ⟨j - k - 1, by omega⟩
        have hi : k + i < S.length := by omega
        have x1 : (ls.take k ++ ([l] ++ ls.drop k))[k + 1 + i] = ls[k + i]'(by omega) := by
          rw [List.getElem_append_right (by omega), List.getElem_append_right (by simp [hk1]; omega)]
          rw [List.getElem_drop]
          congr 1
          simp [hk1]; omega
        have x2 : (S.take k ++ ([t] ++ S.drop k))[k + 1 + i] = S[k + i] := by
          rw [List.getElem_append_right (by omega), List.getElem_append_right (by simp [hk2]; omega)]
          rw [List.getElem_drop]
          congr 1
          simp [hk2]; omega
        rw [x1, x2]
        have := h.lay (k + i) (by omega) hi
        exact ⟨this.1.below hw3, this.2⟩

set_option maxHeartbeats 6400000 in
set_option maxRecDepth 100000 in
theorem specAdd (B n g cap : Nat) (S : List Ty) (ls : List Lay) (cs : List Value) (t : Ty) (w : World) (hKS : KidsS w B n g cap S ls) (hBw : B ≤ w.heap.size) (hcap : S.length ≤ cap) (hcs : TyAt w n cs t) (hr : Right n t 12) (hbt : Ty.bulk n t ≤ 274877906944) (hS : S.Pairwise fun a b => lessB (Ty.text n a) (Ty.text n b)) (hR : ∀ s ∈ S, Right n s 12 ∧ Ty.sized n s ∧ Ty.bulk n s ≤ 274877906944) (hl : S.length ≤ 274877906945) :
    Calls Tryz.prog 19 #[.slice (some ⟨g, 0, none⟩) S.length cap, .agg cs.toArray] w fun e w' => ∃ g' cap' S' ls', e = .returned (.slice (some ⟨g', 0, none⟩) S'.length cap') ∧ KidsS w' B n g' cap' S' ls' ∧ (∀ x, x ∈ S' ↔ x = t ∨ x ∈ S) ∧ (S'.Pairwise fun a b => lessB (Ty.text n a) (Ty.text n b)) ∧ Below w.heap.size w w' := by
  obtain ⟨i0, hi, hz0, hz1, hz2⟩ := info_parts Tryz.infoTypeC
  have hlen := hKS.len
  have HT0 : Hid (∀ wx : World, Below w.heap.size w wx → Calls Tryz.prog 38 #[.agg cs.toArray] wx fun e w' => e = .returned (.string (Ty.text n t)) ∧ Below wx.heap.size wx w') := fun wx hx => specText n cs t wx (hcs.below hx) hr.fine hbt
  have HCP0 : Hid (∀ wx : World, Below w.heap.size w wx → Calls Tryz.prog 30 #[.agg cs.toArray] wx fun e w' => ∃ (an : Option Addr) (ln cn : Nat) (ak : Option Addr) (lk ck : Nat), e = .returned (.agg #[.int .i64 t.kind, .string t.name, .slice an ln cn, .slice ak lk ck]) ∧ (∃ l, cellsK t l = [.int .i64 t.kind, .string t.name, .slice an ln cn, .slice ak lk ck] ∧ NewLay wx.heap.size w' n l t) ∧ Below wx.heap.size wx w') := fun wx hx => (specCopy n).told cs t wx (hcs.below hx) hbt
  obtain ⟨an2, ln2, cn2, ak2, lk2, ck2, hsh⟩ := hcs.shape
  subst hsh
  have HEL : Hid (∀ k (hk : k < S.length), ∃ an ln cn ak lk ck, (∀ wx : World, Below w.heap.size w wx → wx.cell? ⟨g, k * 4, none⟩ = some (.int .i64 S[k].kind) ∧ wx.cell? ⟨g, k * 4 + 1, none⟩ = some (.string S[k].name) ∧ wx.cell? ⟨g, k * 4 + 2, none⟩ = some (.slice an ln cn) ∧ wx.cell? ⟨g, k * 4 + 3, none⟩ = some (.slice ak lk ck)) ∧ ∀ wx : World, Below w.heap.size w wx → Calls Tryz.prog 38 #[.agg #[.int .i64 S[k].kind, .string S[k].name, .slice an ln cn, .slice ak lk ck]] wx fun e w' => e = .returned (.string (Ty.text n S[k])) ∧ Below wx.heap.size wx w') := fun k hk => by
    obtain ⟨r1, r2, r3⟩ := hR _ (List.getElem_mem hk)
    have hta := (hKS.lay k (by omega) hk).1.at r2
    obtain ⟨an, ln, cn, ak, lk, ck, e⟩ := hta.shape
    refine ⟨an, ln, cn, ak, lk, ck, fun wx hx => ?_, fun wx hx => ?_⟩
    · have hK := hKS.below hx
      have c0 := hK.cell k (by omega) hk 0 (by omega)
      have c1 := hK.cell k (by omega) hk 1 (by omega)
      have c2 := hK.cell k (by omega) hk 2 (by omega)
      have c3 := hK.cell k (by omega) hk 3 (by omega)
      rw [e] at c0 c1 c2 c3
      exact ⟨c0, c1, c2, c3⟩
    · have := specText n _ S[k] wx (hta.below hx) r1.fine r3
      rw [e] at this
      exact this
  have HRT : Hid (type_of% hR) := hR
  have HR : Hid (type_of% hr) := hr
  have HS : Hid (type_of% hS) := hS
  have HKS : Hid (type_of% hKS) := hKS
  obtain ⟨s, hs⟩ : ∃ s, s = Ty.text n t := ⟨_, rfl⟩
  rw [← hs] at HT0
  have HSE : Hid (s = Ty.text n t) := hs
  clear hKS hcs hr hbt hS hR hs
  have hb0 : Below w.heap.size w (w.alloc (.cells #[.int .i64 t.kind, .string t.name, .slice an2 ln2 cn2, .slice ak2 lk2 ck2] 27)) := (Below.refl _ _).alloc (Nat.le_refl _) _
  have HT1 : Hid (type_of% (HT0.out _ hb0)) := HT0.out _ hb0
  clear HT0 hb0
  go_enter Tryz.func19, Tryz.ntmps19
  go_wp2_with fail
  refine HT1.out.mono ?_
  rintro e wa ⟨rfl, hba⟩
  have hba' : Below (w.heap.size + 1) (w.alloc (.cells #[.int .i64 t.kind, .string t.name, .slice an2 ln2 cn2, .slice ak2 lk2 ck2] 27)) wa := by simpa using hba
  clear HT1 hba
  go_wp2_with fail
  go_loopw [6] (fun i wr => ∃ k : Nat, k ≤ S.length ∧ i = .int .i64 k ∧ (∀ j (hj : j < S.length), j < k → lessB (Ty.text n S[j]) s) ∧ Below (w.heap.size + 1) (w.alloc (.cells #[.int .i64 t.kind, .string t.name, .slice an2 ln2 cn2, .slice ak2 lk2 ck2] 27)) wr) (fun i _ => S.length - (intOf i).toNat)
  case atStart => exact ⟨0, Nat.zero_le _, rfl, fun j _ h => absurd h (by omega), hba'⟩
  case round =>
    obtain ⟨wo, rfl⟩ : ∃ wo, wo = wr := ⟨_, rfl⟩
    obtain ⟨k, hk, rfl, hall, hbe⟩ := hrel
    have HALL : Hid (type_of% hall) := hall
    have hbw := (boxedR hbe).2.1
    clear hall hba'
    by_cases hlt : k < S.length
    · obtain ⟨an, ln, cn, ak, lk, ck, hcell, htx⟩ := HEL.out k hlt
      obtain ⟨C0, C1, C2, C3⟩ := hcell wo hbw
      have HCE : Hid (type_of% hcell) := hcell
      have HTX : Hid (type_of% htx) := htx
      have HTX1 : Hid (type_of% (htx wo hbw)) := htx wo hbw
      have hk0 : (0 : Int) ≤ (k : Int) := by omega
      have hk1 : (k : Int) < (S.length : Int) := by omega
      clear hcell htx
      by_cases hb : lessB (Ty.text n S[k]) s
      · have hb1 : Op.bytesLess (Ty.text n S[k]).toList s.toList = true := by rw [bytesLess_eq, Lib.toList_data, Lib.toList_data]; exact decide_eq_true hb
        have HB2 : Hid (∀ j (hj : j < S.length), j < k + 1 → lessB (Ty.text n S[j]) s) := fun j hj hjk => by
          by_cases c : j = k
          · subst c; exact hb
          · exact HALL.out j hj (by omega)
        clear hb HALL HEL HCE HTX HKS HS HRT HR HCP0 HSE
        generalize Ty.text n S[k] = x at *
        generalize S[k].kind = kd at *
        generalize S[k].name = nm at *
        go_wp2_with fail
        refine HTX1.out.mono ?_
        rintro e w2 ⟨rfl, hb2⟩
        have hbe2 := hbe.trans (hb2.mono (by have := hbe.size; simpa using this))
        clear HTX1 hb2
        go_wp2_with fail
        go_roundw
        case rel => exact ⟨k + 1, by omega, by go_num, HB2.out, hbe2⟩
        case measure => simp [intOf]; omega
      · have hb1 : Op.bytesLess (Ty.text n S[k]).toList s.toList = false := by rw [bytesLess_eq, Lib.toList_data, Lib.toList_data]; exact decide_eq_false hb
        by_cases hs : Ty.text n S[k] = s
        · have HM : Hid (t ∈ S) := by
            have e := text_one (HRT.out _ (List.getElem_mem hlt)).1 HR.out (hs.trans HSE.out)
            rw [← e]
            exact List.getElem_mem hlt
          rw [hs] at hb1 HTX1 HTX
          clear hb HALL HEL HRT HR HCP0 HSE hs
          generalize S[k].kind = kd at *
          generalize S[k].name = nm at *
          go_wp2_with fail
          refine HTX1.out.mono ?_
          rintro e w2 ⟨rfl, hb2⟩
          have hbe2 := hbe.trans (hb2.mono (by have := hbe.size; simpa using this))
          have hbw2 := (boxedR hbe2).2.1
          obtain ⟨D0, D1, D2, D3⟩ := HCE.out w2 hbw2
          have HTX2 : Hid (type_of% (HTX.out w2 hbw2)) := HTX.out w2 hbw2
          clear HTX1 HTX HCE hb2 C0 C1 C2 C3
          go_wp2_with fail
          refine HTX2.out.mono ?_
          rintro e w3 ⟨rfl, hb3⟩
          have hbw3 : Below w.heap.size w w3 := hbw2.trans (hb3.mono hbw2.size)
          clear HTX2 hb3 D0 D1 D2 D3
          go_wp2_with fail
          go_ret
          exact ⟨g, cap, S, ls, rfl, HKS.out.below hbw3, fun x => ⟨fun h => .inr h, fun h => h.elim (fun e => e ▸ HM.out) id⟩, HS.out, hbw3⟩
        · have HP : Hid ((S.take k ++ ([t] ++ S.drop k)).Pairwise fun a b => lessB (Ty.text n a) (Ty.text n b)) := put_asc k HS.out (fun j hj hjk => by rw [← HSE.out]; exact HALL.out j hj hjk) fun _ => by
            rw [← HSE.out]
            exact Classical.byContradiction fun q => hs (bt_inj (List.le_antisymm (List.not_lt.1 q) (List.not_lt.1 hb)))
          have hne : ((Ty.text n S[k]).toList == s.toList) = false := by
            rw [beq_eq_false_iff_ne]
            intro e
            rw [Lib.toList_data, Lib.toList_data] at e
            exact hs (bt_inj e)
          clear hb HALL HEL HRT HR HSE hs HS
          generalize Ty.text n S[k] = x at *
          generalize S[k].kind = kd at *
          generalize S[k].name = nm at *
          go_wp2_with fail
          refine HTX1.out.mono ?_
          rintro e w2 ⟨rfl, hb2⟩
          have hbe2 := hbe.trans (hb2.mono (by have := hbe.size; simpa using this))
          have hbw2 := (boxedR hbe2).2.1
          obtain ⟨D0, D1, D2, D3⟩ := HCE.out w2 hbw2
          have HTX2 : Hid (type_of% (HTX.out w2 hbw2)) := HTX.out w2 hbw2
          clear HTX1 HTX HCE hb2 C0 C1 C2 C3
          go_wp2_with fail
          refine HTX2.out.mono ?_
          rintro e W0 ⟨rfl, hb3⟩
          have hbe3 := hbe2.trans (hb3.mono (by have := hbe2.size; simpa using this))
          clear HTX2 hb3 D0 D1 D2 D3 hbe2 hbw2 hbe hbw
          go_wp2_with fail
          obtain ⟨_, hbw0, hzw0⟩ := boxedR hbe3
          have HBX : Hid (∀ wx : World, Below W0.heap.size W0 wx → wx.cell? ⟨w.heap.size, 0, none⟩ = some (.int .i64 t.kind) ∧ wx.cell? ⟨w.heap.size, 1, none⟩ = some (.string t.name) ∧ wx.cell? ⟨w.heap.size, 2, none⟩ = some (.slice an2 ln2 cn2) ∧ wx.cell? ⟨w.heap.size, 3, none⟩ = some (.slice ak2 lk2 ck2)) := fun wx hx => (boxedR (hbe3.trans (hx.mono hzw0))).1
          have HCP : Hid (∀ wx : World, Below W0.heap.size W0 wx → Calls Tryz.prog 30 #[.agg #[.int .i64 t.kind, .string t.name, .slice an2 ln2 cn2, .slice ak2 lk2 ck2]] wx fun e w' => ∃ (an : Option Addr) (ln cn : Nat) (ak : Option Addr) (lk ck : Nat), e = .returned (.agg #[.int .i64 t.kind, .string t.name, .slice an ln cn, .slice ak lk ck]) ∧ (∃ l, cellsK t l = [.int .i64 t.kind, .string t.name, .slice an ln cn, .slice ak lk ck] ∧ NewLay wx.heap.size w' n l t) ∧ Below wx.heap.size wx w') := fun wx hx => HCP0.out wx (hbw0.trans (hx.mono hbw0.size))
          have C1 : Hid (∀ X : World, Below W0.heap.size W0 X → ∀ j u, (flatK (S.take k) (ls.take k))[j]? = some u → X.cell? ((⟨g, 0, none⟩ : Addr).add j) = some u) := fun X hX => HKS.out.front k hk (hbw0.trans (hX.mono hbw0.size))
          have C2 : Hid (∀ X : World, Below W0.heap.size W0 X → ∀ j u, (flatK (S.drop k) (ls.drop k))[j]? = some u → X.cell? ((⟨g, k * 4, none⟩ : Addr).add j) = some u) := fun X hX => HKS.out.back k hk (hbw0.trans (hX.mono hbw0.size))
          have HL1 : Hid ((flatK (S.take k) (ls.take k)).length = k * 4) := (HKS.out.lens k hk).1
          have HL2 : Hid ((flatK (S.drop k) (ls.drop k)).length = (S.length - k) * 4) := (HKS.out.lens k hk).2
          have HO1 : Hid (type_of% (HKS.out.one k).1) := (HKS.out.one k).1
          have HO2 : Hid (type_of% (HKS.out.one k).2) := (HKS.out.one k).2
          have hk0 : (0 : Int) ≤ (k : Int) := by omega
          have hkc : (k : Int) ≤ (cap : Int) := by omega
          have hkl : (k : Int) ≤ (S.length : Int) := by omega
          have hlc : (S.length : Int) ≤ (cap : Int) := by omega
          clear HCP0 hbe3
          have hck : ¬ cap = k := by omega
          go_region_held3 (fun w' => w'.cell? ⟨w.heap.size, 0, none⟩ = some (.int .i64 t.kind) ∧ w'.cell? ⟨w.heap.size, 1, none⟩ = some (.string t.name) ∧ w'.cell? ⟨w.heap.size, 2, none⟩ = some (.slice an2 ln2 cn2) ∧ w'.cell? ⟨w.heap.size, 3, none⟩ = some (.slice ak2 lk2 ck2))
            (first
              | exact HBX.out _ (by assumption)
              | exact HBX.out _ (Below.refl _ _)
              | exact HBX.out _ ((Below.refl _ _).drew)
              | exact HBX.out _ ((Below.refl _ _).alloc (Nat.le_refl _) _)
              | exact HBX.out _ ((Below.refl _ _).alloc (Nat.le_refl _) _).drew
              | (revert hb2; intro hb2; exact HBX.out _ (hb2.alloc hb2.size _)))
            (first
              | (refine step_append_own rfl (.tmp 38) (.tmp 41) 25 rfl W0.heap.size 27 i0 _ 4 72 Tryz.underlying25 hi hz0 hz1 hz2 rfl (by decide) (.slice (some ⟨W0.heap.size, 0, none⟩) 0 0) 0 [] rfl (own_empty4 (MapKept.heap_alloc W0 _).1 (Nat.le_refl _)) ⟨g, 0, none⟩ k cap (flatK (S.take k) (ls.take k)) rfl HL1.out (by first | exact C1.out _ ((Below.refl _ _).alloc (Nat.le_refl _) _).drew | exact C1.out _ ((Below.refl _ _).alloc (Nat.le_refl _) _)) HO1.out (by unfold maxLen; omega) (by omega) (by simp <;> omega) ?_; intro v1 w1 o1 g1 n1; have hb1 : Below W0.heap.size W0 w1 := (by first | exact (((Below.refl _ W0).alloc (Nat.le_refl _) _).drew).grown g1 (by simp) (fun j hj => by simp [Value.ownBlock] at hj; omega) | exact ((Below.refl _ W0).alloc (Nat.le_refl _) _).grown g1 (by simp) (fun j hj => by simp [Value.ownBlock] at hj; omega)))
              | (revert hb1; intro hb1; go_at_call 30; refine (HCP.out w1 hb1).mono ?_; rintro e wc ⟨an, ln, cn, ak, lk, ck, rfl, ⟨l, hcl, hnl⟩, hbc⟩; have hb2 : Below W0.heap.size W0 wc := hb1.trans (hbc.mono hb1.size); have o1c := kept_belowT o1 hbc)
              | (revert hb2; intro hb2; refine step_append_lies _ (by rfl) (.tmp 42) (.tmp 45) _ (by rfl) W0.heap.size 27 i0 _ 4 72 Tryz.underlying25 hi hz0 hz1 hz2 rfl (by omega) v1 (0 + k) ([] ++ flatK (S.take k) (ls.take k)) (by rfl) (by first | exact (o1c.alloc _) | exact (o1c.alloc _).drew) ⟨wc.heap.size, 0, none⟩ 1 1 [.int .i64 t.kind, .string t.name, .slice an ln cn, .slice ak lk ck] (by rfl) (by rfl) (World.news_of_block (cs := #[.int .i64 t.kind, .string t.name, .slice an ln cn, .slice ak lk ck]) (t := 27) (fr := (0, 0)) (heap_alloc_new wc _)) (by simp [Value.oneCell']) (by omega) (by unfold maxLen; omega) (by omega) (by have := hb2.size; simp; omega) (wc.heap.size + 1) (by simp) ?_; intro g2 c2 w2 o2 gr2 hat2 hlt2; have hb3 : Below W0.heap.size W0 w2 := (hb2.alloc hb2.size _).grown gr2 (by have := hb2.size; simp; omega) (fun j hj => by have := (o1.lt j hj).1; omega))
              | (revert hb3; intro hb3; refine step_append_own rfl (.tmp 46) (.tmp 49) 25 rfl W0.heap.size 27 i0 _ 4 72 Tryz.underlying25 hi hz0 hz1 hz2 rfl (by decide) (.slice (some ⟨g2, 0, none⟩) (0 + k + 1) c2) (0 + k + 1) ([] ++ flatK (S.take k) (ls.take k) ++ [.int .i64 t.kind, .string t.name, .slice an ln cn, .slice ak lk ck]) rfl o2 ⟨g, k * 4, none⟩ (S.length - k) (cap - k) (flatK (S.drop k) (ls.drop k)) rfl HL2.out (C2.out _ hb3) HO2.out (by unfold maxLen; omega) (by omega) hb3.size ?_; intro v3 w3 o3 g3 n3; have hb4 : Below W0.heap.size W0 w3 := hb3.grown g3 hb3.size (fun j hj => (o2.lt j hj).1)))
          all_goals
            rw [← hcl] at o3
            obtain ⟨g', cap', e3, hK3⟩ := HKS.out.put hk hBw hbw0 hb1 o1 hbc hnl gr2 hat2 (by simpa [Value.ownBlock] using g3) hb4 o3
            subst e3
            have hb5 : Below w.heap.size w w3 := hbw0.trans (hb4.mono hbw0.size)
            have HK3 : Hid (type_of% hK3) := hK3
            clear hK3 o1 o1c o2 o3 g1 g3 gr2 n1 n3 hb1 hb2 hb3 hb4 hbc hnl hcl hat2 HCP HBX C1 C2 HL1 HO1 HO2 HKS
            go_wp2_with fail
            go_ret
            exact ⟨g', cap', _, _, rfl, HK3.out, fun x => put_mem k, HP.out, hb5⟩
    · have hltk : ¬ (k : Int) < (S.length : Int) := by omega
      have HP : Hid ((S.take k ++ ([t] ++ S.drop k)).Pairwise fun a b => lessB (Ty.text n a) (Ty.text n b)) := put_asc k HS.out (fun j hj hjk => by rw [← HSE.out]; exact HALL.out j hj hjk) fun hk9 => absurd hk9 hlt
      have HKE : Hid (k = S.length) := by show k = S.length; omega
      obtain ⟨W0, rfl⟩ : ∃ W0, W0 = wo := ⟨_, rfl⟩
      have hbe3 := hbe
      clear HALL HEL HRT HR HSE HS hbe hbw
      go_wp2_with fail
      obtain ⟨_, hbw0, hzw0⟩ := boxedR hbe3
      have HBX : Hid (∀ wx : World, Below W0.heap.size W0 wx → wx.cell? ⟨w.heap.size, 0, none⟩ = some (.int .i64 t.kind) ∧ wx.cell? ⟨w.heap.size, 1, none⟩ = some (.string t.name) ∧ wx.cell? ⟨w.heap.size, 2, none⟩ = some (.slice an2 ln2 cn2) ∧ wx.cell? ⟨w.heap.size, 3, none⟩ = some (.slice ak2 lk2 ck2)) := fun wx hx => (boxedR (hbe3.trans (hx.mono hzw0))).1
      have HCP : Hid (∀ wx : World, Below W0.heap.size W0 wx → Calls Tryz.prog 30 #[.agg #[.int .i64 t.kind, .string t.name, .slice an2 ln2 cn2, .slice ak2 lk2 ck2]] wx fun e w' => ∃ (an : Option Addr) (ln cn : Nat) (ak : Option Addr) (lk ck : Nat), e = .returned (.agg #[.int .i64 t.kind, .string t.name, .slice an ln cn, .slice ak lk ck]) ∧ (∃ l, cellsK t l = [.int .i64 t.kind, .string t.name, .slice an ln cn, .slice ak lk ck] ∧ NewLay wx.heap.size w' n l t) ∧ Below wx.heap.size wx w') := fun wx hx => HCP0.out wx (hbw0.trans (hx.mono hbw0.size))
      have C1 : Hid (∀ X : World, Below W0.heap.size W0 X → ∀ j u, (flatK (S.take k) (ls.take k))[j]? = some u → X.cell? ((⟨g, 0, none⟩ : Addr).add j) = some u) := fun X hX => HKS.out.front k hk (hbw0.trans (hX.mono hbw0.size))
      have C2 : Hid (∀ X : World, Below W0.heap.size W0 X → ∀ j u, (flatK (S.drop k) (ls.drop k))[j]? = some u → X.cell? ((⟨g, k * 4, none⟩ : Addr).add j) = some u) := fun X hX => HKS.out.back k hk (hbw0.trans (hX.mono hbw0.size))
      have HL1 : Hid ((flatK (S.take k) (ls.take k)).length = k * 4) := (HKS.out.lens k hk).1
      have HL2 : Hid ((flatK (S.drop k) (ls.drop k)).length = (S.length - k) * 4) := (HKS.out.lens k hk).2
      have HO1 : Hid (type_of% (HKS.out.one k).1) := (HKS.out.one k).1
      have HO2 : Hid (type_of% (HKS.out.one k).2) := (HKS.out.one k).2
      have hk0 : (0 : Int) ≤ (k : Int) := by omega
      have hkc : (k : Int) ≤ (cap : Int) := by omega
      have hkl : (k : Int) ≤ (S.length : Int) := by omega
      have hlc : (S.length : Int) ≤ (cap : Int) := by omega
      clear HCP0 hbe3
      by_cases hck : cap = k
      · subst hck
        go_region_held3 (fun w' => w'.cell? ⟨w.heap.size, 0, none⟩ = some (.int .i64 t.kind) ∧ w'.cell? ⟨w.heap.size, 1, none⟩ = some (.string t.name) ∧ w'.cell? ⟨w.heap.size, 2, none⟩ = some (.slice an2 ln2 cn2) ∧ w'.cell? ⟨w.heap.size, 3, none⟩ = some (.slice ak2 lk2 ck2))
          (first
            | exact HBX.out _ (by assumption)
            | exact HBX.out _ (Below.refl _ _)
            | exact HBX.out _ ((Below.refl _ _).drew)
            | exact HBX.out _ ((Below.refl _ _).alloc (Nat.le_refl _) _)
            | exact HBX.out _ ((Below.refl _ _).alloc (Nat.le_refl _) _).drew
            | (revert hb2; intro hb2; exact HBX.out _ (hb2.alloc hb2.size _)))
          (first
            | (refine step_append_own rfl (.tmp 38) (.tmp 41) 25 rfl W0.heap.size 27 i0 _ 4 72 Tryz.underlying25 hi hz0 hz1 hz2 rfl (by decide) (.slice (some ⟨W0.heap.size, 0, none⟩) 0 0) 0 [] rfl (own_empty4 (MapKept.heap_alloc W0 _).1 (Nat.le_refl _)) ⟨g, 0, none⟩ cap cap (flatK (S.take cap) (ls.take cap)) rfl HL1.out (by first | exact C1.out _ ((Below.refl _ _).alloc (Nat.le_refl _) _).drew | exact C1.out _ ((Below.refl _ _).alloc (Nat.le_refl _) _)) HO1.out (by unfold maxLen; omega) (by omega) (by simp <;> omega) ?_; intro v1 w1 o1 g1 n1; have hb1 : Below W0.heap.size W0 w1 := (by first | exact (((Below.refl _ W0).alloc (Nat.le_refl _) _).drew).grown g1 (by simp) (fun j hj => by simp [Value.ownBlock] at hj; omega) | exact ((Below.refl _ W0).alloc (Nat.le_refl _) _).grown g1 (by simp) (fun j hj => by simp [Value.ownBlock] at hj; omega)))
            | (revert hb1; intro hb1; go_at_call 30; refine (HCP.out w1 hb1).mono ?_; rintro e wc ⟨an, ln, cn, ak, lk, ck, rfl, ⟨l, hcl, hnl⟩, hbc⟩; have hb2 : Below W0.heap.size W0 wc := hb1.trans (hbc.mono hb1.size); have o1c := kept_belowT o1 hbc)
            | (revert hb2; intro hb2; refine step_append_lies _ (by rfl) (.tmp 42) (.tmp 45) _ (by rfl) W0.heap.size 27 i0 _ 4 72 Tryz.underlying25 hi hz0 hz1 hz2 rfl (by omega) v1 (0 + cap) ([] ++ flatK (S.take cap) (ls.take cap)) (by rfl) (by first | exact (o1c.alloc _) | exact (o1c.alloc _).drew) ⟨wc.heap.size, 0, none⟩ 1 1 [.int .i64 t.kind, .string t.name, .slice an ln cn, .slice ak lk ck] (by rfl) (by rfl) (World.news_of_block (cs := #[.int .i64 t.kind, .string t.name, .slice an ln cn, .slice ak lk ck]) (t := 27) (fr := (0, 0)) (heap_alloc_new wc _)) (by simp [Value.oneCell']) (by omega) (by unfold maxLen; omega) (by omega) (by have := hb2.size; simp; omega) (wc.heap.size + 1) (by simp) ?_; intro g2 c2 w2 o2 gr2 hat2 hlt2; have hb3 : Below W0.heap.size W0 w2 := (hb2.alloc hb2.size _).grown gr2 (by have := hb2.size; simp; omega) (fun j hj => by have := (o1.lt j hj).1; omega))
            | (revert hb3; intro hb3; refine step_append_own rfl (.tmp 46) (.tmp 49) 25 rfl W0.heap.size 27 i0 _ 4 72 Tryz.underlying25 hi hz0 hz1 hz2 rfl (by decide) (.slice (some ⟨g2, 0, none⟩) (0 + cap + 1) c2) (0 + cap + 1) ([] ++ flatK (S.take cap) (ls.take cap) ++ [.int .i64 t.kind, .string t.name, .slice an ln cn, .slice ak lk ck]) rfl o2 _ 0 _ (flatK (S.drop cap) (ls.drop cap)) rfl (by have := HL2.out; have := HKE.out; omega) (fun j u hu => by rw [List.drop_of_length_le (by have := HKE.out; omega)] at hu; simp [flatK] at hu) HO2.out (by unfold maxLen; omega) (by omega) hb3.size ?_; intro v3 w3 o3 g3 n3; have hb4 : Below W0.heap.size W0 w3 := hb3.grown g3 hb3.size (fun j hj => (o2.lt j hj).1)))
        all_goals
          rw [← hcl] at o3
          obtain ⟨g', cap', e3, hK3⟩ := HKS.out.put hk hBw hbw0 hb1 o1 hbc hnl gr2 hat2 (by simpa [Value.ownBlock] using g3) hb4 (by rw [show S.length - cap = 0 by have := HKE.out; omega]; exact o3)
          subst e3
          have hb5 : Below w.heap.size w w3 := hbw0.trans (hb4.mono hbw0.size)
          have HK3 : Hid (type_of% hK3) := hK3
          clear hK3 o1 o1c o2 o3 g1 g3 gr2 n1 n3 hb1 hb2 hb3 hb4 hbc hnl hcl hat2 HCP HBX C1 C2 HL1 HO1 HO2 HKS
          go_wp2_with fail
          go_ret
          exact ⟨g', cap', _, _, rfl, HK3.out, fun x => put_mem cap, HP.out, hb5⟩
      · go_region_held3 (fun w' => w'.cell? ⟨w.heap.size, 0, none⟩ = some (.int .i64 t.kind) ∧ w'.cell? ⟨w.heap.size, 1, none⟩ = some (.string t.name) ∧ w'.cell? ⟨w.heap.size, 2, none⟩ = some (.slice an2 ln2 cn2) ∧ w'.cell? ⟨w.heap.size, 3, none⟩ = some (.slice ak2 lk2 ck2))
          (first
            | exact HBX.out _ (by assumption)
            | exact HBX.out _ (Below.refl _ _)
            | exact HBX.out _ ((Below.refl _ _).drew)
            | exact HBX.out _ ((Below.refl _ _).alloc (Nat.le_refl _) _)
            | exact HBX.out _ ((Below.refl _ _).alloc (Nat.le_refl _) _).drew
            | (revert hb2; intro hb2; exact HBX.out _ (hb2.alloc hb2.size _)))
          (first
            | (refine step_append_own rfl (.tmp 38) (.tmp 41) 25 rfl W0.heap.size 27 i0 _ 4 72 Tryz.underlying25 hi hz0 hz1 hz2 rfl (by decide) (.slice (some ⟨W0.heap.size, 0, none⟩) 0 0) 0 [] rfl (own_empty4 (MapKept.heap_alloc W0 _).1 (Nat.le_refl _)) ⟨g, 0, none⟩ k cap (flatK (S.take k) (ls.take k)) rfl HL1.out (by first | exact C1.out _ ((Below.refl _ _).alloc (Nat.le_refl _) _).drew | exact C1.out _ ((Below.refl _ _).alloc (Nat.le_refl _) _)) HO1.out (by unfold maxLen; omega) (by omega) (by simp <;> omega) ?_; intro v1 w1 o1 g1 n1; have hb1 : Below W0.heap.size W0 w1 := (by first | exact (((Below.refl _ W0).alloc (Nat.le_refl _) _).drew).grown g1 (by simp) (fun j hj => by simp [Value.ownBlock] at hj; omega) | exact ((Below.refl _ W0).alloc (Nat.le_refl _) _).grown g1 (by simp) (fun j hj => by simp [Value.ownBlock] at hj; omega)))
            | (revert hb1; intro hb1; go_at_call 30; refine (HCP.out w1 hb1).mono ?_; rintro e wc ⟨an, ln, cn, ak, lk, ck, rfl, ⟨l, hcl, hnl⟩, hbc⟩; have hb2 : Below W0.heap.size W0 wc := hb1.trans (hbc.mono hb1.size); have o1c := kept_belowT o1 hbc)
            | (revert hb2; intro hb2; refine step_append_lies _ (by rfl) (.tmp 42) (.tmp 45) _ (by rfl) W0.heap.size 27 i0 _ 4 72 Tryz.underlying25 hi hz0 hz1 hz2 rfl (by omega) v1 (0 + k) ([] ++ flatK (S.take k) (ls.take k)) (by rfl) (by first | exact (o1c.alloc _) | exact (o1c.alloc _).drew) ⟨wc.heap.size, 0, none⟩ 1 1 [.int .i64 t.kind, .string t.name, .slice an ln cn, .slice ak lk ck] (by rfl) (by rfl) (World.news_of_block (cs := #[.int .i64 t.kind, .string t.name, .slice an ln cn, .slice ak lk ck]) (t := 27) (fr := (0, 0)) (heap_alloc_new wc _)) (by simp [Value.oneCell']) (by omega) (by unfold maxLen; omega) (by omega) (by have := hb2.size; simp; omega) (wc.heap.size + 1) (by simp) ?_; intro g2 c2 w2 o2 gr2 hat2 hlt2; have hb3 : Below W0.heap.size W0 w2 := (hb2.alloc hb2.size _).grown gr2 (by have := hb2.size; simp; omega) (fun j hj => by have := (o1.lt j hj).1; omega))
            | (revert hb3; intro hb3; refine step_append_own rfl (.tmp 46) (.tmp 49) 25 rfl W0.heap.size 27 i0 _ 4 72 Tryz.underlying25 hi hz0 hz1 hz2 rfl (by decide) (.slice (some ⟨g2, 0, none⟩) (0 + k + 1) c2) (0 + k + 1) ([] ++ flatK (S.take k) (ls.take k) ++ [.int .i64 t.kind, .string t.name, .slice an ln cn, .slice ak lk ck]) rfl o2 _ (S.length - k) (cap - k) (flatK (S.drop k) (ls.drop k)) rfl HL2.out (fun j u hu => by rw [List.drop_of_length_le (by have := HKE.out; omega)] at hu; simp [flatK] at hu) HO2.out (by unfold maxLen; omega) (by omega) hb3.size ?_; intro v3 w3 o3 g3 n3; have hb4 : Below W0.heap.size W0 w3 := hb3.grown g3 hb3.size (fun j hj => (o2.lt j hj).1)))
        all_goals
          rw [← hcl] at o3
          obtain ⟨g', cap', e3, hK3⟩ := HKS.out.put hk hBw hbw0 hb1 o1 hbc hnl gr2 hat2 (by simpa [Value.ownBlock] using g3) hb4 o3
          subst e3
          have hb5 : Below w.heap.size w w3 := hbw0.trans (hb4.mono hbw0.size)
          have HK3 : Hid (type_of% hK3) := hK3
          clear hK3 o1 o1c o2 o3 g1 g3 gr2 n1 n3 hb1 hb2 hb3 hb4 hbc hnl hcl hat2 HCP HBX C1 C2 HL1 HO1 HO2 HKS
          go_wp2_with fail
          go_ret
          exact ⟨g', cap', _, _, rfl, HK3.out, fun x => put_mem k, HP.out, hb5⟩
end Go.Proofs.YtjihkebafoajdaaGreatDoor
