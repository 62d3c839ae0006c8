/-
  The walk of spec.l03Add: an ascending list of types with one more, where it is not there.
  What spec.Union gathers. No program here but where rows lie.
  The walk of spec.Union.
-/
import Derived.Test.YthomlchbgcjcfaaGreatDoorTxI
import Derived.Test.YthomlchbgcjcfaaGreatDoorCopyS
import Derived.Test.YthomlchbgcjcfaaGreatDoorTextU
import Derived.Test.YthomlchbgcjcfaaGreatDoorRightS
import Derived.Test.YthomlchbgcjcfaaGreatDoorStepA
import Derived.Test.YthomlchbgcjcfaaGreatDoorRightV
import Derived.Test.YthomlchbgcjcfaaGreatDoorTyO
import Derived.Test.YthomlchbgcjcfaaGreatDoorTypeJ
namespace Go.Proofs.YthomlchbgcjcfaaGreatDoor
open Go.RowKit

theorem flatK_app {A C : List Ty} {la lc : List Lay} (h : la.length = A.length) : flatK (A ++ C) (la ++ lc) = flatK A la ++ flatK C lc := by
  induction A generalizing la with
  | nil =>
    obtain rfl : la = [] := List.eq_nil_of_length_eq_zero (by simpa using h)
    rfl
  | cons a r ih =>
    cases la with
    | nil => simp at h
    | cons l q =>
      show cellsK a l ++ flatK (r ++ C) (q ++ lc) = (cellsK a l ++ flatK r q) ++ flatK C lc
      rw [ih (by simpa using h), List.append_assoc]
/-- types in a row of their own, in their order -/
structure KidsS (w : World) (B n g cap : Nat) (S : List Ty) (ls : List Lay) : Prop where
  len : ls.length = S.length
  own : w.ownsRow B 28 4 (.slice (some ⟨g, 0, none⟩) S.length cap) S.length (flatK S ls)
  lay : ∀ j (h1 : j < ls.length) (h2 : j < S.length), LayAt w n ls[j] S[j] ∧ ∀ b ∈ Lay.blocks n ls[j], B ≤ b
  void : ∀ j (h1 : j < ls.length) (h2 : j < S.length), S[j].kids = [] → ls[j].vk = .slice none 0 0
theorem KidsS.below {w w' : World} {B n g cap : Nat} {S : List Ty} {ls : List Lay} (h : KidsS w B n g cap S ls) (hb : Below w.heap.size w w') : KidsS w' B n g cap S ls :=
  ⟨h.len, kept_belowT h.own hb, fun j h1 h2 => ⟨(h.lay j h1 h2).1.below hb, (h.lay j h1 h2).2⟩, h.void⟩
theorem KidsS.cell {w : World} {B n g cap : Nat} {S : List Ty} {ls : List Lay} (h : KidsS w B n g cap S ls) (j : Nat) (h1 : j < ls.length) (h2 : j < S.length) (c : Nat) (hc : c < 4) : w.cell? ⟨g, j * 4 + c, none⟩ = (cellsK S[j] ls[j])[c]? := by
  rw [h.own.cellAt (j * 4 + c) (by omega), flatK_get S ls j c h2 h1 hc]
theorem flat_oneK {w : World} {n : Nat} {S : List Ty} {ls : List Lay} (hl : ls.length = S.length) (h : ∀ j (h1 : j < ls.length) (h2 : j < S.length), LayAt w n ls[j] S[j]) : ∀ u ∈ flatK S ls, u.oneCell' = true := by
  induction S generalizing ls with
  | nil =>
    obtain rfl : ls = [] := List.eq_nil_of_length_eq_zero (by simpa using hl)
    intro u hu
    simp [flatK] at hu
  | cons a r ih =>
    cases ls with
    | nil => simp at hl
    | cons l q =>
      intro u hu
      rcases List.mem_append.1 (show u ∈ cellsK a l ++ flatK r q from hu) with hu | hu
      · have h0 := h 0 (by simp) (by simp)
        cases n with
        | zero => exact h0.elim
        | succ n =>
          obtain ⟨a1, c1, e1⟩ := OwnS.slice h0.1
          obtain ⟨a2, c2, e2⟩ := OwnS.slice h0.2.2.1
          simp only [List.getElem_cons_zero] at e1 e2
          simp only [cellsK, e1, e2, List.mem_cons, List.not_mem_nil, or_false] at hu
          rcases hu with rfl | rfl | rfl | rfl <;> rfl
      · exact ih (by simpa using hl) (fun j h1 h2 => by
          have := h (j + 1) (by simpa using h1) (by simpa using h2)
          simpa using this) u hu
theorem KidsS.one {w : World} {B n g cap : Nat} {S : List Ty} {ls : List Lay} (h : KidsS w B n g cap S ls) (k : Nat) : (∀ u ∈ flatK (S.take k) (ls.take k), u.oneCell' = true) ∧ (∀ u ∈ flatK (S.drop k) (ls.drop k), u.oneCell' = true) := by
  refine ⟨flat_oneK (w := w) (n := n) (by rw [List.length_take, List.length_take, h.len]) fun j h1 h2 => ?_, flat_oneK (w := w) (n := n) (by rw [List.length_drop, List.length_drop, h.len]) fun j h1 h2 => ?_⟩
  · rw [List.length_take] at h1 h2
    rw [List.getElem_take, List.getElem_take]
    exact (h.lay j (by omega) (by omega)).1
  · rw [List.length_drop] at h1 h2
    rw [List.getElem_drop, List.getElem_drop]
    exact (h.lay (k + j) (by omega) (by omega)).1
theorem KidsS.split {w : World} {B n g cap : Nat} {S : List Ty} {ls : List Lay} (h : KidsS w B n g cap S ls) (k : Nat) : flatK S ls = flatK (S.take k) (ls.take k) ++ flatK (S.drop k) (ls.drop k) := by
  rw [← flatK_app (by rw [List.length_take, List.length_take, h.len]), List.take_append_drop, List.take_append_drop]
theorem KidsS.lens {w : World} {B n g cap : Nat} {S : List Ty} {ls : List Lay} (h : KidsS w B n g cap S ls) (k : Nat) (hk : k ≤ S.length) : (flatK (S.take k) (ls.take k)).length = k * 4 ∧ (flatK (S.drop k) (ls.drop k)).length = (S.length - k) * 4 := by
  have hl := h.len
  refine ⟨?_, ?_⟩
  · rw [flatK_len _ _ (by rw [List.length_take, List.length_take, hl]), List.length_take]; omega
  · rw [flatK_len _ _ (by rw [List.length_drop, List.length_drop, hl]), List.length_drop]
theorem KidsS.front {w : World} {B n g cap : Nat} {S : List Ty} {ls : List Lay} (h : KidsS w B n g cap S ls) (k : Nat) (hk : k ≤ S.length) {X : World} (hX : Below w.heap.size w X) : ∀ j u, (flatK (S.take k) (ls.take k))[j]? = some u → X.cell? ((⟨g, 0, none⟩ : Addr).add j) = some u := fun j u hu => by
  obtain ⟨l1, l2⟩ := h.lens k hk
  have hj : j < k * 4 := by rw [← l1]; exact (List.getElem?_eq_some_iff.1 hu).1
  have ho := kept_belowT h.own hX
  have hadd : (⟨g, 0, none⟩ : Addr).add j = ⟨g, j, none⟩ := by unfold Addr.add; split <;> simp_all
  rw [hadd, ho.cellAt j (by omega), h.split k, List.getElem?_append_left (by omega), hu]
theorem KidsS.back {w : World} {B n g cap : Nat} {S : List Ty} {ls : List Lay} (h : KidsS w B n g cap S ls) (k : Nat) (hk : k ≤ S.length) {X : World} (hX : Below w.heap.size w X) : ∀ j u, (flatK (S.drop k) (ls.drop k))[j]? = some u → X.cell? ((⟨g, k * 4, none⟩ : Addr).add j) = some u := fun j u hu => by
  obtain ⟨l1, l2⟩ := h.lens k hk
  have hj : j < (S.length - k) * 4 := by rw [← l2]; exact (List.getElem?_eq_some_iff.1 hu).1
  have ho := kept_belowT h.own hX
  have hadd : (⟨g, k * 4, none⟩ : Addr).add j = ⟨g, k * 4 + j, none⟩ := by unfold Addr.add; split <;> simp_all
  rw [hadd, ho.cellAt (k * 4 + j) (by omega), h.split k, List.getElem?_append_right (by omega), l1, Nat.add_sub_cancel_left, hu]
theorem own_empty4 {X : World} {B G : Nat} {e : TypeId} (h : X.heap[G]? = some (.cells #[] e (0, 0))) (hB : B ≤ G) : X.ownsRow B e 4 (.slice (some ⟨G, 0, none⟩) 0 0) 0 [] := ⟨rfl, .inr ⟨G, 0, #[], rfl, hB, h, Nat.le_refl _, Nat.zero_le _, rfl, rfl⟩⟩

/-- one more between -/
theorem put_mem {S : List Ty} {t x : Ty} (k : Nat) : x ∈ S.take k ++ ([t] ++ S.drop k) ↔ x = t ∨ x ∈ S := by
  conv => rhs; rw [← List.take_append_drop k S]
  simp only [List.mem_append, List.mem_singleton]
  constructor
  · rintro (h | h | h)
    · exact .inr (.inl h)
    · exact .inl h
    · exact .inr (.inr h)
  · rintro (h | h | h)
    · exact .inr (.inl h)
    · exact .inl h
    · exact .inr (.inr h)
theorem put_asc {f : Ty → ByteArray} {S : List Ty} {t : Ty} (k : Nat) (hS : S.Pairwise fun a b => lessB (f a) (f b)) (h1 : ∀ j (hj : j < S.length), j < k → lessB (f S[j]) (f t)) (h2 : ∀ (hk : k < S.length), lessB (f t) (f S[k])) : (S.take k ++ ([t] ++ S.drop k)).Pairwise fun a b => lessB (f a) (f b) := by
  have hP := hS
  rw [← List.take_append_drop k S, List.pairwise_append] at hP
  obtain ⟨p1, p2, p3⟩ := hP
  have ht : ∀ b ∈ S.drop k, lessB (f t) (f b) := fun b hb => by
    obtain ⟨j, hj, rfl⟩ := List.getElem_of_mem hb
    rw [List.length_drop] at hj
    rw [List.getElem_drop]
    have h0 := h2 (by omega)
    by_cases c : j = 0
    · subst c; exact h0
    · exact List.lt_trans h0 (List.pairwise_iff_getElem.1 hS k (k + j) (by omega) (by omega) (by omega))
  refine List.pairwise_append.2 ⟨p1, List.pairwise_append.2 ⟨by simp, p2, fun a ha b hb => ?_⟩, fun a ha b hb => ?_⟩
  · simp only [List.mem_singleton] at ha
    subst ha
    exact ht b hb
  · rcases List.mem_append.1 hb with hb | hb
    · simp only [List.mem_singleton] at hb
      subst hb
      obtain ⟨j, hj, rfl⟩ := List.getElem_of_mem ha
      rw [List.length_take] at hj
      rw [List.getElem_take]
      exact h1 j (by omega) (by omega)
    · exact p3 a ha b hb
/-- the row with one more between -/
theorem KidsS.put {w W0 w1 wc w2 w3 : World} {B n g cap k g2 : Nat} {S : List Ty} {ls : List Lay} {t : Ty} {l : Lay} {v1 v3 : Value} {o : Obj} {X1 : List Value} (h : KidsS w B n g cap S ls) (hk : k ≤ S.length) (hB : B ≤ w.heap.size) (hW : Below w.heap.size w W0)
    (hb1 : Below W0.heap.size W0 w1) (o1 : w1.ownsRow W0.heap.size 28 4 v1 (0 + k) X1) (hbc : Below w1.heap.size w1 wc) (hl : NewLay w1.heap.size wc n l t) (hv0 : t.kids = [] → l.vk = .slice none 0 0) (gr2 : (wc.alloc o).grownBy w2 v1.ownBlock) (hat : v1.ownBlock = some g2 ∨ g2 = wc.heap.size + 1)
    (gr3 : w2.grownBy w3 (some g2)) (hb4 : Below W0.heap.size W0 w3)
    (o3 : w3.ownsRow W0.heap.size 28 4 v3 (0 + k + 1 + (S.length - k)) ([] ++ flatK (S.take k) (ls.take k) ++ cellsK t l ++ flatK (S.drop k) (ls.drop k))) :
    ∃ g' cap', v3 = .slice (some ⟨g', 0, none⟩) (S.take k ++ ([t] ++ S.drop k)).length cap' ∧ KidsS w3 B n g' cap' (S.take k ++ ([t] ++ S.drop k)) (ls.take k ++ ([l] ++ ls.drop k)) := by
  have hlen := h.len
  have e1 : 0 + k + 1 + (S.length - k) = (S.take k ++ ([t] ++ S.drop k)).length := by simp; omega
  have e2 : [] ++ flatK (S.take k) (ls.take k) ++ cellsK t l ++ flatK (S.drop k) (ls.drop k) = flatK (S.take k ++ ([t] ++ S.drop k)) (ls.take k ++ ([l] ++ ls.drop k)) := by
    rw [flatK_app (by rw [List.length_take, List.length_take, hlen])]
    show _ = _ ++ (cellsK t l ++ flatK (S.drop k) (ls.drop k))
    simp
  rw [e1, e2] at o3
  have hzW : w.heap.size ≤ W0.heap.size := hW.size
  have hz1 := hb1.size
  have hz2 := hbc.size
  have hw3 : Below w.heap.size w w3 := hW.trans (hb4.mono hzW)
  have hnew : LayAt w3 n l t := hl.1.same fun b hb => by
    have b1 := hl.2.2 b hb
    have b2 := hl.1.lt hb
    have q1 : w2.heap[b]? = wc.heap[b]? := (gr2.block b (by simp; omega) fun e => by have := (o1.lt b e.symm).2; omega).trans ((MapKept.heap_alloc wc o).2 b b2)
    have q2 : w3.heap[b]? = w2.heap[b]? := gr3.block b (by have := gr2.size; simp at this; omega) fun e => by
      simp only [Option.some.injEq] at e
      rcases hat with e3 | e3
      · have := (o1.lt g2 e3).2; omega
      · omega
    exact q2.trans q1
  rcases o3.2 with ⟨_, h0⟩ | ⟨g', cap', cur, hv, q1, q2, q3⟩
  · simp at h0
  · have all : ∀ j (h1 : j < (ls.take k ++ ([l] ++ ls.drop k)).length) (h2 : j < (S.take k ++ ([t] ++ S.drop k)).length), (LayAt w3 n (ls.take k ++ ([l] ++ ls.drop k))[j] (S.take k ++ ([t] ++ S.drop k))[j] ∧ ∀ b ∈ Lay.blocks n (ls.take k ++ ([l] ++ ls.drop k))[j], B ≤ b) ∧ ((S.take k ++ ([t] ++ S.drop k))[j].kids = [] → (ls.take k ++ ([l] ++ ls.drop k))[j].vk = .slice none 0 0) := fun j h1 h2 => by
      by_cases c1 : j < k
      · rw [List.getElem_append_left (by rw [List.length_take]; omega), List.getElem_append_left (by rw [List.length_take]; omega), List.getElem_take, List.getElem_take]
        have := h.lay j (by omega) (by omega)
        exact ⟨⟨this.1.below hw3, this.2⟩, h.void j (by omega) (by omega)⟩
      · have hk1 : (ls.take k).length = k := by rw [List.length_take]; omega
        have hk2 : (S.take k).length = k := by rw [List.length_take]; omega
        have hj9 : j < k + (1 + (S.length - k)) := by simp at h2; omega
        by_cases c2 : j = k
        · subst c2
          have x1 : (ls.take j ++ ([l] ++ ls.drop j))[j] = l := by rw [List.getElem_append_right (by omega)]; simp [hk1]
          have x2 : (S.take j ++ ([t] ++ S.drop j))[j] = t := by rw [List.getElem_append_right (by omega)]; simp [hk2]
          rw [x1, x2]
          exact ⟨⟨hnew, fun b hb => by have := hl.2.2 b hb; omega⟩, hv0⟩
        · obtain ⟨i, rfl⟩ : ∃ i, j = k + 1 + i := ⟨j - k - 1, by omega⟩
          have hi : k + i < S.length := by omega
          have x1 : (ls.take k ++ ([l] ++ ls.drop k))[k + 1 + i] = ls[k + i]'(by omega) := by
            rw [List.getElem_append_right (by omega), List.getElem_append_right (by simp [hk1]; omega)]
            rw [List.getElem_drop]
            congr 1
            simp [hk1]; omega
          have x2 : (S.take k ++ ([t] ++ S.drop k))[k + 1 + i] = S[k + i] := by
            rw [List.getElem_append_right (by omega), List.getElem_append_right (by simp [hk2]; omega)]
            rw [List.getElem_drop]
            congr 1
            simp [hk2]; omega
          rw [x1, x2]
          have := h.lay (k + i) (by omega) hi
          exact ⟨⟨this.1.below hw3, this.2⟩, h.void (k + i) (by omega) hi⟩
    exact ⟨g', cap', hv, ⟨by simp [hlen], ⟨o3.1, .inr ⟨g', cap', cur, rfl, by omega, q2, q3⟩⟩, fun j h1 h2 => (all j h1 h2).1, fun j h1 h2 => (all j h1 h2).2⟩⟩

set_option maxHeartbeats 6400000 in
set_option maxRecDepth 100000 in
theorem specAdd (B n g cap : Nat) (S : List Ty) (ls : List Lay) (cs : List Value) (t : Ty) (w : World) (hKS : KidsS w B n g cap S ls) (hBw : B ≤ w.heap.size) (hcap : S.length ≤ cap) (hcs : TyAt w n cs t) (hr : Right n t 12) (hbt : Ty.bulk n t ≤ 1048576) (hS : S.Pairwise fun a b => lessB (Ty.text n a) (Ty.text n b)) (hR : ∀ s ∈ S, Right n s 12 ∧ Ty.sized n s ∧ Ty.bulk n s ≤ 1048576) (hl : S.length ≤ 1048577) :
    Calls Tryz.prog 17 #[.slice (some ⟨g, 0, none⟩) S.length cap, .agg cs.toArray] w fun e w' => ∃ g' cap' S' ls', e = .returned (.slice (some ⟨g', 0, none⟩) S'.length cap') ∧ KidsS w' B n g' cap' S' ls' ∧ (∀ x, x ∈ S' ↔ x = t ∨ x ∈ S) ∧ (S'.Pairwise fun a b => lessB (Ty.text n a) (Ty.text n b)) ∧ Below w.heap.size w w' := by
  obtain ⟨i0, hi, hz0, hz1, hz2⟩ := info_parts Tryz.infoTypeC
  have hlen := hKS.len
  have HT0 : Hid (∀ wx : World, Below w.heap.size w wx → Calls Tryz.prog 34 #[.agg cs.toArray] wx fun e w' => e = .returned (.string (Ty.text n t)) ∧ Below wx.heap.size wx w') := fun wx hx => specText n cs t wx (hcs.below hx) hr.fine hbt
  have HCP0 : Hid (∀ wx : World, Below w.heap.size w wx → Calls Tryz.prog 35 #[.agg cs.toArray] wx fun e w' => ∃ (an : Option Addr) (ln cn : Nat) (ak : Option Addr) (lk ck : Nat), e = .returned (.agg #[.int .i64 t.kind, .string t.name, .slice an ln cn, .slice ak lk ck]) ∧ (∃ l, cellsK t l = [.int .i64 t.kind, .string t.name, .slice an ln cn, .slice ak lk ck] ∧ NewLay wx.heap.size w' n l t ∧ (t.kids = [] → l.vk = .slice none 0 0)) ∧ Below wx.heap.size wx w') := fun wx hx => (specCopyN n).told cs t wx (hcs.below hx) hbt
  obtain ⟨an2, ln2, cn2, ak2, lk2, ck2, hsh⟩ := hcs.shape
  subst hsh
  have HEL : Hid (∀ k (hk : k < S.length), ∃ an ln cn ak lk ck, (∀ wx : World, Below w.heap.size w wx → wx.cell? ⟨g, k * 4, none⟩ = some (.int .i64 S[k].kind) ∧ wx.cell? ⟨g, k * 4 + 1, none⟩ = some (.string S[k].name) ∧ wx.cell? ⟨g, k * 4 + 2, none⟩ = some (.slice an ln cn) ∧ wx.cell? ⟨g, k * 4 + 3, none⟩ = some (.slice ak lk ck)) ∧ ∀ wx : World, Below w.heap.size w wx → Calls Tryz.prog 34 #[.agg #[.int .i64 S[k].kind, .string S[k].name, .slice an ln cn, .slice ak lk ck]] wx fun e w' => e = .returned (.string (Ty.text n S[k])) ∧ Below wx.heap.size wx w') := fun k hk => by
    obtain ⟨r1, r2, r3⟩ := hR _ (List.getElem_mem hk)
    have hta := (hKS.lay k (by omega) hk).1.at r2
    obtain ⟨an, ln, cn, ak, lk, ck, e⟩ := hta.shape
    refine ⟨an, ln, cn, ak, lk, ck, fun wx hx => ?_, fun wx hx => ?_⟩
    · have hK := hKS.below hx
      have c0 := hK.cell k (by omega) hk 0 (by omega)
      have c1 := hK.cell k (by omega) hk 1 (by omega)
      have c2 := hK.cell k (by omega) hk 2 (by omega)
      have c3 := hK.cell k (by omega) hk 3 (by omega)
      rw [e] at c0 c1 c2 c3
      exact ⟨c0, c1, c2, c3⟩
    · have := specText n _ S[k] wx (hta.below hx) r1.fine r3
      rw [e] at this
      exact this
  have HRT : Hid (type_of% hR) := hR
  have HR : Hid (type_of% hr) := hr
  have HS : Hid (type_of% hS) := hS
  have HKS : Hid (type_of% hKS) := hKS
  obtain ⟨s, hs⟩ : ∃ s, s = Ty.text n t := ⟨_, rfl⟩
  rw [← hs] at HT0
  have HSE : Hid (s = Ty.text n t) := hs
  clear hKS hcs hr hbt hS hR hs
  have hb0 : Below w.heap.size w (w.alloc (.cells #[.int .i64 t.kind, .string t.name, .slice an2 ln2 cn2, .slice ak2 lk2 ck2] 28)) := (Below.refl _ _).alloc (Nat.le_refl _) _
  have HT1 : Hid (type_of% (HT0.out _ hb0)) := HT0.out _ hb0
  clear HT0 hb0
  go_enter Tryz.func17, Tryz.ntmps17
  go_wp2_with fail
  refine HT1.out.mono ?_
  rintro e wa ⟨rfl, hba⟩
  have hba' : Below (w.heap.size + 1) (w.alloc (.cells #[.int .i64 t.kind, .string t.name, .slice an2 ln2 cn2, .slice ak2 lk2 ck2] 28)) wa := by simpa using hba
  clear HT1 hba
  go_wp2_with fail
  go_loopw [6] (fun i wr => ∃ k : Nat, k ≤ S.length ∧ i = .int .i64 k ∧ (∀ j (hj : j < S.length), j < k → lessB (Ty.text n S[j]) s) ∧ Below (w.heap.size + 1) (w.alloc (.cells #[.int .i64 t.kind, .string t.name, .slice an2 ln2 cn2, .slice ak2 lk2 ck2] 28)) wr) (fun i _ => S.length - (intOf i).toNat)
  case atStart => exact ⟨0, Nat.zero_le _, rfl, fun j _ h => absurd h (by omega), hba'⟩
  case round =>
    obtain ⟨wo, rfl⟩ : ∃ wo, wo = wr := ⟨_, rfl⟩
    obtain ⟨k, hk, rfl, hall, hbe⟩ := hrel
    have HALL : Hid (type_of% hall) := hall
    have hbw := (boxedR hbe).2.1
    clear hall hba'
    by_cases hlt : k < S.length
    · obtain ⟨an, ln, cn, ak, lk, ck, hcell, htx⟩ := HEL.out k hlt
      obtain ⟨C0, C1, C2, C3⟩ := hcell wo hbw
      have HCE : Hid (type_of% hcell) := hcell
      have HTX : Hid (type_of% htx) := htx
      have HTX1 : Hid (type_of% (htx wo hbw)) := htx wo hbw
      have hk0 : (0 : Int) ≤ (k : Int) := by omega
      have hk1 : (k : Int) < (S.length : Int) := by omega
      clear hcell htx
      by_cases hb : lessB (Ty.text n S[k]) s
      · have hb1 : Op.bytesLess (Ty.text n S[k]).toList s.toList = true := by rw [bytesLess_eq, Lib.toList_data, Lib.toList_data]; exact decide_eq_true hb
        have HB2 : Hid (∀ j (hj : j < S.length), j < k + 1 → lessB (Ty.text n S[j]) s) := fun j hj hjk => by
          by_cases c : j = k
          · subst c; exact hb
          · exact HALL.out j hj (by omega)
        clear hb HALL HEL HCE HTX HKS HS HRT HR HCP0 HSE
        generalize Ty.text n S[k] = x at *
        generalize S[k].kind = kd at *
        generalize S[k].name = nm at *
        go_wp2_with fail
        refine HTX1.out.mono ?_
        rintro e w2 ⟨rfl, hb2⟩
        have hbe2 := hbe.trans (hb2.mono (by have := hbe.size; simpa using this))
        clear HTX1 hb2
        go_wp2_with fail
        go_roundw
        case rel => exact ⟨k + 1, by omega, by go_num, HB2.out, hbe2⟩
        case measure => simp [intOf]; omega
      · have hb1 : Op.bytesLess (Ty.text n S[k]).toList s.toList = false := by rw [bytesLess_eq, Lib.toList_data, Lib.toList_data]; exact decide_eq_false hb
        by_cases hs : Ty.text n S[k] = s
        · have HM : Hid (t ∈ S) := by
            have e := text_one (HRT.out _ (List.getElem_mem hlt)).1 HR.out (hs.trans HSE.out)
            rw [← e]
            exact List.getElem_mem hlt
          rw [hs] at hb1 HTX1 HTX
          clear hb HALL HEL HRT HR HCP0 HSE hs
          generalize S[k].kind = kd at *
          generalize S[k].name = nm at *
          go_wp2_with fail
          refine HTX1.out.mono ?_
          rintro e w2 ⟨rfl, hb2⟩
          have hbe2 := hbe.trans (hb2.mono (by have := hbe.size; simpa using this))
          have hbw2 := (boxedR hbe2).2.1
          obtain ⟨D0, D1, D2, D3⟩ := HCE.out w2 hbw2
          have HTX2 : Hid (type_of% (HTX.out w2 hbw2)) := HTX.out w2 hbw2
          clear HTX1 HTX HCE hb2 C0 C1 C2 C3
          go_wp2_with fail
          refine HTX2.out.mono ?_
          rintro e w3 ⟨rfl, hb3⟩
          have hbw3 : Below w.heap.size w w3 := hbw2.trans (hb3.mono hbw2.size)
          clear HTX2 hb3 D0 D1 D2 D3
          go_wp2_with fail
          go_ret
          exact ⟨g, cap, S, ls, rfl, HKS.out.below hbw3, fun x => ⟨fun h => .inr h, fun h => h.elim (fun e => e ▸ HM.out) id⟩, HS.out, hbw3⟩
        · have HP : Hid ((S.take k ++ ([t] ++ S.drop k)).Pairwise fun a b => lessB (Ty.text n a) (Ty.text n b)) := put_asc k HS.out (fun j hj hjk => by rw [← HSE.out]; exact HALL.out j hj hjk) fun _ => by
            rw [← HSE.out]
            exact Classical.byContradiction fun q => hs (bt_inj (List.le_antisymm (List.not_lt.1 q) (List.not_lt.1 hb)))
          have hne : ((Ty.text n S[k]).toList == s.toList) = false := by
            rw [beq_eq_false_iff_ne]
            intro e
            rw [Lib.toList_data, Lib.toList_data] at e
            exact hs (bt_inj e)
          clear hb HALL HEL HRT HR HSE hs HS
          generalize Ty.text n S[k] = x at *
          generalize S[k].kind = kd at *
          generalize S[k].name = nm at *
          go_wp2_with fail
          refine HTX1.out.mono ?_
          rintro e w2 ⟨rfl, hb2⟩
          have hbe2 := hbe.trans (hb2.mono (by have := hbe.size; simpa using this))
          have hbw2 := (boxedR hbe2).2.1
          obtain ⟨D0, D1, D2, D3⟩ := HCE.out w2 hbw2
          have HTX2 : Hid (type_of% (HTX.out w2 hbw2)) := HTX.out w2 hbw2
          clear HTX1 HTX HCE hb2 C0 C1 C2 C3
          go_wp2_with fail
          refine HTX2.out.mono ?_
          rintro e W0 ⟨rfl, hb3⟩
          have hbe3 := hbe2.trans (hb3.mono (by have := hbe2.size; simpa using this))
          clear HTX2 hb3 D0 D1 D2 D3 hbe2 hbw2 hbe hbw
          go_wp2_with fail
          obtain ⟨_, hbw0, hzw0⟩ := boxedR hbe3
          have HBX : Hid (∀ wx : World, Below W0.heap.size W0 wx → wx.cell? ⟨w.heap.size, 0, none⟩ = some (.int .i64 t.kind) ∧ wx.cell? ⟨w.heap.size, 1, none⟩ = some (.string t.name) ∧ wx.cell? ⟨w.heap.size, 2, none⟩ = some (.slice an2 ln2 cn2) ∧ wx.cell? ⟨w.heap.size, 3, none⟩ = some (.slice ak2 lk2 ck2)) := fun wx hx => (boxedR (hbe3.trans (hx.mono hzw0))).1
          have HCP : Hid (∀ wx : World, Below W0.heap.size W0 wx → Calls Tryz.prog 35 #[.agg #[.int .i64 t.kind, .string t.name, .slice an2 ln2 cn2, .slice ak2 lk2 ck2]] wx fun e w' => ∃ (an : Option Addr) (ln cn : Nat) (ak : Option Addr) (lk ck : Nat), e = .returned (.agg #[.int .i64 t.kind, .string t.name, .slice an ln cn, .slice ak lk ck]) ∧ (∃ l, cellsK t l = [.int .i64 t.kind, .string t.name, .slice an ln cn, .slice ak lk ck] ∧ NewLay wx.heap.size w' n l t ∧ (t.kids = [] → l.vk = .slice none 0 0)) ∧ Below wx.heap.size wx w') := fun wx hx => HCP0.out wx (hbw0.trans (hx.mono hbw0.size))
          have C1 : Hid (∀ X : World, Below W0.heap.size W0 X → ∀ j u, (flatK (S.take k) (ls.take k))[j]? = some u → X.cell? ((⟨g, 0, none⟩ : Addr).add j) = some u) := fun X hX => HKS.out.front k hk (hbw0.trans (hX.mono hbw0.size))
          have C2 : Hid (∀ X : World, Below W0.heap.size W0 X → ∀ j u, (flatK (S.drop k) (ls.drop k))[j]? = some u → X.cell? ((⟨g, k * 4, none⟩ : Addr).add j) = some u) := fun X hX => HKS.out.back k hk (hbw0.trans (hX.mono hbw0.size))
          have HL1 : Hid ((flatK (S.take k) (ls.take k)).length = k * 4) := (HKS.out.lens k hk).1
          have HL2 : Hid ((flatK (S.drop k) (ls.drop k)).length = (S.length - k) * 4) := (HKS.out.lens k hk).2
          have HO1 : Hid (type_of% (HKS.out.one k).1) := (HKS.out.one k).1
          have HO2 : Hid (type_of% (HKS.out.one k).2) := (HKS.out.one k).2
          have hk0 : (0 : Int) ≤ (k : Int) := by omega
          have hkc : (k : Int) ≤ (cap : Int) := by omega
          have hkl : (k : Int) ≤ (S.length : Int) := by omega
          have hlc : (S.length : Int) ≤ (cap : Int) := by omega
          clear HCP0 hbe3
          have hck : ¬ cap = k := by omega
          go_region_held3 (fun w' => w'.cell? ⟨w.heap.size, 0, none⟩ = some (.int .i64 t.kind) ∧ w'.cell? ⟨w.heap.size, 1, none⟩ = some (.string t.name) ∧ w'.cell? ⟨w.heap.size, 2, none⟩ = some (.slice an2 ln2 cn2) ∧ w'.cell? ⟨w.heap.size, 3, none⟩ = some (.slice ak2 lk2 ck2))
            (first
              | exact HBX.out _ (by assumption)
              | exact HBX.out _ (Below.refl _ _)
              | exact HBX.out _ ((Below.refl _ _).drew)
              | exact HBX.out _ ((Below.refl _ _).alloc (Nat.le_refl _) _)
              | exact HBX.out _ ((Below.refl _ _).alloc (Nat.le_refl _) _).drew
              | (revert hb2; intro hb2; exact HBX.out _ (hb2.alloc hb2.size _)))
            (first
              | (refine step_append_own rfl (.tmp 38) (.tmp 41) 24 rfl W0.heap.size 28 i0 _ 4 72 Tryz.underlying24 hi hz0 hz1 hz2 rfl (by decide) (.slice (some ⟨W0.heap.size, 0, none⟩) 0 0) 0 [] rfl (own_empty4 (MapKept.heap_alloc W0 _).1 (Nat.le_refl _)) ⟨g, 0, none⟩ k cap (flatK (S.take k) (ls.take k)) rfl HL1.out (by first | exact C1.out _ ((Below.refl _ _).alloc (Nat.le_refl _) _).drew | exact C1.out _ ((Below.refl _ _).alloc (Nat.le_refl _) _)) HO1.out (by unfold maxLen; omega) (by omega) (by simp <;> omega) ?_; intro v1 w1 o1 g1 n1; have hb1 : Below W0.heap.size W0 w1 := (by first | exact (((Below.refl _ W0).alloc (Nat.le_refl _) _).drew).grown g1 (by simp) (fun j hj => by simp [Value.ownBlock] at hj; omega) | exact ((Below.refl _ W0).alloc (Nat.le_refl _) _).grown g1 (by simp) (fun j hj => by simp [Value.ownBlock] at hj; omega)))
              | (revert hb1; intro hb1; go_at_call 35; refine (HCP.out w1 hb1).mono ?_; rintro e wc ⟨an, ln, cn, ak, lk, ck, rfl, ⟨l, hcl, hnl, hnv⟩, hbc⟩; have hb2 : Below W0.heap.size W0 wc := hb1.trans (hbc.mono hb1.size); have o1c := kept_belowT o1 hbc)
              | (revert hb2; intro hb2; refine step_append_lies _ (by rfl) (.tmp 42) (.tmp 45) _ (by rfl) W0.heap.size 28 i0 _ 4 72 Tryz.underlying24 hi hz0 hz1 hz2 rfl (by omega) v1 (0 + k) ([] ++ flatK (S.take k) (ls.take k)) (by rfl) (by first | exact (o1c.alloc _) | exact (o1c.alloc _).drew) ⟨wc.heap.size, 0, none⟩ 1 1 [.int .i64 t.kind, .string t.name, .slice an ln cn, .slice ak lk ck] (by rfl) (by rfl) (World.news_of_block (cs := #[.int .i64 t.kind, .string t.name, .slice an ln cn, .slice ak lk ck]) (t := 28) (fr := (0, 0)) (heap_alloc_new wc _)) (by simp [Value.oneCell']) (by omega) (by unfold maxLen; omega) (by omega) (by have := hb2.size; simp; omega) (wc.heap.size + 1) (by simp) ?_; intro g2 c2 w2 o2 gr2 hat2 hlt2; have hb3 : Below W0.heap.size W0 w2 := (hb2.alloc hb2.size _).grown gr2 (by have := hb2.size; simp; omega) (fun j hj => by have := (o1.lt j hj).1; omega))
              | (revert hb3; intro hb3; refine step_append_own rfl (.tmp 46) (.tmp 49) 24 rfl W0.heap.size 28 i0 _ 4 72 Tryz.underlying24 hi hz0 hz1 hz2 rfl (by decide) (.slice (some ⟨g2, 0, none⟩) (0 + k + 1) c2) (0 + k + 1) ([] ++ flatK (S.take k) (ls.take k) ++ [.int .i64 t.kind, .string t.name, .slice an ln cn, .slice ak lk ck]) rfl o2 ⟨g, k * 4, none⟩ (S.length - k) (cap - k) (flatK (S.drop k) (ls.drop k)) rfl HL2.out (C2.out _ hb3) HO2.out (by unfold maxLen; omega) (by omega) hb3.size ?_; intro v3 w3 o3 g3 n3; have hb4 : Below W0.heap.size W0 w3 := hb3.grown g3 hb3.size (fun j hj => (o2.lt j hj).1)))
          all_goals
            rw [← hcl] at o3
            obtain ⟨g', cap', e3, hK3⟩ := HKS.out.put hk hBw hbw0 hb1 o1 hbc hnl hnv gr2 hat2 (by simpa [Value.ownBlock] using g3) hb4 o3
            subst e3
            have hb5 : Below w.heap.size w w3 := hbw0.trans (hb4.mono hbw0.size)
            have HK3 : Hid (type_of% hK3) := hK3
            clear hK3 o1 o1c o2 o3 g1 g3 gr2 n1 n3 hb1 hb2 hb3 hb4 hbc hnl hnv hcl hat2 HCP HBX C1 C2 HL1 HO1 HO2 HKS
            go_wp2_with fail
            go_ret
            exact ⟨g', cap', _, _, rfl, HK3.out, fun x => put_mem k, HP.out, hb5⟩
    · have hltk : ¬ (k : Int) < (S.length : Int) := by omega
      have HP : Hid ((S.take k ++ ([t] ++ S.drop k)).Pairwise fun a b => lessB (Ty.text n a) (Ty.text n b)) := put_asc k HS.out (fun j hj hjk => by rw [← HSE.out]; exact HALL.out j hj hjk) fun hk9 => absurd hk9 hlt
      have HKE : Hid (k = S.length) := by show k = S.length; omega
      obtain ⟨W0, rfl⟩ : ∃ W0, W0 = wo := ⟨_, rfl⟩
      have hbe3 := hbe
      clear HALL HEL HRT HR HSE HS hbe hbw
      go_wp2_with fail
      obtain ⟨_, hbw0, hzw0⟩ := boxedR hbe3
      have HBX : Hid (∀ wx : World, Below W0.heap.size W0 wx → wx.cell? ⟨w.heap.size, 0, none⟩ = some (.int .i64 t.kind) ∧ wx.cell? ⟨w.heap.size, 1, none⟩ = some (.string t.name) ∧ wx.cell? ⟨w.heap.size, 2, none⟩ = some (.slice an2 ln2 cn2) ∧ wx.cell? ⟨w.heap.size, 3, none⟩ = some (.slice ak2 lk2 ck2)) := fun wx hx => (boxedR (hbe3.trans (hx.mono hzw0))).1
      have HCP : Hid (∀ wx : World, Below W0.heap.size W0 wx → Calls Tryz.prog 35 #[.agg #[.int .i64 t.kind, .string t.name, .slice an2 ln2 cn2, .slice ak2 lk2 ck2]] wx fun e w' => ∃ (an : Option Addr) (ln cn : Nat) (ak : Option Addr) (lk ck : Nat), e = .returned (.agg #[.int .i64 t.kind, .string t.name, .slice an ln cn, .slice ak lk ck]) ∧ (∃ l, cellsK t l = [.int .i64 t.kind, .string t.name, .slice an ln cn, .slice ak lk ck] ∧ NewLay wx.heap.size w' n l t ∧ (t.kids = [] → l.vk = .slice none 0 0)) ∧ Below wx.heap.size wx w') := fun wx hx => HCP0.out wx (hbw0.trans (hx.mono hbw0.size))
      have C1 : Hid (∀ X : World, Below W0.heap.size W0 X → ∀ j u, (flatK (S.take k) (ls.take k))[j]? = some u → X.cell? ((⟨g, 0, none⟩ : Addr).add j) = some u) := fun X hX => HKS.out.front k hk (hbw0.trans (hX.mono hbw0.size))
      have C2 : Hid (∀ X : World, Below W0.heap.size W0 X → ∀ j u, (flatK (S.drop k) (ls.drop k))[j]? = some u → X.cell? ((⟨g, k * 4, none⟩ : Addr).add j) = some u) := fun X hX => HKS.out.back k hk (hbw0.trans (hX.mono hbw0.size))
      have HL1 : Hid ((flatK (S.take k) (ls.take k)).length = k * 4) := (HKS.out.lens k hk).1
      have HL2 : Hid ((flatK (S.drop k) (ls.drop k)).length = (S.length - k) * 4) := (HKS.out.lens k hk).2
      have HO1 : Hid (type_of% (HKS.out.one k).1) := (HKS.out.one k).1
      have HO2 : Hid (type_of% (HKS.out.one k).2) := (HKS.out.one k).2
      have hk0 : (0 : Int) ≤ (k : Int) := by omega
      have hkc : (k : Int) ≤ (cap : Int) := by omega
      have hkl : (k : Int) ≤ (S.length : Int) := by omega
      have hlc : (S.length : Int) ≤ (cap : Int) := by omega
      clear HCP0 hbe3
      by_cases hck : cap = k
      · subst hck
        go_region_held3 (fun w' => w'.cell? ⟨w.heap.size, 0, none⟩ = some (.int .i64 t.kind) ∧ w'.cell? ⟨w.heap.size, 1, none⟩ = some (.string t.name) ∧ w'.cell? ⟨w.heap.size, 2, none⟩ = some (.slice an2 ln2 cn2) ∧ w'.cell? ⟨w.heap.size, 3, none⟩ = some (.slice ak2 lk2 ck2))
          (first
            | exact HBX.out _ (by assumption)
            | exact HBX.out _ (Below.refl _ _)
            | exact HBX.out _ ((Below.refl _ _).drew)
            | exact HBX.out _ ((Below.refl _ _).alloc (Nat.le_refl _) _)
            | exact HBX.out _ ((Below.refl _ _).alloc (Nat.le_refl _) _).drew
            | (revert hb2; intro hb2; exact HBX.out _ (hb2.alloc hb2.size _)))
          (first
            | (refine step_append_own rfl (.tmp 38) (.tmp 41) 24 rfl W0.heap.size 28 i0 _ 4 72 Tryz.underlying24 hi hz0 hz1 hz2 rfl (by decide) (.slice (some ⟨W0.heap.size, 0, none⟩) 0 0) 0 [] rfl (own_empty4 (MapKept.heap_alloc W0 _).1 (Nat.le_refl _)) ⟨g, 0, none⟩ cap cap (flatK (S.take cap) (ls.take cap)) rfl HL1.out (by first | exact C1.out _ ((Below.refl _ _).alloc (Nat.le_refl _) _).drew | exact C1.out _ ((Below.refl _ _).alloc (Nat.le_refl _) _)) HO1.out (by unfold maxLen; omega) (by omega) (by simp <;> omega) ?_; intro v1 w1 o1 g1 n1; have hb1 : Below W0.heap.size W0 w1 := (by first | exact (((Below.refl _ W0).alloc (Nat.le_refl _) _).drew).grown g1 (by simp) (fun j hj => by simp [Value.ownBlock] at hj; omega) | exact ((Below.refl _ W0).alloc (Nat.le_refl _) _).grown g1 (by simp) (fun j hj => by simp [Value.ownBlock] at hj; omega)))
            | (revert hb1; intro hb1; go_at_call 35; refine (HCP.out w1 hb1).mono ?_; rintro e wc ⟨an, ln, cn, ak, lk, ck, rfl, ⟨l, hcl, hnl, hnv⟩, hbc⟩; have hb2 : Below W0.heap.size W0 wc := hb1.trans (hbc.mono hb1.size); have o1c := kept_belowT o1 hbc)
            | (revert hb2; intro hb2; refine step_append_lies _ (by rfl) (.tmp 42) (.tmp 45) _ (by rfl) W0.heap.size 28 i0 _ 4 72 Tryz.underlying24 hi hz0 hz1 hz2 rfl (by omega) v1 (0 + cap) ([] ++ flatK (S.take cap) (ls.take cap)) (by rfl) (by first | exact (o1c.alloc _) | exact (o1c.alloc _).drew) ⟨wc.heap.size, 0, none⟩ 1 1 [.int .i64 t.kind, .string t.name, .slice an ln cn, .slice ak lk ck] (by rfl) (by rfl) (World.news_of_block (cs := #[.int .i64 t.kind, .string t.name, .slice an ln cn, .slice ak lk ck]) (t := 28) (fr := (0, 0)) (heap_alloc_new wc _)) (by simp [Value.oneCell']) (by omega) (by unfold maxLen; omega) (by omega) (by have := hb2.size; simp; omega) (wc.heap.size + 1) (by simp) ?_; intro g2 c2 w2 o2 gr2 hat2 hlt2; have hb3 : Below W0.heap.size W0 w2 := (hb2.alloc hb2.size _).grown gr2 (by have := hb2.size; simp; omega) (fun j hj => by have := (o1.lt j hj).1; omega))
            | (revert hb3; intro hb3; refine step_append_own rfl (.tmp 46) (.tmp 49) 24 rfl W0.heap.size 28 i0 _ 4 72 Tryz.underlying24 hi hz0 hz1 hz2 rfl (by decide) (.slice (some ⟨g2, 0, none⟩) (0 + cap + 1) c2) (0 + cap + 1) ([] ++ flatK (S.take cap) (ls.take cap) ++ [.int .i64 t.kind, .string t.name, .slice an ln cn, .slice ak lk ck]) rfl o2 _ 0 _ (flatK (S.drop cap) (ls.drop cap)) rfl (by have := HL2.out; have := HKE.out; omega) (fun j u hu => by rw [List.drop_of_length_le (by have := HKE.out; omega)] at hu; simp [flatK] at hu) HO2.out (by unfold maxLen; omega) (by omega) hb3.size ?_; intro v3 w3 o3 g3 n3; have hb4 : Below W0.heap.size W0 w3 := hb3.grown g3 hb3.size (fun j hj => (o2.lt j hj).1)))
        all_goals
          rw [← hcl] at o3
          obtain ⟨g', cap', e3, hK3⟩ := HKS.out.put hk hBw hbw0 hb1 o1 hbc hnl hnv gr2 hat2 (by simpa [Value.ownBlock] using g3) hb4 (by rw [show S.length - cap = 0 by have := HKE.out; omega]; exact o3)
          subst e3
          have hb5 : Below w.heap.size w w3 := hbw0.trans (hb4.mono hbw0.size)
          have HK3 : Hid (type_of% hK3) := hK3
          clear hK3 o1 o1c o2 o3 g1 g3 gr2 n1 n3 hb1 hb2 hb3 hb4 hbc hnl hnv hcl hat2 HCP HBX C1 C2 HL1 HO1 HO2 HKS
          go_wp2_with fail
          go_ret
          exact ⟨g', cap', _, _, rfl, HK3.out, fun x => put_mem cap, HP.out, hb5⟩
      · go_region_held3 (fun w' => w'.cell? ⟨w.heap.size, 0, none⟩ = some (.int .i64 t.kind) ∧ w'.cell? ⟨w.heap.size, 1, none⟩ = some (.string t.name) ∧ w'.cell? ⟨w.heap.size, 2, none⟩ = some (.slice an2 ln2 cn2) ∧ w'.cell? ⟨w.heap.size, 3, none⟩ = some (.slice ak2 lk2 ck2))
          (first
            | exact HBX.out _ (by assumption)
            | exact HBX.out _ (Below.refl _ _)
            | exact HBX.out _ ((Below.refl _ _).drew)
            | exact HBX.out _ ((Below.refl _ _).alloc (Nat.le_refl _) _)
            | exact HBX.out _ ((Below.refl _ _).alloc (Nat.le_refl _) _).drew
            | (revert hb2; intro hb2; exact HBX.out _ (hb2.alloc hb2.size _)))
          (first
            | (refine step_append_own rfl (.tmp 38) (.tmp 41) 24 rfl W0.heap.size 28 i0 _ 4 72 Tryz.underlying24 hi hz0 hz1 hz2 rfl (by decide) (.slice (some ⟨W0.heap.size, 0, none⟩) 0 0) 0 [] rfl (own_empty4 (MapKept.heap_alloc W0 _).1 (Nat.le_refl _)) ⟨g, 0, none⟩ k cap (flatK (S.take k) (ls.take k)) rfl HL1.out (by first | exact C1.out _ ((Below.refl _ _).alloc (Nat.le_refl _) _).drew | exact C1.out _ ((Below.refl _ _).alloc (Nat.le_refl _) _)) HO1.out (by unfold maxLen; omega) (by omega) (by simp <;> omega) ?_; intro v1 w1 o1 g1 n1; have hb1 : Below W0.heap.size W0 w1 := (by first | exact (((Below.refl _ W0).alloc (Nat.le_refl _) _).drew).grown g1 (by simp) (fun j hj => by simp [Value.ownBlock] at hj; omega) | exact ((Below.refl _ W0).alloc (Nat.le_refl _) _).grown g1 (by simp) (fun j hj => by simp [Value.ownBlock] at hj; omega)))
            | (revert hb1; intro hb1; go_at_call 35; refine (HCP.out w1 hb1).mono ?_; rintro e wc ⟨an, ln, cn, ak, lk, ck, rfl, ⟨l, hcl, hnl, hnv⟩, hbc⟩; have hb2 : Below W0.heap.size W0 wc := hb1.trans (hbc.mono hb1.size); have o1c := kept_belowT o1 hbc)
            | (revert hb2; intro hb2; refine step_append_lies _ (by rfl) (.tmp 42) (.tmp 45) _ (by rfl) W0.heap.size 28 i0 _ 4 72 Tryz.underlying24 hi hz0 hz1 hz2 rfl (by omega) v1 (0 + k) ([] ++ flatK (S.take k) (ls.take k)) (by rfl) (by first | exact (o1c.alloc _) | exact (o1c.alloc _).drew) ⟨wc.heap.size, 0, none⟩ 1 1 [.int .i64 t.kind, .string t.name, .slice an ln cn, .slice ak lk ck] (by rfl) (by rfl) (World.news_of_block (cs := #[.int .i64 t.kind, .string t.name, .slice an ln cn, .slice ak lk ck]) (t := 28) (fr := (0, 0)) (heap_alloc_new wc _)) (by simp [Value.oneCell']) (by omega) (by unfold maxLen; omega) (by omega) (by have := hb2.size; simp; omega) (wc.heap.size + 1) (by simp) ?_; intro g2 c2 w2 o2 gr2 hat2 hlt2; have hb3 : Below W0.heap.size W0 w2 := (hb2.alloc hb2.size _).grown gr2 (by have := hb2.size; simp; omega) (fun j hj => by have := (o1.lt j hj).1; omega))
            | (revert hb3; intro hb3; refine step_append_own rfl (.tmp 46) (.tmp 49) 24 rfl W0.heap.size 28 i0 _ 4 72 Tryz.underlying24 hi hz0 hz1 hz2 rfl (by decide) (.slice (some ⟨g2, 0, none⟩) (0 + k + 1) c2) (0 + k + 1) ([] ++ flatK (S.take k) (ls.take k) ++ [.int .i64 t.kind, .string t.name, .slice an ln cn, .slice ak lk ck]) rfl o2 _ (S.length - k) (cap - k) (flatK (S.drop k) (ls.drop k)) rfl HL2.out (fun j u hu => by rw [List.drop_of_length_le (by have := HKE.out; omega)] at hu; simp [flatK] at hu) HO2.out (by unfold maxLen; omega) (by omega) hb3.size ?_; intro v3 w3 o3 g3 n3; have hb4 : Below W0.heap.size W0 w3 := hb3.grown g3 hb3.size (fun j hj => (o2.lt j hj).1)))
        all_goals
          rw [← hcl] at o3
          obtain ⟨g', cap', e3, hK3⟩ := HKS.out.put hk hBw hbw0 hb1 o1 hbc hnl hnv gr2 hat2 (by simpa [Value.ownBlock] using g3) hb4 o3
          subst e3
          have hb5 : Below w.heap.size w w3 := hbw0.trans (hb4.mono hbw0.size)
          have HK3 : Hid (type_of% hK3) := hK3
          clear hK3 o1 o1c o2 o3 g1 g3 gr2 n1 n3 hb1 hb2 hb3 hb4 hbc hnl hnv hcl hat2 HCP HBX C1 C2 HL1 HO1 HO2 HKS
          go_wp2_with fail
          go_ret
          exact ⟨g', cap', _, _, rfl, HK3.out, fun x => put_mem k, HP.out, hb5⟩
end Go.Proofs.YthomlchbgcjcfaaGreatDoor

namespace Go.Proofs.YthomlchbgcjcfaaGreatDoor
open Go.RowKit

theorem LayAt.up {w : World} {n : Nat} {l : Lay} {t : Ty} (h : LayAt w n l t) : LayAt w (n + 1) l t ∧ Lay.blocks (n + 1) l = Lay.blocks n l := by
  induction n generalizing l t with
  | zero => exact h.elim
  | succ n ih =>
    obtain ⟨h1, h2, h3, h4⟩ := h
    refine ⟨⟨h1, h2, h3, fun j a b => (ih (h4 j a b)).1⟩, ?_⟩
    have e : l.ks.map (Lay.blocks (n + 1)) = l.ks.map (Lay.blocks n) := List.map_congr_left fun x hx => by
      obtain ⟨j, hj, rfl⟩ := List.getElem_of_mem hx
      exact (ih (h4 j hj (by omega))).2
    show blk l.vn ++ (blk l.vk ++ l.ks.flatMap (Lay.blocks (n + 1))) = blk l.vn ++ (blk l.vk ++ l.ks.flatMap (Lay.blocks n))
    rw [List.flatMap_def, List.flatMap_def, e]
theorem sized_up {n : Nat} {t : Ty} (h : Ty.sized n t) : Ty.sized (n + 1) t := by
  induction n generalizing t with
  | zero => exact h.elim
  | succ n ih =>
    obtain ⟨h1, h2, h3, h4, h5⟩ := h
    exact ⟨h1, h2, h3, h4, fun k hk => ih (h5 k hk)⟩

/-- these, ascending -/
def AscS (n : Nat) (A S : List Ty) : Prop := (∀ x, x ∈ S ↔ x ∈ A) ∧ S.Pairwise fun a b => lessB (Ty.text n a) (Ty.text n b)
theorem AscS.nodup {n : Nat} {A S : List Ty} (h : AscS n A S) : S.Nodup := List.Pairwise.imp (fun {a b} (hab : lessB (Ty.text n a) (Ty.text n b)) (e : a = b) => lessB_irr _ (by rw [e] at hab; exact hab)) h.2
theorem AscS.length {n : Nat} {A S ts : List Ty} (h : AscS n A S) (hA : ∀ x ∈ A, x ∈ atoms ts) (hr : ∀ q ∈ ts, Right n q 12) (hbk : rowBulk n ts ≤ 1048576) : S.length ≤ 1048576 := by
  have h1 := sum_sub (f := fun _ => 0) h.nodup fun x hx => hA x ((h.1 x).1 hx)
  have h2 := atoms_bulk hr
  have z : ∀ l : List Ty, (l.map fun _ => 0).sum = 0 := fun l => by
    induction l with
    | nil => rfl
    | cons a r ih => rw [List.map_cons, List.sum_cons, ih]
  rw [z, z] at h1
  unfold rowBulk at hbk
  omega
/-- what is in it is right, and of sizes that memory can have -/
theorem atom_facts {n : Nat} {ts : List Ty} (hr : ∀ q ∈ ts, Right n q 12) (hs : ∀ q ∈ ts, Ty.sized n q) (hbk : rowBulk n ts ≤ 1048576) {x : Ty} (hx : x ∈ atoms ts) : Right n x 12 ∧ Ty.sized n x ∧ Ty.bulk n x ≤ 1048576 := by
  refine ⟨(atom_right hr hx).1, ?_, ?_⟩
  · obtain ⟨t, ht, ⟨c, hk⟩ | ⟨c, rfl⟩⟩ := atom_of.1 hx
    · have h1 := hs t ht
      cases n with
      | zero => exact h1.elim
      | succ n => exact sized_up (h1.2.2.2.2 x hk)
    · exact hs x ht
  · have h2 := atoms_bulk hr
    obtain ⟨j, hj, rfl⟩ := List.getElem_of_mem hx
    have h3 := kid_bulk n (atoms ts) j hj
    unfold rowBulk at hbk
    omega
theorem atoms_take {ts : List Ty} (k : Nat) {x : Ty} (h : x ∈ atoms (ts.take k)) : x ∈ atoms ts := by
  obtain ⟨t, ht, q⟩ := atom_of.1 h
  exact atom_of.2 ⟨t, List.mem_of_mem_take ht, q⟩
theorem rowBulk_take {n : Nat} {ts : List Ty} (k : Nat) (h : rowBulk n ts ≤ 1048576) : rowBulk n (ts.take k) ≤ 1048576 := by
  have h2 := sum_le n ts k
  have h3 : (ts.take k).length ≤ ts.length := by rw [List.length_take]; omega
  unfold rowBulk at h ⊢
  omega
theorem atomsB_more {ts : List Ty} (k : Nat) (h : k < ts.length) : atoms (ts.take (k + 1)) = atoms (ts.take k) ++ atoms [ts[k]] := by rw [List.take_succ_eq_append_getElem h, atoms_app]
theorem atomsB_7 {t : Ty} (h : t.kind = 7) : atoms [t] = t.kids := by simp [atoms, h]
theorem atomsB_1 {t : Ty} (h : t.kind ≠ 7) : atoms [t] = [t] := by simp [atoms, h]
theorem AscS.more {n : Nat} {A S S' : List Ty} {t : Ty} (h : AscS n A S) (hm : ∀ x, x ∈ S' ↔ x = t ∨ x ∈ S) (hp : S'.Pairwise fun a b => lessB (Ty.text n a) (Ty.text n b)) : AscS n (A ++ [t]) S' := by
  refine ⟨fun x => ?_, hp⟩
  rw [hm, h.1, List.mem_append, List.mem_singleton, or_comm]
theorem AscS.eq {n : Nat} {A A' S : List Ty} (h : AscS n A S) (e : A = A') : AscS n A' S := e ▸ h

theorem uspec_any {n : Nat} {ts : List Ty} (hr : ∀ q ∈ ts, Right n q 12) (h : ∃ q ∈ ts, q.kind = 3) : UAns n ts (.mk 3 ⟨#[]⟩ [] []) true := by
  refine .inr ⟨⟨?_, hr⟩, .inl ⟨h, rfl, rfl⟩⟩
  rintro rfl
  obtain ⟨q, hq, _⟩ := h
  simp at hq
theorem uspec_one {n : Nat} {ts S : List Ty} {t : Ty} (hr : ∀ q ∈ ts, Right n q 12) (hn : ∀ q ∈ ts, q.kind ≠ 3) (hU : UnionS n ts S) (h1 : S = [t]) : UAns n ts t true := by
  refine .inr ⟨⟨?_, hr⟩, .inr ⟨hn, S, hU, .inl ⟨by rw [h1]; rfl, rfl, h1⟩⟩⟩
  rintro rfl
  have := (hU.1 t).1 (by rw [h1]; simp)
  simp [atoms] at this
theorem uspec_more {n : Nat} {ts S : List Ty} (hr : ∀ q ∈ ts, Right n q 12) (hn : ∀ q ∈ ts, q.kind ≠ 3) (hU : UnionS n ts S) (h1 : S.length ≠ 1) : (Right (n + 1) (.mk 7 ⟨#[]⟩ [] S) 12 → UAns n ts (.mk 7 ⟨#[]⟩ [] S) true) ∧ (¬ Right (n + 1) (.mk 7 ⟨#[]⟩ [] S) 12 → UAns n ts (.mk 0 ⟨#[]⟩ [] []) false) := by
  by_cases c : ts = []
  · subst c
    refine ⟨fun h => ?_, fun _ => .inl ⟨rfl, rfl, .inl rfl⟩⟩
    obtain ⟨_, _, _, a, b, r, e⟩ := right_union h rfl
    have := (hU.1 a).1 (by
      have e' : S = a :: b :: r := e
      rw [e']; simp)
    simp [atoms] at this
  · obtain ⟨x, hx⟩ := atoms_some hr c
    have hl : 1 < S.length := by have := List.length_pos_of_mem ((hU.1 x).2 hx); omega
    have hiff := union_right hU hr hn hl
    exact ⟨fun h => .inr ⟨⟨c, hr⟩, .inr ⟨hn, S, hU, .inr (.inl ⟨hl, hiff.1 h, rfl, rfl⟩)⟩⟩, fun h => .inr ⟨⟨c, hr⟩, .inr ⟨hn, S, hU, .inr (.inr ⟨hl, fun q => h (hiff.2 q), rfl, rfl⟩)⟩⟩⟩

/-- the union that was gathered, laid -/
theorem KidsS.union {w : World} {B n g cap : Nat} {S : List Ty} {ls : List Lay} (h : KidsS w B n g cap S ls) : LayAt w (n + 1) (.mk (.slice none 0 0) (.slice (some ⟨g, 0, none⟩) S.length cap) ls) (.mk 7 ⟨#[]⟩ [] S) ∧ ∀ b ∈ Lay.blocks (n + 1) (.mk (.slice none 0 0) (.slice (some ⟨g, 0, none⟩) S.length cap) ls), B ≤ b := by
  refine ⟨⟨.inl ⟨rfl, rfl, none, 0, rfl⟩, h.len, OwnS.of h.own, fun j h1 h2 => (h.lay j h1 h2).1⟩, fun b hb => ?_⟩
  have hb' : b ∈ blk (.slice none 0 0) ++ (blk (.slice (some ⟨g, 0, none⟩) S.length cap) ++ ls.flatMap (Lay.blocks n)) := hb
  rcases List.mem_append.1 hb' with hb | hb
  · simp [blk] at hb
  · rcases List.mem_append.1 hb with hb | hb
    · by_cases c : 0 < S.length
      · rw [mem_blk c] at hb
        rw [hb]
        exact (h.own.lt g rfl).1
      · have : S.length = 0 := by omega
        rw [this] at hb
        simp [blk] at hb
    · obtain ⟨l, hl, hb⟩ := List.mem_flatMap.1 hb
      obtain ⟨j, hj, rfl⟩ := List.getElem_of_mem hl
      exact (h.lay j hj (by have := h.len; omega)).2 b hb
theorem union_sized {n : Nat} {S : List Ty} (h : ∀ s ∈ S, Ty.sized n s) (hl : S.length ≤ 1048576) : Ty.sized (n + 1) (.mk 7 ⟨#[]⟩ [] S) := by
  refine ⟨⟨by show (_ : Int) ≤ 7; omega, by show (7 : Int) ≤ _; omega⟩, ?_, ⟨?_, fun x hx => absurd hx (by simp)⟩, ?_, h⟩
  · show (0 : Nat) ≤ _
    omega
  · show (0 : Nat) ≤ _
    omega
  · show S.length ≤ _
    unfold maxLen
    omega

end Go.Proofs.YthomlchbgcjcfaaGreatDoor

namespace Go.Proofs.YthomlchbgcjcfaaGreatDoor
open Go.RowKit

theorem ret_unS {R : Ending → World → Prop} {W : World} {tmps : Array Value} {b : Nat} {x0 x1 x2 x3 : Value} {ok : Bool} (hp : tmps[2]?.getD undef = .pointer (some ⟨b, 0, none⟩)) (hq : tmps[3]?.getD undef = .bool ok)
    (h : W.cell? ⟨b, 0, none⟩ = some x0 ∧ W.cell? ⟨b, 1, none⟩ = some x1 ∧ W.cell? ⟨b, 2, none⟩ = some x2 ∧ W.cell? ⟨b, 3, none⟩ = some x3) (hR : R (.returned (.tuple #[.agg #[x0, x1, x2, x3], .bool ok])) W) :
    bodyPost Tryz.prog Tryz.f7 R .ret { tmps := tmps, defers := [] } W := by
  obtain ⟨h0, h1, h2, h3⟩ := h
  refine bodyPost_ret (v := .tuple #[.agg #[x0, x1, x2, x3], .bool ok]) ?_ rfl hR
  simp [results, Tryz.results7, go_sem, hp, hq, h0, h1, h2, h3]
theorem plainLayU {B : Nat} {w : World} {n : Nat} {kd : Int} {nm : ByteArray} : LayAt w (n + 1) (.mk (.slice none 0 0) (.slice none 0 0) []) (.mk kd nm [] []) ∧ ∀ b ∈ Lay.blocks (n + 1) (.mk (.slice none 0 0) (.slice none 0 0) []), B ≤ b := by
  have h : NewLay B w (n + 1) (.mk (.slice none 0 0) (.slice none 0 0) []) (.mk kd nm [] []) := plainLay
  exact ⟨h.1, h.2.2⟩
theorem lay_put {B R : Nat} {w : World} {n : Nat} {l : Lay} {t : Ty} {x0 x1 x2 x3 : Value} (h : LayAt w n l t ∧ ∀ b ∈ Lay.blocks n l, R + 1 ≤ b) (hB : B ≤ R) : LayAt ((((w.setCell ⟨R, 0, none⟩ x0).setCell ⟨R, 1, none⟩ x1).setCell ⟨R, 2, none⟩ x2).setCell ⟨R, 3, none⟩ x3) n l t ∧ ∀ b ∈ Lay.blocks n l, B ≤ b :=
  ⟨h.1.same fun b hb => put_other (by have := h.2 b hb; omega), fun b hb => by have := h.2 b hb; omega⟩

/-- what spec.Union leaves -/
def UPost (n : Nat) (ts : List Ty) (w : World) (e : Ending) (w' : World) : Prop := ∃ (l : Lay) (t : Ty) (ok : Bool), e = .returned (.tuple #[.agg (cellsK t l).toArray, .bool ok]) ∧ UAns n ts t ok ∧ (LayAt w' (n + 1) l t ∧ ∀ b ∈ Lay.blocks (n + 1) l, w.heap.size ≤ b) ∧ Below w.heap.size w w'

/-- the same, with what the kids' row is where there are none -/
def UPostN (n : Nat) (ts : List Ty) (w : World) (e : Ending) (w' : World) : Prop := ∃ (l : Lay) (t : Ty) (ok : Bool), e = .returned (.tuple #[.agg (cellsK t l).toArray, .bool ok]) ∧ UAns n ts t ok ∧ (LayAt w' (n + 1) l t ∧ ∀ b ∈ Lay.blocks (n + 1) l, w.heap.size ≤ b) ∧ Below w.heap.size w w' ∧ (t.kids = [] → l.vk = .slice none 0 0)

/-- whether any is among them -/
def anyIn (ts : List Ty) : Bool := ts.any fun q => q.kind == 3
theorem anyIn_more (ts : List Ty) (k : Nat) (h : k < ts.length) : anyIn (ts.take (k + 1)) = (anyIn (ts.take k) || ts[k].kind == 3) := by
  unfold anyIn
  rw [List.take_succ_eq_append_getElem h, List.any_append]
  simp
theorem anyIn_yes {ts : List Ty} (h : anyIn ts = true) : ∃ q ∈ ts, q.kind = 3 := by
  unfold anyIn at h
  rw [List.any_eq_true] at h
  obtain ⟨q, hq, h3⟩ := h
  exact ⟨q, hq, by simpa using h3⟩
theorem anyIn_no {ts : List Ty} (h : anyIn ts = false) : ∀ q ∈ ts, q.kind ≠ 3 := fun q hq h3 => by
  unfold anyIn at h
  rw [List.any_eq_false] at h
  exact h q hq (by simp [h3])

set_option maxHeartbeats 6400000 in
set_option maxRecDepth 100000 in
open Classical in
theorem specUnionN (n : Nat) (vk : Value) (ts : List Ty) (w : World) (hrow : RowAt w (TyAt w n) vk ts) (hbk : rowBulk n ts ≤ 1048576) :
    Calls Tryz.prog 7 #[vk] w (UPostN n ts w) := by
  have hlen : ts.length ≤ 1048576 := by unfold rowBulk at hbk; omega
  obtain ⟨ak, ck, rfl, hel⟩ := rowOpen hrow
  have HEL : Hid (type_of% hel) := hel
  have HSZ : Hid (∀ q ∈ ts, Ty.sized n q) := fun q hq => by
    obtain ⟨j, hj, rfl⟩ := List.getElem_of_mem hq
    obtain ⟨b, off, x0, x1, x2, x3, _, _, hta, _⟩ := hel j hj
    exact hta.sized
  have HBK : Hid (type_of% hbk) := hbk
  have hBW1 : Below w.heap.size w ((w.alloc (.cells #[.int .i64 0, .string ⟨#[]⟩, .slice none 0 0, .slice none 0 0] 28)).alloc (.cells #[] 28)) := ((Below.refl _ _).alloc (Nat.le_refl _) _).alloc (by simp) _
  have hr1 : ((w.alloc (.cells #[.int .i64 0, .string ⟨#[]⟩, .slice none 0 0, .slice none 0 0] 28)).alloc (.cells #[] 28)).heap[w.heap.size]? = some (.cells #[.int .i64 0, .string ⟨#[]⟩, .slice none 0 0, .slice none 0 0] 28 (0, 0)) := heap_first w _ _
  have hK1 : KidsS ((w.alloc (.cells #[.int .i64 0, .string ⟨#[]⟩, .slice none 0 0, .slice none 0 0] 28)).alloc (.cells #[] 28)) (w.heap.size + 1) n (w.heap.size + 1) 0 [] [] := ⟨rfl, own_empty4 (heap_second w _ _) (Nat.le_refl _), fun j h1 _ => absurd h1 (by simp), fun j h1 _ => absurd h1 (by simp)⟩
  clear hrow hel hbk
  go_enter Tryz.func7, Tryz.ntmps7
  go_wp2_with fail
  go_loopw [4, 5, 6] (fun v a i wr => ∃ (k : Nat) (S : List Ty) (ls : List Lay) (g cap : Nat), k ≤ ts.length ∧ v = .slice (some ⟨g, 0, none⟩) S.length cap ∧ a = .bool (anyIn (ts.take k)) ∧ i = .int .i64 k ∧ (∀ q ∈ ts.take k, Right n q 12) ∧ UnionS n (ts.take k) S ∧ KidsS wr (w.heap.size + 1) n g cap S ls ∧ wr.heap[w.heap.size]? = some (.cells #[.int .i64 0, .string ⟨#[]⟩, .slice none 0 0, .slice none 0 0] 28 (0, 0)) ∧ Below w.heap.size w wr) (fun _ _ i _ => ts.length - (intOf i).toNat)
  case atStart => exact ⟨0, [], [], w.heap.size + 1, 0, Nat.zero_le _, rfl, rfl, rfl, fun q hq => absurd hq (by simp), ⟨fun x => by simp [atoms], List.Pairwise.nil⟩, hK1, hr1, hBW1⟩
  case round =>
    obtain ⟨wo, rfl⟩ : ∃ wo, wo = wr := ⟨_, rfl⟩
    obtain ⟨k, S, ls, g, cap, hk, rfl, rfl, rfl, hRt, hU, hKS, hbox, hbe⟩ := hrel
    have HRT : Hid (type_of% hRt) := hRt
    have HU : Hid (type_of% hU) := hU
    have HKS : Hid (type_of% hKS) := hKS
    have lt0 : w.heap.size < wo.heap.size := (Array.getElem?_eq_some_iff.1 hbox).1
    clear hRt hU hKS hr1 hK1 hBW1
    by_cases hlt : k < ts.length
    · obtain ⟨b, off, x0, x1, x2, x3, rfl, hba, hta, a0, a1, a2, a3⟩ := HEL.out k hlt
      obtain ⟨an, ln, cn, ak, lk, ck, e⟩ := hta.shape
      simp only [List.cons.injEq, and_true] at e
      obtain ⟨rfl, rfl, rfl, rfl⟩ := e
      have A0 := (hbe.cell (p := ⟨b, off + k * 4, none⟩) hba).trans a0
      have A1 := (hbe.cell (p := ⟨b, off + k * 4 + 1, none⟩) hba).trans a1
      have A2 := (hbe.cell (p := ⟨b, off + k * 4 + 2, none⟩) hba).trans a2
      have A3 := (hbe.cell (p := ⟨b, off + k * 4 + 3, none⟩) hba).trans a3
      have hbx : Below wo.heap.size wo (wo.alloc (.cells #[.int .i64 ts[k].kind, .string ts[k].name, .slice an ln cn, .slice ak lk ck] 28)) := (Below.refl _ _).alloc (Nat.le_refl _) _
      have htb : (wo.alloc (.cells #[.int .i64 ts[k].kind, .string ts[k].name, .slice an ln cn, .slice ak lk ck] 28)).heap[wo.heap.size]? = some (.cells #[.int .i64 ts[k].kind, .string ts[k].name, .slice an ln cn, .slice ak lk ck] 28 (0, 0)) := heap_alloc_new wo _
      have hbu : Ty.bulk n ts[k] ≤ 1048576 := by
        have h1 := kid_bulk n ts k hlt
        have h2 := HBK.out
        unfold rowBulk at h2
        omega
      have HT0 := specTypeOk n _ ts[k] (wo.alloc (.cells #[.int .i64 ts[k].kind, .string ts[k].name, .slice an ln cn, .slice ak lk ck] 28)) (hta.below (hbe.trans (hbx.mono hbe.size))) hbu
      have HTA : Hid (type_of% hta) := hta
      have hk0 : (0 : Int) ≤ (k : Int) := by omega
      have hk1 : (k : Int) < (ts.length : Int) := by omega
      have hzo : (wo.alloc (.cells #[.int .i64 ts[k].kind, .string ts[k].name, .slice an ln cn, .slice ak lk ck] 28)).heap.size = wo.heap.size + 1 := by simp
      by_cases hr : Right n ts[k] 12
      · rw [decide_eq_true hr] at HT0
        have HT : Hid (type_of% HT0) := HT0
        clear HT0 a0 a1 a2 a3 hta
        obtain ⟨kd, hkd⟩ : ∃ kd, kd = ts[k].kind := ⟨_, rfl⟩
        obtain ⟨nm, hnm⟩ : ∃ nm, nm = ts[k].name := ⟨_, rfl⟩
        have HKD : Hid (type_of% hkd) := hkd
        have HNM : Hid (type_of% hnm) := hnm
        rw [← hkd] at A0 HT htb hbx hzo
        rw [← hnm] at A1 HT htb hbx hzo
        have HTA2 : Hid (TyAt w n [.int .i64 kd, .string nm, .slice an ln cn, .slice ak lk ck] ts[k]) := by rw [HKD.out, HNM.out]; exact HTA.out
        clear hkd hnm HTA
        go_wp2_with fail
        refine HT.out.mono ?_
        rintro e w2 ⟨rfl, hb2⟩
        have hbo2 : Below wo.heap.size wo w2 := hbx.trans (hb2.mono (by omega))
        have hbw2 : Below w.heap.size w w2 := hbe.trans (hbo2.mono hbe.size)
        have htb2 := (hb2.block wo.heap.size (by omega)).trans htb
        have hbox2 := (hbo2.block w.heap.size lt0).trans hbox
        obtain ⟨⟨t0, t1, t2, t3⟩, _⟩ := block4 htb2
        have hlt2 : wo.heap.size < w2.heap.size := (Array.getElem?_eq_some_iff.1 htb2).1
        have HRT2 : Hid (∀ q ∈ ts.take (k + 1), Right n q 12) := fun q hq => by
          rw [List.take_succ_eq_append_getElem hlt, List.mem_append, List.mem_singleton] at hq
          rcases hq with hq | hq
          · exact HRT.out q hq
          · subst hq; exact hr
        have hKS2 := HKS.out.below hbo2
        have hcap : S.length ≤ cap := by
          rcases hKS2.own.2 with ⟨_, h0⟩ | ⟨g', c', cur, e, _, _, q, _⟩
          · cases ‹_ = Value.slice none 0 0›
          · cases e; exact q
        have HFA : Hid (∀ x ∈ atoms (ts.take (k + 1)), Right n x 12 ∧ Ty.sized n x ∧ Ty.bulk n x ≤ 1048576) := fun x hx => atom_facts HRT2.out (fun q hq => HSZ.out q (List.mem_of_mem_take hq)) (rowBulk_take (k + 1) HBK.out) hx
        have hSl : S.length ≤ 1048577 := by
          have := AscS.length (ts := ts.take (k + 1)) HU.out (fun x hx => by rw [atomsB_more k hlt]; exact List.mem_append_left _ hx) HRT2.out (rowBulk_take (k + 1) HBK.out)
          omega
        have HSF : Hid (∀ s ∈ S, Right n s 12 ∧ Ty.sized n s ∧ Ty.bulk n s ≤ 1048576) := fun s hs => HFA.out s (by rw [atomsB_more k hlt]; exact List.mem_append_left _ ((HU.out.1 s).1 hs))
        have HKS2 : Hid (type_of% hKS2) := hKS2
        clear HT hb2 hbx htb hzo hKS2 A0 A1 A2 A3 hbox HKS
        by_cases c7 : kd = 7
        · subst c7
          obtain ⟨m, rfl⟩ : ∃ m, n = m + 1 := by
            cases n with
            | zero => exact hr.elim
            | succ m => exact ⟨m, rfl⟩
          have hatk : atoms (ts.take (k + 1)) = atoms (ts.take k) ++ ts[k].kids := by rw [atomsB_more k hlt, atomsB_7 HKD.out.symm]
          obtain ⟨vn9, vk9, e9, _, _, _, _, hrow9⟩ := HTA2.out
          simp only [List.cons.injEq, and_true] at e9
          obtain ⟨_, _, _, rfl⟩ := e9
          obtain ⟨ak', ck', ek', hel9⟩ := rowOpen hrow9
          simp only [Value.slice.injEq] at ek'
          obtain ⟨rfl, rfl, rfl⟩ := ek'
          have HE9 : Hid (type_of% hel9) := hel9
          have HKF : Hid (∀ (j : Nat) (hj : j < ts[k].kids.length), Right (m + 1) ts[k].kids[j] 12 ∧ Ty.bulk (m + 1) ts[k].kids[j] ≤ 1048576) := fun j hj => by
            have := HFA.out ts[k].kids[j] (by rw [hatk]; exact List.mem_append_right _ (List.getElem_mem hj))
            exact ⟨this.1, this.2.2⟩
          have HSL : Hid (∀ (j : Nat) (S2 : List Ty), AscS (m + 1) (atoms (ts.take k) ++ ts[k].kids.take j) S2 → S2.length ≤ 1048577 ∧ ∀ s ∈ S2, Right (m + 1) s 12 ∧ Ty.sized (m + 1) s ∧ Ty.bulk (m + 1) s ≤ 1048576) := fun j S2 h2 => by
            have hin : ∀ x ∈ atoms (ts.take k) ++ ts[k].kids.take j, x ∈ atoms (ts.take (k + 1)) := fun x hx => by
              rw [hatk]
              rcases List.mem_append.1 hx with hx | hx
              · exact List.mem_append_left _ hx
              · exact List.mem_append_right _ (List.mem_of_mem_take hx)
            have := AscS.length (ts := ts.take (k + 1)) h2 hin HRT2.out (rowBulk_take (k + 1) HBK.out)
            exact ⟨by omega, fun s hs => HFA.out s (hin s ((h2.1 s).1 hs))⟩
          have HUE : Hid (∀ S2, AscS (m + 1) (atoms (ts.take k) ++ ts[k].kids.take ts[k].kids.length) S2 → UnionS (m + 1) (ts.take (k + 1)) S2) := fun S2 h2 => AscS.eq h2 (by rw [List.take_length, hatk])
          have hU0 : AscS (m + 1) (atoms (ts.take k) ++ ts[k].kids.take 0) S := AscS.eq HU.out (by simp)
          have HAN : Hid (type_of% (anyIn_more ts k hlt)) := anyIn_more ts k hlt
          have hkl9 : ts[k].kids.length ≤ 1048576 := by
            have hbb : Ty.bulk (m + 1) ts[k] = ts[k].name.size + (ts[k].names.length + Ty.textsBulk ts[k].names) + (ts[k].kids.length + (ts[k].kids.map (Ty.bulk m)).sum) := rfl
            omega
          have hKS9 := HKS2.out
          have hU9 : Hid (type_of% hU0) := hU0
          clear hel9 hrow9 hatk HU HSF HKS2 HTA2 HFA hr HNM hbu HEL HSZ HBK hU0
          generalize ts[k].kids = ks at *
          cases han : anyIn (ts.take k) with
          | true =>
            rw [han] at HAN
            clear han
            go_wp2_with fail
            go_loopw [4, 8] (fun v i wr => ∃ (j : Nat) (S2 : List Ty) (ls2 : List Lay) (g2 cap2 : Nat), j ≤ ks.length ∧ v = .slice (some ⟨g2, 0, none⟩) S2.length cap2 ∧ i = .int .i64 j ∧ AscS (m + 1) (atoms (ts.take k) ++ ks.take j) S2 ∧ KidsS wr (w.heap.size + 1) (m + 1) g2 cap2 S2 ls2 ∧ Below w2.heap.size w2 wr) (fun _ i _ => ks.length - (intOf i).toNat)
            case atStart => exact ⟨0, S, ls, g, cap, Nat.zero_le _, rfl, rfl, hU9.out, hKS9, Below.refl _ _⟩
            case round =>
              obtain ⟨j, S2, ls2, g2, cap2, hj, rfl, rfl, hU2, hKS2, hb2⟩ := hrel
              have u3 := (hb2.cell (p := ⟨wo.heap.size, 3, none⟩) hlt2).trans t3
              have hbwr : Below w.heap.size w wr := hbw2.trans (hb2.mono hbw2.size)
              have HU2 : Hid (type_of% hU2) := hU2
              have HK2 : Hid (type_of% hKS2) := hKS2
              by_cases hjl : j < ks.length
              · obtain ⟨b9, off9, y0, y1, y2, y3, rfl, hb9, hty, z0, z1, z2, z3⟩ := HE9.out j hjl
                obtain ⟨an9, ln9, cn9, ak9, lk9, ck9, e⟩ := hty.shape
                simp only [List.cons.injEq, and_true] at e
                obtain ⟨rfl, rfl, rfl, rfl⟩ := e
                have Z0 := (hbwr.cell (p := ⟨b9, off9 + j * 4, none⟩) hb9).trans z0
                have Z1 := (hbwr.cell (p := ⟨b9, off9 + j * 4 + 1, none⟩) hb9).trans z1
                have Z2 := (hbwr.cell (p := ⟨b9, off9 + j * 4 + 2, none⟩) hb9).trans z2
                have Z3 := (hbwr.cell (p := ⟨b9, off9 + j * 4 + 3, none⟩) hb9).trans z3
                have hcap2 : S2.length ≤ cap2 := by
                  rcases hKS2.own.2 with ⟨e0, h0⟩ | ⟨g', c', cur, e, _, _, q, _⟩
                  · cases e0
                  · cases e; exact q
                obtain ⟨hs1, hs2⟩ := HSL.out j S2 hU2
                obtain ⟨hf1, hf2⟩ := HKF.out j hjl
                have HADD : Hid (type_of% (specAdd (w.heap.size + 1) (m + 1) g2 cap2 S2 ls2 _ ks[j] wr hKS2 (by have := hbwr.size; have := hb2.size; omega) hcap2 ((hty.below hbwr).mono (Nat.le_succ _)) hf1 hf2 hU2.2 hs2 hs1)) := specAdd (w.heap.size + 1) (m + 1) g2 cap2 S2 ls2 _ ks[j] wr hKS2 (by have := hbwr.size; have := hb2.size; omega) hcap2 ((hty.below hbwr).mono (Nat.le_succ _)) hf1 hf2 hU2.2 hs2 hs1
                have HUM : Hid (∀ S', (∀ x, x ∈ S' ↔ x = ks[j] ∨ x ∈ S2) → (S'.Pairwise fun a b => lessB (Ty.text (m + 1) a) (Ty.text (m + 1) b)) → AscS (m + 1) (atoms (ts.take k) ++ ks.take (j + 1)) S') := fun S' h1 h2 => AscS.eq (AscS.more HU2.out h1 h2) (by rw [List.take_succ_eq_append_getElem hjl, List.append_assoc])
                have hj0 : (0 : Int) ≤ (j : Int) := by omega
                have hj1 : (j : Int) < (ks.length : Int) := by omega
                clear z0 z1 z2 z3 hty hU2 hKS2 HU2 HK2 hs1 hs2 hf1 hf2 HE9 HSL HKF HUE hU9 hKS9
                generalize ks[j].kind = kd9 at *
                generalize ks[j].name = nm9 at *
                go_wp2_with fail
                refine HADD.out.mono ?_
                rintro e w3 ⟨g', cap', S', ls', rfl, hK3, hm3, hp3, hb3⟩
                have HK3 : Hid (type_of% hK3) := hK3
                have HU3 : Hid (type_of% (HUM.out S' hm3 hp3)) := HUM.out S' hm3 hp3
                have hb23 : Below w2.heap.size w2 w3 := hb2.trans (hb3.mono hb2.size)
                clear hK3 hm3 hp3 HADD HUM hb3 Z0 Z1 Z2 Z3 u3
                go_wp2_with fail
                go_roundw
                case rel => exact ⟨j + 1, S', ls', g', cap', by omega, rfl, by go_num, HU3.out, HK3.out, hb23⟩
                case measure => simp [intOf]; omega
              · have hje : j = ks.length := by omega
                have HU3 : Hid (type_of% (HUE.out S2 (by rw [← hje]; exact hU2))) := HUE.out S2 (by rw [← hje]; exact hU2)
                have hbox3 := (hb2.block w.heap.size (by omega)).trans hbox2
                have hjn : ¬ (j : Int) < (ks.length : Int) := by omega
                clear hU2 hKS2 HU2 hje HE9 HSL HKF HUE hU9 hKS9
                go_wp2_with fail
                go_roundw
                case rel => exact ⟨k + 1, S2, ls2, g2, cap2, by omega, rfl, by rw [HAN.out]; first | rfl | simp [← HKD.out], by go_num, HRT2.out, HU3.out, HK2.out, hbox3, hbwr⟩
                case measure => simp [intOf]; omega
          | false =>
            rw [han] at HAN
            clear han
            go_wp2_with fail
            go_loopw [4, 8] (fun v i wr => ∃ (j : Nat) (S2 : List Ty) (ls2 : List Lay) (g2 cap2 : Nat), j ≤ ks.length ∧ v = .slice (some ⟨g2, 0, none⟩) S2.length cap2 ∧ i = .int .i64 j ∧ AscS (m + 1) (atoms (ts.take k) ++ ks.take j) S2 ∧ KidsS wr (w.heap.size + 1) (m + 1) g2 cap2 S2 ls2 ∧ Below w2.heap.size w2 wr) (fun _ i _ => ks.length - (intOf i).toNat)
            case atStart => exact ⟨0, S, ls, g, cap, Nat.zero_le _, rfl, rfl, hU9.out, hKS9, Below.refl _ _⟩
            case round =>
              obtain ⟨j, S2, ls2, g2, cap2, hj, rfl, rfl, hU2, hKS2, hb2⟩ := hrel
              have u3 := (hb2.cell (p := ⟨wo.heap.size, 3, none⟩) hlt2).trans t3
              have hbwr : Below w.heap.size w wr := hbw2.trans (hb2.mono hbw2.size)
              have HU2 : Hid (type_of% hU2) := hU2
              have HK2 : Hid (type_of% hKS2) := hKS2
              by_cases hjl : j < ks.length
              · obtain ⟨b9, off9, y0, y1, y2, y3, rfl, hb9, hty, z0, z1, z2, z3⟩ := HE9.out j hjl
                obtain ⟨an9, ln9, cn9, ak9, lk9, ck9, e⟩ := hty.shape
                simp only [List.cons.injEq, and_true] at e
                obtain ⟨rfl, rfl, rfl, rfl⟩ := e
                have Z0 := (hbwr.cell (p := ⟨b9, off9 + j * 4, none⟩) hb9).trans z0
                have Z1 := (hbwr.cell (p := ⟨b9, off9 + j * 4 + 1, none⟩) hb9).trans z1
                have Z2 := (hbwr.cell (p := ⟨b9, off9 + j * 4 + 2, none⟩) hb9).trans z2
                have Z3 := (hbwr.cell (p := ⟨b9, off9 + j * 4 + 3, none⟩) hb9).trans z3
                have hcap2 : S2.length ≤ cap2 := by
                  rcases hKS2.own.2 with ⟨e0, h0⟩ | ⟨g', c', cur, e, _, _, q, _⟩
                  · cases e0
                  · cases e; exact q
                obtain ⟨hs1, hs2⟩ := HSL.out j S2 hU2
                obtain ⟨hf1, hf2⟩ := HKF.out j hjl
                have HADD : Hid (type_of% (specAdd (w.heap.size + 1) (m + 1) g2 cap2 S2 ls2 _ ks[j] wr hKS2 (by have := hbwr.size; have := hb2.size; omega) hcap2 ((hty.below hbwr).mono (Nat.le_succ _)) hf1 hf2 hU2.2 hs2 hs1)) := specAdd (w.heap.size + 1) (m + 1) g2 cap2 S2 ls2 _ ks[j] wr hKS2 (by have := hbwr.size; have := hb2.size; omega) hcap2 ((hty.below hbwr).mono (Nat.le_succ _)) hf1 hf2 hU2.2 hs2 hs1
                have HUM : Hid (∀ S', (∀ x, x ∈ S' ↔ x = ks[j] ∨ x ∈ S2) → (S'.Pairwise fun a b => lessB (Ty.text (m + 1) a) (Ty.text (m + 1) b)) → AscS (m + 1) (atoms (ts.take k) ++ ks.take (j + 1)) S') := fun S' h1 h2 => AscS.eq (AscS.more HU2.out h1 h2) (by rw [List.take_succ_eq_append_getElem hjl, List.append_assoc])
                have hj0 : (0 : Int) ≤ (j : Int) := by omega
                have hj1 : (j : Int) < (ks.length : Int) := by omega
                clear z0 z1 z2 z3 hty hU2 hKS2 HU2 HK2 hs1 hs2 hf1 hf2 HE9 HSL HKF HUE hU9 hKS9
                generalize ks[j].kind = kd9 at *
                generalize ks[j].name = nm9 at *
                go_wp2_with fail
                refine HADD.out.mono ?_
                rintro e w3 ⟨g', cap', S', ls', rfl, hK3, hm3, hp3, hb3⟩
                have HK3 : Hid (type_of% hK3) := hK3
                have HU3 : Hid (type_of% (HUM.out S' hm3 hp3)) := HUM.out S' hm3 hp3
                have hb23 : Below w2.heap.size w2 w3 := hb2.trans (hb3.mono hb2.size)
                clear hK3 hm3 hp3 HADD HUM hb3 Z0 Z1 Z2 Z3 u3
                go_wp2_with fail
                go_roundw
                case rel => exact ⟨j + 1, S', ls', g', cap', by omega, rfl, by go_num, HU3.out, HK3.out, hb23⟩
                case measure => simp [intOf]; omega
              · have hje : j = ks.length := by omega
                have HU3 : Hid (type_of% (HUE.out S2 (by rw [← hje]; exact hU2))) := HUE.out S2 (by rw [← hje]; exact hU2)
                have hbox3 := (hb2.block w.heap.size (by omega)).trans hbox2
                have hjn : ¬ (j : Int) < (ks.length : Int) := by omega
                clear hU2 hKS2 HU2 hje HE9 HSL HKF HUE hU9 hKS9
                go_wp2_with fail
                go_roundw
                case rel => exact ⟨k + 1, S2, ls2, g2, cap2, by omega, rfl, by rw [HAN.out]; first | rfl | simp [← HKD.out], by go_num, HRT2.out, HU3.out, HK2.out, hbox3, hbwr⟩
                case measure => simp [intOf]; omega
        · have c7b : (kd != 7) = true := by rw [bne_iff_ne]; exact c7
          have hatk : atoms (ts.take (k + 1)) = atoms (ts.take k) ++ [ts[k]] := by rw [atomsB_more k hlt, atomsB_1 (by rw [← HKD.out]; exact c7)]
          have HADD : Hid (type_of% (specAdd (w.heap.size + 1) n g cap S ls _ ts[k] w2 HKS2.out (by have := hbw2.size; omega) hcap (HTA2.out.below hbw2) hr hbu HU.out.2 HSF.out hSl)) := specAdd (w.heap.size + 1) n g cap S ls _ ts[k] w2 HKS2.out (by have := hbw2.size; omega) hcap (HTA2.out.below hbw2) hr hbu HU.out.2 HSF.out hSl
          have HUM : Hid (∀ S', (∀ x, x ∈ S' ↔ x = ts[k] ∨ x ∈ S) → (S'.Pairwise fun a b => lessB (Ty.text n a) (Ty.text n b)) → UnionS n (ts.take (k + 1)) S') := fun S' h1 h2 => AscS.eq (AscS.more HU.out h1 h2) hatk.symm
          have HAN : Hid (type_of% (anyIn_more ts k hlt)) := anyIn_more ts k hlt
          rw [← HKD.out] at HAN
          clear hatk HU HSF HKS2 HTA2 HFA hr c7 HKD HNM hbu HEL HSZ HBK
          cases han : anyIn (ts.take k) with
          | true =>
            rw [han] at HAN
            clear han
            go_wp2_with fail
            refine HADD.out.mono ?_
            rintro e w3 ⟨g', cap', S', ls', rfl, hK3, hm3, hp3, hb3⟩
            have hbw3 : Below w.heap.size w w3 := hbw2.trans (hb3.mono hbw2.size)
            have hbox3 := (hb3.block w.heap.size (by omega)).trans hbox2
            have HK3 : Hid (type_of% hK3) := hK3
            have HU3 : Hid (type_of% (HUM.out S' hm3 hp3)) := HUM.out S' hm3 hp3
            clear hK3 hm3 hp3 HADD HUM hb3 t0 t1 t2 t3 hbox2 htb2
            go_wp2_with fail
            go_roundw
            case rel => exact ⟨k + 1, S', ls', g', cap', by omega, rfl, by rw [HAN.out]; simp, by go_num, HRT2.out, HU3.out, HK3.out, hbox3, hbw3⟩
            case measure => simp [intOf]; omega
          | false =>
            rw [han] at HAN
            clear han
            go_wp2_with fail
            refine HADD.out.mono ?_
            rintro e w3 ⟨g', cap', S', ls', rfl, hK3, hm3, hp3, hb3⟩
            have hbw3 : Below w.heap.size w w3 := hbw2.trans (hb3.mono hbw2.size)
            have hbox3 := (hb3.block w.heap.size (by omega)).trans hbox2
            have HK3 : Hid (type_of% hK3) := hK3
            have HU3 : Hid (type_of% (HUM.out S' hm3 hp3)) := HUM.out S' hm3 hp3
            clear hK3 hm3 hp3 HADD HUM hb3 t0 t1 t2 t3 hbox2 htb2
            go_wp2_with fail
            go_roundw
            case rel => exact ⟨k + 1, S', ls', g', cap', by omega, rfl, by rw [HAN.out]; simp, by go_num, HRT2.out, HU3.out, HK3.out, hbox3, hbw3⟩
            case measure => simp [intOf]; omega
      · rw [decide_eq_false hr] at HT0
        have HT : Hid (type_of% HT0) := HT0
        have HA : Hid (UAns n ts (.mk 0 ⟨#[]⟩ [] []) false) := .inl ⟨rfl, rfl, .inr fun h => hr (h _ (List.getElem_mem hlt))⟩
        clear HT0 a0 a1 a2 a3 hta hr HU HKS HEL HSZ HBK HTA
        generalize ts[k].kind = kd at *
        generalize ts[k].name = nm at *
        go_wp2_with fail
        refine HT.out.mono ?_
        rintro e w2 ⟨rfl, hb2⟩
        have hbo2 : Below wo.heap.size wo w2 := hbx.trans (hb2.mono (by omega))
        have hbw2 : Below w.heap.size w w2 := hbe.trans (hbo2.mono hbe.size)
        have hbox2 := (hbo2.block w.heap.size lt0).trans hbox
        obtain ⟨⟨rc0, rc1, rc2, rc3⟩, rf⟩ := block4 hbox2
        have rf0 := rf 0
        have rf1 := rf 1
        have rf2 := rf 2
        have rf3 := rf 3
        clear HT hb2 hbx htb hzo A0 A1 A2 A3 rf
        go_wp2_with fail
        refine ret_unS rfl rfl (put4T fun j hj => ?_) ⟨.mk (.slice none 0 0) (.slice none 0 0) [], .mk 0 ⟨#[]⟩ [] [], false, rfl, HA.out, plainLayU, put_below hbw2 (Nat.le_refl _), fun _ => rfl⟩
        match j, hj with
        | 0, _ => rw [rc0]; rfl
        | 1, _ => rw [rc1]; rfl
        | 2, _ => rw [rc2]; rfl
        | 3, _ => rw [rc3]; rfl
    · have hke : ts.take k = ts := List.take_of_length_le (by omega)
      have hkn : ¬ (k : Int) < (ts.length : Int) := by omega
      have hbo : Below wo.heap.size wo (wo.alloc (.cells #[.int .i64 7, .string ⟨#[]⟩, .slice none 0 0, .slice (some ⟨g, 0, none⟩) S.length cap] 28)) := (Below.refl _ _).alloc (Nat.le_refl _) _
      have hbw1 : Below w.heap.size w (wo.alloc (.cells #[.int .i64 7, .string ⟨#[]⟩, .slice none 0 0, .slice (some ⟨g, 0, none⟩) S.length cap] 28)) := hbe.trans (hbo.mono hbe.size)
      have hr1 := (hbo.block w.heap.size lt0).trans hbox
      have hK1 := HKS.out.below hbo
      have hRT := HRT.out
      have hU := HU.out
      rw [hke] at hRT hU
      have hbb := hU.bulk hRT
      have hSl : S.length ≤ 1048576 := by have := HBK.out; unfold rowBulk at this; omega
      have HSF : Hid (∀ s ∈ S, Ty.sized n s) := fun s hs => (atom_facts hRT HSZ.out HBK.out ((hU.1 s).1 hs)).2.1
      have hob : (wo.alloc (.cells #[.int .i64 7, .string ⟨#[]⟩, .slice none 0 0, .slice (some ⟨g, 0, none⟩) S.length cap] 28)).heap[wo.heap.size]? = some (.cells #[.int .i64 7, .string ⟨#[]⟩, .slice none 0 0, .slice (some ⟨g, 0, none⟩) S.length cap] 28 (0, 0)) := heap_alloc_new wo _
      have hzo : (wo.alloc (.cells #[.int .i64 7, .string ⟨#[]⟩, .slice none 0 0, .slice (some ⟨g, 0, none⟩) S.length cap] 28)).heap.size = wo.heap.size + 1 := by simp
      generalize hW1 : (wo.alloc (.cells #[.int .i64 7, .string ⟨#[]⟩, .slice none 0 0, .slice (some ⟨g, 0, none⟩) S.length cap] 28)) = W1 at *
      have HZO : Hid (W1.heap.size = wo.heap.size + 1) := hzo
      clear hzo
      rw [hke]
      cases han : anyIn ts with
      | true =>
        have HA : Hid (UAns n ts (.mk 3 ⟨#[]⟩ [] []) true) := uspec_any hRT (anyIn_yes han)
        obtain ⟨⟨rc0, rc1, rc2, rc3⟩, rf⟩ := block4 hr1
        have rf0 := rf 0
        have rf1 := rf 1
        have rf2 := rf 2
        have rf3 := rf 3
        clear han hRT hU hbb HSF hK1 HRT HU HKS HEL HSZ HBK hbo hr1 rf hbox hke hob
        go_wp2_with fail
        refine ret_unS rfl rfl (put4T fun j hj => ?_) ⟨.mk (.slice none 0 0) (.slice none 0 0) [], .mk 3 ⟨#[]⟩ [] [], true, rfl, HA.out, plainLayU, put_below hbw1 (Nat.le_refl _), fun _ => rfl⟩
        match j, hj with
        | 0, _ => rw [rc0]; rfl
        | 1, _ => rw [rc1]; rfl
        | 2, _ => rw [rc2]; rfl
        | 3, _ => rw [rc3]; rfl
      | false =>
        have hn3 := anyIn_no han
        by_cases h1 : S.length = 1
        · have h1i : ((S.length : Int) == 1) = true := by rw [beq_iff_eq]; omega
          have h1l : (0 : Int) < (S.length : Int) := by omega
          have hS0 : 0 < S.length := by omega
          have hls0 : 0 < ls.length := by have := hK1.len; omega
          have HA : Hid (UAns n ts S[0] true) := uspec_one hRT hn3 hU (by
            match S, h1 with
            | [e], _ => rfl)
          have hl0 := hK1.lay 0 hls0 hS0
          have HVD : Hid (S[0].kids = [] → ls[0].vk = .slice none 0 0) := hK1.void 0 hls0 hS0
          have hta := hl0.1.at (HSF.out _ (List.getElem_mem hS0))
          obtain ⟨an, ln, cn, ak, lk, ck, e⟩ := hta.shape
          have c0 := hK1.cell 0 hls0 hS0 0 (by omega)
          have c1 := hK1.cell 0 hls0 hS0 1 (by omega)
          have c2 := hK1.cell 0 hls0 hS0 2 (by omega)
          have c3 := hK1.cell 0 hls0 hS0 3 (by omega)
          rw [e] at c0 c1 c2 c3
          rw [Nat.zero_mul, Nat.zero_add] at c0 c1 c2 c3
          have HLY : Hid (LayAt W1 (n + 1) ls[0] S[0] ∧ ∀ b ∈ Lay.blocks (n + 1) ls[0], w.heap.size + 1 ≤ b) := by
            obtain ⟨q1, q2⟩ := hl0.1.up
            exact ⟨q1, fun b hb => hl0.2 b (by rw [← q2]; exact hb)⟩
          have HE : Hid (cellsK S[0] ls[0] = [.int .i64 S[0].kind, .string S[0].name, .slice an ln cn, .slice ak lk ck]) := e
          obtain ⟨⟨rc0, rc1, rc2, rc3⟩, rf⟩ := block4 hr1
          have rf0 := rf 0
          have rf1 := rf 1
          have rf2 := rf 2
          have rf3 := rf 3
          clear han hRT hU hbb HSF hK1 HRT HU HKS HEL HSZ HBK hbo hr1 rf hbox hke hob h1 hn3 hl0 hta e
          generalize S[0].kind = kd at *
          generalize S[0].name = nm at *
          go_wp2_with fail
          refine ret_unS rfl rfl (put4T fun j hj => ?_) ⟨ls[0], S[0], true, by rw [HE.out], HA.out, lay_put HLY.out (Nat.le_refl _), put_below hbw1 (Nat.le_refl _), HVD.out⟩
          match j, hj with
          | 0, _ => rw [rc0]; rfl
          | 1, _ => rw [rc1]; rfl
          | 2, _ => rw [rc2]; rfl
          | 3, _ => rw [rc3]; rfl
        · have h1i : ((S.length : Int) == 1) = false := by rw [beq_eq_false_iff_ne]; omega
          obtain ⟨hyes, hno⟩ := uspec_more hRT hn3 hU h1
          have hly := hK1.union
          have hta := hly.1.at (union_sized HSF.out hSl)
          have HT0 := specTypeOk (n + 1) _ (.mk 7 ⟨#[]⟩ [] S) W1 hta (by
            have e9 : Ty.bulk (n + 1) (.mk 7 ⟨#[]⟩ [] S) = 0 + (0 + 0) + (S.length + (S.map (Ty.bulk n)).sum) := rfl
            have := HBK.out
            unfold rowBulk at this
            omega)
          have HLY : Hid (type_of% hly) := hly
          by_cases hr : Right (n + 1) (.mk 7 ⟨#[]⟩ [] S) 12
          · rw [decide_eq_true hr] at HT0
            have HT : Hid (type_of% HT0) := HT0
            have HA : Hid (type_of% (hyes hr)) := hyes hr
            have HVN : Hid (¬ S = []) := fun q => by
              obtain ⟨_, _, _, a9, b9, r9, e9⟩ := right_union hr rfl
              have e8 : S = a9 :: b9 :: r9 := e9
              rw [q] at e8
              cases e8
            obtain ⟨⟨o0, o1, o2, o3⟩, _⟩ := block4 hob
            clear han hRT hU hbb HSF hK1 HRT HU HKS HEL HSZ HBK hbo hbox hke h1 hn3 hta hly hyes hno hr HT0
            go_wp2_with fail
            refine HT.out.mono ?_
            rintro e w2 ⟨rfl, hb2⟩
            have hbw2 : Below w.heap.size w w2 := hbw1.trans (hb2.mono hbw1.size)
            have hr2 := (hb2.block w.heap.size (by have := HZO.out; omega)).trans hr1
            obtain ⟨⟨p0, p1, p2, p3⟩, _⟩ := block4 ((hb2.block wo.heap.size (by have := HZO.out; omega)).trans hob)
            have HL2 : Hid (LayAt w2 (n + 1) (.mk (.slice none 0 0) (.slice (some ⟨g, 0, none⟩) S.length cap) ls) (.mk 7 ⟨#[]⟩ [] S) ∧ ∀ b ∈ Lay.blocks (n + 1) (.mk (.slice none 0 0) (.slice (some ⟨g, 0, none⟩) S.length cap) ls), w.heap.size + 1 ≤ b) := ⟨HLY.out.1.below hb2, HLY.out.2⟩
            obtain ⟨⟨rc0, rc1, rc2, rc3⟩, rf⟩ := block4 hr2
            have rf0 := rf 0
            have rf1 := rf 1
            have rf2 := rf 2
            have rf3 := rf 3
            clear HT hb2 hr1 hr2 rf HLY o0 o1 o2 o3 hob
            go_wp2_with fail
            refine ret_unS rfl rfl (put4T fun j hj => ?_) ⟨_, _, true, rfl, HA.out, lay_put HL2.out (Nat.le_refl _), put_below hbw2 (Nat.le_refl _), fun q => absurd q HVN.out⟩
            match j, hj with
            | 0, _ => rw [rc0]; rfl
            | 1, _ => rw [rc1]; rfl
            | 2, _ => rw [rc2]; rfl
            | 3, _ => rw [rc3]; rfl
          · rw [decide_eq_false hr] at HT0
            have HT : Hid (type_of% HT0) := HT0
            have HA : Hid (type_of% (hno hr)) := hno hr
            obtain ⟨⟨o0, o1, o2, o3⟩, _⟩ := block4 hob
            clear han hRT hU hbb HSF hK1 HRT HU HKS HEL HSZ HBK hbo hbox hke h1 hn3 hta hly hyes hno hr HT0
            go_wp2_with fail
            refine HT.out.mono ?_
            rintro e w2 ⟨rfl, hb2⟩
            have hbw2 : Below w.heap.size w w2 := hbw1.trans (hb2.mono hbw1.size)
            have hr2 := (hb2.block w.heap.size (by have := HZO.out; omega)).trans hr1
            obtain ⟨⟨rc0, rc1, rc2, rc3⟩, rf⟩ := block4 hr2
            have rf0 := rf 0
            have rf1 := rf 1
            have rf2 := rf 2
            have rf3 := rf 3
            clear HT hb2 hr1 hr2 rf HLY o0 o1 o2 o3 hob
            go_wp2_with fail
            refine ret_unS rfl rfl (put4T fun j hj => ?_) ⟨.mk (.slice none 0 0) (.slice none 0 0) [], .mk 0 ⟨#[]⟩ [] [], false, rfl, HA.out, plainLayU, put_below hbw2 (Nat.le_refl _), fun _ => rfl⟩
            match j, hj with
            | 0, _ => rw [rc0]; rfl
            | 1, _ => rw [rc1]; rfl
            | 2, _ => rw [rc2]; rfl
            | 3, _ => rw [rc3]; rfl

theorem specUnion (n : Nat) (vk : Value) (ts : List Ty) (w : World) (hrow : RowAt w (TyAt w n) vk ts) (hbk : rowBulk n ts ≤ 1048576) :
    Calls Tryz.prog 7 #[vk] w (UPost n ts w) := (specUnionN n vk ts w hrow hbk).mono fun _ _ ⟨l, t, ok, h1, h2, h3, h4, _⟩ => ⟨l, t, ok, h1, h2, h3, h4⟩

end Go.Proofs.YthomlchbgcjcfaaGreatDoor
