/-
  The law FnStore, plainly: what a store is after a put, a get and a drop.
-/
import Derived.Test.YtoebfpdalkpkdaaDoorItGt
import Derived.Test.YtoebfpdalkpkdaaDoorItPi
import Derived.Test.YtoebfpdalkpkdaaDoorItF
namespace Go.Proofs.YtoebfpdalkpkdaaDoor
open Go.RowKit

/-- a right store, told by its items alone -/
theorem storeRight_iff (room : Int) (es : List Itm) : StoreRight room es ↔ (∀ e ∈ es, e.1 = keyB e.2.1) ∧ es.Pairwise (fun a b => a.2.1 ≠ b.2.1) ∧ 0 ≤ room ∧ room ≤ 100 ∧ (es.length : Int) ≤ room := by
  unfold StoreRight
  constructor
  · rintro ⟨h, h1, h2, h3⟩
    refine ⟨fun e he => ?_, List.pairwise_iff_getElem.2 fun i j hi hj hij => (h j hj).2 i hij, h1, h2, h3⟩
    obtain ⟨j, hj, rfl⟩ := List.getElem_of_mem he
    exact (h j hj).1
  · rintro ⟨h, hp, h1, h2, h3⟩
    refine ⟨fun j hj => ⟨h _ (List.getElem_mem hj), fun i hi => ?_⟩, h1, h2, h3⟩
    exact List.pairwise_iff_getElem.1 hp i j (by omega) hj hi

theorem withoutI_mem {es : List Itm} {s : ByteArray} {e : Itm} (h : e ∈ withoutI es s) : e ∈ es ∧ e.2.1 ≠ s := by
  obtain ⟨h1, h2⟩ := List.mem_filter.1 h
  exact ⟨h1, of_decide_eq_true h2⟩

theorem rest_without {room : Int} {es R : List Itm} {s : ByteArray} (hS : StoreRight room es) (h : RestIs es s R) : R = withoutI es s := by
  rcases h with ⟨hno, e⟩ | ⟨j, hj, he, _, e⟩
  · exact e.trans (withoutI_none es s hno).symm
  · exact e.trans (withoutI_one es s j hj he fun i k hk hi => (hS.1 k hk).2 i hi).symm

/-- an item in front of those that have not its input -/
theorem right_front {room : Int} {es : List Itm} {x : Itm} (hS : StoreRight room es) (hx : x.1 = keyB x.2.1) (n : Nat) (hn : (n : Int) ≤ room) : StoreRight room ((x :: withoutI es x.2.1).take n) := by
  obtain ⟨h, hp, h1, h2, h3⟩ := (storeRight_iff room es).1 hS
  refine (storeRight_iff _ _).2 ⟨fun e he => ?_, ?_, h1, h2, ?_⟩
  · rcases List.mem_cons.1 (List.mem_of_mem_take he) with rfl | he
    · exact hx
    · exact h e (withoutI_mem he).1
  · refine List.Pairwise.sublist (List.take_sublist _ _) (List.pairwise_cons.2 ⟨fun e he => (withoutI_mem he).2.symm, ?_⟩)
    exact List.Pairwise.sublist List.filter_sublist hp
  · rw [List.length_take]
    omega

theorem right_take {room : Int} {es : List Itm} (hS : StoreRight room es) (n : Nat) : StoreRight room (es.take n) := by
  obtain ⟨h, hp, h1, h2, h3⟩ := (storeRight_iff room es).1 hS
  refine (storeRight_iff _ _).2 ⟨fun e he => h e (List.mem_of_mem_take he), List.Pairwise.sublist (List.take_sublist _ _) hp, h1, h2, ?_⟩
  rw [List.length_take]
  omega

/-- what is got is the first thereafter -/
theorem got_first {room : Int} {es L : List Itm} {s out : ByteArray} (h : StoreGets room es s out true L) : L.length = es.length ∧ StoreRight room L ∧ ∃ h0 : 0 < L.length, L[0].2.1 = s := by
  by_cases c : StoreRight room es
  · rcases h.1 c with ⟨_, _, hf, _⟩ | ⟨j, hj, he, hfst, ho, _, hL⟩
    · cases hf
    · have hw : es.eraseIdx j = withoutI es s := (withoutI_one es s j hj he fun i k hk hi => (c.1 k hk).2 i hi).symm
      have hlen := h.length
      refine ⟨hlen, ?_, ?_⟩
      · have hx := right_front (x := es[j]) c (c.1 j hj).1 es.length c.2.2.2
        rw [he, ← hw, ← hL, List.take_of_length_le (by omega)] at hx
        exact hx
      · refine ⟨by omega, ?_⟩
        subst hL
        exact he
  · obtain ⟨_, hf, _⟩ := h.2 c
    cases hf

/-- what was put -/
theorem put_right {room : Int} {es L : List Itm} {s out : ByteArray} (h : StorePuts room es s out L) (c : StoreRight room es) : StoreRight room L ∧ (L.length : Int) ≤ room ∧ ((0 < room ∧ ∃ h0 : 0 < L.length, L[0] = (keyB s, s, out)) ∨ (room = 0 ∧ L = [])) := by
  obtain ⟨R, hR, hL⟩ := h.1 c
  have hw := rest_without c hR
  have h0 := c.2.1
  have hr := right_front (x := (keyB s, s, out)) c rfl room.toNat (by omega)
  rw [← hw, ← hL] at hr
  refine ⟨hr, hr.2.2.2, ?_⟩
  by_cases h1 : 0 < room
  · obtain ⟨k, hk⟩ : ∃ k, room.toNat = k + 1 := ⟨room.toNat - 1, by omega⟩
    refine .inl ⟨h1, ?_⟩
    rw [hk, List.take_succ_cons] at hL
    subst hL
    exact ⟨by simp, rfl⟩
  · refine .inr ⟨by omega, ?_⟩
    rw [hL, show room.toNat = 0 from by omega, List.take_zero]

/-- what is got of what was put -/
theorem put_got {room : Int} {es L L2 : List Itm} {s out back : ByteArray} {is : Bool} (h : StorePuts room es s out L) (c : StoreRight room es) (g : StoreGets room L s back is L2) : is = decide (0 < room) ∧ (is = true → back = out) := by
  obtain ⟨hr, _, hh⟩ := put_right h c
  rcases g.1 hr with ⟨hno, _, hf, _⟩ | ⟨j, hj, he, hfst, ho, hf, _⟩
  · rcases hh with ⟨h1, h0, e⟩ | ⟨h1, e⟩
    · exact absurd (by rw [e]) (hno 0 h0)
    · subst hf
      exact ⟨by rw [decide_eq_false (by omega)], fun h => by cases h⟩
  · rcases hh with ⟨h1, h0, e⟩ | ⟨h1, e⟩
    · subst hf
      refine ⟨by rw [decide_eq_true h1], fun _ => ?_⟩
      have hj0 : j = 0 := by
        cases j with
        | zero => rfl
        | succ j => exact absurd (by rw [e]) (hfst 0 (by omega))
      subst hj0
      rw [ho, e]
    · subst e
      simp at hj

/-- how much items hold: a bound -/
def SmallI (es : List Itm) (n m : Nat) : Prop := es.length ≤ n ∧ ∀ e ∈ es, itBulk e ≤ m
theorem SmallI.bulk {es : List Itm} {n m : Nat} (h : SmallI es n m) : itsBulk es ≤ n + n * m := by
  obtain ⟨h1, h2⟩ := h
  have h3 : (es.map itBulk).sum ≤ es.length * m := by
    clear h1
    induction es with
    | nil => simp
    | cons x r ih =>
      have := h2 x (List.mem_cons_self ..)
      have := ih fun e he => h2 e (List.mem_cons_of_mem _ he)
      simp only [List.map_cons, List.sum_cons, List.length_cons, Nat.add_mul]
      omega
  have h4 : es.length * m ≤ n * m := Nat.mul_le_mul_right m h1
  unfold itsBulk
  omega
theorem SmallI.of_sub {es L : List Itm} {n m : Nat} (h : SmallI es n m) (hl : L.length ≤ es.length) (hs : ∀ e ∈ L, e ∈ es) : SmallI L n m := ⟨Nat.le_trans hl h.1, fun e he => h.2 e (hs e he)⟩
theorem put_small {room : Int} {es L : List Itm} {s out : ByteArray} {n m : Nat} (h : StorePuts room es s out L) (hs : SmallI es n m) (hb : itBulk (keyB s, s, out) ≤ m) : SmallI L (n + 1) m := by
  by_cases c : StoreRight room es
  · obtain ⟨R, hR, hL⟩ := h.1 c
    have hw := rest_without c hR
    rw [hL, hw]
    have hl := withoutI_length es s
    have := hs.1
    refine ⟨by rw [List.length_take, List.length_cons]; omega, fun e he => ?_⟩
    rcases List.mem_cons.1 (List.mem_of_mem_take he) with rfl | he
    · exact hb
    · exact hs.2 e (withoutI_mem he).1
  · rw [h.2 c]
    exact ⟨Nat.le_succ_of_le hs.1, hs.2⟩
theorem get_small {room : Int} {es L : List Itm} {s out : ByteArray} {f : Bool} {n m : Nat} (h : StoreGets room es s out f L) (hs : SmallI es n m) : SmallI L n m := by
  by_cases c : StoreRight room es
  · rcases h.1 c with ⟨_, _, _, rfl⟩ | ⟨j, hj, he, hfst, ho, _, rfl⟩
    · exact hs
    · have hl := List.length_eraseIdx_of_lt hj
      refine hs.of_sub (by rw [List.length_cons, hl]; omega) fun e he => ?_
      rcases List.mem_cons.1 he with rfl | he
      · exact List.getElem_mem hj
      · exact List.mem_of_mem_eraseIdx he
  · obtain ⟨_, _, rfl⟩ := h.2 c
    exact hs
theorem take_small {es : List Itm} {n m : Nat} (hs : SmallI es n m) (k : Nat) : SmallI (es.take k) n m := hs.of_sub (by rw [List.length_take]; omega) fun e he => List.mem_of_mem_take he

end Go.Proofs.YtoebfpdalkpkdaaDoor
