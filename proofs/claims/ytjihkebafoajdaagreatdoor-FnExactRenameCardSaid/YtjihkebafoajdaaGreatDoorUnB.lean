/-
  What spec.Union gathers. No program here but where rows lie.
-/
import Derived.Test.YtjihkebafoajdaaGreatDoorUnA
import Derived.Test.YtjihkebafoajdaaGreatDoorRightV
namespace Go.Proofs.YtjihkebafoajdaaGreatDoor
open Go.RowKit

theorem LayAt.up {w : World} {n : Nat} {l : Lay} {t : Ty} (h : LayAt w n l t) : LayAt w (n + 1) l t ∧ Lay.blocks (n + 1) l = Lay.blocks n l := by
  induction n generalizing l t with
  | zero => exact h.elim
  | succ n ih =>
    obtain ⟨h1, h2, h3, h4⟩ := h
    refine ⟨⟨h1, h2, h3, fun j a b => (ih (h4 j a b)).1⟩, ?_⟩
    have e : l.ks.map (Lay.blocks (n + 1)) = l.ks.map (Lay.blocks n) := List.map_congr_left fun x hx => by
      obtain ⟨j, hj, rfl⟩ := List.getElem_of_mem hx
      exact (ih (h4 j hj (by omega))).2
    show blk l.vn ++ (blk l.vk ++ l.ks.flatMap (Lay.blocks (n + 1))) = blk l.vn ++ (blk l.vk ++ l.ks.flatMap (Lay.blocks n))
    rw [List.flatMap_def, List.flatMap_def, e]
theorem sized_up {n : Nat} {t : Ty} (h : Ty.sized n t) : Ty.sized (n + 1) t := by
  induction n generalizing t with
  | zero => exact h.elim
  | succ n ih =>
    obtain ⟨h1, h2, h3, h4, h5⟩ := h
    exact ⟨h1, h2, h3, h4, fun k hk => ih (h5 k hk)⟩

/-- these, ascending -/
def AscS (n : Nat) (A S : List Ty) : Prop := (∀ x, x ∈ S ↔ x ∈ A) ∧ S.Pairwise fun a b => lessB (Ty.text n a) (Ty.text n b)
theorem AscS.nodup {n : Nat} {A S : List Ty} (h : AscS n A S) : S.Nodup := List.Pairwise.imp (fun {a b} (hab : lessB (Ty.text n a) (Ty.text n b)) (e : a = b) => lessB_irr _ (by rw [e] at hab; exact hab)) h.2
theorem AscS.length {n : Nat} {A S ts : List Ty} (h : AscS n A S) (hA : ∀ x ∈ A, x ∈ atoms ts) (hr : ∀ q ∈ ts, Right n q 12) (hbk : rowBulk n ts ≤ 274877906944) : S.length ≤ 274877906944 := by
  have h1 := sum_sub (f := fun _ => 0) h.nodup fun x hx => hA x ((h.1 x).1 hx)
  have h2 := atoms_bulk hr
  have z : ∀ l : List Ty, (l.map fun _ => 0).sum = 0 := fun l => by
    induction l with
    | nil => rfl
    | cons a r ih => rw [List.map_cons, List.sum_cons, ih]
  rw [z, z] at h1
  unfold rowBulk at hbk
  omega
/-- what is in it is right, and of sizes that memory can have -/
theorem atom_facts {n : Nat} {ts : List Ty} (hr : ∀ q ∈ ts, Right n q 12) (hs : ∀ q ∈ ts, Ty.sized n q) (hbk : rowBulk n ts ≤ 274877906944) {x : Ty} (hx : x ∈ atoms ts) : Right n x 12 ∧ Ty.sized n x ∧ Ty.bulk n x ≤ 274877906944 := by
  refine ⟨(atom_right hr hx).1, ?_, ?_⟩
  · obtain ⟨t, ht, ⟨c, hk⟩ | ⟨c, rfl⟩⟩ := atom_of.1 hx
    · have h1 := hs t ht
      cases n with
      | zero => exact h1.elim
      | succ n => exact sized_up (h1.2.2.2.2 x hk)
    · exact hs x ht
  · have h2 := atoms_bulk hr
    obtain ⟨j, hj, rfl⟩ := List.getElem_of_mem hx
    have h3 := kid_bulk n (atoms ts) j hj
    unfold rowBulk at hbk
    omega
theorem atoms_take {ts : List Ty} (k : Nat) {x : Ty} (h : x ∈ atoms (ts.take k)) : x ∈ atoms ts := by
  obtain ⟨t, ht, q⟩ := atom_of.1 h
  exact atom_of.2 ⟨t, List.mem_of_mem_take ht, q⟩
theorem rowBulk_take {n : Nat} {ts : List Ty} (k : Nat) (h : rowBulk n ts ≤ 274877906944) : rowBulk n (ts.take k) ≤ 274877906944 := by
  have h2 := sum_le n ts k
  have h3 : (ts.take k).length ≤ ts.length := by rw [List.length_take]; omega
  unfold rowBulk at h ⊢
  omega
theorem atomsB_more {ts : List Ty} (k : Nat) (h : k < ts.length) : atoms (ts.take (k + 1)) = atoms (ts.take k) ++ atoms [ts[k]] := by rw [List.take_succ_eq_append_getElem h, atoms_app]
theorem atomsB_7 {t : Ty} (h : t.kind = 7) : atoms [t] = t.kids := by simp [atoms, h]
theorem atomsB_1 {t : Ty} (h : t.kind ≠ 7) : atoms [t] = [t] := by simp [atoms, h]
theorem AscS.more {n : Nat} {A S S' : List Ty} {t : Ty} (h : AscS n A S) (hm : ∀ x, x ∈ S' ↔ x = t ∨ x ∈ S) (hp : S'.Pairwise fun a b => lessB (Ty.text n a) (Ty.text n b)) : AscS n (A ++ [t]) S' := by
  refine ⟨fun x => ?_, hp⟩
  rw [hm, h.1, List.mem_append, List.mem_singleton, or_comm]
theorem AscS.eq {n : Nat} {A A' S : List Ty} (h : AscS n A S) (e : A = A') : AscS n A' S := e ▸ h

theorem uspec_any {n : Nat} {ts : List Ty} (hr : ∀ q ∈ ts, Right n q 12) (h : ∃ q ∈ ts, q.kind = 3) : UAns n ts (.mk 3 ⟨#[]⟩ [] []) true := by
  refine .inr ⟨⟨?_, hr⟩, .inl ⟨h, rfl, rfl⟩⟩
  rintro rfl
  obtain ⟨q, hq, _⟩ := h
  simp at hq
theorem uspec_one {n : Nat} {ts S : List Ty} {t : Ty} (hr : ∀ q ∈ ts, Right n q 12) (hn : ∀ q ∈ ts, q.kind ≠ 3) (hU : UnionS n ts S) (h1 : S = [t]) : UAns n ts t true := by
  refine .inr ⟨⟨?_, hr⟩, .inr ⟨hn, S, hU, .inl ⟨by rw [h1]; rfl, rfl, h1⟩⟩⟩
  rintro rfl
  have := (hU.1 t).1 (by rw [h1]; simp)
  simp [atoms] at this
theorem uspec_more {n : Nat} {ts S : List Ty} (hr : ∀ q ∈ ts, Right n q 12) (hn : ∀ q ∈ ts, q.kind ≠ 3) (hU : UnionS n ts S) (h1 : S.length ≠ 1) : (Right (n + 1) (.mk 7 ⟨#[]⟩ [] S) 12 → UAns n ts (.mk 7 ⟨#[]⟩ [] S) true) ∧ (¬ Right (n + 1) (.mk 7 ⟨#[]⟩ [] S) 12 → UAns n ts (.mk 0 ⟨#[]⟩ [] []) false) := by
  by_cases c : ts = []
  · subst c
    refine ⟨fun h => ?_, fun _ => .inl ⟨rfl, rfl, .inl rfl⟩⟩
    obtain ⟨_, _, _, a, b, r, e⟩ := right_union h rfl
    have := (hU.1 a).1 (by
      have e' : S = a :: b :: r := e
      rw [e']; simp)
    simp [atoms] at this
  · obtain ⟨x, hx⟩ := atoms_some hr c
    have hl : 1 < S.length := by have := List.length_pos_of_mem ((hU.1 x).2 hx); omega
    have hiff := union_right hU hr hn hl
    exact ⟨fun h => .inr ⟨⟨c, hr⟩, .inr ⟨hn, S, hU, .inr (.inl ⟨hl, hiff.1 h, rfl, rfl⟩)⟩⟩, fun h => .inr ⟨⟨c, hr⟩, .inr ⟨hn, S, hU, .inr (.inr ⟨hl, fun q => h (hiff.2 q), rfl, rfl⟩)⟩⟩⟩

/-- the union that was gathered, laid -/
theorem KidsS.union {w : World} {B n g cap : Nat} {S : List Ty} {ls : List Lay} (h : KidsS w B n g cap S ls) : LayAt w (n + 1) (.mk (.slice none 0 0) (.slice (some ⟨g, 0, none⟩) S.length cap) ls) (.mk 7 ⟨#[]⟩ [] S) ∧ ∀ b ∈ Lay.blocks (n + 1) (.mk (.slice none 0 0) (.slice (some ⟨g, 0, none⟩) S.length cap) ls), B ≤ b := by
  refine ⟨⟨.inl ⟨rfl, rfl, none, 0, rfl⟩, h.len, OwnS.of h.own, fun j h1 h2 => (h.lay j h1 h2).1⟩, fun b hb => ?_⟩
  have hb' : b ∈ blk (.slice none 0 0) ++ (blk (.slice (some ⟨g, 0, none⟩) S.length cap) ++ ls.flatMap (Lay.blocks n)) := hb
  rcases List.mem_append.1 hb' with hb | hb
  · simp [blk] at hb
  · rcases List.mem_append.1 hb with hb | hb
    · by_cases c : 0 < S.length
      · rw [mem_blk c] at hb
        rw [hb]
        exact (h.own.lt g rfl).1
      · have : S.length = 0 := by omega
        rw [this] at hb
        simp [blk] at hb
    · obtain ⟨l, hl, hb⟩ := List.mem_flatMap.1 hb
      obtain ⟨j, hj, rfl⟩ := List.getElem_of_mem hl
      exact (h.lay j hj (by have := h.len; omega)).2 b hb
theorem union_sized {n : Nat} {S : List Ty} (h : ∀ s ∈ S, Ty.sized n s) (hl : S.length ≤ 274877906944) : Ty.sized (n + 1) (.mk 7 ⟨#[]⟩ [] S) := by
  refine ⟨⟨by show (_ : Int) ≤ 7; omega, by show (7 : Int) ≤ _; omega⟩, ?_, ⟨?_, fun x hx => absurd hx (by simp)⟩, ?_, h⟩
  · show (0 : Nat) ≤ _
    omega
  · show (0 : Nat) ≤ _
    omega
  · show S.length ≤ _
    unfold maxLen
    omega

end Go.Proofs.YtjihkebafoajdaaGreatDoor
