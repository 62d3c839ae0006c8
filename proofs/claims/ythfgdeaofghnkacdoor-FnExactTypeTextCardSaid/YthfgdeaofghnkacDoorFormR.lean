/-
  When a type of each kind is right, as impl asks it.
-/
import Derived.Test.YthfgdeaofghnkacDoorFormU
namespace Go.Proofs.YthfgdeaofghnkacDoor
open Go.RowKit Go.Shelf

theorem ownAlone_iff (kd : Int) (nm : ByteArray) (ln lk : Nat) : ownAlone kd nm ln lk = true ↔ (kd = 4 ∨ nm.size = 0) ∧ (kd = 5 ∨ ln = 0) ∧ (5 ≤ kd ∨ lk = 0) := by
  unfold ownAlone
  simp only [Bool.and_eq_true, decide_eq_true_eq]
  exact ⟨fun h => ⟨h.1.1, h.1.2, h.2⟩, fun h => ⟨⟨h.1, h.2.1⟩, h.2.2⟩⟩

theorem right_alone {n : Nat} {t : Ty} (h : OwnRight n t) : ownAlone t.kind t.name t.names.length t.kids.length = true := by
  rw [ownAlone_iff]
  rcases h with ⟨h1, h2, h3, h4⟩ | ⟨h1, h2, h3, h4⟩ | ⟨h1, h2, h3, h4⟩ | ⟨h1, h2, h3, h4⟩ | ⟨h1, h2, h3, h4, h5⟩
  · exact ⟨.inr h2, .inr h3, .inr h4⟩
  · exact ⟨.inl h1, .inr h3, .inr h4⟩
  · exact ⟨.inr h3, .inl h1, .inl (by omega)⟩
  · exact ⟨.inr h2, .inr h3, .inl (by omega)⟩
  · exact ⟨.inr h3, .inr h4, .inl (by omega)⟩

theorem own_plain {n : Nat} {kd : Int} {nm : ByteArray} {nms : List ByteArray} {ks : List Ty} (hk : kd = 0 ∨ kd = 1 ∨ kd = 2 ∨ kd = 3) (h : ownAlone kd nm nms.length ks.length = true) : OwnRight n (.mk kd nm nms ks) := by
  rw [ownAlone_iff] at h
  exact .inl ⟨hk, by show nm.size = 0; omega, by show nms.length = 0; omega, by show ks.length = 0; omega⟩

theorem own_name {n : Nat} {nm : ByteArray} {nms : List ByteArray} {ks : List Ty} (h : ownAlone 4 nm nms.length ks.length = true) : OwnRight n (.mk 4 nm nms ks) ↔ dottedP nm = true := by
  rw [ownAlone_iff] at h
  constructor
  · rintro (⟨h1, _⟩ | ⟨_, h2, _⟩ | ⟨h1, _⟩ | ⟨h1, _⟩ | ⟨h1, _⟩)
    · exact absurd h1 (by show ¬ ((4 : Int) = 0 ∨ (4 : Int) = 1 ∨ (4 : Int) = 2 ∨ (4 : Int) = 3); omega)
    · exact h2
    · exact absurd h1 (by show ¬ (4 : Int) = 5; omega)
    · exact absurd h1 (by show ¬ (4 : Int) = 6; omega)
    · exact absurd h1 (by show ¬ (4 : Int) = 7; omega)
  · intro hd
    exact .inr (.inl ⟨rfl, hd, by show nms.length = 0; omega, by show ks.length = 0; omega⟩)

theorem own_record {n : Nat} {nm : ByteArray} {nms : List ByteArray} {ks : List Ty} (h : ownAlone 5 nm nms.length ks.length = true) : OwnRight n (.mk 5 nm nms ks) ↔ FieldsRight nms ks.length := by
  rw [ownAlone_iff] at h
  constructor
  · rintro (⟨h1, _⟩ | ⟨h1, _⟩ | ⟨_, h2, _, h4⟩ | ⟨h1, _⟩ | ⟨h1, _⟩)
    · exact absurd h1 (by show ¬ ((5 : Int) = 0 ∨ (5 : Int) = 1 ∨ (5 : Int) = 2 ∨ (5 : Int) = 3); omega)
    · exact absurd h1 (by show ¬ (5 : Int) = 4; omega)
    · refine ⟨fun x hx => ?_, h4, fun i hi h0 => (h2 i hi).2 h0⟩
      obtain ⟨j, hj, rfl⟩ := List.getElem_of_mem hx
      exact (h2 j hj).1
    · exact absurd h1 (by show ¬ (5 : Int) = 6; omega)
    · exact absurd h1 (by show ¬ (5 : Int) = 7; omega)
  · rintro ⟨h1, h2, h3⟩
    exact .inr (.inr (.inl ⟨rfl, fun i hi => ⟨h1 _ (List.getElem_mem hi), fun h0 => h3 i hi h0⟩, by show nm.size = 0; omega, h2⟩))

theorem own_fn {n : Nat} {nm : ByteArray} {nms : List ByteArray} {ks : List Ty} (h : ownAlone 6 nm nms.length ks.length = true) : OwnRight n (.mk 6 nm nms ks) ↔ 0 < ks.length := by
  rw [ownAlone_iff] at h
  constructor
  · rintro (⟨h1, _⟩ | ⟨h1, _⟩ | ⟨h1, _⟩ | ⟨_, _, _, h4⟩ | ⟨h1, _⟩)
    · exact absurd h1 (by show ¬ ((6 : Int) = 0 ∨ (6 : Int) = 1 ∨ (6 : Int) = 2 ∨ (6 : Int) = 3); omega)
    · exact absurd h1 (by show ¬ (6 : Int) = 4; omega)
    · exact absurd h1 (by show ¬ (6 : Int) = 5; omega)
    · exact h4
    · exact absurd h1 (by show ¬ (6 : Int) = 7; omega)
  · intro h1
    exact .inr (.inr (.inr (.inl ⟨rfl, by show nm.size = 0; omega, by show nms.length = 0; omega, h1⟩)))

theorem own_union {n : Nat} {nm : ByteArray} {nms : List ByteArray} {ks : List Ty} (h : ownAlone 7 nm nms.length ks.length = true) : OwnRight n (.mk 7 nm nms ks) ↔ KidsRight n ks := by
  rw [ownAlone_iff] at h
  constructor
  · rintro (⟨h1, _⟩ | ⟨h1, _⟩ | ⟨h1, _⟩ | ⟨h1, _⟩ | ⟨_, h2, _, _, h5⟩)
    · exact absurd h1 (by show ¬ ((7 : Int) = 0 ∨ (7 : Int) = 1 ∨ (7 : Int) = 2 ∨ (7 : Int) = 3); omega)
    · exact absurd h1 (by show ¬ (7 : Int) = 4; omega)
    · exact absurd h1 (by show ¬ (7 : Int) = 5; omega)
    · exact absurd h1 (by show ¬ (7 : Int) = 6; omega)
    · refine ⟨h5, fun q hq => ?_, fun i hi h0 => ?_⟩
      · obtain ⟨j, hj, rfl⟩ := List.getElem_of_mem hq
        exact ⟨(h2 j hj).1.2, (h2 j hj).1.1⟩
      · have hik : i < ks.length := by rw [textsP_len] at hi; exact hi
        have := (h2 i hik).2 h0
        rw [textsP_get n ks i hi hik, textsP_get n ks (i - 1) (by omega) (by omega)]
        exact this
  · rintro ⟨h1, h2, h3⟩
    refine .inr (.inr (.inr (.inr ⟨rfl, fun i hi => ⟨⟨(h2 _ (List.getElem_mem hi)).2, (h2 _ (List.getElem_mem hi)).1⟩, fun h0 => ?_⟩, by show nm.size = 0; omega, by show nms.length = 0; omega, h1⟩)))
    have hit : i < (textsP n ks).length := by rw [textsP_len]; exact hi
    have := h3 i hit h0
    rw [textsP_get n ks i hit hi, textsP_get n ks (i - 1) (by omega) (by have : i < ks.length := hi; omega)] at this
    exact this

theorem own_other {n : Nat} {kd : Int} {nm : ByteArray} {nms : List ByteArray} {ks : List Ty} (hk : kd < 0 ∨ 7 < kd) : ¬ OwnRight n (.mk kd nm nms ks) := by
  rintro (⟨h1, _⟩ | ⟨h1, _⟩ | ⟨h1, _⟩ | ⟨h1, _⟩ | ⟨h1, _⟩) <;> simp only at h1 <;> omega

theorem Texts.same {w w' : World} {v : Value} {ts : List ByteArray} (h : Texts w v ts) (hs : ∀ b, b < w.heap.size → w'.heap[b]? = w.heap[b]?) : Texts w' v ts := by
  rcases h with h | ⟨b, off, cap, rfl, hc⟩
  · exact .inl h
  · refine .inr ⟨b, off, cap, rfl, fun j hj => ?_⟩
    have h1 := hc j hj
    have hb : b < w.heap.size := World.block_lt_of_cell? w ⟨b, off + j, none⟩ h1
    rw [← h1]
    simp only [World.cell?, hs b hb]

theorem PartsIn.step {w w' : World} {B n lo hi lo' hi' : Nat} {v : Value} {ks : List Ty} (h : PartsIn w (FormIn w B n) lo hi v ks) (hb : Below w.heap.size w w') (hB : B ≤ w.heap.size) (hh : hi ≤ w.heap.size) (hl : lo' ≤ lo) (hi2 : hi ≤ hi') : PartsIn w' (FormIn w' B n) lo' hi' v ks := by
  rcases h with h | ⟨b, cap, e, g0, g1, g2, g3⟩
  · exact .inl h
  · refine .inr ⟨b, cap, e, g0, by omega, by omega, fun j hj => ?_⟩
    obtain ⟨l', h', u, q1, q2, q3, q4⟩ := g3 j hj
    refine ⟨l', h', u, by omega, by omega, ?_, q4.same (fun x hx => hb.block x (by omega)) fun x _ hx2 => hb.block x (by omega)⟩
    exact (hb.cell (p := ⟨b, j, none⟩) (World.block_lt_of_cell? w ⟨b, j, none⟩ q3)).trans q3

theorem PartsIn.parts {w : World} {B n lo hi : Nat} {v : Value} {ks : List Ty} (h : PartsIn w (FormIn w B n) lo hi v ks) : PartsAt w (FormAt w n) v ks := by
  rcases h with h | ⟨b, cap, e, g0, g1, g2, g3⟩
  · exact .inl h
  · refine .inr ⟨b, 0, cap, e, g0, fun j hj => ?_⟩
    obtain ⟨l', h', u, q1, q2, q3, q4⟩ := g3 j hj
    exact ⟨u, by rw [Nat.zero_add]; exact q3, q4.at⟩

end Go.Proofs.YthfgdeaofghnkacDoor
