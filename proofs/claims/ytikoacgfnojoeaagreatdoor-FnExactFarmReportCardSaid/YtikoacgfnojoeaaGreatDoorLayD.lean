/-
  Where a type lies in memory: a layout of its rows. What is changed, and what is as it was.
-/
import Derived.Test.YtikoacgfnojoeaaGreatDoorMarkN
namespace Go.Proofs.YtikoacgfnojoeaaGreatDoor
open Go.RowKit

/-- the rows of a type: its names', its kids', and its kids' own -/
structure Lay where
  vn : Value
  vk : Value
  ks : List Lay

/-- the block of a row, where anything is in it -/
def blk : Value → List Nat
  | .slice (some a) (_ + 1) _ => [a.block]
  | _ => []
theorem mem_blk {a : Addr} {n c b : Nat} (hn : 0 < n) : b ∈ blk (.slice (some a) n c) ↔ b = a.block := by
  cases n with
  | zero => omega
  | succ n => unfold blk; simp
/-- a row of its own, or an empty one wherever it points to -/
def OwnS (w : World) (e : TypeId) (z : Nat) (v : Value) (n : Nat) (xs : List Value) : Prop := (n = 0 ∧ xs = [] ∧ ∃ a cap, v = .slice a 0 cap) ∨ (0 < n ∧ w.ownsRow 0 e z v n xs)
theorem OwnS.pos {w : World} {e : TypeId} {z : Nat} {v : Value} {n : Nat} {xs : List Value} (h : OwnS w e z v n xs) (hn : 0 < n) : w.ownsRow 0 e z v n xs := by
  rcases h with ⟨h, _⟩ | ⟨_, h⟩
  · omega
  · exact h
theorem OwnS.slice {w : World} {e : TypeId} {z : Nat} {v : Value} {n : Nat} {xs : List Value} (h : OwnS w e z v n xs) : ∃ a cap, v = .slice a n cap := by
  rcases h with ⟨h, _, a, cap, e⟩ | ⟨_, h⟩
  · exact ⟨a, cap, by rw [h]; exact e⟩
  · exact slice_ownM h
theorem OwnS.len {w : World} {e : TypeId} {z : Nat} {v : Value} {n : Nat} {xs : List Value} (h : OwnS w e z v n xs) : xs.length = n * z := by
  rcases h with ⟨h, h2, _⟩ | ⟨_, h⟩
  · rw [h, h2]; simp
  · exact h.1
/-- all blocks of it: to a depth -/
def Lay.blocks : Nat → Lay → List Nat
  | 0, _ => []
  | n + 1, l => blk l.vn ++ (blk l.vk ++ l.ks.flatMap (Lay.blocks n))
/-- all blocks of a row of types -/
def rowBlocks (n : Nat) (v : Value) (ls : List Lay) : List Nat := blk v ++ ls.flatMap (Lay.blocks n)

/-- the cells of one among kids -/
def cellsK (q : Ty) (l : Lay) : List Value := [.int .i64 q.kind, .string q.name, l.vn, l.vk]
/-- the cells of kids, one behind the other -/
def flatK : List Ty → List Lay → List Value
  | q :: qs, l :: ls => cellsK q l ++ flatK qs ls
  | _, _ => []
theorem flatK_len (ks : List Ty) (ls : List Lay) (h : ls.length = ks.length) : (flatK ks ls).length = ks.length * 4 := by
  induction ks generalizing ls with
  | nil => cases ls <;> rfl
  | cons q qs ih =>
    cases ls with
    | nil => simp at h
    | cons l ls =>
      simp only [flatK, List.length_append, List.length_cons] at h ⊢
      rw [ih ls (by omega)]
      show 4 + _ = _
      omega
theorem flatK_get (ks : List Ty) (ls : List Lay) (j c : Nat) (h1 : j < ks.length) (h2 : j < ls.length) (hc : c < 4) : (flatK ks ls)[j * 4 + c]? = (cellsK ks[j] ls[j])[c]? := by
  induction ks generalizing ls j with
  | nil => simp at h1
  | cons q qs ih =>
    cases ls with
    | nil => simp at h2
    | cons l ls =>
      have hl : (cellsK q l).length = 4 := rfl
      cases j with
      | zero => simp only [flatK, Nat.zero_mul, Nat.zero_add, List.getElem_cons_zero]; rw [List.getElem?_append_left (by omega)]
      | succ j =>
        simp only [flatK, List.getElem_cons_succ]
        rw [List.getElem?_append_right (by omega), hl, show (j + 1) * 4 + c - 4 = j * 4 + c from by omega]
        exact ih ls j (by simpa using h1) (by simpa using h2)
theorem flatK_set (ks : List Ty) (ls : List Lay) (j : Nat) (p : Ty) (h1 : j < ks.length) (h2 : j < ls.length) : ((flatK ks ls).set (j * 4) (.int .i64 p.kind)).set (j * 4 + 1) (.string p.name) = flatK (ks.set j p) ls := by
  induction ks generalizing ls j with
  | nil => simp at h1
  | cons q qs ih =>
    cases ls with
    | nil => simp at h2
    | cons l ls =>
      have hl : (cellsK q l).length = 4 := rfl
      cases j with
      | zero => rfl
      | succ j =>
        simp only [flatK, List.set_cons_succ]
        rw [List.set_append_right _ _ (by omega), List.set_append_right _ _ (by omega), hl, show (j + 1) * 4 - 4 = j * 4 from by omega, show (j + 1) * 4 + 1 - 4 = j * 4 + 1 from by omega, ih ls j (by simpa using h1) (by simpa using h2)]

/-- memory holds the type, laid so -/
def LayAt (w : World) : Nat → Lay → Ty → Prop
  | 0, _, _ => False
  | n + 1, l, t => OwnS w 9 1 l.vn t.names.length (strV t.names) ∧ l.ks.length = t.kids.length ∧ OwnS w 131 4 l.vk t.kids.length (flatK t.kids l.ks) ∧ ∀ j (h1 : j < l.ks.length) (h2 : j < t.kids.length), LayAt w n l.ks[j] t.kids[j]
/-- memory holds the types, laid so -/
def RowL (w : World) (n : Nat) (v : Value) (ls : List Lay) (ks : List Ty) : Prop := ls.length = ks.length ∧ OwnS w 131 4 v ks.length (flatK ks ls) ∧ ∀ j (h1 : j < ls.length) (h2 : j < ks.length), LayAt w n ls[j] ks[j]

theorem owns_same {w w' : World} {e : TypeId} {z : Nat} {v : Value} {n : Nat} {xs : List Value} (h : OwnS w e z v n xs) (hs : ∀ b ∈ blk v, w'.heap[b]? = w.heap[b]?) : OwnS w' e z v n xs := by
  rcases h with h | ⟨hn, h⟩
  · exact .inl h
  · refine .inr ⟨hn, h.1, ?_⟩
    rcases h.2 with h | ⟨g, cap, cur, h1, h2, h3, h4⟩
    · exact .inl h
    · refine .inr ⟨g, cap, cur, h1, h2, ?_, h4⟩
      rw [hs g (by rw [h1]; exact (mem_blk hn).2 rfl)]
      exact h3
theorem OwnS.of {w : World} {B : Nat} {e : TypeId} {z : Nat} {v : Value} {n : Nat} {xs : List Value} (h : w.ownsRow B e z v n xs) : OwnS w e z v n xs := by
  by_cases hn : n = 0
  · subst hn
    obtain ⟨a, cap, e⟩ := slice_ownM h
    have := h.1
    exact .inl ⟨rfl, List.length_eq_zero_iff.1 (by omega), a, cap, e⟩
  · refine .inr ⟨by omega, h.1, ?_⟩
    rcases h.2 with h | ⟨g, cap, cur, h1, _, h3⟩
    · exact .inl h
    · exact .inr ⟨g, cap, cur, h1, Nat.zero_le _, h3⟩
theorem owns_lt {w : World} {e : TypeId} {z : Nat} {v : Value} {n : Nat} {xs : List Value} (h : OwnS w e z v n xs) {b : Nat} (hb : b ∈ blk v) : b < w.heap.size := by
  rcases h with ⟨_, _, a, cap, rfl⟩ | ⟨hn, h⟩
  · cases a <;> simp [blk] at hb
  · rcases h.2 with ⟨_, h0⟩ | ⟨g, cap, cur, h1, h2, h3, h4⟩
    · omega
    · rw [h1, mem_blk hn] at hb
      subst hb
      exact (Array.getElem?_eq_some_iff.1 h3).1
theorem OwnS.below {w w' : World} {e : TypeId} {z : Nat} {v : Value} {n : Nat} {xs : List Value} (h : OwnS w e z v n xs) (hb : Below w.heap.size w w') : OwnS w' e z v n xs := owns_same h fun b hm => hb.block b (owns_lt h hm)

theorem mem_blocks_kid {n : Nat} {l : Lay} {j : Nat} (h : j < l.ks.length) {b : Nat} (hb : b ∈ Lay.blocks n l.ks[j]) : b ∈ Lay.blocks (n + 1) l := by
  rw [Lay.blocks]
  exact List.mem_append_right _ (List.mem_append_right _ (List.mem_flatMap.2 ⟨_, List.getElem_mem h, hb⟩))
theorem LayAt.same {w w' : World} {n : Nat} {l : Lay} {t : Ty} (h : LayAt w n l t) (hs : ∀ b ∈ Lay.blocks n l, w'.heap[b]? = w.heap[b]?) : LayAt w' n l t := by
  induction n generalizing l t with
  | zero => exact h.elim
  | succ n ih =>
    obtain ⟨h1, h2, h3, h4⟩ := h
    refine ⟨owns_same h1 fun b hb => hs b ?_, h2, owns_same h3 fun b hb => hs b ?_, fun j q1 q2 => ih (h4 j q1 q2) fun b hb => hs b (mem_blocks_kid q1 hb)⟩
    · rw [Lay.blocks]; exact List.mem_append_left _ hb
    · rw [Lay.blocks]; exact List.mem_append_right _ (List.mem_append_left _ hb)
theorem LayAt.lt {w : World} {n : Nat} {l : Lay} {t : Ty} (h : LayAt w n l t) {b : Nat} (hb : b ∈ Lay.blocks n l) : b < w.heap.size := by
  induction n generalizing l t with
  | zero => exact h.elim
  | succ n ih =>
    obtain ⟨h1, h2, h3, h4⟩ := h
    rw [Lay.blocks] at hb
    rcases List.mem_append.1 hb with hb | hb
    · exact owns_lt h1 hb
    · rcases List.mem_append.1 hb with hb | hb
      · exact owns_lt h3 hb
      · obtain ⟨l', hl', hb⟩ := List.mem_flatMap.1 hb
        obtain ⟨j, hj, rfl⟩ := List.getElem_of_mem hl'
        exact ih (h4 j hj (by omega)) hb
theorem RowL.same {w w' : World} {n : Nat} {v : Value} {ls : List Lay} {ks : List Ty} (h : RowL w n v ls ks) (hs : ∀ b ∈ rowBlocks n v ls, w'.heap[b]? = w.heap[b]?) : RowL w' n v ls ks := by
  obtain ⟨h1, h2, h3⟩ := h
  refine ⟨h1, owns_same h2 fun b hb => hs b ?_, fun j q1 q2 => (h3 j q1 q2).same fun b hb => hs b ?_⟩
  · exact List.mem_append_left _ hb
  · exact List.mem_append_right _ (List.mem_flatMap.2 ⟨_, List.getElem_mem q1, hb⟩)
theorem RowL.lt {w : World} {n : Nat} {v : Value} {ls : List Lay} {ks : List Ty} (h : RowL w n v ls ks) {b : Nat} (hb : b ∈ rowBlocks n v ls) : b < w.heap.size := by
  obtain ⟨h1, h2, h3⟩ := h
  rcases List.mem_append.1 hb with hb | hb
  · exact owns_lt h2 hb
  · obtain ⟨l', hl', hb⟩ := List.mem_flatMap.1 hb
    obtain ⟨j, hj, rfl⟩ := List.getElem_of_mem hl'
    exact (h3 j hj (by omega)).lt hb
theorem LayAt.row {w : World} {n : Nat} {l : Lay} {t : Ty} (h : LayAt w (n + 1) l t) : RowL w n l.vk l.ks t.kids := ⟨h.2.1, h.2.2.1, h.2.2.2⟩
theorem LayAt.below {w w' : World} {n : Nat} {l : Lay} {t : Ty} (h : LayAt w n l t) (hb : Below w.heap.size w w') : LayAt w' n l t := h.same fun b hm => hb.block b (h.lt hm)
theorem RowL.below {w w' : World} {n : Nat} {v : Value} {ls : List Lay} {ks : List Ty} (h : RowL w n v ls ks) (hb : Below w.heap.size w w') : RowL w' n v ls ks := h.same fun b hm => hb.block b (h.lt hm)

theorem row_apart {n : Nat} {v : Value} {ls : List Lay} (h : (rowBlocks n v ls).Nodup) : (∀ x ∈ blk v, ∀ i (hi : i < ls.length), x ∉ Lay.blocks n ls[i]) ∧ (∀ i j (hi : i < ls.length) (hj : j < ls.length), i ≠ j → ∀ x ∈ Lay.blocks n ls[i], x ∉ Lay.blocks n ls[j]) ∧ ∀ i (hi : i < ls.length), (Lay.blocks n ls[i]).Nodup := by
  obtain ⟨_, h2, h3⟩ := List.pairwise_append.1 h
  obtain ⟨h4, h5⟩ := List.pairwise_flatMap.1 h2
  have h6 := List.pairwise_iff_getElem.1 h5
  refine ⟨fun x hx i hi hm => h3 x hx x (List.mem_flatMap.2 ⟨_, List.getElem_mem hi, hm⟩) rfl, fun i j hi hj hne x hx hm => ?_, fun i hi => h4 _ (List.getElem_mem hi)⟩
  rcases Nat.lt_or_gt_of_ne hne with c | c
  · exact h6 i j hi hj c x hx x hm rfl
  · exact h6 j i hj hi c x hm x hx rfl
theorem lay_apart {n : Nat} {l : Lay} (h : (Lay.blocks (n + 1) l).Nodup) : (∀ x ∈ blk l.vn, x ∉ rowBlocks n l.vk l.ks) ∧ (rowBlocks n l.vk l.ks).Nodup := by
  obtain ⟨_, h2, h3⟩ := List.pairwise_append.1 h
  exact ⟨fun x hx hm => h3 x hx x hm rfl, h2⟩
theorem mem_rowBlocks {n : Nat} {v : Value} {ls : List Lay} {j : Nat} (h : j < ls.length) {b : Nat} (hb : b ∈ Lay.blocks n ls[j]) : b ∈ rowBlocks n v ls := List.mem_append_right _ (List.mem_flatMap.2 ⟨_, List.getElem_mem h, hb⟩)
theorem mem_lay_row {n : Nat} {l : Lay} {b : Nat} (hb : b ∈ rowBlocks n l.vk l.ks) : b ∈ Lay.blocks (n + 1) l := List.mem_append_right _ hb
theorem mem_lay_names {n : Nat} {l : Lay} {b : Nat} (hb : b ∈ blk l.vn) : b ∈ Lay.blocks (n + 1) l := List.mem_append_left _ hb

/-- nothing has turned but these blocks, and new ones -/
structure OnlyL (bl : List Nat) (w w' : World) : Prop where
  os : w'.os = w.os
  tape : w'.tape = w.tape
  output : w'.output = w.output
  size : w.heap.size ≤ w'.heap.size
  block : ∀ b, b < w.heap.size → b ∉ bl → w'.heap[b]? = w.heap[b]?
theorem OnlyL.refl (bl : List Nat) (w : World) : OnlyL bl w w := ⟨rfl, rfl, rfl, Nat.le_refl _, fun _ _ _ => rfl⟩
theorem OnlyL.trans {bl : List Nat} {a b c : World} (h : OnlyL bl a b) (k : OnlyL bl b c) : OnlyL bl a c := ⟨k.os.trans h.os, k.tape.trans h.tape, k.output.trans h.output, Nat.le_trans h.size k.size, fun x hx ho => (k.block x (Nat.lt_of_lt_of_le hx h.size) ho).trans (h.block x hx ho)⟩
theorem OnlyL.mono {bl bl' : List Nat} {a b : World} (h : OnlyL bl a b) (hs : ∀ x ∈ bl, x ∈ bl') : OnlyL bl' a b := ⟨h.os, h.tape, h.output, h.size, fun x hx ho => h.block x hx fun hm => ho (hs x hm)⟩
theorem OnlyL.of_below {bl : List Nat} {w w' : World} (h : Below w.heap.size w w') : OnlyL bl w w' := ⟨h.os, h.tape, h.output, h.size, fun x hx _ => h.block x hx⟩
theorem OnlyL.of_only {bl : List Nat} {lo hi : Nat} {w w' : World} (h : Only lo hi w w') (hs : ∀ b, lo ≤ b → b < hi → b ∈ bl) : OnlyL bl w w' := ⟨h.os, h.tape, h.output, h.size, fun x hx ho => h.block x hx (by
  by_cases c : x < lo
  · exact .inl c
  · by_cases c2 : hi ≤ x
    · exact .inr c2
    · exact absurd (hs x (by omega) (by omega)) ho)⟩
theorem OnlyL.set {bl : List Nat} (w : World) (a : Addr) (u : Value) (h : a.block ∈ bl) : OnlyL bl w (w.setCell a u) := by
  have h0 : Below 0 w (w.setCell a u) := (Below.refl 0 w).setCell (Nat.zero_le _) u
  exact ⟨h0.os, h0.tape, h0.output, h0.size, fun b _ ho => Below.heap_setCell w a u b (fun e => ho (e ▸ h))⟩
theorem OnlyL.below {bl : List Nat} {w w' : World} {B : Nat} (h : OnlyL bl w w') (hs : ∀ x ∈ bl, B ≤ x) (hB : B ≤ w.heap.size) : Below B w w' := ⟨h.os, h.tape, h.output, h.size, fun x hx => h.block x (by omega) fun hm => by have := hs x hm; omega⟩

/-- sizes that memory can have -/
def Ty.sized : Nat → Ty → Prop
  | 0, _ => False
  | n + 1, t => (-9223372036854775808 ≤ t.kind ∧ t.kind ≤ 9223372036854775807) ∧ t.name.size ≤ maxLen ∧ (t.names.length ≤ maxLen ∧ ∀ x ∈ t.names, x.size ≤ maxLen) ∧ t.kids.length ≤ maxLen ∧ ∀ k ∈ t.kids, Ty.sized n k
theorem TyAt.sized {w : World} {n : Nat} {cs : List Value} {t : Ty} (h : TyAt w n cs t) : Ty.sized n t := by
  induction n generalizing cs t with
  | zero => exact h.elim
  | succ n ih =>
    obtain ⟨vn, vk, _, h1, h2, ⟨_, h3, h4⟩, h5, h6⟩ := h
    refine ⟨h1, h2, ⟨h3, h4⟩, h5, fun k hk => ?_⟩
    rcases h6 with ⟨e, _⟩ | ⟨b, off, cap, _, hc⟩
    · rw [e] at hk; simp at hk
    · obtain ⟨j, hj, rfl⟩ := List.getElem_of_mem hk
      obtain ⟨cs', h7, _⟩ := hc j hj
      exact ih h7

theorem texts_owns {w : World} {v : Value} {ts : List ByteArray} (h : OwnS w 9 1 v ts.length (strV ts)) : Texts w v ts := by
  rcases h with ⟨h0, _, a, cap, e⟩ | ⟨hn, h⟩
  · exact .inl ⟨List.length_eq_zero_iff.1 h0, _, _, e⟩
  · rcases h.2 with ⟨_, h0⟩ | ⟨g, c, cur, e, _⟩
    · omega
    · rw [e] at h ⊢
      exact Texts.own h
theorem RowL.rowAt {w : World} {n : Nat} {v : Value} {ls : List Lay} {ks : List Ty} (h : RowL w n v ls ks) (hk : ∀ l q, q ∈ ks → LayAt w n l q → TyAt w n (cellsK q l) q) : RowAt w (TyAt w n) v ks := by
  obtain ⟨h1, h2, h3⟩ := h
  rcases h2 with ⟨h0, _, a, cap, e⟩ | ⟨hn, h2⟩
  · exact .inl ⟨List.length_eq_zero_iff.1 h0, _, _, e⟩
  rcases h2.2 with ⟨_, h0⟩ | ⟨g, c, cur, e, _⟩
  · omega
  · subst e
    refine .inr ⟨g, 0, c, rfl, fun j hj => ⟨cellsK ks[j] (ls[j]'(by omega)), hk _ _ (List.getElem_mem hj) (h3 j (by omega) hj), fun cc u hu => ?_⟩⟩
    have hcc : cc < 4 := (List.getElem?_eq_some_iff.1 hu).1
    rw [Nat.zero_add, h2.cellAt (j * 4 + cc) (by omega), flatK_get ks ls j cc hj (by omega) hcc]
    exact hu
theorem LayAt.at {w : World} {n : Nat} {l : Lay} {t : Ty} (h : LayAt w n l t) (hs : Ty.sized n t) : TyAt w n (cellsK t l) t := by
  induction n generalizing l t with
  | zero => exact h.elim
  | succ n ih =>
    obtain ⟨s1, s2, s3, s4, s5⟩ := hs
    exact ⟨l.vn, l.vk, rfl, s1, s2, ⟨texts_owns h.1, s3⟩, s4, h.row.rowAt fun l q hq hl => ih hl (s5 q hq)⟩

theorem textsOpen {w : World} {v : Value} {ts : List ByteArray} (h : Texts w v ts) : ∃ a cap, v = .slice a ts.length cap ∧ ∀ j (h : j < ts.length), ∃ b off, a = some ⟨b, off, none⟩ ∧ w.cell? ⟨b, off + j, none⟩ = some (.string ts[j]) := by
  rcases h with ⟨h, a, cap, e⟩ | ⟨b, off, cap, e, hc⟩
  · subst h; exact ⟨a, cap, e, fun j hj => absurd hj (by simp)⟩
  · exact ⟨_, cap, e, fun j hj => ⟨b, off, rfl, hc j hj⟩⟩

theorem slice_ownL {w : World} {e z : Nat} {v : Value} {n : Nat} {xs : List Value} (h0 : OwnS w e z v n xs) (hn : 0 < n) : ∃ g cap, v = .slice (some ⟨g, 0, none⟩) n cap := by
  have h := h0.pos hn
  rcases h.2 with ⟨_, h0⟩ | ⟨g, cap, cur, hv, _⟩
  · omega
  · exact ⟨g, cap, hv⟩

end Go.Proofs.YtikoacgfnojoeaaGreatDoor
