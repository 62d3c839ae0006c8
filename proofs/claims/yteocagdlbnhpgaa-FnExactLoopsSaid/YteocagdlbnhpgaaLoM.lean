/-
  What the walk of a book's leaves holds in memory, and how each step keeps it.
-/
import Derived.Test.YteocagdlbnhpgaaLoI
import Derived.Deep.AppendLies
import Derived.WalkSmall
namespace Go.Proofs.Yteocagdlbnhpgaa
open Go.RowKit

theorem own_keepQ {w w' : World} {B e z n : Nat} {v : Value} {xs : List Value} (h : w.ownsRow B e z v n xs) (hs : ∀ x cur, v.ownBlock = some x → w.heap[x]? = some (.cells cur e (0, 0)) → w'.heap[x]? = w.heap[x]?) : w'.ownsRow B e z v n xs := by
  refine ⟨h.1, ?_⟩
  rcases h.2 with h' | ⟨g, cap, cur, h1, h2, h3, h4⟩
  · exact .inl h'
  · exact .inr ⟨g, cap, cur, h1, h2, by rw [hs g cur (by rw [h1]; rfl) h3]; exact h3, h4⟩
theorem own_objQ {w : World} {B e z n x : Nat} {v : Value} {xs : List Value} (h : w.ownsRow B e z v n xs) (hx : v.ownBlock = some x) : B ≤ x ∧ ∃ cur, w.heap[x]? = some (.cells cur e (0, 0)) := by
  rcases h.2 with ⟨h', _⟩ | ⟨g, cap, cur, h1, h2, h3, h4⟩
  · rw [h'] at hx; cases hx
  · rw [h1] at hx
    simp only [Value.ownBlock, Option.some.injEq] at hx
    subst hx
    exact ⟨h2, cur, h3⟩
theorem obj_ltQ {w : World} {b : Nat} {o : Obj} (h : w.heap[b]? = some o) : b < w.heap.size := (Array.getElem?_eq_some_iff.1 h).1

theorem Try.infoVisit : (Try.prog.info? 80).map (fun i => (i.zero, i.size, i.bytes)) = some (some (.agg #[.int .i64 0, .string ⟨#[]⟩, .slice none 0 0, .slice none 0 0, .bool false]), 5, 80) := by kernel_rfl

/-- a visit's cells -/
def visV (e : Ent × Bool) : List Value := e.1.cs ++ [.bool e.2]
def flatV (W : List (Ent × Bool)) : List Value := W.flatMap visV
theorem flatV_snoc (W : List (Ent × Bool)) (e : Ent × Bool) : flatV (W ++ [e]) = flatV W ++ visV e := by simp [flatV]
theorem EFit.len {w : World} {p : Ent} (h : EFit w p) : p.cs.length = 4 := by
  obtain ⟨_, _, _, _, _, _, e⟩ := h.shape
  rw [e]
  rfl
theorem flatV_len {w : World} {W : List (Ent × Bool)} (h : ∀ e ∈ W, EFit w e.1) : (flatV W).length = W.length * 5 := by
  induction W with
  | nil => rfl
  | cons e r ih =>
    have h1 := (h e (by simp)).len
    have h2 := ih fun x hx => h x (List.mem_cons_of_mem _ hx)
    unfold flatV at h2 ⊢
    rw [List.flatMap_cons, List.length_append, h2, List.length_cons]
    unfold visV
    rw [List.length_append, h1]
    simp
    omega
theorem last_cells {w : World} {B e m : Nat} {v : Value} {xs ys : List Value} (h : w.ownsRow B e 5 v (m + 1) (xs ++ ys)) (hx : xs.length = m * 5) (hy : ys.length = 5) :
    ∃ g cap, v = .slice (some ⟨g, 0, none⟩) (m + 1) cap ∧ (m + 1 ≤ cap ∧ cap ≤ maxLen) ∧ ∀ c u, ys[c]? = some u → w.cell? ⟨g, m * 5 + c, none⟩ = some u := by
  rcases h.2 with ⟨_, h0⟩ | ⟨g, cap, cur, hv, _, hg, h1, h2, _⟩
  · omega
  · subst hv
    refine ⟨g, cap, rfl, ⟨h1, h2⟩, fun c u hu => ?_⟩
    have hc : c < 5 := by
      have := (List.getElem?_eq_some_iff.1 hu).1
      omega
    rw [h.cellAt (m * 5 + c) (by omega), List.getElem?_append_right (by omega), hx, show m * 5 + c - m * 5 = c by omega, hu]
theorem own_oneV {w : World} {B g : Nat} (hg : g = w.heap.size) (hB : B ≤ g) (a b c d e : Value) : (w.alloc (.cells #[a, b, c, d, e] 80)).ownsRow B 80 5 (.slice (some ⟨g, 0, none⟩) 1 1) 1 [a, b, c, d, e] := by
  subst hg
  exact ⟨rfl, .inr ⟨w.heap.size, 1, #[a, b, c, d, e], rfl, hB, (MapKept.heap_alloc w _).1, Nat.le_refl _, by unfold maxLen; omega, rfl, rfl⟩⟩

structure LMem (w0 w wr : World) (bb Mb : Nat) (pm : Option Addr) (Ms : Nat) (vE vl vw : Value) (W : List (Ent × Bool)) (D : List (Key × Int)) (Ls : List Ent) : Prop where
  wk : wr.ownsRow w.heap.size 80 5 vw W.length (flatV W)
  ls : wr.ownsRow w.heap.size 37 4 vl Ls.length (flatE Ls)
  seen : KMap wr Ms D
  dk : ∀ p ∈ D, ∀ a, p.1.place = some a → a.block < w0.heap.size
  msz : w.heap.size ≤ Ms
  box : wr.heap[bb]? = some (.cells #[vE, .map (some Mb), .pointer pm] 56 (0, 0))
  bel : Below w.heap.size w wr
  old : w0.heap.size ≤ w.heap.size

theorem LMem.below {w0 w wr w' : World} {bb Mb : Nat} {pm : Option Addr} {Ms : Nat} {vE vl vw : Value} {W : List (Ent × Bool)} {D : List (Key × Int)} {Ls : List Ent} (h : LMem w0 w wr bb Mb pm Ms vE vl vw W D Ls) (hb : Below wr.heap.size wr w') : LMem w0 w w' bb Mb pm Ms vE vl vw W D Ls where
  wk := kept_belowT h.wk hb
  ls := kept_belowT h.ls hb
  seen := h.seen.kept (hb.block _ h.seen.lt) h.dk fun b hb' => hb.block b (by have := h.bel.size; have := h.old; omega)
  dk := h.dk
  msz := h.msz
  box := (hb.block _ (obj_ltQ h.box)).trans h.box
  bel := h.bel.trans (hb.mono h.bel.size)
  old := h.old
theorem LMem.mark {w0 w wr w' : World} {bb Mb : Nat} {pm : Option Addr} {Ms : Nat} {vE vl vw : Value} {W : List (Ent × Bool)} {D D' : List (Key × Int)} {Ls : List Ent} (h : LMem w0 w wr bb Mb pm Ms vE vl vw W D Ls) (hs : KMap w' Ms D') (hd : ∀ p ∈ D', ∀ a, p.1.place = some a → a.block < w0.heap.size) (hb : But Ms wr w') : LMem w0 w w' bb Mb pm Ms vE vl vw W D' Ls where
  wk := by obtain ⟨es, clock, hM⟩ := h.seen.obj; exact hb.owns hM h.wk
  ls := by obtain ⟨es, clock, hM⟩ := h.seen.obj; exact hb.owns hM h.ls
  seen := hs
  dk := hd
  msz := h.msz
  box := (hb.2.2.2.2 _ fun e => by obtain ⟨es, clock, hM⟩ := h.seen.obj; subst e; rw [h.box] at hM; simp at hM).trans h.box
  bel := h.bel.trans (hb.below h.msz)
  old := h.old
theorem LMem.leaf {w0 w wr w' : World} {bb Mb : Nat} {pm : Option Addr} {Ms : Nat} {vE vl vl' vw : Value} {W : List (Ent × Bool)} {D : List (Key × Int)} {Ls : List Ent} (h : LMem w0 w wr bb Mb pm Ms vE vl vw W D Ls) {p : Ent} (ho : w'.ownsRow w.heap.size 37 4 vl' (Ls.length + 1) (flatE Ls ++ p.cs)) (hg : wr.grownBy w' vl.ownBlock) : LMem w0 w w' bb Mb pm Ms vE vl' vw W D (Ls ++ [p]) where
  wk := own_keepQ h.wk fun y cur hy hc => hg.block y (obj_ltQ hc) fun e => by
    obtain ⟨_, cur', hc'⟩ := own_objQ h.ls e.symm
    rw [hc] at hc'
    simp at hc'
  ls := by simpa [flatE_snoc] using ho
  seen := by
    obtain ⟨es, clock, hM⟩ := h.seen.obj
    exact h.seen.kept (hg.block _ h.seen.lt (far_map h.ls hM).symm) h.dk fun b hb => hg.block b (by have := h.bel.size; have := h.old; omega) fun e => by
      have := (h.ls.lt b e.symm).1
      have := h.old
      omega
  dk := h.dk
  msz := h.msz
  box := (hg.block _ (obj_ltQ h.box) fun e => by
    obtain ⟨_, cur', hc'⟩ := own_objQ h.ls e.symm
    rw [h.box] at hc'
    simp at hc').trans h.box
  bel := h.bel.grown hg h.bel.size (fun j hj => (h.ls.lt j hj).1)
  old := h.old
theorem LMem.push {w0 w wr w' : World} {bb Mb : Nat} {pm : Option Addr} {Ms : Nat} {vE vl vw vw' : Value} {W : List (Ent × Bool)} {D : List (Key × Int)} {Ls : List Ent} (h : LMem w0 w wr bb Mb pm Ms vE vl vw W D Ls) {x : Ent × Bool} (ho : w'.ownsRow w.heap.size 80 5 vw' (W.length + 1) (flatV W ++ visV x)) (hg : wr.grownBy w' vw.ownBlock) : LMem w0 w w' bb Mb pm Ms vE vl vw' (W ++ [x]) D Ls where
  wk := by simpa [flatV_snoc] using ho
  ls := own_keepQ h.ls fun y cur hy hc => hg.block y (obj_ltQ hc) fun e => by
    obtain ⟨_, cur', hc'⟩ := own_objQ h.wk e.symm
    rw [hc] at hc'
    simp at hc'
  seen := by
    obtain ⟨es, clock, hM⟩ := h.seen.obj
    exact h.seen.kept (hg.block _ h.seen.lt (far_map h.wk hM).symm) h.dk fun b hb => hg.block b (by have := h.bel.size; have := h.old; omega) fun e => by
      have := (h.wk.lt b e.symm).1
      have := h.old
      omega
  dk := h.dk
  msz := h.msz
  box := (hg.block _ (obj_ltQ h.box) fun e => by
    obtain ⟨_, cur', hc'⟩ := own_objQ h.wk e.symm
    rw [h.box] at hc'
    simp at hc').trans h.box
  bel := h.bel.grown hg h.bel.size (fun j hj => (h.wk.lt j hj).1)
  old := h.old
theorem KRow.below {B : Nat} {wx w' : World} {v : Value} {KS : List Ent} (h : KRow B wx v KS) (hb : Below wx.heap.size wx w') : KRow B w' v KS := by
  obtain ⟨b, cap, cur, e, h1, h2, h3, h4⟩ := h
  exact ⟨b, cap, cur, e, h1, (hb.block b (obj_ltQ h2)).trans h2, h3, fun j hj c u hu => cell_same (h4 j hj c u hu) (hb.block b (obj_ltQ h2))⟩
theorem KRow.mark {B M : Nat} {wx w' : World} {v : Value} {KS : List Ent} (h : KRow B wx v KS) {D : List (Key × Int)} (hM : KMap wx M D) (hb : But M wx w') : KRow B w' v KS := by
  obtain ⟨b, cap, cur, e, h1, h2, h3, h4⟩ := h
  have hbb : w'.heap[b]? = wx.heap[b]? := hb.2.2.2.2 b fun q => by
    obtain ⟨es, clock, hm⟩ := hM.obj
    subst q
    rw [h2] at hm
    simp at hm
  exact ⟨b, cap, cur, e, h1, hbb.trans h2, h3, fun j hj c u hu => cell_same (h4 j hj c u hu) hbb⟩
theorem KRow.push {B base n : Nat} {wx w' : World} {v vw : Value} {KS : List Ent} {xs : List Value} (h : KRow B wx v KS) (hB : B ≤ base) (ho : wx.ownsRow base 80 5 vw n xs) (hg : wx.grownBy w' vw.ownBlock) : KRow B w' v KS := by
  obtain ⟨b, cap, cur, e, h1, h2, h3, h4⟩ := h
  have hbb : w'.heap[b]? = wx.heap[b]? := hg.block b (obj_ltQ h2) fun q => by
    obtain ⟨q1, cur', hc'⟩ := own_objQ ho q.symm
    rcases h3 with h3 | h3
    · omega
    · rw [h2, h3] at hc'
      simp at hc'
  exact ⟨b, cap, cur, e, h1, hbb.trans h2, h3, fun j hj c u hu => cell_same (h4 j hj c u hu) hbb⟩

/-- the least such number -/
theorem least_of {α β γ : Type} (R : Nat → α → β → γ → Prop) : ∃ mu : α → β → γ → Nat, ∀ k a b c, R k a b c → mu a b c ≤ k ∧ R (mu a b c) a b c := by
  have least : ∀ (P : Nat → Prop) (k : Nat), P k → ∃ m, P m ∧ ∀ j, P j → m ≤ j := fun P k => by
    induction k using Nat.strongRecOn with
    | ind k ih =>
      intro h
      by_cases c : ∃ j, j < k ∧ P j
      · obtain ⟨j, hj, hp⟩ := c
        exact ih j hj hp
      · exact ⟨k, h, fun j hj => Nat.le_of_not_lt fun e => c ⟨j, e, hj⟩⟩
  refine ⟨fun a b c => Classical.epsilon fun m => R m a b c ∧ ∀ j, R j a b c → m ≤ j, fun k a b c h => ?_⟩
  have := Classical.epsilon_spec (least (fun m => R m a b c) k h)
  exact ⟨this.2 k h, this.1⟩

end Go.Proofs.Yteocagdlbnhpgaa
