/-
  What a maker has in memory: its forms, the lists that it went through, the types that it made; and what stays while it works.
-/
import Derived.Test.YtgjnlphnbfpopaaGreatDoorMkR
import Derived.Test.YtgjnlphnbfpopaaGreatDoorMkP
import Derived.Test.YtgjnlphnbfpopaaGreatDoorSMap
import Derived.Test.YtgjnlphnbfpopaaGreatDoorToTy
import Derived.Lib.OthersKept
namespace Go.Proofs.YtgjnlphnbfpopaaGreatDoor
open Go.RowKit

/-- texts in a row of such a block -/
def TextsR (A : Nat → Prop) (w : World) (v : Value) (ts : List ByteArray) : Prop :=
  (ts = [] ∧ ∃ a cap, v = .slice a 0 cap) ∨ ∃ b off cap, v = .slice (some ⟨b, off, none⟩) ts.length cap ∧ A b ∧ ∀ j (h : j < ts.length), w.cell? ⟨b, off + j, none⟩ = some (.string ts[j])
/-- types in a row of such a block -/
def RowR (A : Nat → Prop) (w : World) (R : List Value → Ty → Prop) (v : Value) (ts : List Ty) : Prop :=
  (ts = [] ∧ ∃ a cap, v = .slice a 0 cap) ∨ ∃ b off cap, v = .slice (some ⟨b, off, none⟩) ts.length cap ∧ A b ∧ (∃ cur e, w.heap[b]? = some (.cells cur e (0, 0))) ∧ ∀ j (h : j < ts.length), ∃ cs, R cs ts[j] ∧ ∀ c u, cs[c]? = some u → w.cell? ⟨b, off + j * 4 + c, none⟩ = some u
/-- these four cells hold the type, all its rows in such blocks -/
def TyR (A : Nat → Prop) (w : World) : Nat → List Value → Ty → Prop
  | 0, _, _ => False
  | n + 1, cs, t => ∃ vn vk, cs = [.int .i64 t.kind, .string t.name, vn, vk] ∧ (-9223372036854775808 ≤ t.kind ∧ t.kind ≤ 9223372036854775807) ∧ t.name.size ≤ maxLen ∧ (TextsR A w vn t.names ∧ t.names.length ≤ maxLen ∧ ∀ x ∈ t.names, x.size ≤ maxLen) ∧ t.kids.length ≤ maxLen ∧ RowR A w (TyR A w n) vk t.kids

/-- the blocks that are such are as they were -/
def SameOn (A : Nat → Prop) (w w' : World) : Prop := ∀ b, A b → w'.heap[b]? = w.heap[b]?
theorem SameOn.trans {A : Nat → Prop} {a b c : World} (h : SameOn A a b) (k : SameOn A b c) : SameOn A a c := fun x hx => (k x hx).trans (h x hx)
theorem SameOn.sub {A A' : Nat → Prop} {w w' : World} (h : SameOn A w w') (hs : ∀ b, A' b → A b) : SameOn A' w w' := fun b hb => h b (hs b hb)

theorem TextsR.at {A : Nat → Prop} {w : World} {v : Value} {ts : List ByteArray} (h : TextsR A w v ts) : Texts w v ts := by
  rcases h with h | ⟨b, off, cap, e, _, hc⟩
  · exact .inl h
  · exact .inr ⟨b, off, cap, e, hc⟩
theorem TextsR.same {A : Nat → Prop} {w w' : World} {v : Value} {ts : List ByteArray} (h : TextsR A w v ts) (hs : SameOn A w w') : TextsR A w' v ts := by
  rcases h with h | ⟨b, off, cap, e, ha, hc⟩
  · exact .inl h
  · exact .inr ⟨b, off, cap, e, ha, fun j hj => (World.cell?_of_block (a := ⟨b, off + j, none⟩) (hs b ha)).trans (hc j hj)⟩
theorem TextsR.sub {A A' : Nat → Prop} {w : World} {v : Value} {ts : List ByteArray} (h : TextsR A w v ts) (hs : ∀ b, A b → A' b) : TextsR A' w v ts := by
  rcases h with h | ⟨b, off, cap, e, ha, hc⟩
  · exact .inl h
  · exact .inr ⟨b, off, cap, e, hs b ha, hc⟩

theorem RowR.at {A : Nat → Prop} {w : World} {R R' : List Value → Ty → Prop} {v : Value} {ts : List Ty} (h : RowR A w R v ts) (hR : ∀ cs t, t ∈ ts → R cs t → R' cs t) : RowAt w R' v ts := by
  rcases h with h | ⟨b, off, cap, e, _, _, hc⟩
  · exact .inl h
  · refine .inr ⟨b, off, cap, e, fun j hj => ?_⟩
    obtain ⟨cs, h1, h2⟩ := hc j hj
    exact ⟨cs, hR _ _ (List.getElem_mem hj) h1, h2⟩
theorem RowR.same {A : Nat → Prop} {w w' : World} {R R' : List Value → Ty → Prop} {v : Value} {ts : List Ty} (h : RowR A w R v ts) (hs : SameOn A w w') (hR : ∀ cs t, t ∈ ts → R cs t → R' cs t) : RowR A w' R' v ts := by
  rcases h with h | ⟨b, off, cap, e, ha, ⟨cur, et, hb⟩, hc⟩
  · exact .inl h
  · refine .inr ⟨b, off, cap, e, ha, ⟨cur, et, (hs b ha).trans hb⟩, fun j hj => ?_⟩
    obtain ⟨cs, h1, h2⟩ := hc j hj
    exact ⟨cs, hR _ _ (List.getElem_mem hj) h1, fun c u hu => (World.cell?_of_block (a := ⟨b, off + j * 4 + c, none⟩) (hs b ha)).trans (h2 c u hu)⟩
theorem RowR.sub {A A' : Nat → Prop} {w : World} {R R' : List Value → Ty → Prop} {v : Value} {ts : List Ty} (h : RowR A w R v ts) (hs : ∀ b, A b → A' b) (hR : ∀ cs t, t ∈ ts → R cs t → R' cs t) : RowR A' w R' v ts := by
  rcases h with h | ⟨b, off, cap, e, ha, hb, hc⟩
  · exact .inl h
  · refine .inr ⟨b, off, cap, e, hs b ha, hb, fun j hj => ?_⟩
    obtain ⟨cs, h1, h2⟩ := hc j hj
    exact ⟨cs, hR _ _ (List.getElem_mem hj) h1, h2⟩

theorem TyR.at {A : Nat → Prop} {w : World} {n : Nat} {cs : List Value} {t : Ty} (h : TyR A w n cs t) : TyAt w n cs t := by
  induction n generalizing cs t with
  | zero => exact h.elim
  | succ n ih =>
    obtain ⟨vn, vk, h1, h2, h3, ⟨h4, h5, h6⟩, h7, h8⟩ := h
    exact ⟨vn, vk, h1, h2, h3, ⟨h4.at, h5, h6⟩, h7, h8.at fun cs t _ h => ih h⟩
theorem TyR.same {A : Nat → Prop} {w w' : World} {n : Nat} {cs : List Value} {t : Ty} (h : TyR A w n cs t) (hs : SameOn A w w') : TyR A w' n cs t := by
  induction n generalizing cs t with
  | zero => exact h.elim
  | succ n ih =>
    obtain ⟨vn, vk, h1, h2, h3, ⟨h4, h5, h6⟩, h7, h8⟩ := h
    exact ⟨vn, vk, h1, h2, h3, ⟨h4.same hs, h5, h6⟩, h7, h8.same hs fun cs t _ h => ih h⟩
theorem TyR.sub {A A' : Nat → Prop} {w : World} {n : Nat} {cs : List Value} {t : Ty} (h : TyR A w n cs t) (hs : ∀ b, A b → A' b) : TyR A' w n cs t := by
  induction n generalizing cs t with
  | zero => exact h.elim
  | succ n ih =>
    obtain ⟨vn, vk, h1, h2, h3, ⟨h4, h5, h6⟩, h7, h8⟩ := h
    exact ⟨vn, vk, h1, h2, h3, ⟨h4.sub hs, h5, h6⟩, h7, h8.sub hs fun cs t _ h => ih h⟩
/-- read to another depth, where it ends there -/
theorem TyR.depth {A : Nat → Prop} {w : World} {n m : Nat} {cs : List Value} {t : Ty} (h : TyR A w n cs t) (hm : Ty.ends m t) : TyR A w m cs t := by
  induction n generalizing m cs t with
  | zero => exact h.elim
  | succ n ih =>
    cases m with
    | zero => exact hm.elim
    | succ m =>
      obtain ⟨vn, vk, h1, h2, h3, h4, h7, h8⟩ := h
      exact ⟨vn, vk, h1, h2, h3, h4, h7, h8.sub (fun _ h => h) fun cs t ht h => ih h (hm t ht)⟩

theorem TyIn.reads {w : World} {n lo hi : Nat} {cs : List Value} {t : Ty} (h : TyIn w n lo hi cs t) : TyR (fun b => lo ≤ b ∧ b < hi) w n cs t := by
  induction n generalizing lo hi cs t with
  | zero => exact h.elim
  | succ n ih =>
    obtain ⟨vn, vk, mid, h1, h2, h3, ⟨h4, h5, h6⟩, h7, h8, b, cap, hv, hb1, hb2, hc, L, hL1, hL2, hk⟩ := h
    have hmid : mid ≤ hi := by omega
    refine ⟨vn, vk, h1, h2, h3, ⟨?_, h5, h6⟩, h7, ?_⟩
    · rcases h4.1.2 with ⟨e, h0⟩ | ⟨g, c, cur, e, hg, _⟩
      · exact .inl ⟨List.length_eq_zero_iff.1 h0, _, _, e⟩
      · have ht := h4.texts
        have hgh := h4.2 g (by rw [e]; rfl)
        rcases ht with q | ⟨b', off', cap', e', hc'⟩
        · exact .inl q
        · rw [e] at e'
          simp only [Value.slice.injEq, Option.some.injEq, Addr.mk.injEq] at e'
          obtain ⟨⟨rfl, rfl, _⟩, _, rfl⟩ := e'
          exact .inr ⟨g, 0, c, e, ⟨hg, by omega⟩, hc'⟩
    · refine .inr ⟨b, 0, cap, hv, ⟨by omega, hb2⟩, hc, fun j hj => ?_⟩
      obtain ⟨cs, q1, q2⟩ := hk j hj
      have l1 := hL1 j (by omega)
      have l2 := hL1 (j + 1) (by omega)
      exact ⟨cs, (ih q1).sub fun x hx => ⟨by omega, by omega⟩, fun c u hu => by rw [Nat.zero_add]; exact q2 c u hu⟩

/-- the types of a form of each kind, and of pointers to these -/
def stT (k : Int) : TypeId := if k = 0 then 104 else if k = 1 then 106 else if k = 2 then 108 else if k = 3 then 118 else if k = 4 then 111 else if k = 5 then 114 else if k = 6 then 116 else 117
def ptT (k : Int) : TypeId := if k = 0 then 102 else if k = 1 then 105 else if k = 2 then 107 else if k = 3 then 99 else if k = 4 then 109 else if k = 5 then 112 else if k = 6 then 115 else 100
/-- types of what a maker writes into -/
def mkT (T : TypeId) : Prop := T = 5 ∨ T = 60 ∨ T = 104 ∨ T = 106 ∨ T = 108 ∨ T = 118 ∨ T = 111 ∨ T = 114 ∨ T = 116 ∨ T = 117
/-- types of rows that it only reads -/
def extT (T : TypeId) : Prop := T = 50 ∨ T = 9 ∨ T = 30 ∨ T = 73
theorem ext_not_mk {T : TypeId} (h : extT T) : ¬ mkT T := by
  unfold extT at h
  unfold mkT
  rcases h with rfl | rfl | rfl | rfl <;> decide
theorem st_mk (k : Int) : mkT (stT k) := by
  unfold stT mkT
  repeat' split
  all_goals simp

/-- where a maker lies: its base, itself, its three maps -/
structure MkC where
  B : Nat
  mb : Nat
  fb : Nat
  lb : Nat
  tb : Nat

/-- the block is one that a maker may write into -/
def Mine (C : MkC) (w : World) (b : Nat) : Prop := C.B ≤ b ∧ ((∃ es clk, w.heap[b]? = some (.map es clk) ∧ (b = C.fb ∨ b = C.lb ∨ b = C.tb)) ∨ ∃ c T fz, w.heap[b]? = some (.cells c T fz) ∧ mkT T)

/-- what stays while a maker works -/
structure MkF (C : MkC) (w w' : World) : Prop where
  os : w'.os = w.os
  tape : w'.tape = w.tape
  output : w'.output = w.output
  size : w.heap.size ≤ w'.heap.size
  old : ∀ b, b < w.heap.size → ¬ Mine C w b → w'.heap[b]? = w.heap[b]?

theorem MkF.refl (C : MkC) (w : World) : MkF C w w := ⟨rfl, rfl, rfl, Nat.le_refl _, fun _ _ _ => rfl⟩
theorem Mine.same {C : MkC} {w w' : World} {b : Nat} (e : w'.heap[b]? = w.heap[b]?) : Mine C w' b ↔ Mine C w b := by unfold Mine; rw [e]
theorem MkF.trans {C : MkC} {a b c : World} (h : MkF C a b) (k : MkF C b c) : MkF C a c :=
  ⟨k.os.trans h.os, k.tape.trans h.tape, k.output.trans h.output, Nat.le_trans h.size k.size, fun x hx hm => by
    have e := h.old x hx hm
    exact (k.old x (Nat.lt_of_lt_of_le hx h.size) fun q => hm ((Mine.same e).1 q)).trans e⟩
theorem MkF.ofBelow {C : MkC} {w w' : World} (h : Below w.heap.size w w') : MkF C w w' := ⟨h.os, h.tape, h.output, h.size, fun b hb _ => h.block b hb⟩
theorem MkF.below {C : MkC} {w w' : World} (h : MkF C w w') (hB : C.B ≤ w.heap.size) : Below C.B w w' := ⟨h.os, h.tape, h.output, h.size, fun b hb => h.old b (by omega) fun q => by have := q.1; omega⟩
theorem MkF.alloc {C : MkC} {a w : World} (h : MkF C a w) (o : Obj) : MkF C a (w.alloc o) := h.trans (MkF.ofBelow ((Below.refl _ _).alloc (Nat.le_refl _) _))
theorem MkF.drew {C : MkC} {a w : World} (h : MkF C a w) : MkF C a w.drew := ⟨h.os, h.tape, h.output, h.size, h.old⟩

/-- a row of another type stays -/
theorem MkF.row {C : MkC} {w w' : World} (h : MkF C w w') {b : Nat} {c : Array Value} {T : TypeId} {fz : Nat × Nat} (hb : w.heap[b]? = some (.cells c T fz)) (hT : ¬ mkT T) : w'.heap[b]? = some (.cells c T fz) :=
  (h.old b (Array.getElem?_eq_some_iff.1 hb).1 fun q => by
    rcases q.2 with ⟨es, clk, e, _⟩ | ⟨c', T', fz', e, hm⟩
    · rw [hb] at e; simp at e
    · rw [hb] at e
      simp only [Option.some.injEq, Obj.cells.injEq] at e
      rw [← e.2.1] at hm
      exact hT hm).trans hb
theorem MkF.owns {C : MkC} {w w' : World} (h : MkF C w w') {base e z n : Nat} {v : Value} {xs : List Value} (ho : w.ownsRow base e z v n xs) (he : ¬ mkT e) : w'.ownsRow base e z v n xs := by
  refine ⟨ho.1, ?_⟩
  rcases ho.2 with q | ⟨g, cap, cur, hv, hg, hh, r⟩
  · exact .inl q
  · exact .inr ⟨g, cap, cur, hv, hg, h.row hh he, r⟩
/-- one step: a block of a maker's own is written into -/
theorem MkF.wrote {C : MkC} {a w w' : World} {b : Nat} (h : MkF C a w) (hb : But b w w') (hm : Mine C w b) : MkF C a w' := h.trans
  ⟨hb.1, hb.2.1, hb.2.2.1, Nat.le_of_eq hb.2.2.2.1.symm, fun x _ hx => hb.2.2.2.2 x fun e => hx (e ▸ hm)⟩

end Go.Proofs.YtgjnlphnbfpopaaGreatDoor
