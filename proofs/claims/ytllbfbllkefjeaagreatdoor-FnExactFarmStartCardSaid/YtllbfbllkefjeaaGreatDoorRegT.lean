/-
  A region that draws its order and ends in stores: what is read before the first of them may be taken first, though they write it. No program here.
-/
import Derived.OrdersHeld
import Derived.Deep.RegionHeld3
namespace Go.Proofs.YtllbfbllkefjeaaGreatDoor

section
variable {P : Program} {ops : Array Oper} {Q : Exit → Act → World → Prop} {md : Region.Mode} {S : World → Prop} {last : Nat}

/-- whatever order is picked from here on; and S holds behind each operation until that one has come up -/
def wpTo (P : Program) (md : Region.Mode) (ops : Array Oper) (Q : Exit → Act → World → Prop) (S : World → Prop) (last : Nat) : Nat → Array Bool → Act → World → Prop
  | 0, listed, a, w => Region.ready md ops listed = [] ∧ Q .normal a w
  | k + 1, listed, a, w => (Region.ready md ops listed = [] → Q .normal a w) ∧
      ∀ i ∈ Region.ready md ops listed, wpOp P ops Q i (fun a' w' => (listed.getD last true = false → i ≠ last → S w') ∧ wpTo P md ops Q S last k (listed.setIfInBounds i true) a' w') a w

theorem wpTo.any (k : Nat) : ∀ (listed : Array Bool) (a : Act) (w : World), wpTo P md ops Q S last k listed a w → wpAny P md ops Q k listed a w := by
  induction k with
  | zero => intro listed a w h; exact h
  | succ k ih =>
    intro listed a w h
    exact ⟨h.1, fun i hi => wpOp_mono (fun a' w' q => ih _ a' w' q.2) (h.2 i hi)⟩

/-- one that the last waits for, and that yields in every world that meets S, may be taken first -/
theorem wpTo.first {i : Nat} {oi ol : Oper} {v : Value} (hi : ops[i]? = some oi) (hl : ops[last]? = some ol) (hw : ∃ e ∈ ol.after, Region.binds md e = true ∧ e.on = i) (hs : Region.noSelect ops = true) (hQ : ∀ c a w, Q (.panic c) (a.put oi.dst v) w → Q (.panic c) a w) (k : Nat) :
    ∀ (listed : Array Bool) (a : Act) (w : World), (∀ j oj, ops[j]? = some oj → j ≠ i → listed.getD j true = false → (∀ e ∈ oj.after, Region.binds md e = true → e.on ≠ i) → oi.apart ops oj = true) → i ∈ Region.ready md ops listed → YieldsIf P ops S oi v a → S w → listed.getD last true = false →
      wpTo P md ops Q S last k (listed.setIfInBounds i true) (a.put oi.dst v) w → wpTo P md ops Q S last (k + 1) listed a w := by
  have noSel := Region.noSelect_spec hs
  induction k with
  | zero =>
    intro listed a w _ hr hy hS _ H
    refine ⟨fun e => absurd hr (by rw [e]; exact List.not_mem_nil), fun j hj => ?_⟩
    by_cases c : j = i
    · rw [c]; exact hy.wpOp hi hS ⟨fun _ _ => hS, H⟩
    · have := ready_mono hj c
      rw [H.1] at this
      exact absurd this List.not_mem_nil
  | succ k ih =>
    intro listed a w hfree hr hy hS hll H
    refine ⟨fun e => absurd hr (by rw [e]; exact List.not_mem_nil), fun j hj => ?_⟩
    by_cases c : j = i
    · rw [c]; exact hy.wpOp hi hS ⟨fun _ _ => hS, H⟩
    · have step := H.2 j (ready_mono hj c)
      obtain ⟨unl, oj, ho, waits⟩ := mem_ready.1 hj
      have iun := (mem_ready.1 hr).1
      have apartI : ∀ e ∈ oj.after, Region.binds md e = true → e.on ≠ i := fun e he hb eq => by
        have h1 := waits e he hb
        rw [eq] at h1
        by_cases hlt : i < listed.size
        · simp [hlt] at h1 iun
          rw [h1] at iun
          cases iun
        · simp [Array.getElem?_eq_none (Nat.le_of_not_lt hlt)] at h1
      have notLast : j ≠ last := fun e => by
        subst e
        rw [hl] at ho
        cases ho
        obtain ⟨e, he, hb, eq⟩ := hw
        exact apartI e he hb eq
      have hil : i ≠ last := fun e => by
        subst e
        rw [hl] at hi
        cases hi
        obtain ⟨e, he, hb, eq⟩ := hw
        obtain ⟨_, oj', ho', waits'⟩ := mem_ready.1 hr
        rw [hl] at ho'
        cases ho'
        have h2 := waits' e he hb
        rw [eq] at h2
        by_cases hlt : i < listed.size
        · simp [hlt] at h2 hll
          rw [h2] at hll
          cases hll
        · simp [Array.getElem?_eq_none (Nat.le_of_not_lt hlt)] at h2
      have moved := wpOp_putIf ho (hfree j oj ho c unl apartI) (fun cs b => noSel i oi cs b hi) (fun cs b => noSel j oj cs b ho) hQ hy step
      have hll' : (listed.setIfInBounds i true).getD last true = false := by rw [getD_set_ne true hil]; exact hll
      refine wpOp_mono (fun a' w' q => ⟨fun _ => q.2.1 hll', ih _ a' w' (fun x ox hx hxi un no => hfree x ox hx hxi ?_ no) (ready_mono hr (Ne.symm c)) q.1 (q.2.1 hll' notLast) ?_ ?_⟩) moved
      · by_cases e : j = x
        · rw [← e]; exact unl
        · rwa [getD_set_ne true e] at un
      · rw [getD_set_ne true notLast]; exact hll
      · rw [Array.setIfInBounds_comm _ _ c]
        exact q.2.2

/-- taken first, its conditions to be decided -/
theorem wpTo.take {i : Nat} {oi ol : Oper} {v : Value} {k : Nat} {listed : Array Bool} {a : Act} {w : World} (hi : ops[i]? = some oi) (hl : ops[last]? = some ol) (hw : (ol.after.any fun e => Region.binds md e && e.on == i) = true) (hs : Region.noSelect ops = true) (hf : Region.free md ops listed i = true) (hr : (Region.ready md ops listed).contains i = true)
    (hQ : ∀ c a w, Q (.panic c) (a.put oi.dst v) w → Q (.panic c) a w) (hy : YieldsIf P ops S oi v a) (hS : S w) (hll : listed.getD last true = false) (h : wpTo P md ops Q S last k (listed.setIfInBounds i true) (a.put oi.dst v) w) : wpTo P md ops Q S last (k + 1) listed a w := by
  refine wpTo.first hi hl ?_ hs hQ k listed a w (Region.free_spec hi hf) (by simpa using hr) hy hS hll h
  obtain ⟨e, he, hb⟩ := Array.any_eq_true'.1 hw
  simp only [Bool.and_eq_true, beq_iff_eq] at hb
  exact ⟨e, he, hb.1, hb.2⟩

/-- whichever comes up -/
theorem wpTo.ready {rs : List Nat} {k : Nat} {listed : Array Bool} {a : Act} {w : World} (hr : Region.ready md ops listed = rs) (hne : rs ≠ [])
    (h : ∀ i ∈ rs, wpOp P ops Q i (fun a' w' => (listed.getD last true = false → i ≠ last → S w') ∧ wpTo P md ops Q S last k (listed.setIfInBounds i true) a' w') a w) : wpTo P md ops Q S last (k + 1) listed a w :=
  ⟨fun e => absurd (hr ▸ e) hne, hr ▸ h⟩

/-- one operation that is wanted, carried out -/
theorem wpOp_ofT {i : Nat} {o : Oper} {K : Act → World → Prop} {a : Act} {w : World} (hi : ops[i]? = some o) (h : if Region.wanted o (yielded ops a.tmps) = true then Oper.wp P o a w K Q else K (a.put o.dst undef) w) : wpOp P ops Q i K a w := by
  unfold wpOp
  rw [hi]
  show if Region.wanted o (yielded ops a.tmps) = true then _ else _
  split
  · rename_i c
    rw [if_pos c] at h
    exact .inl h
  · rename_i c
    rw [if_neg c] at h
    exact h

/-- all have come up -/
theorem wpTo.done {listed : Array Bool} {a : Act} {w : World} (hr : Region.ready md ops listed = []) (h : Q .normal a w) (k : Nat) : wpTo P md ops Q S last k listed a w := by
  cases k with
  | zero => exact ⟨hr, h⟩
  | succ k => exact ⟨fun _ => h, by rw [hr]; intro i hi; exact absurd hi List.not_mem_nil⟩

/-- the beginning -/
theorem wp_region_to {id : Nat} {a : Act} {w : World} (S : World → Prop) (last : Nat) (hm : P.follows .mixedOrders = true)
    (h : wpTo P .any ops Q S last ops.size (Array.replicate ops.size false) a { w with drawn := w.drawn + 1 }) : (Code.region id ops true).wp P Q a w :=
  wp_region_any hm (wpTo.any _ _ _ _ h)

end

end Go.Proofs.YtllbfbllkefjeaaGreatDoor
