/-
  The walk of slices.Clone at items; where the inputs of items stand.
-/
import Derived.Test.YtoebfpdalkpkdaaDoorItT
import Derived.Test.YtoebfpdalkpkdaaDoorMapT
namespace Go.Proofs.YtoebfpdalkpkdaaDoor
open Go.RowKit

theorem own_emptyI {w : World} {g B : Nat} (h : w.heap[g]? = some (.cells #[] 50 (0, 0))) (hg : B ≤ g) : w.ownsRow B 50 3 (.slice (some ⟨g, 0, none⟩) 0 0) 0 [] :=
  ⟨rfl, .inr ⟨g, 0, #[], rfl, hg, h, by simp⟩⟩
theorem slice_ownI {w : World} {B e z : Nat} {v : Value} {n : Nat} {xs : List Value} (h : w.ownsRow B e z v n xs) : ∃ a c, v = .slice a n c := by
  rcases h.2 with ⟨e, h0⟩ | ⟨g, c, cur, e, _⟩
  · exact ⟨none, 0, by rw [e, h0]⟩
  · exact ⟨_, c, e⟩

/-- the cells of a slice of items -/
theorem itCells {w : World} {v : Value} {es : List Itm} (h : ItAt w v es) : ∃ av capv, v = .slice av es.length capv ∧ (0 < es.length → ∃ b off, av = some ⟨b, off, none⟩ ∧ b < w.heap.size ∧ ∀ j u, (itV es)[j]? = some u → w.cell? ⟨b, off + j, none⟩ = some u) := by
  rcases h with ⟨h, a, cap, e⟩ | ⟨b, off, cap, e, hc⟩
  · exact ⟨a, cap, by rw [h]; exact e, fun h0 => by rw [h] at h0; simp at h0⟩
  · refine ⟨_, cap, e, fun h0 => ⟨b, off, rfl, World.block_lt_of_cell? w ⟨b, off + 0 * 3, none⟩ (hc 0 h0).1, fun j u hu => ?_⟩⟩
    have hj := (List.getElem?_eq_some_iff.1 hu).1
    rw [itV_length] at hj
    have hq : j / 3 < es.length := by omega
    obtain ⟨c0, c1, c2⟩ := hc (j / 3) hq
    obtain ⟨a0, a1, a2⟩ := itV_at es (j / 3) hq
    have hr : j = j / 3 * 3 ∨ j = j / 3 * 3 + 1 ∨ j = j / 3 * 3 + 2 := by omega
    rcases hr with e | e | e
    · rw [e] at hu ⊢
      rw [c0, ← hu, a0]
    · rw [e] at hu ⊢
      rw [← Nat.add_assoc, c1, ← hu, a1]
    · rw [e] at hu ⊢
      rw [← Nat.add_assoc, c2, ← hu, a2]
theorem itV_one (es : List Itm) : ∀ u ∈ itV es, u.oneCell' = true := fun u hu => by
  simp only [itV, List.mem_flatMap] at hu
  obtain ⟨e, _, h⟩ := hu
  simp only [List.mem_cons, List.not_mem_nil, or_false] at h
  rcases h with rfl | rfl | rfl <;> rfl

set_option maxHeartbeats 800000 in
set_option maxRecDepth 100000 in
theorem slCloneI (v : Value) (es : List Itm) (w : World) (hT : ItAt w v es) (hl : es.length ≤ 4194304) :
    Calls Tryd.prog 50 #[v] w fun e w' => ∃ (a : Option Addr) (c : Nat), e = .returned (.slice a es.length c) ∧ w'.ownsRow w.heap.size 50 3 (.slice a es.length c) es.length (itV es) ∧ Below w.heap.size w w' := by
  obtain ⟨i0, hi0, hz0, hz1, hz2⟩ := info_parts Tryd.infoItem
  obtain ⟨a, cap, rfl, hc⟩ := itCells hT
  clear hT
  cases a with
  | none =>
    have h0 : es.length = 0 := by
      cases hh : es.length with
      | zero => rfl
      | succ m => obtain ⟨b, off, e, _⟩ := hc (by omega); cases e
    have ht : es = [] := List.length_eq_zero_iff.1 h0
    subst ht
    clear hc hl h0
    have hq : ∀ w : World, Sem.run Tryd.prog (binOp BinOp.eql 27 (.slice none 0 cap) (.slice none 0 0)) w = .ok (.bool true) w := fun w => by kernel_rfl
    go_enter Tryd.func50, Tryd.ntmps50
    go_wp2
    go_ret
    exact ⟨none, 0, rfl, World.ownsRow_nil _ _ _ _, Below.refl _ _⟩
  | some ad =>
    have HC : Hid (∀ X : World, Below w.heap.size w X → ∀ j u, (itV es)[j]? = some u → X.cell? (ad.add j) = some u) := fun X hX j u hu => by
      have hj := (List.getElem?_eq_some_iff.1 hu).1
      rw [itV_length] at hj
      obtain ⟨b, off, e, hbl, h⟩ := hc (by omega)
      simp only [Option.some.injEq] at e
      subst e
      rw [Addr.add_lit]
      exact (hX.cell (p := ⟨b, off + j, none⟩) hbl).trans (h j u hu)
    have hB1 : Below w.heap.size w (w.alloc (.cells #[] 50)) := (Below.refl _ _).alloc (Nat.le_refl _) _
    have hE : (w.alloc (.cells #[] 50)).ownsRow w.heap.size 50 3 (.slice (some ⟨w.heap.size, 0, none⟩) 0 0) 0 [] := own_emptyI (MapKept.heap_alloc w _).1 (Nat.le_refl _)
    clear hc
    have hq : ∀ w : World, Sem.run Tryd.prog (binOp BinOp.eql 27 (.slice (some ad) es.length cap) (.slice none 0 0)) w = .ok (.bool false) w := fun w => by kernel_rfl
    go_enter Tryd.func50, Tryd.ntmps50
    go_wp2_with (at_builtin; refine wpList_append_own _ rfl _ _ 27 rfl w.heap.size 50 i0 _ 3 48 Tryd.underlying27 hi0 hz0 hz1 hz2 rfl (by decide) _ _ _ rfl hE ad es.length cap (itV es) rfl (itV_length es) (HC.out _ hB1) (itV_one es) ?c3 ?c4 ?c5 ?_)
    case c3 => unfold maxLen; omega
    case c4 => omega
    case c5 => simp
    intro v' w3 hown' hgrow _
    have R1 : w3.ownsRow w.heap.size 50 3 v' es.length (itV es) := by simpa using hown'
    have R2 : Below w.heap.size w w3 := hB1.grown hgrow (by simp) (fun j hj => by simp [Value.ownBlock] at hj; omega)
    obtain ⟨a', c', hv⟩ := slice_ownI R1
    subst hv
    have HO : Hid (type_of% R1) := R1
    clear hown' hgrow R1 HC hE hB1
    go_wp2_with fail
    go_ret
    exact ⟨a', c', rfl, HO.out, R2⟩

/-- where the inputs of the first so many stand -/
def stoD (es : List Itm) (k : Nat) : List (ByteArray × Value) := (es.take k).zipIdx.map fun p => (p.1.2.1, .int .i64 (p.2 : Nat))
theorem stoD_more (es : List Itm) (k : Nat) (h : k < es.length) : stoD es (k + 1) = stoD es k ++ [(es[k].2.1, .int .i64 k)] := by
  unfold stoD
  rw [List.take_succ_eq_append_getElem h, List.zipIdx_append, List.map_append]
  have hl : (es.take k).length = k := by simp; omega
  simp [hl]
theorem stoD_none (es : List Itm) (k : Nat) (hk : k ≤ es.length) (s : ByteArray) (h : ∀ j (hj : j < k), (es[j]'(by omega)).2.1 ≠ s) : lookT (stoD es k) s = none := by
  induction k with
  | zero => rfl
  | succ k ih =>
    rw [stoD_more es k (by omega), lookT_app, ih (by omega) fun j hj => h j (by omega)]
    show (if es[k].2.1 = s then some _ else none) = none
    rw [if_neg (h k (by omega))]
theorem stoD_some (es : List Itm) (k : Nat) (hk : k ≤ es.length) (s : ByteArray) (j : Nat) (hj : j < k) (he : (es[j]'(by omega)).2.1 = s) (hf : ∀ i (hi : i < j), (es[i]'(by omega)).2.1 ≠ s) : lookT (stoD es k) s = some (.int .i64 j) := by
  induction k with
  | zero => omega
  | succ k ih =>
    rw [stoD_more es k (by omega), lookT_app]
    by_cases c : j = k
    · subst c
      rw [stoD_none es j (by omega) s hf]
      show (if es[j].2.1 = s then some _ else none) = _
      rw [if_pos he]
    · rw [ih (by omega) (by omega) he hf]
      rfl

theorem lookTk {W : World} {M : Nat} {D : List (ByteArray × Value)} (hM : TMap W M D) (s : ByteArray) (z : Value) (h : lookT D s = some z) : Sem.run Tryd.prog (Instr.lookup 80 (.map (some M)) (.string s) true) W = .ok (.tuple #[z, .bool true]) W := by
  have := run_lookup_textT (P := Tryd.prog) (T := 80) (k := 9) (e := 3) (z := .int .i64 0) Tryd.underlying80 Tryd.underlying9 (by kernel_rfl) hM s true
  rw [h] at this
  exact this
theorem lookTkNo {W : World} {M : Nat} {D : List (ByteArray × Value)} (hM : TMap W M D) (s : ByteArray) (h : lookT D s = none) : Sem.run Tryd.prog (Instr.lookup 80 (.map (some M)) (.string s) true) W = .ok (.tuple #[.int .i64 0, .bool false]) W := by
  have := run_lookup_textT (P := Tryd.prog) (T := 80) (k := 9) (e := 3) (z := .int .i64 0) Tryd.underlying80 Tryd.underlying9 (by kernel_rfl) hM s true
  rw [h] at this
  exact this

end Go.Proofs.YtoebfpdalkpkdaaDoor
