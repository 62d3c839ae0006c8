/-
  The walk of slices.Clone at types; rows that a step turns.
-/
import Derived.Test.YtpnalacdgnppmaaCqD
import Derived.Test.YtpnalacdgnppmaaCopyT
import Derived.Test.YtpnalacdgnppmaaLwI
import Derived.Test.YtpnalacdgnppmaaOwT
namespace Go.Proofs.Ytpnalacdgnppmaa
open Go.RowKit

theorem Try.infoTypeQ : (Try.prog.info? 27).map (fun i => (i.zero, i.size, i.bytes)) = some (some (.agg #[.int .i64 0, .string ⟨#[]⟩, .slice none 0 0, .slice none 0 0]), 4, 72) := by kernel_rfl
theorem own_emptyQ {X : World} {B G : Nat} {e : TypeId} (h : X.heap[G]? = some (.cells #[] e (0, 0))) (hB : B ≤ G) : X.ownsRow B e 4 (.slice (some ⟨G, 0, none⟩) 0 0) 0 [] := ⟨rfl, .inr ⟨G, 0, #[], rfl, hB, h, Nat.le_refl _, Nat.zero_le _, rfl, rfl⟩⟩

set_option maxHeartbeats 800000 in
set_option maxRecDepth 100000 in
theorem slCloneQ (a : Option Addr) (m cap : Nat) (xs : List Value) (w : World) (hx : xs.length = m * 4) (hone : ∀ u ∈ xs, u.oneCell' = true) (hm : m ≤ 1000000000) (hc : 0 < m → ∃ b off, a = some ⟨b, off, none⟩ ∧ ∀ j u, xs[j]? = some u → w.cell? ⟨b, off + j, none⟩ = some u) :
    Calls Try.prog 40 #[.slice a m cap] w fun e w' => ∃ (a' : Option Addr) (c' : Nat), e = .returned (.slice a' m c') ∧ w'.ownsRow w.heap.size 27 4 (.slice a' m c') m xs ∧ Below w.heap.size w w' := by
  obtain ⟨i0, hi0, hz0, hz1, hz2⟩ := info_parts Try.infoTypeQ
  cases a with
  | none =>
    have h0 : m = 0 := by
      cases m with
      | zero => rfl
      | succ m => obtain ⟨b, off, e, _⟩ := hc (by omega); cases e
    subst h0
    have ht : xs = [] := List.length_eq_zero_iff.1 (by omega)
    subst ht
    clear hc hone hx hm
    have hq : ∀ w : World, Sem.run Try.prog (binOp BinOp.eql 25 (.slice none 0 cap) (.slice none 0 0)) w = .ok (.bool true) w := fun w => by kernel_rfl
    go_enter Try.func40, Try.ntmps40
    go_wp2
    go_ret
    exact ⟨none, 0, rfl, World.ownsRow_nil _ _ _ _, Below.refl _ _⟩
  | some ad =>
    have HC : Hid (∀ X : World, Below w.heap.size w X → ∀ j u, xs[j]? = some u → X.cell? (ad.add j) = some u) := fun X hX j u hu => by
      have hj := (List.getElem?_eq_some_iff.1 hu).1
      obtain ⟨b, off, e, h⟩ := hc (by omega)
      simp only [Option.some.injEq] at e
      subst e
      rw [Addr.add_lit]
      have := h j u hu
      exact (hX.cell (p := ⟨b, off + j, none⟩) (World.block_lt_of_cell? w ⟨b, off + j, none⟩ this)).trans this
    have hB1 : Below w.heap.size w (w.alloc (.cells #[] 27)) := (Below.refl _ _).alloc (Nat.le_refl _) _
    have hE : (w.alloc (.cells #[] 27)).ownsRow w.heap.size 27 4 (.slice (some ⟨w.heap.size, 0, none⟩) 0 0) 0 [] := own_emptyQ (MapKept.heap_alloc w _).1 (Nat.le_refl _)
    clear hc
    have hq : ∀ w : World, Sem.run Try.prog (binOp BinOp.eql 25 (.slice (some ad) m cap) (.slice none 0 0)) w = .ok (.bool false) w := fun w => by kernel_rfl
    go_enter Try.func40, Try.ntmps40
    go_wp2_with (at_builtin; refine wpList_append_own _ rfl _ _ 25 rfl w.heap.size 27 i0 _ 4 72 Try.underlying25 hi0 hz0 hz1 hz2 rfl (by decide) _ _ _ rfl hE ad m cap xs rfl hx (HC.out _ hB1) hone ?c3 ?c4 ?c5 ?_)
    case c3 => unfold maxLen; omega
    case c4 => omega
    case c5 => simp
    intro v' w3 hown' hgrow _
    have R1 : w3.ownsRow w.heap.size 27 4 v' m xs := by simpa using hown'
    have R2 : Below w.heap.size w w3 := hB1.grown hgrow (by simp) (fun j hj => by simp [Value.ownBlock] at hj; omega)
    obtain ⟨a', c', hv⟩ := slice_ownM R1
    subst hv
    have HO : Hid (type_of% R1) := R1
    clear hown' hgrow R1 HC hE hB1
    go_wp2_with fail
    go_ret
    exact ⟨a', c', rfl, HO.out, R2⟩


theorem set_same {α : Type} {X : List α} {k : Nat} {v : α} (h : X[k]? = some v) : X.set k v = X := by
  apply List.ext_getElem?
  intro i
  by_cases c : k = i
  · subst c
    rw [List.getElem?_set_self (List.getElem?_eq_some_iff.1 h).1, h]
  · rw [List.getElem?_set_ne c]
theorem own_lowQ {X Y : World} {B B' e z : Nat} {v : Value} {n : Nat} {xs : List Value} (h : X.ownsRow B e z v n xs) (hB : B' ≤ B) (hs : ∀ g, v.ownBlock = some g → Y.heap[g]? = X.heap[g]?) : Y.ownsRow B' e z v n xs := by
  refine ⟨h.1, ?_⟩
  rcases h.2 with q | ⟨g, cap, cur, hv, hg, hh, q⟩
  · exact .inl q
  · exact .inr ⟨g, cap, cur, hv, Nat.le_trans hB hg, (hs g (by rw [hv]; rfl)).trans hh, q⟩
theorem grown_below {w w' : World} {o : Option Nat} (h : Below w.heap.size w w') : w.grownBy w' o := ⟨h.os, h.tape, h.output, h.size, fun k hk _ => h.block k hk⟩
theorem grown_set (w : World) (T k : Nat) (v : Value) : w.grownBy (w.setCell ⟨T, k, none⟩ v) (some T) := ⟨rfl, rfl, rfl, by simp, fun x _ hx => Below.heap_setCell _ _ _ _ (fun e => hx (by rw [e]))⟩
theorem grown_trans {a b c : World} {T : Nat} (h : a.grownBy b (some T)) (k : b.grownBy c (some T)) : a.grownBy c (some T) := ⟨k.os.trans h.os, k.tape.trans h.tape, k.output.trans h.output, Nat.le_trans h.size k.size, fun x hx hn => (k.block x (Nat.lt_of_lt_of_le hx h.size) hn).trans (h.block x hx hn)⟩

end Go.Proofs.Ytpnalacdgnppmaa
