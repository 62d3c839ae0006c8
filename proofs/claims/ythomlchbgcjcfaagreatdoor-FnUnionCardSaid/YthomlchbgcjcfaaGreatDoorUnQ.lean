/-
  A union told again, with itself and in another order, and of one type alone. No program here.
  The body of the law FnUnion, given what its draw leaves.
-/
import Derived.Test.YthomlchbgcjcfaaGreatDoorUnA
import Derived.Test.YthomlchbgcjcfaaGreatDoorSameW
import Derived.Test.YthomlchbgcjcfaaGreatDoorFormE
import Derived.Deep.CutRange
import Derived.Deep.AppendLies
namespace Go.Proofs.YthomlchbgcjcfaaGreatDoor
open Go.RowKit

theorem lessB_transQ {a b c : ByteArray} (h : lessB a b) (k : lessB b c) : lessB a c := List.lt_trans h k
/-- the kids of a right union ascend -/
theorem union_asc {n : Nat} {t : Ty} {d : Int} (h : Right (n + 1) t d) (h7 : t.kind = 7) : t.kids.Pairwise fun a b => lessB (Ty.text n a) (Ty.text n b) := by
  rcases h.2.2 with ⟨q, _⟩ | ⟨q, _⟩ | ⟨q, _⟩ | ⟨q, _⟩ | ⟨_, q1, _⟩
  · omega
  · omega
  · omega
  · omega
  · rw [List.pairwise_iff_getElem]
    intro i j hi hj hij
    induction j with
    | zero => omega
    | succ j ih =>
      have h1 := (q1 (j + 1) hj).2 (by omega)
      simp only [Nat.add_sub_cancel] at h1
      by_cases c : i = j
      · subst c; exact h1
      · exact lessB_transQ (ih (by omega) (by omega)) h1
theorem asc_up {n : Nat} {S : List Ty} {d : Int} (hr : ∀ s ∈ S, Right n s d) (h : S.Pairwise fun a b => lessB (Ty.text n a) (Ty.text n b)) : S.Pairwise fun a b => lessB (Ty.text (n + 1) a) (Ty.text (n + 1) b) := by
  rw [List.pairwise_iff_getElem] at h ⊢
  intro i j hi hj hij
  rw [text_up (hr _ (List.getElem_mem hi)), text_up (hr _ (List.getElem_mem hj))]
  exact h i j hi hj hij
theorem atom_kind {n : Nat} {ts : List Ty} (hr : ∀ q ∈ ts, Right n q 12) (hn : ∀ q ∈ ts, q.kind ≠ 3) {x : Ty} (hx : x ∈ atoms ts) : x.kind ≠ 3 ∧ x.kind ≠ 7 := by
  refine ⟨?_, (atom_right hr hx).2⟩
  obtain ⟨t, ht, ⟨c, hk⟩ | ⟨c, rfl⟩⟩ := atom_of.1 hx
  · cases n with
    | zero => exact (hr t ht).elim
    | succ n => exact ((right_union (hr t ht) c).2.2.1 x hk).2
  · exact hn x ht

/-- what is told is right, and so is what it is made of -/
theorem uans_right {n : Nat} {ts : List Ty} {t : Ty} (h : UAns n ts t true) : Right (n + 1) t 12 ∧ ts ≠ [] ∧ ∀ q ∈ ts, Right n q 12 := by
  rcases h with ⟨q, _⟩ | ⟨⟨h1, hr⟩, ⟨⟨q, hq, h3⟩, _, rfl⟩ | ⟨hn, S, hU, ⟨_, _, hS⟩ | ⟨h2, h11, _, rfl⟩ | ⟨_, _, q, _⟩⟩⟩
  · cases q
  · refine ⟨?_, h1, hr⟩
    have hq2 := hr q hq
    cases n with
    | zero => exact hq2.elim
    | succ n =>
      have e := right_plain hq2 (by omega)
      rw [h3] at e
      rw [e] at hq2
      exact right_up hq2
  · exact ⟨right_up (atom_right hr ((hU.1 t).1 (by rw [hS]; simp))).1, h1, hr⟩
  · exact ⟨(union_right hU hr hn h2).2 h11, h1, hr⟩
  · cases q

/-- told with itself, the others in the other order, it is the same -/
theorem uans_again {n : Nat} {ts : List Ty} {u : Ty} (h : UAns n ts u true) : UAns (n + 1) (u :: ts.reverse) u true := by
  obtain ⟨hu, _, hr0⟩ := uans_right h
  have hr : ∀ q ∈ u :: ts.reverse, Right (n + 1) q 12 := fun q hq => by
    rcases List.mem_cons.1 hq with rfl | hq
    · exact hu
    · exact right_up (hr0 q (List.mem_reverse.1 hq))
  have hrev : ∀ x, x ∈ atoms ts.reverse ↔ x ∈ atoms ts := fun x => by
    rw [atom_of, atom_of]
    exact ⟨fun ⟨t, ht, q⟩ => ⟨t, List.mem_reverse.1 ht, q⟩, fun ⟨t, ht, q⟩ => ⟨t, List.mem_reverse.2 ht, q⟩⟩
  have hat : ∀ x, x ∈ atoms (u :: ts.reverse) ↔ x ∈ atoms [u] ∨ x ∈ atoms ts := fun x => by
    rw [show u :: ts.reverse = [u] ++ ts.reverse from rfl, atoms_app, List.mem_append, hrev]
  rcases h with ⟨q, _⟩ | ⟨⟨h1, _⟩, ⟨_, _, rfl⟩ | ⟨hn, S, hU, ⟨_, _, hS⟩ | ⟨h2, h11, _, rfl⟩ | ⟨_, _, q, _⟩⟩⟩
  · cases q
  · exact uspec_any hr ⟨_, List.mem_cons_self .., rfl⟩
  · have hx : u ∈ atoms ts := (hU.1 u).1 (by rw [hS]; simp)
    have hk := atom_kind hr0 hn hx
    refine uspec_one hr (fun q hq => ?_) (S := [u]) ⟨fun x => ?_, List.pairwise_singleton _ _⟩ rfl
    · rcases List.mem_cons.1 hq with rfl | hq
      · exact hk.1
      · exact hn q (List.mem_reverse.1 hq)
    · rw [hat, atomsB_1 hk.2]
      refine ⟨.inl, fun q => ?_⟩
      rcases q with q | q
      · exact q
      · have := (hU.1 x).2 q
        rw [hS] at this
        exact this
  · refine (uspec_more hr (fun q hq => ?_) (S := S) ⟨fun x => ?_, asc_up (fun s hs => (atom_right hr0 ((hU.1 s).1 hs)).1) hU.2⟩ (by omega)).1 (right_up hu)
    · rcases List.mem_cons.1 hq with rfl | hq
      · show (7 : Int) ≠ 3; omega
      · exact hn q (List.mem_reverse.1 hq)
    · rw [hat, atomsB_7 rfl]
      show x ∈ S ↔ x ∈ S ∨ x ∈ atoms ts
      exact ⟨.inl, fun q => q.elim id (hU.1 x).2⟩
  · cases q

/-- of one type alone it is that type -/
theorem uans_self {n : Nat} {s : Ty} (h : Right n s 12) : UAns n [s] s true := by
  have hr : ∀ q ∈ [s], Right n q 12 := fun q hq => by rw [List.mem_singleton] at hq; subst hq; exact h
  cases n with
  | zero => exact h.elim
  | succ n =>
    by_cases c3 : s.kind = 3
    · have e := right_plain h (by omega)
      rw [c3] at e
      have := uspec_any hr ⟨s, by simp, c3⟩
      rw [← e] at this
      exact this
    · have hn : ∀ q ∈ [s], q.kind ≠ 3 := fun q hq => by rw [List.mem_singleton] at hq; subst hq; exact c3
      by_cases c7 : s.kind = 7
      · obtain ⟨e1, e2, _, a, b, r, e3⟩ := right_union h c7
        have e : s = .mk 7 ⟨#[]⟩ [] s.kids := by
          obtain ⟨k, nm, ns, ks⟩ := s
          dsimp only at *
          subst c7 e1 e2
          rfl
        have hU : UnionS (n + 1) [s] s.kids := ⟨fun x => by rw [atomsB_7 c7], asc_up (fun k hk => h.2.1 k hk) (union_asc h c7)⟩
        have := (uspec_more hr hn hU (by rw [e3]; simp)).1 (by rw [← e]; exact right_up h)
        rw [← e] at this
        exact this
      · exact uspec_one hr hn (S := [s]) ⟨fun x => by rw [atomsB_1 c7], List.pairwise_singleton _ _⟩ rfl

end Go.Proofs.YthomlchbgcjcfaaGreatDoor

namespace Go.Proofs.YthomlchbgcjcfaaGreatDoor
open Go.RowKit

theorem lawsBigU (a : Option Addr) (len cap : Nat) (w : World) :
    Calls Tryz.prog 4 #[.slice a len cap] w fun e w' => e = .returned (.bool (decide ((1048576 : Int) < len))) ∧ w = w' := by
  go_enter Tryz.func4, Tryz.ntmps4
  go_wp2
  go_ret
  exact ⟨rfl, rfl⟩

/-- what a draw of types leaves -/
def DrUn (n m : Nat) (w : World) (e : Ending) (w' : World) : Prop :=
  ∃ (v : Value) (S : List Ty) (ls : List Lay), e = .returned v ∧ S.length ≤ 4 ∧ KidsG w' w.heap.size n v S ls ∧ (∀ s ∈ S, Ty.sized n s ∧ Ty.bulk n s ≤ m) ∧ Below w.heap.size w w'

theorem KidsG.up {w : World} {B n : Nat} {v : Value} {S : List Ty} {ls : List Lay} (h : KidsG w B n v S ls) : KidsG w B (n + 1) v S ls :=
  ⟨h.len, h.own, fun j h1 h2 => (h.lay j h1 h2).up.1, fun l hl b hb => by
    obtain ⟨j, hj, rfl⟩ := List.getElem_of_mem hl
    exact h.new _ hl b (by rw [← (h.lay j hj (by rw [← h.len]; exact hj)).up.2]; exact hb)⟩
theorem told_arrU {w : World} {n : Nat} {l : Lay} {t : Ty} (h : LayAt w (n + 1) l t) : ∃ an cn ak ck, (cellsK t l).toArray = #[.int .i64 t.kind, .string t.name, .slice an t.names.length cn, .slice ak t.kids.length ck] ∧ cellsK t l = [.int .i64 t.kind, .string t.name, .slice an t.names.length cn, .slice ak t.kids.length ck] := by
  obtain ⟨an, cn, e1⟩ := h.1.slice
  obtain ⟨ak, ck, e2⟩ := h.2.2.1.slice
  have e3 : cellsK t l = [.int .i64 t.kind, .string t.name, .slice an t.names.length cn, .slice ak t.kids.length ck] := by unfold cellsK; rw [e1, e2]
  exact ⟨an, cn, ak, ck, by rw [e3], e3⟩
/-- the first one of a row, as a row -/
theorem KidsG.first {w : World} {B n : Nat} {a : Option Addr} {cap : Nat} {S : List Ty} {ls : List Lay} (h : KidsG w B n (.slice a S.length cap) S ls) (hs : ∀ s ∈ S, Ty.sized n s) (h0 : 0 < S.length) : ∃ g, a = some ⟨g, 0, none⟩ ∧ RowAt w (TyAt w n) (.slice (some ⟨g, 0, none⟩) 1 cap) [S[0]] ∧ TyAt w n (cellsK S[0] (ls[0]'(by rw [h.len]; exact h0))) S[0] ∧ ∀ c u, (cellsK S[0] (ls[0]'(by rw [h.len]; exact h0)))[c]? = some u → w.cell? ⟨g, c, none⟩ = some u := by
  obtain ⟨g, c0, e⟩ := slice_ownL (OwnS.of h.own) h0
  simp only [Value.slice.injEq, true_and] at e
  obtain ⟨rfl, rfl⟩ := e
  have hl0 : 0 < ls.length := by rw [h.len]; exact h0
  have hcell : ∀ c u, (cellsK S[0] ls[0])[c]? = some u → w.cell? ⟨g, c, none⟩ = some u := fun c u hu => by
    have hc : c < 4 := by
      have := (List.getElem?_eq_some_iff.1 hu).1
      simpa [cellsK] using this
    have := h.own.cellAt c (by omega)
    rw [this]
    have h2 := flatK_get S ls 0 c h0 hl0 hc
    rw [Nat.zero_mul, Nat.zero_add] at h2
    rw [h2]
    exact hu
  have hty : TyAt w n (cellsK S[0] ls[0]) S[0] := (h.lay 0 hl0 h0).at (hs _ (List.getElem_mem h0))
  refine ⟨g, rfl, .inr ⟨g, 0, cap, rfl, fun j hj => ?_⟩, hty, hcell⟩
  obtain rfl : j = 0 := by simp at hj; exact hj
  exact ⟨cellsK S[0] ls[0], hty, fun c u hu => by simpa using hcell c u hu⟩

end Go.Proofs.YthomlchbgcjcfaaGreatDoor
