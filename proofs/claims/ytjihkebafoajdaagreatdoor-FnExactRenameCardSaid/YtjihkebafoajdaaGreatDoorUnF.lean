/-
  What impl.unionOf asks of its parts.
-/
import Derived.Test.YtjihkebafoajdaaGreatDoorUnH
import Derived.Test.YtjihkebafoajdaaGreatDoorSortKLib
namespace Go.Proofs.YtjihkebafoajdaaGreatDoor
open Go.RowKit

theorem FormAt.up {w : World} {n : Nat} {v : Value} {t : Ty} (h : FormAt w n v t) : FormAt w (n + 1) v t := by
  induction n generalizing v t with
  | zero => exact h.elim
  | succ n ih =>
    obtain ⟨vp, vn, h1, h2, h3⟩ := h
    refine ⟨vp, vn, h1, h2, ?_⟩
    rcases h3 with h | ⟨b, off, cap, e, hcap, hc⟩
    · exact .inl h
    · refine .inr ⟨b, off, cap, e, hcap, fun j hj => ?_⟩
      obtain ⟨u, q1, q2⟩ := hc j hj
      exact ⟨u, q1, ih q2⟩
theorem FormIn.up {w : World} {B n lo hi : Nat} {v : Value} {t : Ty} (h : FormIn w B n lo hi v t) : FormIn w B (n + 1) lo hi v t := by
  induction n generalizing lo hi v t with
  | zero => exact h.elim
  | succ n ih =>
    obtain ⟨vp, vn, h1, h2, h3⟩ := h
    refine ⟨vp, vn, h1, h2, ?_⟩
    rcases h3 with h3 | ⟨b, cap, e, g0, g1, g2, g3⟩
    · exact .inl h3
    · refine .inr ⟨b, cap, e, g0, g1, g2, fun j hj => ?_⟩
      obtain ⟨l', h', u, q1, q2, q3, q4⟩ := g3 j hj
      exact ⟨l', h', u, q1, q2, q3, ih q4⟩
theorem InQ.up {w : World} {B lo hi n : Nat} {v : Value} {t : Ty} (h : InQ w B lo hi n v t) : InQ w B lo hi (n + 1) v t := by
  obtain ⟨l', h', a, b, c⟩ := h
  exact ⟨l', h', a, b, c.up⟩
theorem InQ.kids {w : World} {B lo hi n : Nat} {a : Option Addr} {l c : Nat} {t : Ty} (h : InQ w B lo hi (n + 1) (.iface 68 (.agg #[.slice a l c])) t) (h7 : t.kind = 7) : PartsAt w (InQ w B lo hi n) (.slice a l c) t.kids := by
  obtain ⟨l', h', a1, b1, vp, vn, e, _, hP⟩ := h
  unfold formV at e
  rw [if_neg (by omega), if_neg (by omega), if_neg (by omega), if_neg (by omega), if_neg (by omega), if_neg (by omega), if_neg (by omega)] at e
  simp only [Value.iface.injEq, Value.agg.injEq, true_and] at e
  have e' : Value.slice a l c = vp := by
    have := congrArg (fun x : Array Value => x[0]?) e
    simpa using this
  subst e'
  rcases hP with hP | ⟨b, cap, e, g0, g1, g2, g3⟩
  · exact .inl hP
  · refine .inr ⟨b, 0, cap, e, g0, fun j hj => ?_⟩
    obtain ⟨l2, h2, u, q1, q2, q3, q4⟩ := g3 j hj
    exact ⟨u, by rw [Nat.zero_add]; exact q3, l2, h2, by omega, by omega, q4⟩
theorem InQ.step {w w' : World} {B lo hi n : Nat} {v : Value} {t : Ty} (h : InQ w B lo hi n v t) (hb : Below w.heap.size w w') (hB : B ≤ w.heap.size) (hh : hi ≤ w.heap.size) : FormIn w' B n lo w'.heap.size v t := by
  obtain ⟨l', h', a, b, c⟩ := h
  exact (c.same (fun x hx => hb.block x (by omega)) (fun x _ hx => hb.block x (by omega))).mono a (by have := hb.size; omega)
theorem assert3 {w : World} {n : Nat} {v : Value} {t : Ty} (h : FormAt w n v t) (hk : t.kind = 3) : ∃ x, v = .iface 67 x ∧ (∃ a l c, x = .agg #[.slice a l c]) ∧ ∀ wx : World, (Instr.typeAssert v 48 67 true).run Tryz.prog wx = .ok (.tuple #[x, .bool true]) wx := by
  cases n with
  | zero => exact h.elim
  | succ n =>
    obtain ⟨a, c, an, cn, _, _, hc⟩ := h.cases
    generalize t.kids.length = l at *
    generalize t.names.length = l' at *
    generalize t.name = nm at *
    rcases hc with ⟨k, rfl⟩ | ⟨k, rfl⟩ | ⟨k, rfl⟩ | ⟨k, rfl⟩ | ⟨k, rfl⟩ | ⟨k, rfl⟩ | ⟨k, rfl⟩ | ⟨k, rfl⟩
    · omega
    · omega
    · omega
    · exact ⟨_, rfl, ⟨_, _, _, rfl⟩, fun wx => by kernel_rfl⟩
    · omega
    · omega
    · omega
    · omega
theorem assert7 {w : World} {n : Nat} {v : Value} {t : Ty} (h : FormAt w (n + 1) v t) (hk : t.kind = 7) : ∃ a c, v = .iface 68 (.agg #[.slice a t.kids.length c]) ∧ PartsAt w (FormAt w n) (.slice a t.kids.length c) t.kids ∧ (∀ wx : World, (Instr.typeAssert v 48 67 true).run Tryz.prog wx = .ok (.tuple #[.agg #[.slice none 0 0], .bool false]) wx) ∧ ∀ wx : World, (Instr.typeAssert v 48 68 true).run Tryz.prog wx = .ok (.tuple #[.agg #[.slice a t.kids.length c], .bool true]) wx := by
  obtain ⟨a, c, an, cn, hP, _, hc⟩ := h.cases
  generalize t.names.length = l' at *
  generalize t.name = nm at *
  rcases hc with ⟨k, rfl⟩ | ⟨k, rfl⟩ | ⟨k, rfl⟩ | ⟨k, rfl⟩ | ⟨k, rfl⟩ | ⟨k, rfl⟩ | ⟨k, rfl⟩ | ⟨k, rfl⟩
  · omega
  · omega
  · omega
  · omega
  · omega
  · omega
  · omega
  · exact ⟨a, c, rfl, hP, fun wx => by generalize t.kids.length = l at *; kernel_rfl, fun wx => by generalize t.kids.length = l at *; kernel_rfl⟩

/-- what wordedForms leaves -/
def WordPost (W wx : World) (B lo hi n : Nat) (ks : List Ty) (e : Ending) (w' : World) : Prop := ∃ (g cap : Nat) (l : List WE), e = .returned (.slice (some ⟨g, 0, none⟩) l.length cap) ∧ 0 < l.length ∧ l.length ≤ 274877906944 ∧ l.map (·.t) = ks ∧ HoldW W B lo hi n l ∧ w'.ownsRow wx.heap.size 73 2 (.slice (some ⟨g, 0, none⟩) l.length cap) l.length (flatW n l) ∧ Below wx.heap.size wx w'

theorem flatW_up {n : Nat} {l : List WE} {d : Int} (h : ∀ e ∈ l, Right n e.t d) : flatW (n + 1) l = flatW n l := by
  unfold flatW
  induction l with
  | nil => rfl
  | cons a r ih =>
    rw [List.flatMap_cons, List.flatMap_cons, ih fun e he => h e (List.mem_cons_of_mem _ he)]
    unfold encW
    rw [text_up (h a (by simp))]
theorem own_some {w : World} {B e z : Nat} {v : Value} {n : Nat} {xs : List Value} (h : w.ownsRow B e z v n xs) (hn : 0 < n) : ∃ g cap, v = .slice (some ⟨g, 0, none⟩) n cap := by
  rcases h.2 with ⟨_, h0⟩ | ⟨g, c, cur, e, _⟩
  · omega
  · exact ⟨g, c, e⟩

theorem word7 {W w : World} {B lo hi n : Nat} {a : Option Addr} {c : Nat} {t : Ty} (hW : Below W.heap.size W w) (hP : PartsAt W (InQ W B lo hi n) (.slice a t.kids.length c) t.kids) (hr : Right (n + 1) t 12) (h7 : t.kind = 7) (hb : Ty.bulk (n + 1) t ≤ 274877906944) :
    Calls Tryz.prog 39 #[.slice a t.kids.length c] w (WordPost W w B lo hi (n + 1) t.kids) := by
  have hbb : Ty.bulk (n + 1) t = t.name.size + (t.names.length + Ty.textsBulk t.names) + (t.kids.length + (t.kids.map (Ty.bulk n)).sum) := rfl
  refine (implWorded n a c t.kids (12 - 1) B lo hi W w hW (hP.below hW fun u q _ h => h) (fun q hq => hr.2.1 q hq) (by unfold rowBulk; omega)).mono fun e w' h => ?_
  obtain ⟨v, l, rfl, hlt, hh, ho, hbe⟩ := h
  have hll : l.length = t.kids.length := by rw [← hlt]; simp
  obtain ⟨x, y, r, hk⟩ := (right_union hr h7).2.2.2
  have hk2 : 0 < t.kids.length := by rw [hk]; simp
  obtain ⟨g, cap, rfl⟩ := own_some ho (by omega)
  refine ⟨g, cap, l, rfl, by omega, by omega, hlt, fun e he => (hh e he).up, ?_, hbe⟩
  rw [flatW_up (d := 12 - 1) fun e he => hr.2.1 e.t (by rw [← hlt]; exact List.mem_map_of_mem he)]
  exact ho
theorem word1 {W w : World} {B lo hi n b : Nat} {T : Nat} {x : Value} {t : Ty} {d : Int} (hW : Below W.heap.size W w) (hc : w.cell? ⟨b, 0, none⟩ = some (.iface T x)) (hf : InQ W B lo hi n (.iface T x) t) (hr : Right n t d) (hb : Ty.bulk n t < 274877906944) :
    Calls Tryz.prog 39 #[.slice (some ⟨b, 0, none⟩) 1 1] w (WordPost W w B lo hi n [t]) := by
  have hP : PartsAt w (InQ W B lo hi n) (.slice (some ⟨b, 0, none⟩) [t].length 1) [t] := .inr ⟨b, 0, 1, rfl, Nat.le_refl _, fun j hj => by
    obtain rfl : j = 0 := by simp at hj; omega
    exact ⟨_, hc, hf⟩⟩
  refine (implWorded n (some ⟨b, 0, none⟩) 1 [t] d B lo hi W w hW hP (fun q hq => by simp only [List.mem_singleton] at hq; subst hq; exact hr) (by unfold rowBulk; simp; omega)).mono fun e w' h => ?_
  obtain ⟨v, l, rfl, hlt, hh, ho, hbe⟩ := h
  have hll : l.length = 1 := by have := congrArg List.length hlt; simpa using this
  obtain ⟨g, cap, rfl⟩ := own_some ho (by omega)
  exact ⟨g, cap, l, rfl, by omega, by omega, hlt, hh, ho, hbe⟩

/-- the type of such a union -/
def UForm (n : Nat) (ts : List Ty) (t : Ty) : Prop :=
  ((∃ q ∈ ts, q.kind = 3) ∧ t = .mk 3 ⟨#[]⟩ [] []) ∨ ((∀ q ∈ ts, q.kind ≠ 3) ∧ ∃ S, UnionS n ts S ∧ (S = [t] ∨ (1 < S.length ∧ t = .mk 7 ⟨#[]⟩ [] S)))

theorem any_of {n : Nat} {t : Ty} {d : Int} (h : Right n t d) (h3 : t.kind = 3) : t = .mk 3 ⟨#[]⟩ [] [] := by
  cases n with
  | zero => exact h.elim
  | succ n =>
    have ha := right_alone h.2.2
    rw [ownAlone_iff] at ha
    obtain ⟨kd, nm, nms, ks⟩ := t
    simp only at h3 ha
    subst h3
    obtain ⟨h1, h2, h4⟩ := ha
    have e1 : nm = ⟨#[]⟩ := ByteArray.ext (Array.eq_empty_of_size_eq_zero (by rcases h1 with h | h; omega; exact h))
    have e2 : nms = [] := List.eq_nil_of_length_eq_zero (by omega)
    have e3 : ks = [] := List.eq_nil_of_length_eq_zero (by omega)
    rw [e1, e2, e3]

/-- what is kept of sorted ones is the union -/
theorem keep_union {n : Nat} {ts : List Ty} {l E L : List WE} (hr : ∀ q ∈ ts, Right n q 12) (hl : l.map (·.t) = atoms ts) (hp : E.Perm l) (hk : KeepP (fun e => Ty.text n e.t) E E.length L) : UnionS n ts (L.map (·.t)) := by
  have hE : ∀ e, e ∈ E → e.t ∈ atoms ts := fun e he => by rw [← hl]; exact List.mem_map_of_mem (hp.mem_iff.1 he)
  refine ⟨fun x => ⟨fun hx => ?_, fun hx => ?_⟩, ?_⟩
  · obtain ⟨e, he, rfl⟩ := List.mem_map.1 hx
    exact hE e (hk.sub e he)
  · rw [← hl] at hx
    obtain ⟨e, he, rfl⟩ := List.mem_map.1 hx
    have he' := hp.mem_iff.2 he
    obtain ⟨e', h1, h2⟩ := hk.all e (by rw [List.take_length]; exact he')
    have r1 := (atom_right hr (hE e he')).1
    have r2 := (atom_right hr (hE e' (hk.sub e' h1))).1
    exact List.mem_map.2 ⟨e', h1, text_one r2 r1 h2⟩
  · rw [List.pairwise_map]
    exact hk.asc

end Go.Proofs.YtjihkebafoajdaaGreatDoor
