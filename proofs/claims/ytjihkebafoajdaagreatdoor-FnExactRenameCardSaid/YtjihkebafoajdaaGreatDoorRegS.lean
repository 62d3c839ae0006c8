/-
  A region that draws its order and ends in a store: what is read before that store may be taken first, though the store writes it. No program here.
  All that a type is made of, plainly; and a queue of types that stand in memory of their own, gone through one by one.
  A map whose keys are places: a place that is none of them is not found, and is put beside them.
  A map whose keys are places with a count: a place that is none of them is not found, and is put beside them.
  A copy that is made list by list: what it comes to when all lists are done.
-/
import Derived.OrdersHeld
import Derived.Deep.RegionHeld3
import Derived.Test.YtjihkebafoajdaaGreatDoorToTy
import Derived.Maps.OwnOps
import Derived.MapKept
import Derived.LaidEql
import Derived.Laws.StructEq
import Derived.Deep.RegionWith
import Derived.Test.YtjihkebafoajdaaGreatDoorLayD
import Derived.Deep.Slices
namespace Go.Proofs.YtjihkebafoajdaaGreatDoor

section
variable {P : Program} {ops : Array Oper} {Q : Exit → Act → World → Prop} {md : Region.Mode} {S : World → Prop} {last : Nat}

/-- whatever order is picked from here on; and S holds behind each operation but the last one -/
def wpTill (P : Program) (md : Region.Mode) (ops : Array Oper) (Q : Exit → Act → World → Prop) (S : World → Prop) (last : Nat) : Nat → Array Bool → Act → World → Prop
  | 0, listed, a, w => Region.ready md ops listed = [] ∧ Q .normal a w
  | k + 1, listed, a, w => (Region.ready md ops listed = [] → Q .normal a w) ∧
      ∀ i ∈ Region.ready md ops listed, wpOp P ops Q i (fun a' w' => (i ≠ last → S w') ∧ wpTill P md ops Q S last k (listed.setIfInBounds i true) a' w') a w

theorem wpTill.any (k : Nat) : ∀ (listed : Array Bool) (a : Act) (w : World), wpTill P md ops Q S last k listed a w → wpAny P md ops Q k listed a w := by
  induction k with
  | zero => intro listed a w h; exact h
  | succ k ih =>
    intro listed a w h
    exact ⟨h.1, fun i hi => wpOp_mono (fun a' w' q => ih _ a' w' q.2) (h.2 i hi)⟩

/-- one that the last waits for, and that yields in every world that meets S, may be taken first -/
theorem wpTill.first {i : Nat} {oi ol : Oper} {v : Value} (hi : ops[i]? = some oi) (hl : ops[last]? = some ol) (hw : ∃ e ∈ ol.after, Region.binds md e = true ∧ e.on = i) (hs : Region.noSelect ops = true) (hQ : ∀ c a w, Q (.panic c) (a.put oi.dst v) w → Q (.panic c) a w) (k : Nat) :
    ∀ (listed : Array Bool) (a : Act) (w : World), (∀ j oj, ops[j]? = some oj → j ≠ i → listed.getD j true = false → (∀ e ∈ oj.after, Region.binds md e = true → e.on ≠ i) → oi.apart ops oj = true) → i ∈ Region.ready md ops listed → YieldsIf P ops S oi v a → S w →
      wpTill P md ops Q S last k (listed.setIfInBounds i true) (a.put oi.dst v) w → wpTill P md ops Q S last (k + 1) listed a w := by
  have noSel := Region.noSelect_spec hs
  induction k with
  | zero =>
    intro listed a w _ hr hy hS H
    refine ⟨fun e => absurd hr (by rw [e]; exact List.not_mem_nil), fun j hj => ?_⟩
    by_cases c : j = i
    · rw [c]; exact hy.wpOp hi hS ⟨fun _ => hS, H⟩
    · have := ready_mono hj c
      rw [H.1] at this
      exact absurd this List.not_mem_nil
  | succ k ih =>
    intro listed a w hfree hr hy hS H
    refine ⟨fun e => absurd hr (by rw [e]; exact List.not_mem_nil), fun j hj => ?_⟩
    by_cases c : j = i
    · rw [c]; exact hy.wpOp hi hS ⟨fun _ => hS, H⟩
    · have step := H.2 j (ready_mono hj c)
      obtain ⟨unl, oj, ho, waits⟩ := mem_ready.1 hj
      have iun := (mem_ready.1 hr).1
      have apartI : ∀ e ∈ oj.after, Region.binds md e = true → e.on ≠ i := fun e he hb eq => by
        have h1 := waits e he hb
        rw [eq] at h1
        by_cases hlt : i < listed.size
        · simp [hlt] at h1 iun
          rw [h1] at iun
          cases iun
        · simp [Array.getElem?_eq_none (Nat.le_of_not_lt hlt)] at h1
      have notLast : j ≠ last := fun e => by
        subst e
        rw [hl] at ho
        cases ho
        obtain ⟨e, he, hb, eq⟩ := hw
        exact apartI e he hb eq
      have moved := wpOp_putIf ho (hfree j oj ho c unl apartI) (fun cs b => noSel i oi cs b hi) (fun cs b => noSel j oj cs b ho) hQ hy step
      refine wpOp_mono (fun a' w' q => ⟨q.2.1, ih _ a' w' (fun x ox hx hxi un no => hfree x ox hx hxi ?_ no) (ready_mono hr (Ne.symm c)) q.1 (q.2.1 notLast) ?_⟩) moved
      · by_cases e : j = x
        · rw [← e]; exact unl
        · rwa [getD_set_ne true e] at un
      · rw [Array.setIfInBounds_comm _ _ c]
        exact q.2.2

/-- taken first, its conditions to be decided -/
theorem wpTill.take {i : Nat} {oi ol : Oper} {v : Value} {k : Nat} {listed : Array Bool} {a : Act} {w : World} (hi : ops[i]? = some oi) (hl : ops[last]? = some ol) (hw : (ol.after.any fun e => Region.binds md e && e.on == i) = true) (hs : Region.noSelect ops = true) (hf : Region.free md ops listed i = true) (hr : (Region.ready md ops listed).contains i = true)
    (hQ : ∀ c a w, Q (.panic c) (a.put oi.dst v) w → Q (.panic c) a w) (hy : YieldsIf P ops S oi v a) (hS : S w) (h : wpTill P md ops Q S last k (listed.setIfInBounds i true) (a.put oi.dst v) w) : wpTill P md ops Q S last (k + 1) listed a w := by
  refine wpTill.first hi hl ?_ hs hQ k listed a w (Region.free_spec hi hf) (by simpa using hr) hy hS h
  obtain ⟨e, he, hb⟩ := Array.any_eq_true'.1 hw
  simp only [Bool.and_eq_true, beq_iff_eq] at hb
  exact ⟨e, he, hb.1, hb.2⟩

/-- whichever comes up -/
theorem wpTill.ready {rs : List Nat} {k : Nat} {listed : Array Bool} {a : Act} {w : World} (hr : Region.ready md ops listed = rs) (hne : rs ≠ [])
    (h : ∀ i ∈ rs, wpOp P ops Q i (fun a' w' => (i ≠ last → S w') ∧ wpTill P md ops Q S last k (listed.setIfInBounds i true) a' w') a w) : wpTill P md ops Q S last (k + 1) listed a w :=
  ⟨fun e => absurd (hr ▸ e) hne, hr ▸ h⟩

/-- one operation that is wanted, carried out -/
theorem wpOp_of {i : Nat} {o : Oper} {K : Act → World → Prop} {a : Act} {w : World} (hi : ops[i]? = some o) (h : if Region.wanted o (yielded ops a.tmps) = true then Oper.wp P o a w K Q else K (a.put o.dst undef) w) : wpOp P ops Q i K a w := by
  unfold wpOp
  rw [hi]
  show if Region.wanted o (yielded ops a.tmps) = true then _ else _
  split
  · rename_i c
    rw [if_pos c] at h
    exact .inl h
  · rename_i c
    rw [if_neg c] at h
    exact h

/-- all have come up -/
theorem wpTill.done {listed : Array Bool} {a : Act} {w : World} (hr : Region.ready md ops listed = []) (h : Q .normal a w) (k : Nat) : wpTill P md ops Q S last k listed a w := by
  cases k with
  | zero => exact ⟨hr, h⟩
  | succ k => exact ⟨fun _ => h, by rw [hr]; intro i hi; exact absurd hi List.not_mem_nil⟩

/-- the beginning -/
theorem wp_region_till {id : Nat} {a : Act} {w : World} (S : World → Prop) (last : Nat) (hm : P.follows .mixedOrders = true)
    (h : wpTill P .any ops Q S last ops.size (Array.replicate ops.size false) a { w with drawn := w.drawn + 1 }) : (Code.region id ops true).wp P Q a w :=
  wp_region_any hm (wpTill.any _ _ _ _ h)

end

end Go.Proofs.YtjihkebafoajdaaGreatDoor

namespace Go.Proofs.YtjihkebafoajdaaGreatDoor
open Go.RowKit

/-- all that it is made of, itself among them: to a depth -/
def Ty.nodes : Nat → Ty → List Ty
  | 0, _ => []
  | n + 1, t => t :: t.kids.flatMap (Ty.nodes n)

theorem any_nodes (n : Nat) (t : Ty) : Ty.hasAny n t = (Ty.nodes n t).any (fun u => decide (u.kind = 3)) := by
  induction n generalizing t with
  | zero => rfl
  | succ n ih =>
    rw [Ty.hasAny, Ty.nodes, List.any_cons, List.any_flatMap, Bool.or_comm]
    congr 1
    congr 1
    funext u
    exact ih u

theorem nodes_len (n : Nat) (t : Ty) : (Ty.nodes n t).length ≤ 1 + Ty.bulk n t := by
  induction n generalizing t with
  | zero => simp [Ty.nodes]
  | succ n ih =>
    rw [Ty.nodes, List.length_cons, List.length_flatMap, Ty.bulk]
    have : ∀ ks : List Ty, (ks.map fun k => (Ty.nodes n k).length).sum ≤ ks.length + (ks.map (Ty.bulk n)).sum := fun ks => by
      induction ks with
      | nil => simp
      | cons k r ihr =>
        have := ih k
        simp only [List.map_cons, List.sum_cons, List.length_cons]
        omega
    have := this t.kids
    omega

/-- a type that stands in memory of its own -/
structure Ent where
  n : Nat
  lo : Nat
  hi : Nat
  cs : List Value
  t : Ty

def Ent.fits (w : World) (p : Ent) : Prop := TyIn w p.n p.lo p.hi p.cs p.t
def Ent.apart (p q : Ent) : Prop := p.hi ≤ q.lo ∨ q.hi ≤ p.lo
def flatE (l : List Ent) : List Value := l.flatMap (·.cs)
def nodesE (l : List Ent) : List Ty := l.flatMap fun p => Ty.nodes p.n p.t

theorem flatE_len {w : World} {l : List Ent} (h : ∀ p ∈ l, p.fits w) : (flatE l).length = l.length * 4 := by
  induction l with
  | nil => rfl
  | cons p r ih =>
    have h1 := (h p (List.mem_cons_self ..)).len
    have h2 := ih fun q hq => h q (List.mem_cons_of_mem _ hq)
    unfold flatE at h2 ⊢
    rw [List.flatMap_cons, List.length_append, h1, h2, List.length_cons]
    omega
theorem flatE_at {w : World} {l : List Ent} (h : ∀ p ∈ l, p.fits w) (j c : Nat) (hj : j < l.length) (hc : c < 4) : (flatE l)[j * 4 + c]? = l[j].cs[c]? := by
  induction l generalizing j with
  | nil => simp at hj
  | cons p r ih =>
    have h1 := (h p (List.mem_cons_self ..)).len
    unfold flatE at ih ⊢
    rw [List.flatMap_cons]
    cases j with
    | zero =>
      rw [List.getElem?_append_left (by omega)]
      simp
    | succ j =>
      rw [List.getElem?_append_right (by omega), h1, show (j + 1) * 4 + c - 4 = j * 4 + c by omega, ih (fun q hq => h q (List.mem_cons_of_mem _ hq)) j (by simpa using hj)]
      simp
theorem nodesE_len {w : World} {l : List Ent} (h : ∀ p ∈ l, p.fits w) : l.length ≤ (nodesE l).length := by
  induction l with
  | nil => simp
  | cons p r ih =>
    have h1 : 1 ≤ (Ty.nodes p.n p.t).length := by
      have := h p (List.mem_cons_self ..)
      unfold Ent.fits at this
      match hp : p.n with
      | 0 => rw [hp] at this; exact this.elim
      | m + 1 => simp [Ty.nodes]
    have h2 := ih fun q hq => h q (List.mem_cons_of_mem _ hq)
    unfold nodesE at h2 ⊢
    rw [List.flatMap_cons, List.length_append, List.length_cons]
    omega

/-- a queue: V is gone through, P is not; S are the blocks of the rows that were gone through -/
structure Queue (w : World) (ts : List Ty) (V P : List Ent) (S : List Nat) : Prop where
  fits : ∀ p ∈ V ++ P, p.fits w
  apart : P.Pairwise Ent.apart
  seen : ∀ s ∈ S, ∀ p ∈ P, s < p.lo ∨ p.hi ≤ s
  all : ts.Perm (V.map (·.t) ++ nodesE P)

theorem Queue.start {w : World} {n lo hi : Nat} {cs : List Value} {t : Ty} (h : TyIn w n lo hi cs t) : Queue w (Ty.nodes n t) [] [⟨n, lo, hi, cs, t⟩] [] where
  fits := fun p hp => by
    simp only [List.nil_append, List.mem_singleton] at hp
    subst hp
    exact h
  apart := List.pairwise_singleton _ _
  seen := fun s hs => by simp at hs
  all := by simp [nodesE]

theorem Queue.lenV {w : World} {ts : List Ty} {V P : List Ent} {S : List Nat} (h : Queue w ts V P S) : V.length + P.length ≤ ts.length := by
  have h1 := h.all.length_eq
  have h2 := nodesE_len (w := w) (l := P) fun p hp => h.fits p (List.mem_append_right _ hp)
  rw [List.length_append, List.length_map] at h1
  omega

/-- the first of what is left: its row, and the entries of that row -/
theorem Queue.head {w : World} {ts : List Ty} {V R : List Ent} {p : Ent} {S : List Nat} (h : Queue w ts V (p :: R) S) :
    ∃ (vn : Value) (b cap : Nat) (K : List Ent), p.cs = [.int .i64 p.t.kind, .string p.t.name, vn, .slice (some ⟨b, 0, none⟩) K.length cap] ∧ b ∉ S ∧ (∃ cur e, w.heap[b]? = some (.cells cur e (0, 0))) ∧ K.length ≤ maxLen ∧
      (∀ j (hj : j < K.length), K[j].fits w ∧ ∀ c u, K[j].cs[c]? = some u → w.cell? ⟨b, j * 4 + c, none⟩ = some u) ∧ Queue w ts (V ++ [p]) (R ++ K) (b :: S) := by
  have hf := h.fits p (List.mem_append_right _ (List.mem_cons_self ..))
  obtain ⟨n, lo, hi, cs, t⟩ := p
  unfold Ent.fits at hf
  cases n with
  | zero => exact hf.elim
  | succ m =>
    obtain ⟨vn, vk, mid, h1, h2, h3, h4, h5, hmid, b, cap, e, g1, g2, g0, L, g3, g4, g5⟩ := hf
    have g1 : lo ≤ b := Nat.le_trans hmid g1
    have g2 : b < hi := g2
    have g3 : ∀ j, j ≤ t.kids.length → b < L j ∧ L j ≤ hi := g3
    have g4 : ∀ i j, i ≤ j → j ≤ t.kids.length → L i ≤ L j := g4
    have h1 : cs = [.int .i64 t.kind, .string t.name, vn, vk] := h1
    have e : vk = .slice (some ⟨b, 0, none⟩) t.kids.length cap := e
    have each : ∀ j, j < t.kids.length → ∃ q : Ent, q.n = m ∧ q.lo = L j ∧ q.hi = L (j + 1) ∧ t.kids[j]? = some q.t ∧ q.fits w ∧ ∀ c u, q.cs[c]? = some u → w.cell? ⟨b, j * 4 + c, none⟩ = some u := fun j hj => by
      obtain ⟨cs', k1, k2⟩ := g5 j hj
      exact ⟨⟨m, L j, L (j + 1), cs', t.kids[j]⟩, rfl, rfl, rfl, List.getElem?_eq_getElem hj, k1, k2⟩
    haveI : Inhabited Ent := ⟨⟨0, 0, 0, [], .mk 0 ByteArray.empty [] []⟩⟩
    obtain ⟨q, hq⟩ := Go.Deep.choose_lt each
    have hK : ((List.range t.kids.length).map q).length = t.kids.length := by simp
    have hKj : ∀ j (hj : j < ((List.range t.kids.length).map q).length), ((List.range t.kids.length).map q)[j] = q j := fun j hj => by simp
    have memK : ∀ x ∈ (List.range t.kids.length).map q, ∃ j, j < t.kids.length ∧ x = q j := fun x hx => by
      obtain ⟨j, hj, rfl⟩ := List.mem_map.1 hx
      exact ⟨j, by simpa using hj, rfl⟩
    have apR := List.pairwise_cons.1 h.apart
    refine ⟨vn, b, cap, (List.range t.kids.length).map q, ?_, ?_, g0, by rw [hK]; exact h5, fun j hj => ?_, ?_, ?_, ?_, ?_⟩
    · rw [hK]
      show cs = [.int .i64 t.kind, .string t.name, vn, .slice (some ⟨b, 0, none⟩) t.kids.length cap]
      rw [h1, e]
    · intro hb
      have := h.seen b hb _ (List.mem_cons_self ..)
      simp only at this
      omega
    · rw [hKj j hj]
      obtain ⟨_, _, _, _, k5, k6⟩ := hq j (by omega)
      exact ⟨k5, k6⟩
    · intro x hx
      simp only [List.mem_append, List.mem_singleton] at hx
      rcases hx with (hx | hx) | hx | hx
      · exact h.fits x (by simp [hx])
      · exact h.fits x (by simp [hx])
      · exact h.fits x (by simp [hx])
      · obtain ⟨j, hj, rfl⟩ := memK x hx
        exact (hq j hj).2.2.2.2.1
    · rw [List.pairwise_append]
      refine ⟨apR.2, ?_, ?_⟩
      · rw [List.pairwise_map]
        refine List.Pairwise.imp_of_mem ?_ List.pairwise_lt_range
        intro i j hi hj hij
        have hi : i < t.kids.length := by simpa using hi
        have hj : j < t.kids.length := by simpa using hj
        obtain ⟨_, _, a1, _⟩ := hq i hi
        obtain ⟨_, a2, _⟩ := hq j hj
        left
        rw [a1, a2]
        exact g4 (i + 1) j (by omega) (by omega)
      · intro r hr x hx
        obtain ⟨j, hj, rfl⟩ := memK x hx
        obtain ⟨_, a1, a2, _⟩ := hq j hj
        have b1 := g3 j (by omega)
        have b2 := g3 (j + 1) (by omega)
        have := apR.1 r hr
        unfold Ent.apart at this ⊢
        simp only at this
        rw [a1, a2]
        omega
    · intro s hs x hx
      simp only [List.mem_cons] at hs
      simp only [List.mem_append] at hx
      rcases hx with hx | hx
      · rcases hs with rfl | hs
        · have := apR.1 x hx
          unfold Ent.apart at this
          simp only at this
          omega
        · exact h.seen s hs x (List.mem_cons_of_mem _ hx)
      · obtain ⟨j, hj, rfl⟩ := memK x hx
        obtain ⟨_, a1, a2, _⟩ := hq j hj
        have b1 := g3 j (by omega)
        have b2 := g3 (j + 1) (by omega)
        rw [a1, a2]
        rcases hs with rfl | hs
        · omega
        · have := h.seen s hs _ (List.mem_cons_self ..)
          simp only at this
          omega
    · have hk : nodesE ((List.range t.kids.length).map q) = t.kids.flatMap (Ty.nodes m) := by
        unfold nodesE
        have : t.kids = (List.range t.kids.length).map fun j => (q j).t := by
          apply List.ext_getElem?
          intro j
          by_cases hj : j < t.kids.length
          · rw [(hq j hj).2.2.2.1]
            simp [hj]
          · rw [List.getElem?_eq_none (by omega), List.getElem?_eq_none (by simp; omega)]
        conv => rhs; rw [this]
        have cong : ∀ l : List Nat, (∀ j ∈ l, j < t.kids.length) → (l.map q).flatMap (fun p => Ty.nodes p.n p.t) = (l.map fun j => (q j).t).flatMap (Ty.nodes m) := fun l hl => by
          induction l with
          | nil => rfl
          | cons j r ih =>
            rw [List.map_cons, List.map_cons, List.flatMap_cons, List.flatMap_cons, ih (fun k hk => hl k (List.mem_cons_of_mem _ hk)), (hq j (hl j (List.mem_cons_self ..))).1]
        exact cong _ fun j hj => by simpa using hj
      have := h.all
      refine this.trans ?_
      rw [List.map_append, List.map_cons, List.map_nil]
      unfold nodesE at hk ⊢
      rw [List.flatMap_cons, List.flatMap_append, hk]
      simp only [Ty.nodes, List.append_assoc, List.cons_append]
      refine List.Perm.append_left _ (List.Perm.cons _ ?_)
      exact List.perm_append_comm

end Go.Proofs.YtjihkebafoajdaaGreatDoor

namespace Go.Proofs.YtjihkebafoajdaaGreatDoor
open Go.RowKit

/-- the map in block M has such places as its keys -/
def Places (w : World) (M : Nat) (S : Addr → Prop) : Prop := ∃ es clock, w.heap[M]? = some (.map es clock) ∧ ∀ x ∈ es.toList, ∃ a cur e, x.key = .pointer (some a) ∧ S a ∧ w.heap[a.block]? = some (.cells cur e (0, 0))

theorem run_equalIn_place (d : Nat) {P : Program} {w : World} {kt te : TypeId} {j : TypeInfo} {a b : Addr} {ca cb : Array Value} {ta tb : TypeId} (hp : P.underlying kt = some (.pointer te)) (hte : P.info? te = some j) (hsz : j.size ≠ 0) (hne : a ≠ b)
    (ha : w.heap[a.block]? = some (.cells ca ta (0, 0))) (hb : w.heap[b.block]? = some (.cells cb tb (0, 0))) : (Op.equalIn (d + 1) kt (.pointer (some a)) (.pointer (some b))).run P w = .ok false w := by
  simp [Op.equalIn, run_underlying hp, typeInfo, sizeOf, hte, hsz]
  exact run_sameAddr_other _ hne ha hb

theorem run_equal_place {P : Program} {w : World} {kt te : TypeId} {j : TypeInfo} {a b : Addr} {ca cb : Array Value} {ta tb : TypeId} (hp : P.underlying kt = some (.pointer te)) (hte : P.info? te = some j) (hsz : j.size ≠ 0) (hne : a ≠ b)
    (ha : w.heap[a.block]? = some (.cells ca ta (0, 0))) (hb : w.heap[b.block]? = some (.cells cb tb (0, 0))) : (Op.equal kt (.pointer (some a)) (.pointer (some b))).run P w = .ok false w :=
  run_equalIn_place 9999 hp hte hsz hne ha hb

theorem run_findAsking_place {P : Program} {w : World} {kt te : TypeId} {j : TypeInfo} {a : Addr} {ca : Array Value} {ta : TypeId} (hp : P.underlying kt = some (.pointer te)) (hte : P.info? te = some j) (hsz : j.size ≠ 0) (ha : w.heap[a.block]? = some (.cells ca ta (0, 0))) :
    ∀ (es : List MapEntry) (i : Nat), (∀ x ∈ es, ∃ b cur e, x.key = .pointer (some b) ∧ b ≠ a ∧ w.heap[b.block]? = some (.cells cur e (0, 0))) → (Instr.findAsking kt (.pointer (some a)) es i).run P w = .ok none w := by
  intro es
  induction es with
  | nil => intro i _; rfl
  | cons x r ih =>
    intro i h
    obtain ⟨b, cur, e, hk, hne, hb⟩ := h x (List.mem_cons_self ..)
    have h1 := run_equal_place (P := P) hp hte hsz (fun e => hne e.symm) ha hb
    have h2 := ih (i + 1) fun y hy => h y (List.mem_cons_of_mem _ hy)
    simp only [Instr.findAsking, hk]
    simp [h1, h2, Result.andThen]

theorem run_findKey_place {P : Program} {w : World} {kt te : TypeId} {j : TypeInfo} {a : Addr} {ca : Array Value} {ta : TypeId} (hp : P.underlying kt = some (.pointer te)) (hte : P.info? te = some j) (hsz : j.size ≠ 0) (ha : w.heap[a.block]? = some (.cells ca ta (0, 0)))
    (es : List MapEntry) (h : ∀ x ∈ es, ∃ b cur e, x.key = .pointer (some b) ∧ b ≠ a ∧ w.heap[b.block]? = some (.cells cur e (0, 0))) : (Instr.findKey kt (.pointer (some a)) es).run P w = .ok none w := by
  cases es with
  | nil => simp [Instr.findKey, run_underlying hp, Instr.findNow]
  | cons x r =>
    have h2 := run_findAsking_place (P := P) hp hte hsz ha (x :: r) 0 h
    obtain ⟨b, cur, e, hk, hne, hb⟩ := h x (List.mem_cons_self ..)
    simp [Instr.findKey, run_underlying hp, Instr.findNow, hk, Instr.sameNow, h2, Result.andThen]

theorem run_checkKeyN_place (n : Nat) {P : Program} {w : World} {kt te : TypeId} {a : Addr} (hp : P.underlying kt = some (.pointer te)) (e : Bool) : (Instr.checkKey e (n + 1) kt (.pointer (some a))).run P w = .ok () w := by
  simp [Instr.checkKey, run_underlying hp]
theorem run_checkKey_place {P : Program} {w : World} {kt te : TypeId} {a : Addr} (hp : P.underlying kt = some (.pointer te)) (e : Bool) : (Instr.checkKey e 10000 kt (.pointer (some a))).run P w = .ok () w := run_checkKeyN_place 9999 hp e

theorem wpList_lookup_place {P : Program} (w : World) {ops : Array Oper} {rest : List Oper} {o : Oper} {a : Act} {Q : Exit → Act → World → Prop}
    (hg : o.guard = none) (m x : Operand) (t : TypeId) (hop : o.op = Op.lookup t m x false)
    (k e te : TypeId) (ht : P.underlying t = some (.map k e)) (hp : P.underlying k = some (.pointer te)) (j : TypeInfo) (hte : P.info? te = some j) (hsz : j.size ≠ 0) (hz : (zeroValue e).run P w = .ok (.int .i64 0) w)
    (M : Nat) (S : Addr → Prop) (hS : Places w M S) (p : Addr) (hpS : ¬ S p) (hpc : ∃ cur e, w.heap[p.block]? = some (.cells cur e (0, 0))) (hm : a.eval m = .map (some M)) (hx : a.eval x = .pointer (some p))
    (hK : wpList P ops Q rest (a.put o.dst (.int .i64 0)) w) :
    wpList P ops Q (o :: rest) a w := by
  refine wpList_plain hg fun K' hK' => ?_
  obtain ⟨es, clock, hb, hes⟩ := hS
  obtain ⟨cur, et, hc⟩ := hpc
  have h1 := run_findKey_place (P := P) hp hte hsz hc es.toList fun y hy => by
    obtain ⟨b, c, e, q1, q2, q3⟩ := hes y hy
    exact ⟨b, c, e, q1, fun e => hpS (e ▸ q2), q3⟩
  have h2 : (Instr.lookup t (.map (some M)) (.pointer (some p)) false).run P w = .ok (.int .i64 0) w := by
    simp [Instr.lookup, run_underlying ht, MapKept.run_getObj_map hb, run_checkKey_place hp, h1, hz, Result.andThen]
  unfold Oper.wp
  simp [execOp, hop, hm, hx, h2, Result.andThen]
  exact hK' _ _ hK

/-- but for block M all is as it was -/
def But (M : Nat) (w w' : World) : Prop := w'.os = w.os ∧ w'.tape = w.tape ∧ w'.output = w.output ∧ w'.heap.size = w.heap.size ∧ ∀ b, b ≠ M → w'.heap[b]? = w.heap[b]?

theorem But.below {M B : Nat} {w w' : World} (h : But M w w') (hB : B ≤ M) : Below B w w' := ⟨h.1, h.2.1, h.2.2.1, by rw [h.2.2.2.1]; exact Nat.le_refl _, fun k hk => h.2.2.2.2 k (by omega)⟩
theorem But.owns {M B e z n : Nat} {w w' : World} {v : Value} {xs : List Value} (h : But M w w') {es : Array MapEntry} {clock : Nat} (hM : w.heap[M]? = some (.map es clock)) (ho : w.ownsRow B e z v n xs) : w'.ownsRow B e z v n xs := by
  refine ⟨ho.1, ?_⟩
  rcases ho.2 with g | ⟨g, cap, cur, hv, hg, hh, r⟩
  · exact .inl g
  · refine .inr ⟨g, cap, cur, hv, hg, ?_, r⟩
    rw [h.2.2.2.2 g (fun e => by subst e; rw [hM] at hh; simp at hh)]
    exact hh

theorem wpList_mapUpdate_place {P : Program} (w : World) {ops : Array Oper} {rest : List Oper} {o : Oper} {a : Act} {Q : Exit → Act → World → Prop}
    (hg : o.guard = none) (m x v : Operand) (t : TypeId) (hop : o.op = Op.mapUpdate t m x v)
    (k e te : TypeId) (ht : P.underlying t = some (.map k e)) (hp : P.underlying k = some (.pointer te)) (j : TypeInfo) (hte : P.info? te = some j) (hsz : j.size ≠ 0)
    (M : Nat) (S : Addr → Prop) (hS : Places w M S) (p : Addr) (hpS : ¬ S p) (hpc : ∃ cur e, w.heap[p.block]? = some (.cells cur e (0, 0))) (hm : a.eval m = .map (some M)) (hx : a.eval x = .pointer (some p))
    (hK : ∀ w', Places w' M (fun q => S q ∨ q = p) → But M w w' → wpList P ops Q rest (a.put o.dst undef) w') :
    wpList P ops Q (o :: rest) a w := by
  refine wpList_plain hg fun K' hK' => ?_
  obtain ⟨es, clock, hb, hes⟩ := hS
  obtain ⟨cur, et, hc⟩ := hpc
  have h1 := run_findKey_place (P := P) hp hte hsz hc es.toList fun y hy => by
    obtain ⟨b, c, e, q1, q2, q3⟩ := hes y hy
    exact ⟨b, c, e, q1, fun e => hpS (e ▸ q2), q3⟩
  have h2 : (Instr.mapUpdate t (.map (some M)) (.pointer (some p)) (a.eval v)).run P w = .ok () { w with heap := w.heap.setIfInBounds M (.map (es.push { key := .pointer (some p), val := a.eval v, born := clock }) (clock + 1)) } := by
    simp [Instr.mapUpdate, run_underlying ht, MapKept.run_getObj_map hb, run_checkKey_place hp, h1, MapKept.run_setObj_map _ hb, Result.andThen]
  obtain ⟨n1, n2⟩ := MapKept.heap_set (o' := .map (es.push { key := .pointer (some p), val := a.eval v, born := clock }) (clock + 1)) hb
  unfold Oper.wp
  simp [execOp, hop, hm, hx, h2, Result.andThen]
  refine hK' _ _ (hK _ ⟨_, _, n1, fun y hy => ?_⟩ ⟨rfl, rfl, rfl, by simp, fun b hb => n2 b hb⟩)
  have far : ∀ (b : Nat) (c : Array Value) (e : TypeId), w.heap[b]? = some (Obj.cells c e (0, 0)) → (w.heap.setIfInBounds M (.map (es.push { key := .pointer (some p), val := a.eval v, born := clock }) (clock + 1)))[b]? = some (Obj.cells c e (0, 0)) := fun b c e h => by
    rw [n2 b (fun e => by subst e; rw [hb] at h; simp at h)]
    exact h
  simp only [Array.toList_push, List.mem_append, List.mem_singleton] at hy
  rcases hy with hy | rfl
  · obtain ⟨b, c, e, q1, q2, q3⟩ := hes y hy
    exact ⟨b, c, e, q1, .inl q2, far _ _ _ q3⟩
  · exact ⟨p, cur, et, rfl, .inr rfl, far _ _ _ hc⟩

theorem Places.made {w : World} {M : Nat} (h : w.heap[M]? = some (.map #[] 0)) (S : Addr → Prop) : Places w M S := ⟨#[], 0, h, fun x hx => by simp at hx⟩
theorem Places.mono {w : World} {M : Nat} {S S' : Addr → Prop} (h : Places w M S) (hS : ∀ a, S a → S' a) : Places w M S' := by
  obtain ⟨es, clock, hb, hes⟩ := h
  exact ⟨es, clock, hb, fun x hx => by obtain ⟨a, c, e, q1, q2, q3⟩ := hes x hx; exact ⟨a, c, e, q1, hS a q2, q3⟩⟩
/-- as long as the map, and the rows of its places, are as they were -/
theorem Places.kept {w w' : World} {M B : Nat} {S : Addr → Prop} (h : Places w M S) (hM : w'.heap[M]? = w.heap[M]?) (hS : ∀ a, S a → a.block < B) (hb : ∀ b, b < B → w'.heap[b]? = w.heap[b]?) : Places w' M S := by
  obtain ⟨es, clock, h1, hes⟩ := h
  exact ⟨es, clock, hM.trans h1, fun x hx => by obtain ⟨a, c, e, q1, q2, q3⟩ := hes x hx; exact ⟨a, c, e, q1, q2, (hb _ (hS a q2)).trans q3⟩⟩
theorem Places.map {w : World} {M : Nat} {S : Addr → Prop} (h : Places w M S) : ∃ es clock, w.heap[M]? = some (.map es clock) := by
  obtain ⟨es, clock, h1, _⟩ := h
  exact ⟨es, clock, h1⟩

end Go.Proofs.YtjihkebafoajdaaGreatDoor

namespace Go.Proofs.YtjihkebafoajdaaGreatDoor
open Go.RowKit

/-- such a key -/
def kpKey (a : Addr) (m : Int) : Value := .agg #[.pointer (some a), .int .i64 m]

theorem Tryz.fieldsKp : Tryz.prog.fieldsOf 115 = #[{ name := "first", type := 113, offset := 0, embedded := false, tag := "", pkgPath := "loop.example/g00276/impl", byteOffset := 0 }, { name := "count", type := 3, offset := 1, embedded := false, tag := "", pkgPath := "loop.example/g00276/impl", byteOffset := 8 }] := by kernel_rfl
theorem Tryz.stoodKp : Tryz.prog.stoodInHeld 115 = false := by kernel_rfl
theorem Tryz.underKp : Tryz.prog.underlying 115 = some (.struct (Tryz.prog.fieldsOf 115)) := by kernel_rfl

theorem run_part0 {w : World} {xs : Array Value} {v : Value} (h : xs[0]? = some v) : (part 113 xs 0).run Tryz.prog w = .ok v w := by
  have hi : (isAgg 113).run Tryz.prog w = .ok false w := by kernel_rfl
  simp [part, hi, h]
theorem run_part1 {w : World} {xs : Array Value} {v : Value} (h : xs[1]? = some v) : (part 3 xs 1).run Tryz.prog w = .ok v w := by
  have hi : (isAgg 3).run Tryz.prog w = .ok false w := by kernel_rfl
  simp [part, hi, h]

theorem run_equal_kp {w : World} {a b : Addr} {m k : Int} {ca cb : Array Value} {ta tb : TypeId} (hne : a ≠ b)
    (ha : w.heap[a.block]? = some (.cells ca ta (0, 0))) (hb : w.heap[b.block]? = some (.cells cb tb (0, 0))) : (Op.equal 115 (kpKey a m) (kpKey b k)).run Tryz.prog w = .ok false w := by
  obtain ⟨j, hj, _, hz1, _⟩ := info_parts Tryz.infoType
  have hp : Tryz.prog.underlying 113 = some (.pointer 27) := Tryz.underlying113
  have h1 := run_equalIn_place 9998 (P := Tryz.prog) (w := w) hp hj (by rw [hz1]; decide) hne ha hb
  have h2 := run_equalIn_struct (P := Tryz.prog) w 9999 115 #[.pointer (some a), .int .i64 m] #[.pointer (some b), .int .i64 k] Tryz.underKp Tryz.stoodKp
  have h3 : (Op.eqFields 9999 #[.pointer (some a), .int .i64 m] #[.pointer (some b), .int .i64 k] (Tryz.prog.fieldsOf 115).toList).run Tryz.prog w = .ok false w := by
    rw [Tryz.fieldsKp]
    have p1 := run_part0 (w := w) (xs := #[.pointer (some a), .int .i64 m]) (v := .pointer (some a)) rfl
    have p2 := run_part0 (w := w) (xs := #[.pointer (some b), .int .i64 k]) (v := .pointer (some b)) rfl
    simp only [Op.eqFields]
    rw [if_pos (by decide)]
    simp only [Sem.run_bind, p1, p2, h1, Result.andThen_ok]
    rfl
  exact h2.trans h3

theorem run_findKey_kp {w : World} {a : Addr} {m : Int} {ca : Array Value} {ta : TypeId} (ha : w.heap[a.block]? = some (.cells ca ta (0, 0)))
    (es : List MapEntry) (h : ∀ x ∈ es, ∃ b k cur e, x.key = kpKey b k ∧ b ≠ a ∧ w.heap[b.block]? = some (.cells cur e (0, 0))) : (Instr.findKey 115 (kpKey a m) es).run Tryz.prog w = .ok none w := by
  have ask : ∀ (es : List MapEntry) (i : Nat), (∀ x ∈ es, ∃ b k cur e, x.key = kpKey b k ∧ b ≠ a ∧ w.heap[b.block]? = some (.cells cur e (0, 0))) → (Instr.findAsking 115 (kpKey a m) es i).run Tryz.prog w = .ok none w := by
    intro es
    induction es with
    | nil => intro i _; rfl
    | cons x r ih =>
      intro i h
      obtain ⟨b, k, cur, e, hk, hne, hb⟩ := h x (List.mem_cons_self ..)
      have h1 := run_equal_kp (m := m) (k := k) (fun e => hne e.symm) ha hb
      have h2 := ih (i + 1) fun y hy => h y (List.mem_cons_of_mem _ hy)
      simp only [Instr.findAsking, hk]
      simp [h1, h2, Result.andThen]
  cases es with
  | nil => simp [Instr.findKey, run_underlying Tryz.underlying115, Instr.findNow]
  | cons x r =>
    have h2 := ask (x :: r) 0 h
    obtain ⟨b, k, cur, e, hk, hne, hb⟩ := h x (List.mem_cons_self ..)
    simp [Instr.findKey, run_underlying Tryz.underlying115, Instr.findNow, hk, kpKey, Instr.sameNow]
    exact h2

theorem run_checkKeyN_int (n : Nat) {w : World} {m : Int} (e : Bool) : (Instr.checkKey e (n + 1) 3 (.int .i64 m)).run Tryz.prog w = .ok () w := by simp [Instr.checkKey, run_underlying Tryz.underlying3]
theorem run_checkKey_kp {w : World} {a : Addr} {m : Int} (e : Bool) : (Instr.checkKey e 10000 115 (kpKey a m)).run Tryz.prog w = .ok () w := by
  have p1 := run_part0 (w := w) (xs := #[.pointer (some a), .int .i64 m]) (v := .pointer (some a)) rfl
  have p2 := run_part1 (w := w) (xs := #[.pointer (some a), .int .i64 m]) (v := .int .i64 m) rfl
  have h1 : (Instr.checkKey e 9999 113 (.pointer (some a))).run Tryz.prog w = .ok () w := run_checkKeyN_place 9998 Tryz.underlying113 e
  have h2 : (Instr.checkKey e 9999 3 (.int .i64 m)).run Tryz.prog w = .ok () w := run_checkKeyN_int 9998 e
  show (Instr.checkKey e (9999 + 1) 115 (kpKey a m)).run Tryz.prog w = .ok () w
  rw [Instr.checkKey.eq_2]
  simp only [Sem.run_bind, run_underlying Tryz.underKp, Result.andThen_ok, kpKey]
  rw [Tryz.fieldsKp]
  simp [p1, p2, h1, h2, Result.andThen]

/-- the map in block M has such places as its keys -/
def KpPlaces (w : World) (M : Nat) (S : Addr → Prop) : Prop := ∃ es clock, w.heap[M]? = some (.map es clock) ∧ ∀ x ∈ es.toList, ∃ a k cur e, x.key = kpKey a k ∧ S a ∧ w.heap[a.block]? = some (.cells cur e (0, 0))

theorem run_lookup_kp {w : World} {M : Nat} {S : Addr → Prop} (hS : KpPlaces w M S) {p : Addr} {m : Int} (hpS : ¬ S p) (hpc : ∃ cur e, w.heap[p.block]? = some (.cells cur e (0, 0))) :
    (Instr.lookup 95 (.map (some M)) (kpKey p m) true).run Tryz.prog w = .ok (.tuple #[.slice none 0 0, .bool false]) w := by
  obtain ⟨es, clock, hb, hes⟩ := hS
  obtain ⟨cur, et, hc⟩ := hpc
  have h1 := run_findKey_kp (m := m) hc es.toList fun y hy => by
    obtain ⟨b, k, c, e, q1, q2, q3⟩ := hes y hy
    exact ⟨b, k, c, e, q1, fun e => hpS (e ▸ q2), q3⟩
  have hz : (zeroValue 25).run Tryz.prog w = .ok (.slice none 0 0) w := by kernel_rfl
  simp [Instr.lookup, run_underlying Tryz.underlying95, MapKept.run_getObj_map hb, run_checkKey_kp, h1, hz, Result.andThen]

theorem run_update_kp {w : World} {M : Nat} {S : Addr → Prop} (hS : KpPlaces w M S) {p : Addr} {m : Int} (hpS : ¬ S p) (hpc : ∃ cur e, w.heap[p.block]? = some (.cells cur e (0, 0))) (v : Value) :
    ∃ w', (Instr.mapUpdate 95 (.map (some M)) (kpKey p m) v).run Tryz.prog w = .ok () w' ∧ KpPlaces w' M (fun q => S q ∨ q = p) ∧ But M w w' := by
  obtain ⟨es, clock, hb, hes⟩ := hS
  obtain ⟨cur, et, hc⟩ := hpc
  have h1 := run_findKey_kp (m := m) hc es.toList fun y hy => by
    obtain ⟨b, k, c, e, q1, q2, q3⟩ := hes y hy
    exact ⟨b, k, c, e, q1, fun e => hpS (e ▸ q2), q3⟩
  have h2 : (Instr.mapUpdate 95 (.map (some M)) (kpKey p m) v).run Tryz.prog w = .ok () { w with heap := w.heap.setIfInBounds M (.map (es.push { key := kpKey p m, val := v, born := clock }) (clock + 1)) } := by
    simp [Instr.mapUpdate, run_underlying Tryz.underlying95, MapKept.run_getObj_map hb, run_checkKey_kp, h1, MapKept.run_setObj_map _ hb, Result.andThen]
  obtain ⟨n1, n2⟩ := MapKept.heap_set (o' := .map (es.push { key := kpKey p m, val := v, born := clock }) (clock + 1)) hb
  refine ⟨_, h2, ⟨_, _, n1, fun y hy => ?_⟩, ⟨rfl, rfl, rfl, by simp, fun b hb => n2 b hb⟩⟩
  have far : ∀ (b : Nat) (c : Array Value) (e : TypeId), w.heap[b]? = some (Obj.cells c e (0, 0)) → (w.heap.setIfInBounds M (.map (es.push { key := kpKey p m, val := v, born := clock }) (clock + 1)))[b]? = some (Obj.cells c e (0, 0)) := fun b c e h => by
    rw [n2 b (fun e => by subst e; rw [hb] at h; simp at h)]
    exact h
  simp only [Array.toList_push, List.mem_append, List.mem_singleton] at hy
  rcases hy with hy | rfl
  · obtain ⟨b, k, c, e, q1, q2, q3⟩ := hes y hy
    exact ⟨b, k, c, e, q1, .inl q2, far _ _ _ q3⟩
  · exact ⟨p, m, cur, et, rfl, .inr rfl, far _ _ _ hc⟩

theorem KpPlaces.made {w : World} {M : Nat} (h : w.heap[M]? = some (.map #[] 0)) (S : Addr → Prop) : KpPlaces w M S := ⟨#[], 0, h, fun x hx => by simp at hx⟩
theorem KpPlaces.mono {w : World} {M : Nat} {S S' : Addr → Prop} (h : KpPlaces w M S) (hS : ∀ a, S a → S' a) : KpPlaces w M S' := by
  obtain ⟨es, clock, hb, hes⟩ := h
  exact ⟨es, clock, hb, fun x hx => by obtain ⟨a, k, c, e, q1, q2, q3⟩ := hes x hx; exact ⟨a, k, c, e, q1, hS a q2, q3⟩⟩
/-- as long as the map, and the rows of its places, are as they were -/
theorem KpPlaces.kept {w w' : World} {M B : Nat} {S : Addr → Prop} (h : KpPlaces w M S) (hM : w'.heap[M]? = w.heap[M]?) (hS : ∀ a, S a → a.block < B) (hb : ∀ b, b < B → w'.heap[b]? = w.heap[b]?) : KpPlaces w' M S := by
  obtain ⟨es, clock, h1, hes⟩ := h
  exact ⟨es, clock, hM.trans h1, fun x hx => by obtain ⟨a, k, c, e, q1, q2, q3⟩ := hes x hx; exact ⟨a, k, c, e, q1, q2, (hb _ (hS a q2)).trans q3⟩⟩

end Go.Proofs.YtjihkebafoajdaaGreatDoor

namespace Go.Proofs.YtjihkebafoajdaaGreatDoor
open Go.RowKit

  /-- a list that was found: where it lies in the source, where its copy lies, its types, their depth, and between which blocks of the source each of them lies -/
  structure Src where
    b : Nat
    tb : Nat
    cap : Nat
    n : Nat
    ts : List Ty
    L : Nat → Nat

def Src.val (r : Src) : Value := .slice (some ⟨r.tb, 0, none⟩) r.ts.length r.cap

/-- what belongs to which block of the copy -/
abbrev Ids := List ((Nat × Option Nat) × Nat)

theorem ids_inj {ids : Ids} (h : (ids.map (·.2)).Nodup) {a c : Nat × Option Nat} {x : Nat} (ha : (a, x) ∈ ids) (hc : (c, x) ∈ ids) : a = c := by
  induction ids with
  | nil => simp at ha
  | cons e r ih =>
    rw [List.map_cons, List.nodup_cons] at h
    rcases List.mem_cons.1 ha with ha | ha
    · rcases List.mem_cons.1 hc with hc | hc
      · rw [← hc] at ha; exact congrArg Prod.fst ha
      · rw [← ha] at h
        exact absurd (List.mem_map.2 ⟨(c, x), hc, rfl⟩) h.1
    · rcases List.mem_cons.1 hc with hc | hc
      · rw [← hc] at h
        exact absurd (List.mem_map.2 ⟨(a, x), ha, rfl⟩) h.1
      · exact ih h.2 ha hc

/-- a type of a list is done: its names are copied, and its kids are a list that was found -/
structure DoneE (w : World) (rs : List Src) (ids : Ids) (r : Src) (i : Nat) (t : Ty) (vn vk : Value) : Prop where
  names : OwnS w 9 1 vn t.names.length (strV t.names)
  nid : ∀ x ∈ blk vn, ((r.b, some i), x) ∈ ids
  kids : (t.kids = [] ∧ ∃ a c, vk = .slice a 0 c) ∨ ∃ r' ∈ rs, r'.ts = t.kids ∧ 0 < r'.ts.length ∧ r'.n + 1 = r.n ∧ vk = r'.val ∧ r.L i ≤ r'.b ∧ r'.b < r'.L 0 ∧ r'.L r'.ts.length ≤ r.L (i + 1)

/-- the four cells of a type in a row -/
def FourAt (X : List Value) (i : Nat) (x0 x1 x2 x3 : Value) : Prop := X[i * 4]? = some x0 ∧ X[i * 4 + 1]? = some x1 ∧ X[i * 4 + 2]? = some x2 ∧ X[i * 4 + 3]? = some x3

/-- a list is done -/
def DoneR (w : World) (rs : List Src) (ids : Ids) (r : Src) : Prop := ∃ X, w.ownsRow 0 27 4 r.val r.ts.length X ∧ ∀ i (h : i < r.ts.length), ∃ vn vk, FourAt X i (.int .i64 r.ts[i].kind) (.string r.ts[i].name) vn vk ∧ DoneE w rs ids r i r.ts[i] vn vk

/-- what holds of a list that was found -/
structure SrcM (ids : Ids) (r : Src) : Prop where
  pos : 0 < r.n
  id : ((r.b, none), r.tb) ∈ ids
  mono : ∀ i j, i ≤ j → j ≤ r.ts.length → r.L i ≤ r.L j
  apart : r.b < r.L 0 ∨ r.L r.ts.length ≤ r.b

theorem blk_nodup (v : Value) : (blk v).Nodup := by
  unfold blk
  split
  · simp
  · simp

theorem flat_of_four {X : List Value} {ts : List Ty} {ls : List Lay} (hX : X.length = ts.length * 4) (hl : ls.length = ts.length) (h : ∀ i (h1 : i < ts.length) (h2 : i < ls.length), FourAt X i (.int .i64 ts[i].kind) (.string ts[i].name) ls[i].vn ls[i].vk) : X = flatK ts ls := by
  apply List.ext_getElem?
  intro q
  by_cases hq : q < ts.length * 4
  · obtain ⟨i, c, hc, rfl⟩ : ∃ i c, c < 4 ∧ q = i * 4 + c := ⟨q / 4, q % 4, Nat.mod_lt _ (by decide), by omega⟩
    have hi : i < ts.length := by omega
    rw [flatK_get ts ls i c hi (by omega) hc]
    obtain ⟨h0, h1, h2, h3⟩ := h i hi (by omega)
    match c, hc with
    | 0, _ => rw [Nat.add_zero, h0]; rfl
    | 1, _ => rw [h1]; rfl
    | 2, _ => rw [h2]; rfl
    | 3, _ => rw [h3]; rfl
  · rw [List.getElem?_eq_none (by omega), List.getElem?_eq_none (by rw [flatK_len _ _ hl]; omega)]

/-- when all lists are done, each holds its types, in memory of its own -/
theorem done_lay {w : World} {rs : List Src} {ids : Ids} (hd : ∀ r ∈ rs, DoneR w rs ids r) (hm : ∀ r ∈ rs, SrcM ids r) (nd : (ids.map (·.2)).Nodup) (n : Nat) :
    ∀ r ∈ rs, r.n = n → ∃ ls, RowL w n r.val ls r.ts ∧ ∀ i (h : i < ls.length), (Lay.blocks n ls[i]).Nodup ∧ ∀ x ∈ Lay.blocks n ls[i], ((r.b, some i), x) ∈ ids ∨ ∃ b' o, r.L i ≤ b' ∧ b' < r.L (i + 1) ∧ ((b', o), x) ∈ ids := by
  induction n with
  | zero => intro r hr e; have := (hm r hr).pos; omega
  | succ n ih =>
    intro r hr e
    obtain ⟨X, hX, hE⟩ := hd r hr
    have hM := hm r hr
    have each : ∀ i, i < r.ts.length → ∃ l : Lay, ∃ h : i < r.ts.length, FourAt X i (.int .i64 r.ts[i].kind) (.string r.ts[i].name) l.vn l.vk ∧ LayAt w (n + 1) l r.ts[i] ∧ (Lay.blocks (n + 1) l).Nodup ∧ ∀ x ∈ Lay.blocks (n + 1) l, ((r.b, some i), x) ∈ ids ∨ ∃ b' o, r.L i ≤ b' ∧ b' < r.L (i + 1) ∧ ((b', o), x) ∈ ids := fun i h => by
      obtain ⟨vn, vk, h4, hD⟩ := hE i h
      rcases hD.kids with ⟨hk, a, c, rfl⟩ | ⟨r', hr', ht, hp, hn, rfl, hb1, hb2, hb3⟩
      · refine ⟨.mk vn (.slice a 0 c) [], h, h4, ⟨hD.names, by rw [hk]; rfl, by rw [hk]; exact .inl ⟨rfl, rfl, a, c, rfl⟩, fun j h1 => absurd h1 (by simp)⟩, ?_, ?_⟩
        · show (blk vn ++ (blk (.slice a 0 c) ++ [])).Nodup
          have : blk (.slice a 0 c) = [] := by cases a <;> rfl
          rw [this]; simpa using blk_nodup vn
        · intro x hx
          have hx' : x ∈ blk vn ++ (blk (.slice a 0 c) ++ []) := hx
          have : blk (.slice a 0 c) = [] := by cases a <;> rfl
          rw [this] at hx'
          exact .inl (hD.nid x (by simpa using hx'))
      · obtain ⟨ls, hR, hB⟩ := ih r' hr' (by omega)
        have hM' := hm r' hr'
        have hlen : ls.length = r'.ts.length := hR.1
        have hbk : ∀ x, x ∈ blk r'.val ↔ x = r'.tb := fun x => mem_blk hp
        have hL0 := hM'.mono 0 r'.ts.length (by omega) (by omega)
        -- what each block of a kid belongs to
        have hO : ∀ j (hj : j < ls.length), ∀ x ∈ Lay.blocks n ls[j], ∃ d, (d, x) ∈ ids ∧ (d = (r'.b, some j) ∨ r'.L j ≤ d.1 ∧ d.1 < r'.L (j + 1)) := fun j hj x hx => by
          rcases (hB j hj).2 x hx with q | ⟨b', o, q1, q2, q3⟩
          · exact ⟨_, q, .inl rfl⟩
          · exact ⟨_, q3, .inr ⟨q1, q2⟩⟩
        have hrow : (rowBlocks n r'.val ls).Nodup := by
          refine List.nodup_append.2 ⟨blk_nodup _, ?_, ?_⟩
          · refine List.pairwise_flatMap.2 ⟨fun l hl => ?_, List.pairwise_iff_getElem.2 fun i j hi hj hij x hx y hy hxy => ?_⟩
            · obtain ⟨j, hj, rfl⟩ := List.getElem_of_mem hl
              exact (hB j hj).1
            · subst hxy
              obtain ⟨d, q1, q2⟩ := hO i hi x hx
              obtain ⟨d', q3, q4⟩ := hO j hj x hy
              have := ids_inj nd q1 q3
              subst this
              have hmi := hM'.mono 0 i (by omega) (by omega)
              have hmj := hM'.mono (i + 1) j (by omega) (by omega)
              have hm0 := hM'.mono 0 j (by omega) (by omega)
              rcases q2 with q2 | q2
              · rcases q4 with q4 | q4
                · rw [q2] at q4
                  simp only [Prod.mk.injEq, Option.some.injEq, true_and] at q4
                  omega
                · rw [q2] at q4; simp only at q4; omega
              · rcases q4 with q4 | q4
                · rw [q4] at q2; simp only at q2; omega
                · omega
          · intro x hx y hy hxy
            subst hxy
            rw [hbk] at hx
            subst hx
            obtain ⟨l, hl, hy⟩ := List.mem_flatMap.1 hy
            obtain ⟨j, hj, rfl⟩ := List.getElem_of_mem hl
            obtain ⟨d, q1, q2⟩ := hO j hj _ hy
            have := ids_inj nd hM'.id q1
            subst this
            rcases q2 with q2 | q2
            · simp at q2
            · have := hM'.mono 0 j (by omega) (by omega)
              simp only at q2
              omega
        have hin : ∀ x ∈ rowBlocks n r'.val ls, ∃ b' o, r.L i ≤ b' ∧ b' < r.L (i + 1) ∧ ((b', o), x) ∈ ids := fun x hx => by
          rcases List.mem_append.1 hx with hx | hx
          · rw [hbk] at hx
            subst hx
            exact ⟨_, _, hb1, by omega, hM'.id⟩
          · obtain ⟨l, hl, hx⟩ := List.mem_flatMap.1 hx
            obtain ⟨j, hj, rfl⟩ := List.getElem_of_mem hl
            have m1 := hM'.mono 0 j (by omega) (by omega)
            have m2 := hM'.mono (j + 1) r'.ts.length (by omega) (by omega)
            rcases (hB j hj).2 x hx with q | ⟨b', o, q1, q2, q3⟩
            · exact ⟨_, _, hb1, by omega, q⟩
            · exact ⟨_, _, by omega, by omega, q3⟩
        refine ⟨.mk vn r'.val ls, h, h4, ⟨hD.names, by rw [← ht]; exact hlen, by rw [← ht]; exact hR.2.1, fun j h1 h2 => ?_⟩, ?_, fun x hx => ?_⟩
        · have := hR.2.2 j h1 (by rw [ht]; exact h2)
          simp only [ht] at this
          exact this
        · refine List.nodup_append.2 ⟨blk_nodup _, hrow, fun x hx y hy hxy => ?_⟩
          subst hxy
          obtain ⟨b', o, q1, q2, q3⟩ := hin x hy
          have := ids_inj nd (hD.nid x hx) q3
          simp only [Prod.mk.injEq] at this
          obtain ⟨rfl, _⟩ := this
          have m1 := hM.mono 0 i (by omega) (by omega)
          have m2 := hM.mono (i + 1) r.ts.length (by omega) (by omega)
          rcases hM.apart with q | q <;> omega
        · rcases List.mem_append.1 hx with hx | hx
          · exact .inl (hD.nid x hx)
          · exact .inr (hin x hx)
    haveI : Inhabited Lay := ⟨.mk undef undef []⟩
    obtain ⟨f, hf⟩ := Go.Deep.choose_lt each
    have hlen : ((List.range r.ts.length).map f).length = r.ts.length := by simp
    have hget : ∀ i (h : i < ((List.range r.ts.length).map f).length), ((List.range r.ts.length).map f)[i] = f i := fun i h => by simp
    refine ⟨(List.range r.ts.length).map f, ⟨hlen, ?_, fun j h1 h2 => ?_⟩, fun i h => ?_⟩
    · have : X = flatK r.ts ((List.range r.ts.length).map f) := flat_of_four hX.1 hlen fun i h1 h2 => by
        rw [hget]; exact (hf i h1).2.1
      rw [← this]
      exact OwnS.of hX
    · rw [hget]; exact (hf j h2).2.2.1
    · rw [hget]
      have hi : i < r.ts.length := by rw [hlen] at h; exact h
      exact (hf i hi).2.2.2

end Go.Proofs.YtjihkebafoajdaaGreatDoor
