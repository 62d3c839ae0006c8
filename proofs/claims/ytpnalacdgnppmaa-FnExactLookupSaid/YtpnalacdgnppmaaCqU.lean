/-
  One type of a list of the copy is done: what holds after it. No walk here.
-/
import Derived.Test.YtpnalacdgnppmaaCqS
namespace Go.Proofs.Ytpnalacdgnppmaa
open Go.RowKit

theorem Four4.other {X : List Value} {i j : Nat} {x0 x1 x2 x3 y : Value} {c : Nat} (h : Four4 X j x0 x1 x2 x3) (hij : j ≠ i) (hc : c < 4) : Four4 (X.set (i * 4 + c) y) j x0 x1 x2 x3 := by
  obtain ⟨h0, h1, h2, h3⟩ := h
  refine ⟨?_, ?_, ?_, ?_⟩
  · rw [List.getElem?_set_ne (by omega)]; exact h0
  · rw [List.getElem?_set_ne (by omega)]; exact h1
  · rw [List.getElem?_set_ne (by omega)]; exact h2
  · rw [List.getElem?_set_ne (by omega)]; exact h3
theorem Four4.own {X : List Value} {i : Nat} {x0 x1 x2 x3 y z : Value} (h : Four4 X i x0 x1 x2 x3) : Four4 ((X.set (i * 4 + 2) y).set (i * 4 + 3) z) i x0 x1 y z := by
  obtain ⟨h0, h1, h2, h3⟩ := h
  have l2 := (List.getElem?_eq_some_iff.1 h2).1
  have l3 := (List.getElem?_eq_some_iff.1 h3).1
  refine ⟨?_, ?_, ?_, ?_⟩
  · rw [List.getElem?_set_ne (by omega), List.getElem?_set_ne (by omega)]; exact h0
  · rw [List.getElem?_set_ne (by omega), List.getElem?_set_ne (by omega)]; exact h1
  · rw [List.getElem?_set_ne (by omega), List.getElem?_set_self l2]
  · rw [List.getElem?_set_self (by simpa using l3)]
theorem OwnS.ofQ {w : World} {e B z n : Nat} {v : Value} {xs : List Value} (h : w.ownsRow B e z v n xs) : OwnS w e z v n xs := by
  rcases Nat.eq_zero_or_pos n with h0 | h0
  · subst h0
    obtain ⟨a, c, hv⟩ := slice_ownM h
    exact .inl ⟨rfl, List.length_eq_zero_iff.1 (by have := h.1; omega), a, c, hv⟩
  · exact .inr ⟨h0, own_lowQ h (Nat.zero_le _) fun _ _ => rfl⟩
theorem own_posQ {w : World} {e B z n : Nat} {v : Value} {xs : List Value} (h : w.ownsRow B e z v n xs) (hn : 0 < n) : ∃ g c, v = .slice (some ⟨g, 0, none⟩) n c := by
  rcases h.2 with ⟨_, q, _⟩ | ⟨g, cap, cur, hv, _⟩
  · omega
  · exact ⟨g, cap, hv⟩
theorem blk_own {w : World} {e B z n : Nat} {v : Value} {xs : List Value} (h : w.ownsRow B e z v n xs) {x : Nat} (hx : x ∈ blk v) : v.ownBlock = some x := by
  rcases h.2 with ⟨q, _⟩ | ⟨g, cap, cur, hv, _⟩
  · rw [q] at hx; simp [blk] at hx
  · rw [hv] at hx ⊢
    rcases Nat.eq_zero_or_pos n with h0 | h0
    · subst h0; simp [blk] at hx
    · rw [mem_blk h0] at hx
      rw [hx]; rfl

/-- the list that waits for what one type holds -/
def newQ (vk : Value) (m : Nat) (kids : List Ty) (p : List Nat) : List Cq := match vk with
  | .slice (some a) (_ + 1) c => [⟨a.block, c, m, kids, p⟩]
  | _ => []
theorem newQ_nil {m : Nat} {kids : List Ty} {p : List Nat} {a : Option Addr} {c : Nat} : newQ (.slice a 0 c) m kids p = [] := by cases a <;> rfl
theorem newQ_one {m n : Nat} {kids : List Ty} {p : List Nat} {g c : Nat} (h : 0 < n) : newQ (.slice (some ⟨g, 0, none⟩) n c) m kids p = [⟨g, c, m, kids, p⟩] := by
  cases n with
  | zero => omega
  | succ n => rfl
/-- the blocks that one type gets -/
def newIds (p : List Nat) (vn vk : Value) : Cids := (blk vn).map (fun x => ((p, true), x)) ++ (blk vk).map (fun x => ((p, false), x))

theorem CqI.step {A : Nat → Prop} {W0 w w' : World} {dn pd : List Cq} {r : Cq} {i m : Nat} {ids : Cids} {X xs : List Value} {vn vk : Value} (h : CqI A W0 w dn [r] pd i ids) (hi : i < r.ts.length) (hX : RowQ A W0 w (dn ++ [r] ++ pd) ids r i X) (hm : r.n = m + 1)
    (hrow : w'.ownsRow 0 27 4 r.val r.ts.length ((X.set (i * 4 + 2) vn).set (i * 4 + 3) vk))
    (hnm : w'.ownsRow w.heap.size 9 1 vn r.ts[i].names.length (strV r.ts[i].names))
    (hk : w'.ownsRow w.heap.size 27 4 vk r.ts[i].kids.length xs)
    (hxs : ∀ j (hj : j < r.ts[i].kids.length), ∃ un uk, Four4 xs j (.int .i64 r.ts[i].kids[j].kind) (.string r.ts[i].kids[j].name) un uk ∧ RawQ A W0 m r.ts[i].kids[j] un uk)
    (hmp : 0 < r.ts[i].kids.length → 0 < m)
    (fr : FrQ r.tb w w') (hb : Below W0.heap.size W0 w') :
    CqI A W0 w' dn [r] (pd ++ newQ vk m r.ts[i].kids (r.p ++ [i])) (i + 1) (ids ++ newIds (r.p ++ [i]) vn vk) := by
  have hT : ∃ cur, w.heap[r.tb]? = some (.cells cur 27 (0, 0)) := by
    obtain ⟨_, c, hc⟩ := own_rowW hX.1 (g := r.tb) rfl
    exact ⟨c, hc⟩
  have hrs : ∀ q ∈ dn ++ [r] ++ pd, q ∈ dn ++ [r] ++ (pd ++ newQ vk m r.ts[i].kids (r.p ++ [i])) := fun q hq => by
    rw [← List.append_assoc]
    exact List.mem_append_left _ hq
  have hid : ∀ e ∈ ids, e ∈ ids ++ newIds (r.p ++ [i]) vn vk := fun e he => List.mem_append_left _ he
  have hnd := h.ndr
  have hne : ∀ q, q ∈ dn ∨ q ∈ pd → q.tb ≠ r.tb := fun q hq e => by
    rw [List.map_append, List.map_append, List.nodup_append, List.nodup_append] at hnd
    obtain ⟨⟨_, _, d1⟩, _, d2⟩ := hnd
    rcases hq with hq | hq
    · exact d1 _ (List.mem_map.2 ⟨q, hq, rfl⟩) r.tb (by simp) e
    · exact d2 r.tb (by simp) _ (List.mem_map.2 ⟨q, hq, rfl⟩) e.symm
  have hnb : ∀ x ∈ blk vn, w.heap.size ≤ x ∧ x < w'.heap.size ∧ ∃ c, w'.heap[x]? = some (.cells c 9 (0, 0)) := fun x hx => ⟨(hnm.lt x (blk_own hnm hx)).1, (hnm.lt x (blk_own hnm hx)).2, (own_rowW hnm (blk_own hnm hx)).2⟩
  have hkb : ∀ x ∈ blk vk, w.heap.size ≤ x ∧ x < w'.heap.size ∧ ∃ c, w'.heap[x]? = some (.cells c 27 (0, 0)) := fun x hx => ⟨(hk.lt x (blk_own hk hx)).1, (hk.lt x (blk_own hk hx)).2, (own_rowW hk (blk_own hk hx)).2⟩
  have hnk : ∀ x ∈ blk vn, x ∉ blk vk := fun x h1 h2 => by
    obtain ⟨_, _, c1, q1⟩ := hnb x h1
    obtain ⟨_, _, c2, q2⟩ := hkb x h2
    rw [q1] at q2
    simp only [Option.some.injEq, Obj.cells.injEq] at q2
    exact absurd q2.2.1 (by decide)
  -- what is new
  have hnew : ∀ q ∈ newQ vk m r.ts[i].kids (r.p ++ [i]), q.tb ∈ blk vk ∧ q.ts = r.ts[i].kids ∧ 0 < q.ts.length ∧ q.n = m ∧ q.val = vk ∧ q.p = r.p ++ [i] := fun q hq => by
    rcases Nat.eq_zero_or_pos r.ts[i].kids.length with h0 | h0
    · obtain ⟨a, c, hv⟩ := slice_ownM hk
      rw [hv, h0, newQ_nil] at hq
      simp at hq
    · obtain ⟨g, c, hv⟩ := own_posQ hk h0
      rw [hv, newQ_one h0, List.mem_singleton] at hq
      rw [hq]
      exact ⟨by rw [hv]; exact (mem_blk h0).2 rfl, rfl, h0, rfl, hv.symm, rfl⟩
  have hE : CqE w' (dn ++ [r] ++ (pd ++ newQ vk m r.ts[i].kids (r.p ++ [i]))) (ids ++ newIds (r.p ++ [i]) vn vk) r i r.ts[i] vn vk := by
    refine ⟨OwnS.ofQ hnm, fun x hx => List.mem_append_right _ (List.mem_append_left _ (List.mem_map.2 ⟨x, hx, rfl⟩)), ?_⟩
    rcases Nat.eq_zero_or_pos r.ts[i].kids.length with h0 | h0
    · obtain ⟨a, c, hv⟩ := slice_ownM hk
      rw [h0] at hv
      exact .inl ⟨List.length_eq_zero_iff.1 h0, a, c, hv⟩
    · obtain ⟨g, c, hv⟩ := own_posQ hk h0
      refine .inr ⟨⟨g, c, m, r.ts[i].kids, r.p ++ [i]⟩, ?_, rfl, h0, by show m + 1 = r.n; omega, hv, rfl⟩
      rw [hv, newQ_one h0]
      simp
  refine ⟨fun q hq => ?_, fun q hq => ?_, fun q hq => ?_, fun q hq => ?_, ?_, ?_, fun e he => ?_, hb⟩
  · obtain ⟨Y, hY⟩ := h.done q hq
    exact ⟨Y, hY.keep fr hrs hid hT (hne q (.inl hq))⟩
  · rw [List.mem_singleton] at hq
    rw [hq]
    refine ⟨_, hrow, fun j hj => ?_⟩
    obtain ⟨un, uk, h1, h2, h3⟩ := hX.2 j hj
    by_cases c : j = i
    · subst c
      exact ⟨vn, vk, h1.own, fun _ => hE, fun q => by omega⟩
    · exact ⟨un, uk, (h1.other c (by omega)).other c (by omega), fun q => (h2 (by omega)).keep fr hrs hid hT, fun q => h3 (by omega)⟩
  · rcases List.mem_append.1 hq with hq | hq
    · obtain ⟨Y, hY⟩ := h.pend q hq
      exact ⟨Y, hY.keep fr hrs hid hT (hne q (.inr hq))⟩
    · obtain ⟨_, q2, _, q4, q5, _⟩ := hnew q hq
      refine ⟨xs, ?_, fun j hj => ?_⟩
      · rw [q5, q2]
        exact own_lowQ hk (Nat.zero_le _) fun _ _ => rfl
      · have hj' : j < r.ts[i].kids.length := by rw [← q2]; exact hj
        obtain ⟨un, uk, h1, h2⟩ := hxs j hj'
        simp only [q2, q4]
        exact ⟨un, uk, h1, fun q => by omega, fun _ => h2⟩
  · rw [← List.append_assoc] at hq
    rcases List.mem_append.1 hq with hq | hq
    · obtain ⟨⟨h1, h2⟩, h3⟩ := h.met q hq
      exact ⟨⟨h1, hid _ h2⟩, h3⟩
    · obtain ⟨q1, q2, q3, q4, q5, q6⟩ := hnew q hq
      refine ⟨⟨by rw [q4]; exact hmp (by rw [← q2]; exact q3), List.mem_append_right _ (List.mem_append_right _ (List.mem_map.2 ⟨q.tb, q1, by rw [q6]⟩))⟩, q3⟩
  · rw [← List.append_assoc, List.map_append, List.nodup_append]
    refine ⟨h.ndr, ?_, fun x hx y hy e => ?_⟩
    · rcases Nat.eq_zero_or_pos r.ts[i].kids.length with h0 | h0
      · obtain ⟨a, c, hv⟩ := slice_ownM hk
        rw [hv, h0, newQ_nil]
        simp
      · obtain ⟨g, c, hv⟩ := own_posQ hk h0
        rw [hv, newQ_one h0]
        simp
    · obtain ⟨q, hq, rfl⟩ := List.mem_map.1 hx
      obtain ⟨q', hq', rfl⟩ := List.mem_map.1 hy
      have h1 := (h.idr _ (h.met q hq).1.id).2
      have h2 := (hkb _ (hnew q' hq').1).1
      have h1' : q.tb < w.heap.size := h1
      omega
  · rw [List.map_append, List.nodup_append]
    have e1 : (newIds (r.p ++ [i]) vn vk).map (·.2) = blk vn ++ blk vk := by
      unfold newIds
      simp [List.map_append, List.map_map, Function.comp_def]
    rw [e1]
    refine ⟨h.nd, List.nodup_append.2 ⟨blk_nodupQ _, blk_nodupQ _, fun x hx y hy e => hnk x hx (e ▸ hy)⟩, fun x hx y hy e => ?_⟩
    obtain ⟨q, hq, rfl⟩ := List.mem_map.1 hx
    have h1 := (h.idr q hq).2
    rcases List.mem_append.1 hy with hy | hy
    · have := (hnb y hy).1
      omega
    · have := (hkb y hy).1
      omega
  · rcases List.mem_append.1 he with he | he
    · have h1 := h.idr e he
      have := fr.1
      exact ⟨h1.1, by omega⟩
    · have hW : W0.heap.size ≤ w.heap.size := h.bel.size
      rcases List.mem_append.1 he with he | he
      · obtain ⟨x, hx, rfl⟩ := List.mem_map.1 he
        have := hnb x hx
        exact ⟨by show _ ≤ x; omega, this.2.1⟩
      · obtain ⟨x, hx, rfl⟩ := List.mem_map.1 he
        have := hkb x hx
        exact ⟨by show _ ≤ x; omega, this.2.1⟩

end Go.Proofs.Ytpnalacdgnppmaa
