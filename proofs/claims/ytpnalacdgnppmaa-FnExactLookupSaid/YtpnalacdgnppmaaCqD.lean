/-
  A copy that is made list by list, each list by the way that leads to it: what it comes to when all lists are done.
-/
import Derived.Test.YtpnalacdgnppmaaLayD
import Derived.Deep.Slices
namespace Go.Proofs.Ytpnalacdgnppmaa
open Go.RowKit

/-- a list of the copy: where it lies, its types, their depth, and the way to it -/
structure Cq where
  tb : Nat
  cap : Nat
  n : Nat
  ts : List Ty
  p : List Nat
def Cq.val (r : Cq) : Value := .slice (some ⟨r.tb, 0, none⟩) r.ts.length r.cap

/-- which block lies at the end of which way: a list's, or (true) the names' of a type -/
abbrev Cids := List ((List Nat × Bool) × Nat)
theorem cids_inj {ids : Cids} (h : (ids.map (·.2)).Nodup) {a c : List Nat × Bool} {x : Nat} (ha : (a, x) ∈ ids) (hc : (c, x) ∈ ids) : a = c := by
  induction ids with
  | nil => simp at ha
  | cons e r ih =>
    rw [List.map_cons, List.nodup_cons] at h
    rcases List.mem_cons.1 ha with ha | ha
    · rcases List.mem_cons.1 hc with hc | hc
      · rw [← hc] at ha; exact congrArg Prod.fst ha
      · rw [← ha] at h
        exact absurd (List.mem_map.2 ⟨(c, x), hc, rfl⟩) h.1
    · rcases List.mem_cons.1 hc with hc | hc
      · rw [← hc] at h
        exact absurd (List.mem_map.2 ⟨(a, x), ha, rfl⟩) h.1
      · exact ih h.2 ha hc

/-- a type of a list is done: its names are copied, and its kids are a list of the copy -/
structure CqE (w : World) (rs : List Cq) (ids : Cids) (r : Cq) (i : Nat) (t : Ty) (vn vk : Value) : Prop where
  names : OwnS w 9 1 vn t.names.length (strV t.names)
  nid : ∀ x ∈ blk vn, ((r.p ++ [i], true), x) ∈ ids
  kids : (t.kids = [] ∧ ∃ a c, vk = .slice a 0 c) ∨ ∃ r' ∈ rs, r'.ts = t.kids ∧ 0 < r'.ts.length ∧ r'.n + 1 = r.n ∧ vk = r'.val ∧ r'.p = r.p ++ [i]
/-- the four cells of a type in a row -/
def Four4 (X : List Value) (i : Nat) (x0 x1 x2 x3 : Value) : Prop := X[i * 4]? = some x0 ∧ X[i * 4 + 1]? = some x1 ∧ X[i * 4 + 2]? = some x2 ∧ X[i * 4 + 3]? = some x3
/-- a list is done -/
def CqR (w : World) (rs : List Cq) (ids : Cids) (r : Cq) : Prop := ∃ X, w.ownsRow 0 27 4 r.val r.ts.length X ∧ ∀ i (h : i < r.ts.length), ∃ vn vk, Four4 X i (.int .i64 r.ts[i].kind) (.string r.ts[i].name) vn vk ∧ CqE w rs ids r i r.ts[i] vn vk
/-- what holds of a list of the copy -/
structure CqM (ids : Cids) (r : Cq) : Prop where
  pos : 0 < r.n
  id : ((r.p, false), r.tb) ∈ ids

theorem blk_nodupQ (v : Value) : (blk v).Nodup := by
  unfold blk
  split
  · simp
  · simp
theorem flat_of_four4 {X : List Value} {ts : List Ty} {ls : List Lay} (hX : X.length = ts.length * 4) (hl : ls.length = ts.length) (h : ∀ i (h1 : i < ts.length) (h2 : i < ls.length), Four4 X i (.int .i64 ts[i].kind) (.string ts[i].name) ls[i].vn ls[i].vk) : X = flatK ts ls := by
  apply List.ext_getElem?
  intro q
  by_cases hq : q < ts.length * 4
  · obtain ⟨i, c, hc, rfl⟩ : ∃ i c, c < 4 ∧ q = i * 4 + c := ⟨q / 4, q % 4, Nat.mod_lt _ (by decide), by omega⟩
    have hi : i < ts.length := by omega
    rw [flatK_get ts ls i c hi (by omega) hc]
    obtain ⟨h0, h1, h2, h3⟩ := h i hi (by omega)
    match c, hc with
    | 0, _ => rw [Nat.add_zero, h0]; rfl
    | 1, _ => rw [h1]; rfl
    | 2, _ => rw [h2]; rfl
    | 3, _ => rw [h3]; rfl
  · rw [List.getElem?_eq_none (by omega), List.getElem?_eq_none (by rw [flatK_len _ _ hl]; omega)]
theorem way_ne {p q q' : List Nat} {i j : Nat} (h : p ++ [i] ++ q = p ++ [j] ++ q') : i = j := by
  rw [List.append_assoc, List.append_assoc, List.append_right_inj] at h
  simp only [List.singleton_append, List.cons.injEq] at h
  exact h.1
theorem way_longer {p q : List Nat} {i : Nat} (h : p = p ++ [i] ++ q) : False := by
  have := congrArg List.length h
  simp at this

/-- when all lists are done, each holds its types, in memory of its own -/
theorem cq_lay {w : World} {rs : List Cq} {ids : Cids} (hd : ∀ r ∈ rs, CqR w rs ids r) (hm : ∀ r ∈ rs, CqM ids r) (nd : (ids.map (·.2)).Nodup) (n : Nat) :
    ∀ r ∈ rs, r.n = n → ∃ ls, RowL w n r.val ls r.ts ∧ ∀ i (h : i < ls.length), (Lay.blocks n ls[i]).Nodup ∧ ∀ x ∈ Lay.blocks n ls[i], ∃ q b, ((r.p ++ [i] ++ q, b), x) ∈ ids := by
  induction n with
  | zero => intro r hr e; have := (hm r hr).pos; omega
  | succ n ih =>
    intro r hr e
    obtain ⟨X, hX, hE⟩ := hd r hr
    have each : ∀ i, i < r.ts.length → ∃ l : Lay, ∃ h : i < r.ts.length, Four4 X i (.int .i64 r.ts[i].kind) (.string r.ts[i].name) l.vn l.vk ∧ LayAt w (n + 1) l r.ts[i] ∧ (Lay.blocks (n + 1) l).Nodup ∧ ∀ x ∈ Lay.blocks (n + 1) l, ∃ q b, ((r.p ++ [i] ++ q, b), x) ∈ ids := fun i h => by
      obtain ⟨vn, vk, h4, hD⟩ := hE i h
      have hnid : ∀ x ∈ blk vn, ((r.p ++ [i] ++ [], true), x) ∈ ids := fun x hx => by rw [List.append_nil]; exact hD.nid x hx
      rcases hD.kids with ⟨hk, a, c, rfl⟩ | ⟨r', hr', ht, hp, hn, rfl, hw⟩
      · have hz : blk (.slice a 0 c) = [] := by cases a <;> rfl
        refine ⟨.mk vn (.slice a 0 c) [], h, h4, ⟨hD.names, by rw [hk]; rfl, by rw [hk]; exact .inl ⟨rfl, rfl, a, c, rfl⟩, fun j h1 => absurd h1 (by simp)⟩, ?_, fun x hx => ?_⟩
        · show (blk vn ++ (blk (.slice a 0 c) ++ [])).Nodup
          rw [hz]
          simpa using blk_nodupQ vn
        · have hx' : x ∈ blk vn ++ (blk (.slice a 0 c) ++ []) := hx
          rw [hz] at hx'
          exact ⟨[], true, hnid x (by simpa using hx')⟩
      · obtain ⟨ls, hR, hB⟩ := ih r' hr' (by omega)
        have hM' := hm r' hr'
        have hlen : ls.length = r'.ts.length := hR.1
        have hbk : ∀ x, x ∈ blk r'.val ↔ x = r'.tb := fun x => mem_blk hp
        have hrow : (rowBlocks n r'.val ls).Nodup := by
          refine List.nodup_append.2 ⟨blk_nodupQ _, ?_, ?_⟩
          · refine List.pairwise_flatMap.2 ⟨fun l hl => ?_, List.pairwise_iff_getElem.2 fun i j hi hj hij x hx y hy hxy => ?_⟩
            · obtain ⟨j, hj, rfl⟩ := List.getElem_of_mem hl
              exact (hB j hj).1
            · subst hxy
              obtain ⟨q1, b1, m1⟩ := (hB i hi).2 x hx
              obtain ⟨q2, b2, m2⟩ := (hB j hj).2 x hy
              have := way_ne (congrArg Prod.fst (cids_inj nd m1 m2))
              omega
          · intro x hx y hy hxy
            subst hxy
            rw [hbk] at hx
            subst hx
            obtain ⟨l, hl, hy⟩ := List.mem_flatMap.1 hy
            obtain ⟨j, hj, rfl⟩ := List.getElem_of_mem hl
            obtain ⟨q2, b2, m2⟩ := (hB j hj).2 _ hy
            exact way_longer (congrArg Prod.fst (cids_inj nd hM'.id m2))
        have hin : ∀ x ∈ rowBlocks n r'.val ls, ∃ q b, ((r.p ++ [i] ++ q, b), x) ∈ ids ∧ (q = [] → b = false) := fun x hx => by
          rcases List.mem_append.1 hx with hx | hx
          · rw [hbk] at hx
            subst hx
            refine ⟨[], false, ?_, fun _ => rfl⟩
            have := hM'.id
            rw [hw] at this
            rw [List.append_nil]
            exact this
          · obtain ⟨l, hl, hx⟩ := List.mem_flatMap.1 hx
            obtain ⟨j, hj, rfl⟩ := List.getElem_of_mem hl
            obtain ⟨q2, b2, m2⟩ := (hB j hj).2 x hx
            refine ⟨[j] ++ q2, b2, ?_, fun q => by simp at q⟩
            rw [hw] at m2
            rw [List.append_assoc] at m2
            exact m2
        refine ⟨.mk vn r'.val ls, h, h4, ⟨hD.names, by rw [← ht]; exact hlen, by rw [← ht]; exact hR.2.1, fun j h1 h2 => ?_⟩, ?_, fun x hx => ?_⟩
        · have := hR.2.2 j h1 (by rw [ht]; exact h2)
          simp only [ht] at this
          exact this
        · refine List.nodup_append.2 ⟨blk_nodupQ _, hrow, fun x hx y hy hxy => ?_⟩
          subst hxy
          obtain ⟨q, b, m, hq⟩ := hin x hy
          have := cids_inj nd (hnid x hx) m
          simp only [Prod.mk.injEq, List.append_right_inj] at this
          have := hq this.1.symm
          simp_all
        · rcases List.mem_append.1 hx with hx | hx
          · exact ⟨[], true, hnid x hx⟩
          · obtain ⟨q, b, m, _⟩ := hin x hx
            exact ⟨q, b, m⟩
    haveI : Inhabited Lay := ⟨.mk undef undef []⟩
    obtain ⟨f, hf⟩ := Go.Deep.choose_lt each
    have hlen : ((List.range r.ts.length).map f).length = r.ts.length := by simp
    have hget : ∀ i (h : i < ((List.range r.ts.length).map f).length), ((List.range r.ts.length).map f)[i] = f i := fun i h => by simp
    refine ⟨(List.range r.ts.length).map f, ⟨hlen, ?_, fun j h1 h2 => ?_⟩, fun i h => ?_⟩
    · have : X = flatK r.ts ((List.range r.ts.length).map f) := flat_of_four4 hX.1 hlen fun i h1 h2 => by
        rw [hget]; exact (hf i h1).2.1
      rw [← this]
      exact OwnS.of hX
    · rw [hget]; exact (hf j h2).2.2.1
    · rw [hget]
      have hi : i < r.ts.length := by rw [hlen] at h; exact h
      exact (hf i hi).2.2.2

end Go.Proofs.Ytpnalacdgnppmaa
