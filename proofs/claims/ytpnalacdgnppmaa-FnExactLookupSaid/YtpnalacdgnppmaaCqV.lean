/-
  The stack of a copy that is made list by list, beside what is done. No walk here.
-/
import Derived.Test.YtpnalacdgnppmaaCqU
import Derived.Test.YtpnalacdgnppmaaWtO
namespace Go.Proofs.Ytpnalacdgnppmaa
open Go.RowKit

/-- the cells of a list that is read, told -/
theorem LE.flat {A : Nat → Prop} {w : World} {e : LE} (h : e.fits A w) (hb : ∀ j (hj : j < e.ts.length), Ty.bulk e.n e.ts[j] ≤ 1048576) : ∃ a cap xs, e.v = .slice a e.ts.length cap ∧ xs.length = e.ts.length * 4 ∧ (∀ u ∈ xs, u.oneCell' = true) ∧ (0 < e.ts.length → ∃ b off, a = some ⟨b, off, none⟩ ∧ A b ∧ ∀ j u, xs[j]? = some u → w.cell? ⟨b, off + j, none⟩ = some u) ∧
    ∀ j (hj : j < e.ts.length), ∃ un uk, Four4 xs j (.int .i64 e.ts[j].kind) (.string e.ts[j].name) un uk ∧ RawQ A w e.n e.ts[j] un uk := by
  obtain ⟨a, cap, hv, hop⟩ := LE.open h
  have each : ∀ k, k < e.ts.length → ∃ l : Lay, ∃ h : k < e.ts.length, (∃ b off, a = some ⟨b, off, none⟩ ∧ A b ∧ w.cell? ⟨b, off + k * 4, none⟩ = some (.int .i64 e.ts[k].kind) ∧ w.cell? ⟨b, off + k * 4 + 1, none⟩ = some (.string e.ts[k].name) ∧ w.cell? ⟨b, off + k * 4 + 2, none⟩ = some l.vn ∧ w.cell? ⟨b, off + k * 4 + 3, none⟩ = some l.vk) ∧ RawQ A w e.n e.ts[k] l.vn l.vk := fun k hk => by
    obtain ⟨m, b, off, vn, vk, hm, ha, hA, _, c0, c1, c2, c3, _, hT, hF⟩ := hop k hk
    exact ⟨.mk vn vk [], hk, ⟨b, off, ha, hA, c0, c1, c2, c3⟩, m, hm, hb k hk, hT, hF⟩
  haveI : Inhabited Lay := ⟨.mk undef undef []⟩
  obtain ⟨f, hf⟩ := Go.Deep.choose_lt each
  have hlen : ((List.range e.ts.length).map f).length = e.ts.length := by simp
  have hget : ∀ i (h : i < ((List.range e.ts.length).map f).length), ((List.range e.ts.length).map f)[i] = f i := fun i h => by simp
  have hfl := flatK_len e.ts ((List.range e.ts.length).map f) hlen
  have hcell : ∀ j u, (flatK e.ts ((List.range e.ts.length).map f))[j]? = some u → ∃ k c, k < e.ts.length ∧ c < 4 ∧ j = k * 4 + c ∧ ∃ h : k < e.ts.length, (cellsK e.ts[k] (f k))[c]? = some u := fun j u hj => by
    have hl := (List.getElem?_eq_some_iff.1 hj).1
    rw [hfl] at hl
    have hk : j / 4 < e.ts.length := by omega
    have e1 : j = j / 4 * 4 + j % 4 := by omega
    refine ⟨j / 4, j % 4, hk, Nat.mod_lt _ (by decide), e1, hk, ?_⟩
    have := flatK_get e.ts ((List.range e.ts.length).map f) (j / 4) (j % 4) hk (by rw [hlen]; exact hk) (Nat.mod_lt _ (by decide))
    rw [← e1, hget, hj] at this
    exact this.symm
  refine ⟨a, cap, flatK e.ts ((List.range e.ts.length).map f), hv, hfl, fun u hu => ?_, fun h0 => ?_, fun j hj => ?_⟩
  · obtain ⟨j, hj⟩ := List.getElem?_of_mem hu
    obtain ⟨k, c, hk, hc, _, _, hu⟩ := hcell j u hj
    obtain ⟨_, _, m, _, _, hT, hF⟩ := hf k hk
    obtain ⟨a1, c1, l1, e1⟩ : ∃ a c l, (f k).vn = .slice a l c := by
      rcases hT with ⟨_, a, cap, e2⟩ | ⟨b, off, cap, e2, _⟩
      · exact ⟨a, cap, _, e2⟩
      · exact ⟨_, cap, _, e2⟩
    obtain ⟨a2, c2, e2, _⟩ := LE.open hF
    have e2' : (f k).vk = .slice a2 e.ts[k].kids.length c2 := e2
    match c, hc with
    | 0, _ => have : some (Value.int .i64 e.ts[k].kind) = some u := hu; rw [← Option.some.inj this]; rfl
    | 1, _ => have : some (Value.string e.ts[k].name) = some u := hu; rw [← Option.some.inj this]; rfl
    | 2, _ => have : some (f k).vn = some u := hu; rw [← Option.some.inj this, e1]; rfl
    | 3, _ => have : some (f k).vk = some u := hu; rw [← Option.some.inj this, e2']; rfl
  · obtain ⟨_, ⟨b, off, ha, hA, _⟩, _⟩ := hf 0 h0
    refine ⟨b, off, ha, hA, fun j u hj => ?_⟩
    obtain ⟨k, c, hk, hc, rfl, _, hu⟩ := hcell j u hj
    obtain ⟨_, ⟨b', off', ha', _, q0, q1, q2, q3⟩, _⟩ := hf k hk
    rw [ha] at ha'
    simp only [Option.some.injEq, Addr.mk.injEq, and_true] at ha'
    obtain ⟨rfl, rfl⟩ := ha'
    match c, hc with
    | 0, _ => have : some (Value.int .i64 e.ts[k].kind) = some u := hu; rw [← this]; exact q0
    | 1, _ => have : some (Value.string e.ts[k].name) = some u := hu; rw [← this, ← Nat.add_assoc]; exact q1
    | 2, _ => have : some (f k).vn = some u := hu; rw [← this, ← Nat.add_assoc]; exact q2
    | 3, _ => have : some (f k).vk = some u := hu; rw [← this, ← Nat.add_assoc]; exact q3
  · obtain ⟨_, _, hR⟩ := hf j hj
    have g := fun c hc => flatK_get e.ts ((List.range e.ts.length).map f) j c hj (by rw [hlen]; exact hj) hc
    have g0 := g 0 (by omega)
    have g1 := g 1 (by omega)
    have g2 := g 2 (by omega)
    have g3 := g 3 (by omega)
    rw [hget] at g0 g1 g2 g3
    exact ⟨_, _, ⟨g0, g1, g2, g3⟩, hR⟩

/-- on the stack lies a list of the copy, or an empty one -/
abbrev SE := Value × List Cq
def SEok (x : SE) : Prop := (x.2 = [] ∧ ∃ a c, x.1 = .slice a 0 c) ∨ ∃ q, x.2 = [q] ∧ x.1 = q.val ∧ 0 < q.ts.length
def seNum (x : SE) : Nat := 1 + (x.2.map fun q => ndRow q.n q.ts).sum
def stNum (E : List SE) : Nat := (E.map seNum).sum
theorem stNum_app (E F : List SE) : stNum (E ++ F) = stNum E + stNum F := by simp [stNum]
theorem stNum_one (x : SE) : stNum [x] = seNum x := by simp [stNum]
theorem stNum_len (E : List SE) : E.length ≤ stNum E := by
  induction E with
  | nil => simp
  | cons x E ih =>
    simp only [stNum, List.map_cons, List.sum_cons, List.length_cons, seNum] at ih ⊢
    omega
def pdsQ (E : List SE) : List Cq := E.flatMap (·.2)
theorem pdsQ_app (E : List SE) (x : SE) : pdsQ (E ++ [x]) = pdsQ E ++ x.2 := by simp [pdsQ]

structure CqK (A : Nat → Prop) (W0 w : World) (dn cu : List Cq) (E : List SE) (i : Nat) (ids : Cids) (vS : Value) : Prop where
  inv : CqI A W0 w dn cu (pdsQ E) i ids
  ok : ∀ x ∈ E, SEok x
  stk : w.ownsRow W0.heap.size 25 1 vS E.length (E.map (·.1))

/-- a row of lists is no row of types -/
theorem stk_ne {w : World} {B B' n n' T c : Nat} {v : Value} {xs X : List Value} (h : w.ownsRow B 25 1 v n xs) (k : w.ownsRow B' 27 4 (.slice (some ⟨T, 0, none⟩) n' c) n' X) : v.ownBlock ≠ some T := fun q => by
  obtain ⟨_, c1, q1⟩ := own_rowW h q
  obtain ⟨_, c2, q2⟩ := own_rowW k (g := T) rfl
  rw [q1] at q2
  simp only [Option.some.injEq, Obj.cells.injEq] at q2
  exact absurd q2.2.1 (by decide)
theorem stk_grown {w w' : World} {B n T : Nat} {v : Value} {xs : List Value} (h : w.ownsRow B 25 1 v n xs) (hg : w.grownBy w' (some T)) (hne : v.ownBlock ≠ some T) : w'.ownsRow B 25 1 v n xs :=
  own_atW h fun g hg' => hg.block g (h.lt g hg').2 fun e => hne (by rw [hg', e])

/-- the world before the list of the kids is pushed -/
theorem CqK.before {A : Nat → Prop} {W0 w w1 w2 : World} {dn : List Cq} {r : Cq} {E : List SE} {i k : Nat} {ids : Cids} {vS vk : Value} {X : List Value} (h : CqK A W0 w dn [r] E i ids vS) (hX : w.ownsRow 0 27 4 r.val r.ts.length X)
    (hg1 : w.grownBy w1 (some r.tb)) (hb2 : Below w1.heap.size w1 w2) : (w2.setCell ⟨r.tb, k, none⟩ vk).ownsRow W0.heap.size 25 1 vS E.length (E.map (·.1)) ∧ w.grownBy (w2.setCell ⟨r.tb, k, none⟩ vk) (some r.tb) := by
  have hne := stk_ne h.stk hX
  have hg : w.grownBy (w2.setCell ⟨r.tb, k, none⟩ vk) (some r.tb) := grown_trans hg1 (grown_trans (grown_below hb2) (grown_set _ _ _ _))
  exact ⟨stk_grown h.stk hg hne, hg⟩

theorem CqK.step {A : Nat → Prop} {W0 w w1 w2 w4 : World} {o : Obj} {dn : List Cq} {r : Cq} {E : List SE} {i m : Nat} {ids : Cids} {X xs : List Value} {vS v' vn vk : Value} (h : CqK A W0 w dn [r] E i ids vS) (hi : i < r.ts.length) (hX : RowQ A W0 w (dn ++ [r] ++ pdsQ E) ids r i X) (hm : r.n = m + 1)
    (hg1 : w.grownBy w1 (some r.tb)) (hr1 : w1.ownsRow 0 27 4 r.val r.ts.length (X.set (i * 4 + 2) vn)) (hn1 : w1.ownsRow w.heap.size 9 1 vn r.ts[i].names.length (strV r.ts[i].names))
    (hb2 : Below w1.heap.size w1 w2) (hk2 : w2.ownsRow w1.heap.size 27 4 vk r.ts[i].kids.length xs)
    (hxs : ∀ j (hj : j < r.ts[i].kids.length), ∃ un uk, Four4 xs j (.int .i64 r.ts[i].kids[j].kind) (.string r.ts[i].kids[j].name) un uk ∧ RawQ A W0 m r.ts[i].kids[j] un uk)
    (hown : w4.ownsRow W0.heap.size 25 1 v' (E.length + 1) (E.map (·.1) ++ [vk])) (hg4 : ((w2.setCell ⟨r.tb, i * 4 + 3, none⟩ vk).alloc o).grownBy w4 vS.ownBlock) :
    CqK A W0 w4 dn [r] (E ++ [(vk, newQ vk m r.ts[i].kids (r.p ++ [i]))]) (i + 1) (ids ++ newIds (r.p ++ [i]) vn vk) v' := by
  obtain ⟨hS3, hg3⟩ := h.before (k := i * 4 + 3) (vk := vk) hX.1 hg1 hb2
  have hTl : r.tb < w.heap.size := (hX.1.lt r.tb rfl).2
  have hTW : W0.heap.size ≤ r.tb := (h.inv.idr _ (h.inv.met r (by simp)).1.id).1
  have f4 : FrQ r.tb (w2.setCell ⟨r.tb, i * 4 + 3, none⟩ vk) w4 := FrQ.stack hS3 hg4
  have f24 : FrQ r.tb w2 w4 := (FrQ.grown (grown_set _ _ _ _)).trans f4
  have f14 : FrQ r.tb w1 w4 := (FrQ.below hb2).trans f24
  have f : FrQ r.tb w w4 := (FrQ.grown hg1).trans f14
  have hr2 := kept_belowT hr1 hb2
  obtain ⟨hr3, _⟩ := hr2.stored (i * 4 + 3) vk
  have hne3 := stk_ne hS3 hr3
  have hr4 : w4.ownsRow 0 27 4 r.val r.ts.length ((X.set (i * 4 + 2) vn).set (i * 4 + 3) vk) := own_atW hr3 fun g hg => by
    have hg' : g = r.tb := (Option.some.inj hg).symm
    subst hg'
    have hl := (hr3.lt r.tb rfl).2
    exact (hg4.block r.tb (by simp at hl ⊢; omega) fun e => hne3 e.symm).trans ((MapKept.heap_alloc _ o).2 r.tb hl)
  have hn4 : w4.ownsRow w.heap.size 9 1 vn r.ts[i].names.length (strV r.ts[i].names) := f14.owns hn1 (.inr rfl) fun q => by have := (hn1.lt _ q).1; omega
  have hk4 : w4.ownsRow w.heap.size 27 4 vk r.ts[i].kids.length xs := own_lowQ (f24.owns hk2 (.inl rfl) fun q => by have := (hk2.lt _ q).1; have := hg1.size; omega) hg1.size fun _ _ => rfl
  have hB3 : Below W0.heap.size W0 (w2.setCell ⟨r.tb, i * 4 + 3, none⟩ vk) := h.inv.bel.grown hg3 h.inv.bel.size fun g hg => by have := Option.some.inj hg; omega
  have hB4 : Below W0.heap.size W0 w4 := (hB3.alloc hB3.size o).grown hg4 (by have := hB3.size; simp at this ⊢; omega) fun g hg => (hS3.lt g hg).1
  refine ⟨?_, fun x hx => ?_, ?_⟩
  · rw [pdsQ_app]
    exact h.inv.step hi hX hm hr4 hn4 hk4 hxs (fun h0 => by
      obtain ⟨_, _, _, m', e, _⟩ := hxs 0 h0
      omega) f hB4
  · rcases List.mem_append.1 hx with hx | hx
    · exact h.ok x hx
    · rw [List.mem_singleton] at hx
      rw [hx]
      rcases Nat.eq_zero_or_pos r.ts[i].kids.length with h0 | h0
      · obtain ⟨a, c, hv⟩ := slice_ownM hk2
        rw [h0] at hv
        rw [hv]
        exact .inl ⟨newQ_nil, a, c, rfl⟩
      · obtain ⟨g, c, hv⟩ := own_posQ hk2 h0
        rw [hv]
        exact .inr ⟨_, newQ_one h0, rfl, h0⟩
  · rw [List.length_append, List.length_singleton, List.map_append, List.map_singleton]
    exact hown
/-- how much is left then -/
theorem CqK.less {r : Cq} {E : List SE} {i m B n : Nat} {xs : List Value} {vk : Value} {w : World} (hi : i < r.ts.length) (hm : r.n = m + 1) (hk : w.ownsRow B 27 4 vk n xs) (hn : n = r.ts[i].kids.length) : stNum (E ++ [(vk, newQ vk m r.ts[i].kids (r.p ++ [i]))]) + ndRow r.n (r.ts.drop (i + 1)) = stNum E + ndRow r.n (r.ts.drop i) := by
  rw [cost_step hm hi, stNum_app, stNum_one, seNum]
  subst hn
  rcases Nat.eq_zero_or_pos r.ts[i].kids.length with h0 | h0
  · obtain ⟨a, c, hv⟩ := slice_ownM hk
    rw [h0] at hv
    have e0 : r.ts[i].kids = [] := List.length_eq_zero_iff.1 h0
    simp only [hv, newQ_nil, e0, List.map_nil, List.sum_nil]
    simp [ndRow]
    omega
  · obtain ⟨g, c, hv⟩ := own_posQ hk h0
    simp only [hv, newQ_one h0, List.map_cons, List.map_nil, List.sum_cons, List.sum_nil]
    omega
/-- the top of the stack is taken off -/
theorem CqK.pop {A : Nat → Prop} {W0 w : World} {dn : List Cq} {E : List SE} {x : SE} {i gs cap : Nat} {ids : Cids} (h : CqK A W0 w dn [] (E ++ [x]) i ids (.slice (some ⟨gs, 0, none⟩) (E.length + 1) cap)) :
    (x.2 = [] → CqK A W0 w dn [] E i ids (.slice (some ⟨gs, 0, none⟩) E.length cap)) ∧ ∀ q, x.2 = [q] → CqK A W0 w dn [q] E 0 ids (.slice (some ⟨gs, 0, none⟩) E.length cap) := by
  have hr := h.stk
  rw [List.length_append, List.length_singleton, List.map_append, List.map_singleton] at hr
  have hI := h.inv
  rw [pdsQ_app] at hI
  have hs := own_cut1 (m := E.length) hr (by omega) (ys := E.map (·.1)) (by rw [List.take_left' (by simp)])
  refine ⟨fun e => ?_, fun q e => ?_⟩
  · rw [e, List.append_nil] at hI
    exact ⟨hI, fun y hy => h.ok y (List.mem_append_left _ hy), hs⟩
  · rw [e] at hI
    exact ⟨hI.enter, fun y hy => h.ok y (List.mem_append_left _ hy), hs⟩
/-- at the start -/
theorem CqK.begin {A : Nat → Prop} {W0 w : World} {B G n g c : Nat} {ts : List Ty} {xs : List Value} (hB : W0.heap.size ≤ B) (hrow : w.ownsRow B 27 4 (.slice (some ⟨g, 0, none⟩) ts.length c) ts.length xs) (hts : 0 < ts.length) (hn : 0 < n)
    (hxs : ∀ j (hj : j < ts.length), ∃ un uk, Four4 xs j (.int .i64 ts[j].kind) (.string ts[j].name) un uk ∧ RawQ A W0 n ts[j] un uk) (hb : Below W0.heap.size W0 w) (hG : G = w.heap.size) :
    CqK A W0 (w.alloc (.cells #[.slice (some ⟨g, 0, none⟩) ts.length c] 25)) [] [] [(.slice (some ⟨g, 0, none⟩) ts.length c, [⟨g, c, n, ts, []⟩])] 0 [(([], false), g)] (.slice (some ⟨G, 0, none⟩) 1 1) := by
  subst hG
  have hb2 : Below w.heap.size w (w.alloc (.cells #[.slice (some ⟨g, 0, none⟩) ts.length c] 25)) := (Below.refl _ _).alloc (Nat.le_refl _) _
  have hl := hrow.lt g rfl
  refine ⟨⟨fun q hq => by simp at hq, fun q hq => by simp at hq, fun q hq => ?_, fun q hq => ?_, ?_, ?_, fun e he => ?_, hb.trans (hb2.mono hb.size)⟩, fun x hx => ?_, ⟨rfl, .inr ⟨w.heap.size, 1, #[.slice (some ⟨g, 0, none⟩) ts.length c], rfl, hb.size, (MapKept.heap_alloc w _).1, Nat.le_refl _, by decide, rfl, by simp⟩⟩⟩
  · have hq' : q = ⟨g, c, n, ts, []⟩ := by simpa [pdsQ] using hq
    subst hq'
    refine ⟨xs, own_lowQ (kept_belowT hrow hb2) (Nat.zero_le _) fun _ _ => rfl, fun j hj => ?_⟩
    obtain ⟨un, uk, h1, h2⟩ := hxs j hj
    exact ⟨un, uk, h1, fun q => by omega, fun _ => h2⟩
  · have hq' : q = ⟨g, c, n, ts, []⟩ := by simpa [pdsQ] using hq
    subst hq'
    exact ⟨⟨hn, by simp⟩, hts⟩
  · simp [pdsQ]
  · simp
  · rw [List.mem_singleton] at he
    rw [he]
    exact ⟨by show _ ≤ g; omega, by show g < _; simp; omega⟩
  · rw [List.mem_singleton] at hx
    rw [hx]
    exact .inr ⟨_, rfl, rfl, hts⟩

end Go.Proofs.Ytpnalacdgnppmaa
