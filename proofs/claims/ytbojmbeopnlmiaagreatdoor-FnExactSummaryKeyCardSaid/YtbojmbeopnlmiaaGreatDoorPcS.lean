/-
 Two stacks of pieces in memory, beside a maker: what stays at each step of impl.compareTexts.
-/
import Derived.Test.YtbojmbeopnlmiaaGreatDoorPcO
namespace Go.Proofs.YtbojmbeopnlmiaaGreatDoor
open Go.RowKit Go.Shelf
theorem not_mk_pc : ¬ mkT 211 := by unfold mkT; decide
structure CmpAt (C : MkC) (M M1 : Mk) (w wr : World) (vl vr : Value) (L K : List Pc) : Prop where
 st : TStep C M M1 w wr
 rl : wr.ownsRow w.heap.size 211 2 vl L.length (pcCells M.F L)
 rr : wr.ownsRow w.heap.size 211 2 vr K.length (pcCells M.F K)
 nl : ∀ x, vl.ownBlock = some x → ¬ M1.ext x
 nr : ∀ x, vr.ownBlock = some x → ¬ M1.ext x
 ne : ∀ x, vl.ownBlock = some x → vr.ownBlock ≠ some x
theorem CmpAt.swap {C : MkC} {M M1 : Mk} {w wr : World} {vl vr : Value} {L K : List Pc} (h : CmpAt C M M1 w wr vl vr L K) : CmpAt C M M1 w wr vr vl K L :=
 ⟨h.st, h.rr, h.rl, h.nr, h.nl, fun x h1 h2 => h.ne x h2 h1⟩
theorem pc_not_mine {C : MkC} {w : World} {B n x : Nat} {v : Value} {xs : List Value} (h : w.ownsRow B 211 2 v n xs) (hv : v.ownBlock = some x) : ¬ Mine C w x ∧ B ≤ x ∧ x < w.heap.size := by
 rcases h.2 with ⟨rfl, _⟩ | ⟨g, cap, cur, rfl, hg, hh, _⟩
 ·simp [Value.ownBlock] at hv
 ·simp only [Value.ownBlock, Option.some.injEq] at hv
  have hx : g = x := by simpa using hv
  subst hx
  refine ⟨fun hm => ?_, hg, (Array.getElem?_eq_some_iff.1 hh).1⟩
  rcases hm.2 with ⟨es, clk, q, _⟩ | ⟨c, T, fz, q, hT⟩
  ·rw [hh] at q; simp at q
  ·rw [hh] at q
   simp only [Option.some.injEq, Obj.cells.injEq] at q
   rw [← q.2.1] at hT
   exact not_mk_pc hT
theorem row_same {w w' : World} {B n e z : Nat} {v : Value} {xs : List Value} (h : w.ownsRow B e z v n xs) (hs : ∀ x, v.ownBlock = some x → w'.heap[x]? = w.heap[x]?) : w'.ownsRow B e z v n xs := by
 refine ⟨h.1, ?_⟩
 rcases h.2 with q | ⟨g, cap, cur, rfl, hg, hh, r⟩
 ·exact .inl q
 ·exact .inr ⟨g, cap, cur, rfl, hg, (hs g rfl).trans hh, r⟩
theorem CmpAt.told {C : MkC} {M M1 M2 : Mk} {w wr w2 : World} {vl vr : Value} {L K : List Pc} (h : CmpAt C M M1 w wr vl vr L K) (k : TStep C M1 M2 wr w2) : CmpAt C M M2 w w2 vl vr L K := by
 have keep : ∀ {v : Value} {n : Nat} {xs : List Value}, wr.ownsRow w.heap.size 211 2 v n xs → (∀ x, v.ownBlock = some x → ¬ M1.ext x) → ∀ x, v.ownBlock = some x → ¬ M2.ext x := fun hr hn x hx he => by
  rcases k.extR x he with q | q
  ·exact hn x hx q
  ·have := (pc_not_mine (C := C) hr hx).2.2
   omega
 exact ⟨h.st.trans k, k.fr.owns h.rl not_mk_pc, k.fr.owns h.rr not_mk_pc, keep h.rl h.nl, keep h.rr h.nr, h.ne⟩
theorem CmpAt.openL {C : MkC} {M M1 M2 : Mk} {w wr w2 : World} {gs n cap : Nat} {v vr : Value} {L L' K : List Pc} (h : CmpAt C M M1 w wr (.slice (some ⟨gs, 0, none⟩) n cap) vr L K) (k : OpenPost C M1 M2 w.heap.size gs wr w2 v L') : CmpAt C M M2 w w2 v vr L' K := by
 have hgs := pc_not_mine (C := C) (x := gs) h.rl rfl
 have hr : ∀ x, vr.ownBlock = some x → w2.heap[x]? = wr.heap[x]? := fun x hx => by
  have hx2 := pc_not_mine (C := C) h.rr hx
  exact k.old x hx2.2.2 hx2.1 fun e => h.ne gs rfl (e ▸ hx)
 refine ⟨⟨k.here, ⟨k.os.trans h.st.fr.os, k.tape.trans h.st.fr.tape, k.output.trans h.st.fr.output, Nat.le_trans h.st.fr.size k.size, fun b hb hm => ?_⟩, k.F.trans h.st.F, k.L.trans h.st.L, k.T.trans h.st.T, fun b hb => k.extL b (h.st.extL b hb), fun b hb => ?_⟩, ?_, row_same h.rr hr, fun x hx => (k.out x hx).1, fun x hx he => ?_, fun x hx hx2 => ?_⟩
 ·have e := h.st.fr.old b hb hm
  exact (k.old b (Nat.lt_of_lt_of_le hb h.st.fr.size) (fun q => hm ((Mine.same e).1 q)) (by have := hgs.2.1; omega)).trans e
 ·rcases k.extR b hb with q | q
  ·exact h.st.extR b q
  ·exact .inr (Nat.le_trans h.st.fr.size q)
 ·have := k.row
  rw [h.st.F] at this
  exact this
 ·rcases k.extR x he with q | q
  ·exact h.nr x hx q
  ·have := (pc_not_mine (C := C) h.rr hx).2.2
   omega
 ·rcases (k.out x hx).2 with q | q
  ·exact h.ne gs rfl (q ▸ hx2)
  ·have := (pc_not_mine (C := C) h.rr hx2).2.2
   omega
theorem CmpAt.cutL {C : MkC} {M M1 : Mk} {w wr w2 : World} {gs n k cap : Nat} {vr : Value} {L L' K : List Pc} (h : CmpAt C M M1 w wr (.slice (some ⟨gs, 0, none⟩) n cap) vr L K) (hb : But gs wr w2) (hk : k = L'.length) (hr : w2.ownsRow w.heap.size 211 2 (.slice (some ⟨gs, 0, none⟩) k cap) k (pcCells M.F L')) : CmpAt C M M1 w w2 (.slice (some ⟨gs, 0, none⟩) k cap) vr L' K := by
 have hgs := pc_not_mine (C := C) (x := gs) h.rl rfl
 obtain ⟨b1, b2, b3, b4, b5⟩ := hb
 have hm4 : MkAt C w2 M1 := h.st.here.same (fun b hm => b5 b fun e => hgs.1 (e ▸ hm)) (fun b hb9 => b5 b fun e => h.nl gs rfl (e ▸ hb9)) (Nat.le_of_eq b4.symm)
 refine ⟨⟨hm4, ⟨b1.trans h.st.fr.os, b2.trans h.st.fr.tape, b3.trans h.st.fr.output, by have := h.st.fr.size; omega, fun b hb hm => ?_⟩, h.st.F, h.st.L, h.st.T, h.st.extL, h.st.extR⟩, ?_, row_same h.rr fun x hx => b5 x fun e => h.ne gs rfl (e ▸ hx), h.nl, h.nr, h.ne⟩
 ·exact (b5 b (by have := hgs.2.1; omega)).trans (h.st.fr.old b hb hm)
 ·rw [← hk]
  exact hr
theorem CmpAt.popL {C : MkC} {M M1 : Mk} {w wr : World} {gs n cap : Nat} {vr : Value} {L K : List Pc} {p : Pc} (h : CmpAt C M M1 w wr (.slice (some ⟨gs, 0, none⟩) n cap) vr (L ++ [p]) K) (hn : n = L.length + 1) : CmpAt C M M1 w wr (.slice (some ⟨gs, 0, none⟩) L.length cap) vr L K := by
 have hl := h.rl
 subst hn
 rw [List.length_append, List.length_singleton] at hl
 refine ⟨h.st, own_cut2 hl (by omega) (by rw [pcCells_app, List.take_left' (pcCells_len _ _)]), h.rr, h.nl, h.nr, h.ne⟩
def CState (C : MkC) (M : Mk) (a b : List UInt8) (w : World) (k : Nat) (vl vr : Value) (wr : World) : Prop :=
 ∃ (M1 : Mk) (L K : List Pc), CmpAt C M M1 w wr vl vr L K ∧ CmpSt M.F a b L K ∧ loadOf M.F L + loadOf M.F K ≤ k
theorem CmpAt.drawn {C : MkC} {M M1 : Mk} {w wr : World} {vl vr : Value} {L K : List Pc} (h : CmpAt C M M1 w wr vl vr L K) (n : Nat) : CmpAt C M M1 w (wr.drewN n) vl vr L K :=
 h.told ((TStep.refl h.st.here).below (below_drewN (Below.refl _ _) n))
theorem CmpAt.new {C : MkC} {M : Mk} {w : World} (h : MkAt C w M) {i j : Nat} {r q : FRec} (hr : M.F[i]? = some r) (hq : M.F[j]? = some q) :
  CmpAt C M M w ((w.alloc (.cells #[.string ⟨#[]⟩, r.val] 211)).alloc (.cells #[.string ⟨#[]⟩, q.val] 211)) (.slice (some ⟨w.heap.size, 0, none⟩) 1 1) (.slice (some ⟨w.heap.size + 1, 0, none⟩) 1 1) [pcF i] [pcF j] := by
 have hb : Below w.heap.size w ((w.alloc (.cells #[.string ⟨#[]⟩, r.val] 211)).alloc (.cells #[.string ⟨#[]⟩, q.val] 211)) := ((Below.refl _ _).alloc (Nat.le_refl _) _).alloc (by simp) _
 have e1 : pcCells M.F [pcF i] = [.string ⟨#[]⟩, r.val] := by
  simp only [pcCells, List.flatMap_cons, List.flatMap_nil, List.append_nil]
  rw [show pcV M.F (pcF i).f = r.val from val_iface hr]
  rfl
 have e2 : pcCells M.F [pcF j] = [.string ⟨#[]⟩, q.val] := by
  simp only [pcCells, List.flatMap_cons, List.flatMap_nil, List.append_nil]
  rw [show pcV M.F (pcF j).f = q.val from val_iface hq]
  rfl
 have z1 : ((w.alloc (.cells #[.string ⟨#[]⟩, r.val] 211)).alloc (.cells #[.string ⟨#[]⟩, q.val] 211)).heap[w.heap.size]? = some (.cells #[.string ⟨#[]⟩, r.val] 211 (0, 0)) := by
  rw [(MapKept.heap_alloc _ _).2 _ (by simp)]
  exact (MapKept.heap_alloc _ _).1
 have z2 : ((w.alloc (.cells #[.string ⟨#[]⟩, r.val] 211)).alloc (.cells #[.string ⟨#[]⟩, q.val] 211)).heap[w.heap.size + 1]? = some (.cells #[.string ⟨#[]⟩, q.val] 211 (0, 0)) := by
  have := (MapKept.heap_alloc (w.alloc (.cells #[.string ⟨#[]⟩, r.val] 211)) (.cells #[.string ⟨#[]⟩, q.val] 211)).1
  simpa using this
 refine ⟨(TStep.refl h).below hb, ?_, ?_, fun x hx he => ?_, fun x hx he => ?_, fun x hx hx2 => ?_⟩
 ·rw [e1]
  exact ⟨rfl, .inr ⟨w.heap.size, 1, _, rfl, Nat.le_refl _, z1, Nat.le_refl _, by decide, rfl, rfl⟩⟩
 ·rw [e2]
  exact ⟨rfl, .inr ⟨w.heap.size + 1, 1, _, rfl, by omega, z2, Nat.le_refl _, by decide, rfl, rfl⟩⟩
 ·have h1 := (h.extok x he).1
  have h2 : w.heap.size = x := by simpa [Value.ownBlock] using hx
  omega
 ·have h1 := (h.extok x he).1
  have h2 : w.heap.size + 1 = x := by simpa [Value.ownBlock] using hx
  omega
 ·have h1 : w.heap.size = x := by simpa [Value.ownBlock] using hx
  have h2 : w.heap.size + 1 = x := by simpa [Value.ownBlock] using hx2
  omega
theorem opened_call {C : MkC} {M M1 : Mk} {w X : World} {gs n cap : Nat} {vr : Value} {L K : List Pc} {i : Nat} {r : FRec} (h : CmpAt C M M1 w X (.slice (some ⟨gs, 0, none⟩) n cap) vr (L ++ [pcF i]) K) (hr : M.F[i]? = some r) (hn : n = L.length + 1) (hL : n ≤ 1099511627776) :
  Calls Tryz.prog 155 #[.slice (some ⟨gs, 0, none⟩) n cap] X fun e w' => ∃ (M2 : Mk) (v : Value), e = .returned v ∧ OpenPost C M1 M2 w.heap.size gs X w' v (L ++ (livePcs (pcsOf r.ty r.kids)).reverse) := by
 subst hn
 have hrow := h.rl
 rw [List.length_append, List.length_singleton] at hrow
 exact callsIn_wide.1 (opened_in C M1 i r L w.heap.size gs cap X h.st.here (by rw [h.st.F]; exact hr) (by omega) (by rw [h.st.F]; exact hrow) (h.nl gs rfl) h.st.fr.size)
theorem step_openL {C : MkC} {M M1 M2 : Mk} {a b : List UInt8} {w X w2 : World} {gs n cap : Nat} {v vr : Value} {L K : List Pc} {i : Nat} {r : FRec} (h : CmpAt C M M1 w X (.slice (some ⟨gs, 0, none⟩) n cap) vr (L ++ [pcF i]) K) (hS : CmpSt M.F a b (L ++ [pcF i]) K) (hr : M.F[i]? = some r) (k : OpenPost C M1 M2 w.heap.size gs X w2 v (L ++ (livePcs (pcsOf r.ty r.kids)).reverse)) : ∃ k', k' < loadOf M.F (L ++ [pcF i]) + loadOf M.F K ∧ CState C M a b w k' v vr w2 := by
 have he := h.st.here.each i r (by rw [h.st.F]; exact hr)
 have hk := he.kids
 rw [h.st.F] at hk
 refine ⟨_, ?_, M2, _, K, h.openL k, hS.openL hr he.ok hk, Nat.le_refl _⟩
 have := load_open hr he.ok hk
 rw [loadOf_app, loadOf_app]
 omega
theorem step_openR {C : MkC} {M M1 M2 : Mk} {a b : List UInt8} {w X w2 : World} {gs n cap : Nat} {v vl : Value} {L K : List Pc} {i : Nat} {r : FRec} (h : CmpAt C M M1 w X vl (.slice (some ⟨gs, 0, none⟩) n cap) L (K ++ [pcF i])) (hS : CmpSt M.F a b L (K ++ [pcF i])) (hr : M.F[i]? = some r) (k : OpenPost C M1 M2 w.heap.size gs X w2 v (K ++ (livePcs (pcsOf r.ty r.kids)).reverse)) : ∃ k', k' < loadOf M.F L + loadOf M.F (K ++ [pcF i]) ∧ CState C M a b w k' vl v w2 := by
 have he := h.st.here.each i r (by rw [h.st.F]; exact hr)
 have hk := he.kids
 rw [h.st.F] at hk
 refine ⟨_, ?_, M2, L, _, (h.swap.openL k).swap, hS.openR hr he.ok hk, Nat.le_refl _⟩
 have := load_open hr he.ok hk
 rw [loadOf_app, loadOf_app]
 omega
theorem info_comp {N : TypeId} (h : (Tryz.prog.info? N).map (·.comparable) = some true) : ∃ i, Tryz.prog.info? N = some i ∧ i.comparable = true := by
 cases hi : Tryz.prog.info? N with
 | none => rw [hi] at h; simp at h
 | some i => rw [hi] at h; exact ⟨i, rfl, by simpa using h⟩
theorem info_sized {N : TypeId} (h : (Tryz.prog.info? N).map (fun i => decide (i.size ≠ 0)) = some true) : ∃ i, Tryz.prog.info? N = some i ∧ i.size ≠ 0 := by
 cases hi : Tryz.prog.info? N with
 | none => rw [hi] at h; simp at h
 | some i => rw [hi] at h; exact ⟨i, rfl, by simpa using h⟩
theorem pt_info (k : Int) : ∃ te i j, Tryz.prog.underlying (ptT k) = some (.pointer te) ∧ Tryz.prog.info? (ptT k) = some i ∧ i.comparable = true ∧ Tryz.prog.info? te = some j ∧ j.size ≠ 0 := by
 have mk : ∀ {N te : TypeId}, Tryz.prog.underlying N = some (.pointer te) → (Tryz.prog.info? N).map (·.comparable) = some true → (Tryz.prog.info? te).map (fun i => decide (i.size ≠ 0)) = some true → ∃ te i j, Tryz.prog.underlying N = some (.pointer te) ∧ Tryz.prog.info? N = some i ∧ i.comparable = true ∧ Tryz.prog.info? te = some j ∧ j.size ≠ 0 := fun {N te} h1 h2 h3 => by
  obtain ⟨i, a, b⟩ := info_comp h2
  obtain ⟨j, c, d⟩ := info_sized h3
  exact ⟨te, i, j, h1, a, b, c, d⟩
 unfold ptT
 split
 ·exact mk Tryz.underlying190 (by kernel_rfl) (by kernel_rfl)
 split
 ·exact mk Tryz.underlying193 (by kernel_rfl) (by kernel_rfl)
 split
 ·exact mk Tryz.underlying195 (by kernel_rfl) (by kernel_rfl)
 split
 ·exact mk Tryz.underlying187 (by kernel_rfl) (by kernel_rfl)
 split
 ·exact mk Tryz.underlying197 (by kernel_rfl) (by kernel_rfl)
 split
 ·exact mk Tryz.underlying200 (by kernel_rfl) (by kernel_rfl)
 split
 ·exact mk Tryz.underlying203 (by kernel_rfl) (by kernel_rfl)
 ·exact mk Tryz.underlying188 (by kernel_rfl) (by kernel_rfl)
theorem eql_same (k : Int) (a : Addr) (w : World) : (binOp .eql 94 (.iface (ptT k) (.pointer (some a))) (.iface (ptT k) (.pointer (some a)))).run Tryz.prog w = .ok (.bool true) w := by
 obtain ⟨te, i, j, h1, h2, h3, h4, _⟩ := pt_info k
 exact run_eql_iface_ptr_same w a Tryz.underlying94 h1 h2 h3 h4
theorem eql_kinds {T1 T2 : TypeId} (h : T1 ≠ T2) (v u : Value) (w : World) : (binOp .eql 94 (.iface T1 v) (.iface T2 u)).run Tryz.prog w = .ok (.bool false) w := by
 have hd : ∀ d : Nat, (Op.equalIn (d + 1) 94 (.iface T1 v) (.iface T2 u)).run Tryz.prog w = .ok false w := fun d => by
  simp [Op.equalIn, run_underlying Tryz.underlying94, h]
 simp only [binOp]
 simp [Op.equal, Op.maxDepth, hd 9999]
theorem eql_other (k1 k2 : Int) {b1 b2 : Nat} (w : World) (hne : b1 ≠ b2) {ca cb : Array Value} {ta tb : TypeId} (ha : w.heap[b1]? = some (.cells ca ta (0, 0))) (hb : w.heap[b2]? = some (.cells cb tb (0, 0))) : (binOp .eql 94 (.iface (ptT k1) (.pointer (some ⟨b1, 0, none⟩))) (.iface (ptT k2) (.pointer (some ⟨b2, 0, none⟩)))).run Tryz.prog w = .ok (.bool false) w := by
 by_cases c : ptT k1 = ptT k2
 ·rw [← c]
  obtain ⟨te, i, j, h1, h2, h3, h4, h5⟩ := pt_info k1
  exact run_eql_iface_ptr_other w Tryz.underlying94 h1 h2 h3 h4 h5 (fun e => hne (congrArg Addr.block e)) ha hb
 ·exact eql_kinds c _ _ w
theorem top_val {w : World} {B g n cap : Nat} {F : List FRec} {L : List Pc} {p : Pc} (h : w.ownsRow B 211 2 (.slice (some ⟨g, 0, none⟩) n cap) n (pcCells F (L ++ [p]))) : w.cell? ⟨g, L.length * 2 + 1, none⟩ = some (pcV F p.f) := by
 have e1 : pcCells F [p] = [.string p.s, pcV F p.f] := by simp [pcCells]
 rw [pcCells_app, e1] at h
 have h1 := h.cells (g := g) rfl (L.length * 2 + 1) (pcV F p.f) (by
  rw [List.getElem?_append_right (by rw [pcCells_len]; omega), pcCells_len]
  have e : L.length * 2 + 1 - L.length * 2 = 1 := by omega
  rw [e]
  rfl)
 have e : ((⟨g, 0, none⟩ : Addr).add (L.length * 2 + 1)) = ⟨g, L.length * 2 + 1, none⟩ := by simp [Addr.add]
 rw [e] at h1
 exact h1
theorem load_open_pos {F : List FRec} {i : Nat} {r : FRec} (hr : F[i]? = some r) (ht : Ty.ok r.ty) : 0 < (pcF i).load F := by
 have e : (pcF i).load F = r.ty.txt.size * (Ty.hi r.ty + 2) := by
  unfold Pc.load pcF
  simp only [hr]
 rw [e]
 exact Nat.mul_pos (txt_pos ht) (by omega)
def TwoAt (C : MkC) (M : Mk) (w : World) (gl gr nL nK cl cr : Nat) (L K : List Pc) (i1 i2 : Nat) (X : World) : Prop :=
 ∃ M1, CmpAt C M M1 w X (.slice (some ⟨gl, 0, none⟩) (nL + 1) cl) (.slice (some ⟨gr, 0, none⟩) (nK + 1) cr) (L ++ [pcF i1]) (K ++ [pcF i2])
theorem TwoAt.cells {C : MkC} {M : Mk} {w : World} {gl gr nL nK cl cr : Nat} {L K : List Pc} {i1 i2 : Nat} {X : World} {r1 r2 : FRec} (h : TwoAt C M w gl gr nL nK cl cr L K i1 i2 X) (hL : nL = L.length) (hK : nK = K.length) (h1 : M.F[i1]? = some r1) (h2 : M.F[i2]? = some r2) : X.cell? ⟨gl, nL * 2 + 1, none⟩ = some (.iface (ptT r1.ty.kind) (.pointer (some ⟨r1.blk, 0, none⟩))) ∧ X.cell? ⟨gr, nK * 2 + 1, none⟩ = some (.iface (ptT r2.ty.kind) (.pointer (some ⟨r2.blk, 0, none⟩))) := by
 obtain ⟨M1, h⟩ := h
 have a := h.rl
 have b := h.rr
 rw [List.length_append, List.length_singleton, ← hL] at a
 rw [List.length_append, List.length_singleton, ← hK] at b
 have y := top_val a
 have z := top_val b
 rw [show pcV M.F (pcF i1).f = _ from val_iface h1, ← hL] at y
 rw [show pcV M.F (pcF i2).f = _ from val_iface h2, ← hK] at z
 exact ⟨y, z⟩
theorem TwoAt.drawn {C : MkC} {M : Mk} {w : World} {gl gr nL nK cl cr : Nat} {L K : List Pc} {i1 i2 : Nat} {X : World} (h : TwoAt C M w gl gr nL nK cl cr L K i1 i2 X) (n : Nat) : TwoAt C M w gl gr nL nK cl cr L K i1 i2 (X.drewN n) := h.imp fun _ k => k.drawn n
theorem TwoAt.drew {C : MkC} {M : Mk} {w : World} {gl gr nL nK cl cr : Nat} {L K : List Pc} {i1 i2 : Nat} {X : World} (h : TwoAt C M w gl gr nL nK cl cr L K i1 i2 X) : TwoAt C M w gl gr nL nK cl cr L K i1 i2 X.drew := h.drawn 1
theorem TwoAt.size {C : MkC} {M : Mk} {w : World} {gl gr nL nK cl cr : Nat} {L K : List Pc} {i1 i2 i : Nat} {X : World} {r : FRec} (h : TwoAt C M w gl gr nL nK cl cr L K i1 i2 X) (hr : M.F[i]? = some r) :
  Calls Tryz.prog 154 #[.iface (ptT r.ty.kind) (.pointer (some ⟨r.blk, 0, none⟩))] X fun e w' => e = .returned (.int .i64 ((min r.ty.txt.size 8589934593 : Nat) : Int)) ∧ TwoAt C M w gl gr nL nK cl cr L K i1 i2 w' := by
 obtain ⟨M1, h⟩ := h
 refine (implSizeOf i C M1 r X h.st.here (by rw [h.st.F]; exact hr)).mono ?_
 rintro e w' ⟨M2, rfl, hs⟩
 exact ⟨rfl, M2, h.told hs⟩
end Go.Proofs.YtbojmbeopnlmiaaGreatDoor
