/-
  What the walk of impl.Reach holds in memory, and how each step keeps it.
-/
import Derived.Test.YteocagdlbnhpgaaRcQ
import Derived.Test.YteocagdlbnhpgaaSMap
import Derived.Test.YteocagdlbnhpgaaToTy
import Derived.Test.YteocagdlbnhpgaaPartsW
import Derived.Deep.AppendLies
namespace Go.Proofs.Yteocagdlbnhpgaa
open Go.RowKit Go.Sort Go.Shelf

theorem own_keepR {w w' : World} {B e z n : Nat} {v : Value} {xs : List Value} (h : w.ownsRow B e z v n xs) (hs : ∀ x cur, v.ownBlock = some x → w.heap[x]? = some (.cells cur e (0, 0)) → w'.heap[x]? = w.heap[x]?) : w'.ownsRow B e z v n xs := by
  refine ⟨h.1, ?_⟩
  rcases h.2 with h' | ⟨g, cap, cur, h1, h2, h3, h4⟩
  · exact .inl h'
  · exact .inr ⟨g, cap, cur, h1, h2, by rw [hs g cur (by rw [h1]; rfl) h3]; exact h3, h4⟩
theorem own_objR {w : World} {B e z n x : Nat} {v : Value} {xs : List Value} (h : w.ownsRow B e z v n xs) (hx : v.ownBlock = some x) : B ≤ x ∧ ∃ cur, w.heap[x]? = some (.cells cur e (0, 0)) := by
  rcases h.2 with ⟨h', _⟩ | ⟨g, cap, cur, h1, h2, h3, h4⟩
  · rw [h'] at hx; cases hx
  · rw [h1] at hx
    simp only [Value.ownBlock, Option.some.injEq] at hx
    subst hx
    exact ⟨h2, cur, h3⟩
theorem obj_lt {w : World} {b : Nat} {o : Obj} (h : w.heap[b]? = some o) : b < w.heap.size := (Array.getElem?_eq_some_iff.1 h).1

/-- those that were seen -/
def seenD (ss : List ByteArray) : List (ByteArray × Value) := ss.map fun z => (z, Value.int .i64 1)
theorem seen_look (ss : List ByteArray) (x : ByteArray) : (x ∈ ss → lookD (seenD ss) x = some (.int .i64 1)) ∧ (x ∉ ss → lookD (seenD ss) x = none) := by
  induction ss with
  | nil => exact ⟨fun h => absurd h (by simp), fun _ => rfl⟩
  | cons a r ih =>
    show (_ → (if a = x then some (Value.int .i64 1) else lookD (seenD r) x) = _) ∧ (_ → (if a = x then some (Value.int .i64 1) else lookD (seenD r) x) = _)
    by_cases c : a = x
    · rw [if_pos c]
      exact ⟨fun _ => rfl, fun h => absurd (by simp [c]) h⟩
    · rw [if_neg c]
      exact ⟨fun h => ih.1 (by rcases List.mem_cons.1 h with e | e; exact absurd e.symm c; exact e), fun h => ih.2 fun q => h (List.mem_cons_of_mem _ q)⟩

structure RMem (w wr : World) (Mb : Nat) (pm : Option Addr) (D : List (ByteArray × Value)) (bb Ms : Nat) (vE vn vw : Value) (zs ss : List ByteArray) (W : List Ent) : Prop where
  nm : wr.ownsRow w.heap.size 9 1 vn zs.length (strV zs)
  wk : wr.ownsRow w.heap.size 37 4 vw W.length (flatE W)
  seen : SMap wr Ms (seenD ss)
  book : SMap wr Mb D
  box : wr.heap[bb]? = some (.cells #[vE, .map (some Mb), .pointer pm] 56 (0, 0))
  bel : Below w.heap.size w wr

theorem SMap.obj {w : World} {M : Nat} {D : List (ByteArray × Value)} (h : SMap w M D) : ∃ es clock, w.heap[M]? = some (.map es clock) := by
  obtain ⟨es, clock, hb, _⟩ := h
  exact ⟨es, clock, hb⟩

theorem RMem.below {w wr w' : World} {Mb : Nat} {pm : Option Addr} {D : List (ByteArray × Value)} {bb Ms : Nat} {vE vn vw : Value} {zs ss : List ByteArray} {W : List Ent} (h : RMem w wr Mb pm D bb Ms vE vn vw zs ss W) (hb : Below wr.heap.size wr w') : RMem w w' Mb pm D bb Ms vE vn vw zs ss W where
  nm := kept_belowT h.nm hb
  wk := kept_belowT h.wk hb
  seen := h.seen.same (hb.block _ h.seen.lt)
  book := h.book.same (hb.block _ h.book.lt)
  box := (hb.block _ (obj_lt h.box)).trans h.box
  bel := h.bel.trans (hb.mono h.bel.size)
theorem RMem.mark {w wr w' : World} {Mb : Nat} {pm : Option Addr} {D : List (ByteArray × Value)} {bb Ms : Nat} {vE vn vw : Value} {zs ss : List ByteArray} {W : List Ent} (h : RMem w wr Mb pm D bb Ms vE vn vw zs ss W) (hne : Mb ≠ Ms) (hMs : w.heap.size ≤ Ms) {x : ByteArray} (hs : SMap w' Ms (seenD ss ++ [(x, .int .i64 1)])) (hb : But Ms wr w') : RMem w w' Mb pm D bb Ms vE vn vw zs (ss ++ [x]) W where
  nm := by obtain ⟨es, clock, hM⟩ := h.seen.obj; exact hb.owns hM h.nm
  wk := by obtain ⟨es, clock, hM⟩ := h.seen.obj; exact hb.owns hM h.wk
  seen := by unfold seenD at hs ⊢; rw [List.map_append]; exact hs
  book := h.book.same (hb.2.2.2.2 _ hne)
  box := (hb.2.2.2.2 _ fun e => by obtain ⟨es, clock, hM⟩ := h.seen.obj; subst e; rw [h.box] at hM; simp at hM).trans h.box
  bel := h.bel.trans (hb.below hMs)
theorem RMem.name {w wr w' : World} {Mb : Nat} {pm : Option Addr} {D : List (ByteArray × Value)} {bb Ms : Nat} {vE vn vn' vw : Value} {zs ss : List ByteArray} {W : List Ent} (h : RMem w wr Mb pm D bb Ms vE vn vw zs ss W) {x : ByteArray} (ho : w'.ownsRow w.heap.size 9 1 vn' (zs.length + 1) (strV zs ++ [.string x])) (hg : wr.grownBy w' vn.ownBlock) : RMem w w' Mb pm D bb Ms vE vn' vw (zs ++ [x]) ss W where
  nm := by simpa [strV] using ho
  wk := own_keepR h.wk fun y cur hy hc => hg.block y (obj_lt hc) fun e => by
    obtain ⟨_, cur', hc'⟩ := own_objR h.nm e.symm
    rw [hc] at hc'
    simp at hc'
  seen := by obtain ⟨es, clock, hM⟩ := h.seen.obj; exact h.seen.same (hg.block _ h.seen.lt (far_map h.nm hM).symm)
  book := by obtain ⟨es, clock, hM⟩ := h.book.obj; exact h.book.same (hg.block _ h.book.lt (far_map h.nm hM).symm)
  box := (hg.block _ (obj_lt h.box) fun e => by
    obtain ⟨_, cur', hc'⟩ := own_objR h.nm e.symm
    rw [h.box] at hc'
    simp at hc').trans h.box
  bel := h.bel.grown hg h.bel.size (fun j hj => (h.nm.lt j hj).1)
theorem RMem.work {w wr w' : World} {Mb : Nat} {pm : Option Addr} {D : List (ByteArray × Value)} {bb Ms : Nat} {vE vn vw vw' : Value} {zs ss : List ByteArray} {W : List Ent} (h : RMem w wr Mb pm D bb Ms vE vn vw zs ss W) {p : Ent} (ho : w'.ownsRow w.heap.size 37 4 vw' (W.length + 1) (flatE W ++ p.cs)) (hg : wr.grownBy w' vw.ownBlock) : RMem w w' Mb pm D bb Ms vE vn vw' zs ss (W ++ [p]) where
  nm := own_keepR h.nm fun y cur hy hc => hg.block y (obj_lt hc) fun e => by
    obtain ⟨_, cur', hc'⟩ := own_objR h.wk e.symm
    rw [hc] at hc'
    simp at hc'
  wk := by simpa [flatE_snoc] using ho
  seen := by obtain ⟨es, clock, hM⟩ := h.seen.obj; exact h.seen.same (hg.block _ h.seen.lt (far_map h.wk hM).symm)
  book := by obtain ⟨es, clock, hM⟩ := h.book.obj; exact h.book.same (hg.block _ h.book.lt (far_map h.wk hM).symm)
  box := (hg.block _ (obj_lt h.box) fun e => by
    obtain ⟨_, cur', hc'⟩ := own_objR h.wk e.symm
    rw [h.box] at hc'
    simp at hc').trans h.box
  bel := h.bel.grown hg h.bel.size (fun j hj => (h.wk.lt j hj).1)

/-- the names put in order -/
theorem sort_end {B g cap nn : Nat} {w w1 : World} {os : Array Obj} {zs : List ByteArray} (hown : w1.ownsRow B 9 1 (.slice (some ⟨g, 0, none⟩) zs.length cap) zs.length (strV zs)) (hbel : Below B w w1) (hB : B ≤ w1.heap.size) :
    (grow (putRow encStr (Sort.ahead w1 nn) g 0 ((keysOf zs).mergeSort fun x y => decide (x ≤ y)).toArray) os).ownsRow B 9 1 (.slice (some ⟨g, 0, none⟩) (sorted zs).length cap) (sorted zs).length (strV (sorted zs)) ∧
    Below B w (grow (putRow encStr (Sort.ahead w1 nn) g 0 ((keysOf zs).mergeSort fun x y => decide (x ≤ y)).toArray) os) := by
  have hl3 : (keysOf zs).length = zs.length := List.length_map ..
  have hs2 : strV (sorted zs) = ((keysOf zs).mergeSort fun x y => decide (x ≤ y)).map encStr := (enc_keys _).symm
  have hl2 : ((keysOf zs).mergeSort fun x y => decide (x ≤ y)).length = (keysOf zs).length := List.length_mergeSort _
  rw [hs2, sorted_len]
  rw [← keys_enc, ← hl3] at hown
  rw [← hl3]
  generalize keysOf zs = ss at *
  rcases hown.2 with ⟨h0, _⟩ | ⟨g', cap', cur, hv, hbase, hb, h1, h2, h3, h4⟩
  · cases h0
  cases hv
  exact ⟨ownsRow_sorted (n := nn) (os := os) (ts := ss.mergeSort fun x y => decide (x ≤ y)) hl2 hbase hb h1 h2 h3, hbel.grown (grownBy_sorted _) hB (fun j hj => by cases hj; exact hbase)⟩

end Go.Proofs.Yteocagdlbnhpgaa
