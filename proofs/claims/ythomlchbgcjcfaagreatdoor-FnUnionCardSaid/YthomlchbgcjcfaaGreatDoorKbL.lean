/-
  What the bodies of the laws lean on: what has turned and what not; the sizes of an answer, its cells.
  A record as it is told by names and kids in an order, plainly: what Record answers.
  A region that draws its order and ends in a store: what is read before that store may be taken first, though the store writes it. No program here.
  Laws for the walk of spec.Record.
  spec.Record where names and kids are not of one length.
-/
import Derived.Test.YthomlchbgcjcfaaGreatDoorMarkN
import Derived.Test.YthomlchbgcjcfaaGreatDoorLayD
import Derived.Test.YthomlchbgcjcfaaGreatDoorRightS
import Derived.Test.YthomlchbgcjcfaaGreatDoorEqTy
import Derived.Deep.Slices
import Derived.OrdersHeld
import Derived.Deep.RegionHeld3
import Derived.Test.YthomlchbgcjcfaaGreatDoorCopyS
import Derived.Test.YthomlchbgcjcfaaGreatDoorTypeJ
namespace Go.Proofs.YthomlchbgcjcfaaGreatDoor
open Go.RowKit

/-- nothing has turned but blocks of which that is said, and new ones -/
def KeepB (ex : Nat → Prop) (W wx : World) : Prop := W.heap.size ≤ wx.heap.size ∧ ∀ b, b < W.heap.size → ¬ ex b → wx.heap[b]? = W.heap[b]?
theorem KeepB.below {ex : Nat → Prop} {W wx wy : World} (h : KeepB ex W wx) (hb : Below wx.heap.size wx wy) : KeepB ex W wy := ⟨Nat.le_trans h.1 hb.size, fun b hl he => (hb.block b (Nat.lt_of_lt_of_le hl h.1)).trans (h.2 b hl he)⟩
theorem KeepB.only {ex : Nat → Prop} {W wx wy : World} {lo hi : Nat} (h : KeepB ex W wx) (ho : Only lo hi wx wy) (he : ∀ b, lo ≤ b → b < hi → ex b) : KeepB ex W wy := ⟨Nat.le_trans h.1 ho.size, fun b hl hx => (ho.block b (Nat.lt_of_lt_of_le hl h.1) (by
  by_cases c : b < lo
  · exact .inl c
  · by_cases c2 : hi ≤ b
    · exact .inr c2
    · exact absurd (he b (by omega) (by omega)) hx)).trans (h.2 b hl hx)⟩
theorem KeepB.onlyL {ex : Nat → Prop} {W wx wy : World} {bl : List Nat} (h : KeepB ex W wx) (ho : OnlyL bl wx wy) (he : ∀ b ∈ bl, ex b) : KeepB ex W wy := ⟨Nat.le_trans h.1 ho.size, fun b hl hx => (ho.block b (Nat.lt_of_lt_of_le hl h.1) fun hm => hx (he b hm)).trans (h.2 b hl hx)⟩
theorem KeepB.mono {ex ex' : Nat → Prop} {W wx : World} (h : KeepB ex W wx) (he : ∀ b, ex b → ex' b) : KeepB ex' W wx := ⟨h.1, fun b hl hx => h.2 b hl fun q => hx (he b q)⟩
/-- the types of an answer are of sizes that memory can have -/
theorem zero_sized (n : Nat) : Ty.sized (n + 1) (.mk 0 ⟨#[]⟩ [] []) := ⟨⟨by show (-9223372036854775808 : Int) ≤ 0; omega, by show (0 : Int) ≤ 9223372036854775807; omega⟩, by show (0 : Nat) ≤ _; omega, ⟨by show (0 : Nat) ≤ _; omega, fun x hx => by simp at hx⟩, by show (0 : Nat) ≤ _; omega, fun k hk => by simp at hk⟩
theorem row_sized {w : World} {n : Nat} {v : Value} {ks : List Ty} (h : RowAt w (TyAt w n) v ks) : ∀ q ∈ ks, Ty.sized n q := fun q hq => by
  rcases h with ⟨e, _⟩ | ⟨b, off, cap, _, hc⟩
  · rw [e] at hq; simp at hq
  · obtain ⟨j, hj, rfl⟩ := List.getElem_of_mem hq
    obtain ⟨cs, h1, _⟩ := hc j hj
    exact h1.sized
/-- an answer's cells, told -/
theorem lay_cells {w : World} {n : Nat} {l : Lay} {t : Ty} (h : LayAt w (n + 1) l t) : ∃ an cn ak ck, l.vn = .slice an t.names.length cn ∧ l.vk = .slice ak t.kids.length ck ∧ (cellsK t l).toArray = #[.int .i64 t.kind, .string t.name, .slice an t.names.length cn, .slice ak t.kids.length ck] := by
  obtain ⟨an, cn, e1⟩ := h.1.slice
  obtain ⟨ak, ck, e2⟩ := h.2.2.1.slice
  exact ⟨an, cn, ak, ck, e1, e2, by unfold cellsK; rw [e1, e2]⟩

end Go.Proofs.YthomlchbgcjcfaaGreatDoor

namespace Go.Proofs.YthomlchbgcjcfaaGreatDoor
open Go.RowKit

/-- the name at a place -/
def nameAt (nms : List ByteArray) (p : Nat) : ByteArray := nms.getD p ⟨#[]⟩
theorem nameAt_eq (nms : List ByteArray) (p : Nat) (h : p < nms.length) : nameAt nms p = nms[p] := by unfold nameAt; simp [List.getD, h]
/-- the kid at a place -/
def kidAt (ks : List Ty) (p : Nat) : Ty := ks.getD p (.mk 0 ⟨#[]⟩ [] [])
theorem kidAt_eq (ks : List Ty) (p : Nat) (h : p < ks.length) : kidAt ks p = ks[p] := by unfold kidAt; simp [List.getD, h]
/-- the record of these, in this order of places -/
def recOf (nms : List ByteArray) (ks : List Ty) (ps : List Nat) : Ty := .mk 5 ⟨#[]⟩ (ps.map (nameAt nms)) (ps.map (kidAt ks))
/-- what a row of types is, its cells told by place -/
def CellsAt (w : World) (n : Nat) (C : Nat → List Value) (ks : List Ty) : Prop := ∀ p, p < ks.length → TyAt w n (C p) (kidAt ks p)
theorem choose_cells {w : World} {n : Nat} {v : Value} {ks : List Ty} (h : RowAt w (TyAt w n) v ks) : ∃ (C : Nat → List Value) (a : Option Addr) (cap : Nat), v = .slice a ks.length cap ∧ CellsAt w n C ks ∧ ∀ p, p < ks.length → ∃ b off, a = some ⟨b, off, none⟩ ∧ b < w.heap.size ∧ ∀ c u, (C p)[c]? = some u → w.cell? ⟨b, off + p * 4 + c, none⟩ = some u := by
  rcases h with ⟨h, a, cap, e⟩ | ⟨b, off, cap, e, hc⟩
  · subst h
    exact ⟨fun _ => [], a, cap, e, fun p hp => absurd hp (by simp), fun p hp => absurd hp (by simp)⟩
  · have each : ∀ p, p < ks.length → ∃ cs, TyAt w n cs (kidAt ks p) ∧ ∀ c u, cs[c]? = some u → w.cell? ⟨b, off + p * 4 + c, none⟩ = some u := fun p hp => by
      rw [kidAt_eq ks p hp]; exact hc p hp
    haveI : Inhabited (List Value) := ⟨[]⟩
    obtain ⟨C, hC⟩ := Go.Deep.choose_lt each
    refine ⟨C, _, cap, e, fun p hp => (hC p hp).1, fun p hp => ⟨b, off, rfl, ?_, (hC p hp).2⟩⟩
    have hl := (hC p hp).1.len
    exact World.block_lt_of_cell? w _ ((hC p hp).2 0 _ (List.getElem?_eq_getElem (by omega)))
theorem textsBulk_perm {a b : List ByteArray} (h : a.Perm b) : Ty.textsBulk a = Ty.textsBulk b := by
  induction h with
  | nil => rfl
  | cons x _ ih => simp only [Ty.textsBulk, ih]
  | swap x y l => simp only [Ty.textsBulk]; omega
  | trans _ _ i1 i2 => exact i1.trans i2
theorem rowBulk_perm {n : Nat} {a b : List Ty} (h : a.Perm b) : rowBulk n a = rowBulk n b := by
  induction h with
  | nil => rfl
  | cons x _ ih => unfold rowBulk at *; simp only [List.map_cons, List.sum_cons, List.length_cons]; omega
  | swap x y l => unfold rowBulk; simp only [List.map_cons, List.sum_cons, List.length_cons]; omega
  | trans _ _ i1 i2 => exact i1.trans i2
theorem range_names (nms : List ByteArray) : (List.range nms.length).map (nameAt nms) = nms := by
  apply List.ext_getElem
  · simp
  · intro i h1 h2
    rw [List.getElem_map, List.getElem_range, nameAt_eq nms i h2]
theorem range_kids (ks : List Ty) : (List.range ks.length).map (kidAt ks) = ks := by
  apply List.ext_getElem
  · simp
  · intro i h1 h2
    rw [List.getElem_map, List.getElem_range, kidAt_eq ks i h2]
theorem names_perm {nms : List ByteArray} {ps : List Nat} (h : ps.Perm (List.range nms.length)) : (ps.map (nameAt nms)).Perm nms := by
  have := h.map (nameAt nms)
  rwa [range_names] at this
theorem kids_perm {ks : List Ty} {ps : List Nat} (h : ps.Perm (List.range ks.length)) : (ps.map (kidAt ks)).Perm ks := by
  have := h.map (kidAt ks)
  rwa [range_kids] at this
theorem recOf_bulk {n : Nat} {nms : List ByteArray} {ks : List Ty} {ps : List Nat} (hl : nms.length = ks.length) (h : ps.Perm (List.range nms.length)) : Ty.bulk (n + 1) (recOf nms ks ps) = nms.length + Ty.textsBulk nms + rowBulk n ks := by
  have h1 := textsBulk_perm (names_perm h)
  have h' : ps.Perm (List.range ks.length) := by rw [← hl]; exact h
  have h2 := rowBulk_perm (n := n) (kids_perm h')
  have h3 : ps.length = nms.length := by rw [h.length_eq, List.length_range]
  show (0 : Nat) + ((ps.map (nameAt nms)).length + Ty.textsBulk (ps.map (nameAt nms))) + rowBulk n (ps.map (kidAt ks)) = _
  rw [h1, h2, List.length_map, h3]
  omega
/-- in the order of their names -/
def InOrder (nms : List ByteArray) (ps : List Nat) : Prop := ∀ i j (_ : i < j) (hj : j < ps.length), ¬ lessB (nameAt nms ps[j]) (nameAt nms (ps[i]'(by omega)))
/-- what Record answers, at that depth -/
def RecAns (n : Nat) (nms : List ByteArray) (ks : List Ty) (t : Ty) (ok : Bool) : Prop :=
  (ok = true ∧ nms.length = ks.length ∧ ∃ ps, ps.Perm (List.range nms.length) ∧ InOrder nms ps ∧ t = recOf nms ks ps ∧ Right (n + 1) t 12) ∨
  (ok = false ∧ t = .mk 0 ⟨#[]⟩ [] [] ∧ (nms.length = ks.length → ∃ ps, ps.Perm (List.range nms.length) ∧ InOrder nms ps ∧ ¬ Right (n + 1) (recOf nms ks ps) 12))
theorem less_irrefl (a : ByteArray) : ¬ lessB a a := List.lt_irrefl _
theorem less_trans {a b c : ByteArray} (h : lessB a b) (k : lessB b c) : lessB a c := List.lt_trans h k
theorem less_total {a b : ByteArray} (h : ¬ lessB a b) (k : ¬ lessB b a) : a = b := by
  unfold lessB at h k
  have := List.le_antisymm (List.not_lt.1 k) (List.not_lt.1 h)
  cases a with
  | mk x =>
    cases b with
    | mk y => exact congrArg ByteArray.mk (Array.toList_inj.1 this)
theorem rec_sized {n : Nat} {nms : List ByteArray} {ks : List Ty} {t : Ty} {ok : Bool} (h : RecAns n nms ks t ok) (hn : nms.length ≤ 1048576) (hs : ∀ x ∈ nms, x.size ≤ 1048576) (hk : ∀ q ∈ ks, Ty.sized n q) : Ty.sized (n + 1) t := by
  rcases h with ⟨_, hl, ps, p1, _, rfl, _⟩ | ⟨_, rfl, _⟩
  · have h1 := (names_perm p1)
    have p2 : ps.Perm (List.range ks.length) := by rw [← hl]; exact p1
    have h2 := (kids_perm p2)
    refine ⟨⟨by show (-9223372036854775808 : Int) ≤ 5; omega, by show (5 : Int) ≤ 9223372036854775807; omega⟩, by show (0 : Nat) ≤ _; omega, ⟨?_, fun x hx => ?_⟩, ?_, fun k hkk => ?_⟩
    · show (ps.map (nameAt nms)).length ≤ maxLen
      rw [h1.length_eq]; unfold maxLen; omega
    · have := hs x (h1.mem_iff.1 hx)
      unfold maxLen; omega
    · show (ps.map (kidAt ks)).length ≤ maxLen
      rw [h2.length_eq, ← hl]; unfold maxLen; omega
    · exact hk k (h2.mem_iff.1 hkk)
  · exact zero_sized n
theorem rec_bulk {n : Nat} {nms : List ByteArray} {ks : List Ty} {t : Ty} {ok : Bool} (h : RecAns n nms ks t ok) (hb : nms.length + Ty.textsBulk nms + rowBulk n ks ≤ 1048576) : Ty.bulk (n + 1) t ≤ 1048576 := by
  rcases h with ⟨_, hl, ps, p1, _, rfl, _⟩ | ⟨_, rfl, _⟩
  · rw [recOf_bulk hl p1]; exact hb
  · show (0 : Nat) + (0 + 0) + (0 + 0) ≤ _; omega

end Go.Proofs.YthomlchbgcjcfaaGreatDoor

namespace Go.Proofs.YthomlchbgcjcfaaGreatDoor

section
variable {P : Program} {ops : Array Oper} {Q : Exit → Act → World → Prop} {md : Region.Mode} {S : World → Prop} {last : Nat}

/-- whatever order is picked from here on; and S holds behind each operation but the last one -/
def wpTill (P : Program) (md : Region.Mode) (ops : Array Oper) (Q : Exit → Act → World → Prop) (S : World → Prop) (last : Nat) : Nat → Array Bool → Act → World → Prop
  | 0, listed, a, w => Region.ready md ops listed = [] ∧ Q .normal a w
  | k + 1, listed, a, w => (Region.ready md ops listed = [] → Q .normal a w) ∧
      ∀ i ∈ Region.ready md ops listed, wpOp P ops Q i (fun a' w' => (i ≠ last → S w') ∧ wpTill P md ops Q S last k (listed.setIfInBounds i true) a' w') a w

theorem wpTill.any (k : Nat) : ∀ (listed : Array Bool) (a : Act) (w : World), wpTill P md ops Q S last k listed a w → wpAny P md ops Q k listed a w := by
  induction k with
  | zero => intro listed a w h; exact h
  | succ k ih =>
    intro listed a w h
    exact ⟨h.1, fun i hi => wpOp_mono (fun a' w' q => ih _ a' w' q.2) (h.2 i hi)⟩

/-- one that the last waits for, and that yields in every world that meets S, may be taken first -/
theorem wpTill.first {i : Nat} {oi ol : Oper} {v : Value} (hi : ops[i]? = some oi) (hl : ops[last]? = some ol) (hw : ∃ e ∈ ol.after, Region.binds md e = true ∧ e.on = i) (hs : Region.noSelect ops = true) (hQ : ∀ c a w, Q (.panic c) (a.put oi.dst v) w → Q (.panic c) a w) (k : Nat) :
    ∀ (listed : Array Bool) (a : Act) (w : World), (∀ j oj, ops[j]? = some oj → j ≠ i → listed.getD j true = false → (∀ e ∈ oj.after, Region.binds md e = true → e.on ≠ i) → oi.apart ops oj = true) → i ∈ Region.ready md ops listed → YieldsIf P ops S oi v a → S w →
      wpTill P md ops Q S last k (listed.setIfInBounds i true) (a.put oi.dst v) w → wpTill P md ops Q S last (k + 1) listed a w := by
  have noSel := Region.noSelect_spec hs
  induction k with
  | zero =>
    intro listed a w _ hr hy hS H
    refine ⟨fun e => absurd hr (by rw [e]; exact List.not_mem_nil), fun j hj => ?_⟩
    by_cases c : j = i
    · rw [c]; exact hy.wpOp hi hS ⟨fun _ => hS, H⟩
    · have := ready_mono hj c
      rw [H.1] at this
      exact absurd this List.not_mem_nil
  | succ k ih =>
    intro listed a w hfree hr hy hS H
    refine ⟨fun e => absurd hr (by rw [e]; exact List.not_mem_nil), fun j hj => ?_⟩
    by_cases c : j = i
    · rw [c]; exact hy.wpOp hi hS ⟨fun _ => hS, H⟩
    · have step := H.2 j (ready_mono hj c)
      obtain ⟨unl, oj, ho, waits⟩ := mem_ready.1 hj
      have iun := (mem_ready.1 hr).1
      have apartI : ∀ e ∈ oj.after, Region.binds md e = true → e.on ≠ i := fun e he hb eq => by
        have h1 := waits e he hb
        rw [eq] at h1
        by_cases hlt : i < listed.size
        · simp [hlt] at h1 iun
          rw [h1] at iun
          cases iun
        · simp [Array.getElem?_eq_none (Nat.le_of_not_lt hlt)] at h1
      have notLast : j ≠ last := fun e => by
        subst e
        rw [hl] at ho
        cases ho
        obtain ⟨e, he, hb, eq⟩ := hw
        exact apartI e he hb eq
      have moved := wpOp_putIf ho (hfree j oj ho c unl apartI) (fun cs b => noSel i oi cs b hi) (fun cs b => noSel j oj cs b ho) hQ hy step
      refine wpOp_mono (fun a' w' q => ⟨q.2.1, ih _ a' w' (fun x ox hx hxi un no => hfree x ox hx hxi ?_ no) (ready_mono hr (Ne.symm c)) q.1 (q.2.1 notLast) ?_⟩) moved
      · by_cases e : j = x
        · rw [← e]; exact unl
        · rwa [getD_set_ne true e] at un
      · rw [Array.setIfInBounds_comm _ _ c]
        exact q.2.2

/-- taken first, its conditions to be decided -/
theorem wpTill.take {i : Nat} {oi ol : Oper} {v : Value} {k : Nat} {listed : Array Bool} {a : Act} {w : World} (hi : ops[i]? = some oi) (hl : ops[last]? = some ol) (hw : (ol.after.any fun e => Region.binds md e && e.on == i) = true) (hs : Region.noSelect ops = true) (hf : Region.free md ops listed i = true) (hr : (Region.ready md ops listed).contains i = true)
    (hQ : ∀ c a w, Q (.panic c) (a.put oi.dst v) w → Q (.panic c) a w) (hy : YieldsIf P ops S oi v a) (hS : S w) (h : wpTill P md ops Q S last k (listed.setIfInBounds i true) (a.put oi.dst v) w) : wpTill P md ops Q S last (k + 1) listed a w := by
  refine wpTill.first hi hl ?_ hs hQ k listed a w (Region.free_spec hi hf) (by simpa using hr) hy hS h
  obtain ⟨e, he, hb⟩ := Array.any_eq_true'.1 hw
  simp only [Bool.and_eq_true, beq_iff_eq] at hb
  exact ⟨e, he, hb.1, hb.2⟩

/-- whichever comes up -/
theorem wpTill.ready {rs : List Nat} {k : Nat} {listed : Array Bool} {a : Act} {w : World} (hr : Region.ready md ops listed = rs) (hne : rs ≠ [])
    (h : ∀ i ∈ rs, wpOp P ops Q i (fun a' w' => (i ≠ last → S w') ∧ wpTill P md ops Q S last k (listed.setIfInBounds i true) a' w') a w) : wpTill P md ops Q S last (k + 1) listed a w :=
  ⟨fun e => absurd (hr ▸ e) hne, hr ▸ h⟩

/-- one operation that is wanted, carried out -/
theorem wpOp_of {i : Nat} {o : Oper} {K : Act → World → Prop} {a : Act} {w : World} (hi : ops[i]? = some o) (h : if Region.wanted o (yielded ops a.tmps) = true then Oper.wp P o a w K Q else K (a.put o.dst undef) w) : wpOp P ops Q i K a w := by
  unfold wpOp
  rw [hi]
  show if Region.wanted o (yielded ops a.tmps) = true then _ else _
  split
  · rename_i c
    rw [if_pos c] at h
    exact .inl h
  · rename_i c
    rw [if_neg c] at h
    exact h

/-- all have come up -/
theorem wpTill.done {listed : Array Bool} {a : Act} {w : World} (hr : Region.ready md ops listed = []) (h : Q .normal a w) (k : Nat) : wpTill P md ops Q S last k listed a w := by
  cases k with
  | zero => exact ⟨hr, h⟩
  | succ k => exact ⟨fun _ => h, by rw [hr]; intro i hi; exact absurd hi List.not_mem_nil⟩

/-- the beginning -/
theorem wp_region_till {id : Nat} {a : Act} {w : World} (S : World → Prop) (last : Nat) (hm : P.follows .mixedOrders = true)
    (h : wpTill P .any ops Q S last ops.size (Array.replicate ops.size false) a { w with drawn := w.drawn + 1 }) : (Code.region id ops true).wp P Q a w :=
  wp_region_any hm (wpTill.any _ _ _ _ h)

end

end Go.Proofs.YthomlchbgcjcfaaGreatDoor

namespace Go.Proofs.YthomlchbgcjcfaaGreatDoor
open Go.RowKit

/-- the record that is being made, by the specification -/
structure RecM (W1 wr : World) (T n : Nat) (nms : List ByteArray) (ks : List Ty) (i : Nat) (qs : List Nat) (vN vK : Value) (ls : List Lay) : Prop where
  box : wr.heap[T]? = some (.cells #[.int .i64 5, .string ⟨#[]⟩, vN, vK] 28 (0, 0))
  names : wr.ownsRow W1.heap.size 9 1 vN i (strV (qs.map (nameAt nms)))
  kids : wr.ownsRow W1.heap.size 28 4 vK i (flatK (qs.map (kidAt ks)) ls)
  len : ls.length = i ∧ qs.length = i
  lay : ∀ j (h1 : j < ls.length) (h2 : j < qs.length), LayAt wr n ls[j] (kidAt ks qs[j]) ∧ ∀ b ∈ Lay.blocks n ls[j], W1.heap.size ≤ b
  only : OnlyL [T] W1 wr
  lt : T < W1.heap.size
  perm : qs.Perm (List.range i)
  ord : InOrder nms qs
  bare : i = 0 → vN = .slice none 0 0 ∧ vK = .slice none 0 0

theorem own_cap {w : World} {B e z g n cap : Nat} {xs : List Value} (h : w.ownsRow B e z (.slice (some ⟨g, 0, none⟩) n cap) n xs) : n ≤ cap := by
  rcases h.2 with ⟨h', _⟩ | ⟨g', cap', cur, h', _, _, hc, _⟩
  · simp at h'
  · simp only [Value.slice.injEq, Option.some.injEq, Addr.mk.injEq, and_true, true_and] at h'
    omega
theorem own_lt {w : World} {B e z g n cap : Nat} {xs : List Value} (h : w.ownsRow B e z (.slice (some ⟨g, 0, none⟩) n cap) n xs) : g < w.heap.size := (h.lt g rfl).2
theorem own_base {w : World} {B B' e z n : Nat} {v : Value} {xs : List Value} (h : w.ownsRow B' e z v n xs) (hB : B ≤ B') : w.ownsRow B e z v n xs := by
  refine ⟨h.1, ?_⟩
  rcases h.2 with h' | ⟨g, cap, cur, h1, h2, h3⟩
  · exact .inl h'
  · exact .inr ⟨g, cap, cur, h1, Nat.le_trans hB h2, h3⟩
theorem own_take {w Z : World} {B e z g n cap : Nat} {xs : List Value} (h : w.ownsRow B e z (.slice (some ⟨g, 0, none⟩) n cap) n xs) (hb : Below w.heap.size w Z) (c : Nat) : ∀ j u, (xs.take c)[j]? = some u → Z.cell? ((⟨g, 0, none⟩ : Addr).add j) = some u := fun j u hu => by
  have hj := (List.getElem?_eq_some_iff.1 hu).1
  have hl := h.1
  rw [List.length_take] at hj
  rw [List.getElem?_take_of_lt (by omega)] at hu
  rw [Addr.add_lit, Nat.zero_add, hb.cell (p := ⟨g, j, none⟩) (own_lt h), h.cellAt j (by omega), hu]
theorem own_drop {w Z : World} {B e z g n cap : Nat} {xs : List Value} (h : w.ownsRow B e z (.slice (some ⟨g, 0, none⟩) n cap) n xs) (hb : Below w.heap.size w Z) (c : Nat) : ∀ j u, (xs.drop c)[j]? = some u → Z.cell? ((⟨g, c, none⟩ : Addr).add j) = some u := fun j u hu => by
  have hj := (List.getElem?_eq_some_iff.1 hu).1
  have hl := h.1
  rw [List.length_drop] at hj
  rw [List.getElem?_drop] at hu
  rw [Addr.add_lit, hb.cell (p := ⟨g, c + j, none⟩) (own_lt h), h.cellAt (c + j) (by omega), hu]

theorem cell_oneR {Z : World} {g : Nat} {u : Value} (h : Z.cell? ⟨g, 0, none⟩ = some u) : ∀ j x, [u][j]? = some x → Z.cell? ((⟨g, 0, none⟩ : Addr).add j) = some x := fun j x hx => by
  cases j with
  | zero => simp only [List.getElem?_cons_zero, Option.some.injEq] at hx; subst hx; exact h
  | succ j => simp at hx

theorem own_empty4Q {X : World} {B G : Nat} {e : TypeId} (h : X.heap[G]? = some (.cells #[] e (0, 0))) (hB : B ≤ G) : X.ownsRow B e 4 (.slice (some ⟨G, 0, none⟩) 0 0) 0 [] := ⟨rfl, .inr ⟨G, 0, #[], rfl, hB, h, Nat.le_refl _, Nat.zero_le _, rfl, rfl⟩⟩
theorem own_someQ {w : World} {B e z n c : Nat} {aa : Option Addr} {xs : List Value} (h : w.ownsRow B e z (.slice aa n c) n xs) (hn : 0 < n) : ∃ g, aa = some (⟨g, 0, none⟩ : Addr) := by
  rcases h.2 with ⟨_, h0⟩ | ⟨g, cap, cur, h1, _⟩
  · omega
  · simp only [Value.slice.injEq, true_and] at h1
    exact ⟨g, h1.1⟩
theorem owns_onlyL {w1 w2 : World} {B e z n : Nat} {v : Value} {xs : List Value} {bl : List Nat} (h : w1.ownsRow B e z v n xs) (ho : OnlyL bl w1 w2) (hb : ∀ x ∈ bl, x < B) : w2.ownsRow B e z v n xs := by
  refine ⟨h.1, ?_⟩
  rcases h.2 with h' | ⟨g, cap, cur, h1, h2, h3, h4⟩
  · exact .inl h'
  · exact .inr ⟨g, cap, cur, h1, h2, by rw [ho.block g (Array.getElem?_eq_some_iff.1 h3).1 (fun hm => by have := hb g hm; omega)]; exact h3, h4⟩
theorem lay_slices {w : World} {n : Nat} {l : Lay} {t : Ty} (h : LayAt w n l t) : ∃ an ln cn ak lk ck, l.vn = .slice an ln cn ∧ l.vk = .slice ak lk ck := by
  cases n with
  | zero => exact h.elim
  | succ n =>
    obtain ⟨an, cn, ak, ck, e1, e2, _⟩ := lay_cells h
    exact ⟨an, _, cn, ak, _, ck, e1, e2⟩
theorem lay_cellsN {w : World} {n : Nat} {l : Lay} {t : Ty} (h : LayAt w n l t) : ∃ an cn ak ck, cellsK t l = [.int .i64 t.kind, .string t.name, .slice an t.names.length cn, .slice ak t.kids.length ck] := by
  cases n with
  | zero => exact h.elim
  | succ n =>
    obtain ⟨an, cn, ak, ck, e1, e2, _⟩ := lay_cells h
    exact ⟨an, cn, ak, ck, by unfold cellsK; rw [e1, e2]⟩
theorem flatK_one (ks : List Ty) (ls : List Lay) (h : ∀ l ∈ ls, ∃ an ln cn ak lk ck, l.vn = .slice an ln cn ∧ l.vk = .slice ak lk ck) : ∀ u ∈ flatK ks ls, u.oneCell' = true := by
  induction ks generalizing ls with
  | nil => intro u hu; simp [flatK] at hu
  | cons q r ih =>
    cases ls with
    | nil => intro u hu; simp [flatK] at hu
    | cons l ls =>
      intro u hu
      rw [flatK, List.mem_append] at hu
      rcases hu with hu | hu
      · obtain ⟨an, ln, cn, ak, lk, ck, e1, e2⟩ := h l (by simp)
        unfold cellsK at hu
        rw [e1, e2] at hu
        simp only [List.mem_cons, List.not_mem_nil, or_false] at hu
        rcases hu with rfl | rfl | rfl | rfl <;> rfl
      · exact ih ls (fun x hx => h x (by simp [hx])) u hu

theorem owns_other {w1 : World} {B T e z n : Nat} {v u : Value} {c : Nat} {xs : List Value} (h : w1.ownsRow B e z v n xs) (hT : T < B) : (w1.setCell ⟨T, c, none⟩ u).ownsRow B e z v n xs := by
  refine ⟨h.1, ?_⟩
  rcases h.2 with h' | ⟨g, cap, cur, h1, h2, h3, h4⟩
  · exact .inl h'
  · exact .inr ⟨g, cap, cur, h1, h2, by rw [Below.heap_setCell _ _ _ _ (by show g ≠ T; omega)]; exact h3, h4⟩

/-- what comes behind is said once, whatever order came up -/
theorem till_kont {P : Program} {ops : Array Oper} {Q : Exit → Act → World → Prop} {md : Region.Mode} {S : World → Prop} {last k : Nat} {listed : Array Bool} {a0 : Act} {w : World} (d1 d2 d3 d4 d5 d6 : Nat) (F : Value → World → Prop)
    (kont : ∀ (v1 v2 v3 v4 v5 v6 : Value) (Y : World), F v5 Y → Q .normal ((((((a0.put (some d1) v1).put (some d2) v2).put (some d3) v3).put (some d4) v4).put (some d5) v5).put (some d6) v6) Y)
    (main : Hid (∀ (v1 v2 v3 v4 v5 v6 : Value) (Y : World), F v5 Y → Q .normal ((((((a0.put (some d1) v1).put (some d2) v2).put (some d3) v3).put (some d4) v4).put (some d5) v5).put (some d6) v6) Y) → wpTill P md ops Q S last k listed a0 w) : wpTill P md ops Q S last k listed a0 w := main kont
theorem act_eq {Q : Exit → Act → World → Prop} {a b : Act} {w : World} (h : Q .normal a w) (e : a = b) : Q .normal b w := e ▸ h

theorem all_ins {α β : Type} (P : α → β → Prop) (ls : List α) (qs : List β) (l : α) (q : β) (a : Nat) (hl : ls.length = qs.length) (ha : a ≤ qs.length) (h : ∀ j (h1 : j < ls.length) (h2 : j < qs.length), P ls[j] qs[j]) (hn : P l q) :
    ∀ j (h1 : j < (ls.take a ++ [l] ++ ls.drop a).length) (h2 : j < (qs.take a ++ [q] ++ qs.drop a).length), P (ls.take a ++ [l] ++ ls.drop a)[j] (qs.take a ++ [q] ++ qs.drop a)[j] := by
  intro j h1 h2
  have hm1 : (ls.take a).length = a := by rw [List.length_take]; omega
  have hm2 : (qs.take a).length = a := by rw [List.length_take]; omega
  have g1 : (ls.take a ++ [l] ++ ls.drop a)[j]? = if j < a then ls[j]? else if j = a then some l else ls[j - 1]? := by
    rw [List.append_assoc]
    by_cases c : j < a
    · rw [if_pos c, List.getElem?_append_left (by omega), List.getElem?_take_of_lt c]
    · rw [if_neg c, List.getElem?_append_right (by omega), hm1]
      by_cases c2 : j = a
      · subst c2; simp
      · rw [if_neg c2, List.getElem?_append_right (by simp; omega), List.getElem?_drop, List.length_singleton, show a + (j - a - 1) = j - 1 from by omega]
  have g2 : (qs.take a ++ [q] ++ qs.drop a)[j]? = if j < a then qs[j]? else if j = a then some q else qs[j - 1]? := by
    rw [List.append_assoc]
    by_cases c : j < a
    · rw [if_pos c, List.getElem?_append_left (by omega), List.getElem?_take_of_lt c]
    · rw [if_neg c, List.getElem?_append_right (by omega), hm2]
      by_cases c2 : j = a
      · subst c2; simp
      · rw [if_neg c2, List.getElem?_append_right (by simp; omega), List.getElem?_drop, List.length_singleton, show a + (j - a - 1) = j - 1 from by omega]
  rw [List.getElem?_eq_getElem h1] at g1
  rw [List.getElem?_eq_getElem h2] at g2
  simp only [List.length_append, List.length_take, List.length_singleton, List.length_drop] at h1 h2
  by_cases c : j < a
  · rw [if_pos c, List.getElem?_eq_getElem (by omega), Option.some.injEq] at g1 g2
    rw [g1, g2]
    exact h j (by omega) (by omega)
  · rw [if_neg c] at g1 g2
    by_cases c2 : j = a
    · rw [if_pos c2, Option.some.injEq] at g1 g2
      rw [g1, g2]
      exact hn
    · rw [if_neg c2, List.getElem?_eq_getElem (by omega), Option.some.injEq] at g1 g2
      rw [g1, g2]
      exact h (j - 1) (by omega) (by omega)
theorem perm_ins {qs : List Nat} {k : Nat} (h : qs.Perm (List.range k)) (a : Nat) : (qs.take a ++ [k] ++ qs.drop a).Perm (List.range (k + 1)) := by
  rw [List.range_succ, List.append_assoc, List.singleton_append]
  refine List.perm_middle.trans ?_
  rw [List.take_append_drop]
  exact (h.cons k).trans (List.perm_append_singleton k _).symm
theorem strV_ins (f : Nat → ByteArray) (qs : List Nat) (a k : Nat) : (strV (qs.map f)).take a ++ [.string (f k)] ++ (strV (qs.map f)).drop a = strV ((qs.take a ++ [k] ++ qs.drop a).map f) := by
  simp [strV, List.map_take, List.map_drop]
theorem flatK_appQ (k1 k2 : List Ty) (l1 l2 : List Lay) (h : k1.length = l1.length) : flatK (k1 ++ k2) (l1 ++ l2) = flatK k1 l1 ++ flatK k2 l2 := by
  induction k1 generalizing l1 with
  | nil => cases l1 with
    | nil => rfl
    | cons x r => simp at h
  | cons q r ih => cases l1 with
    | nil => simp at h
    | cons l t =>
      show cellsK q l ++ flatK (r ++ k2) (t ++ l2) = (cellsK q l ++ flatK r t) ++ flatK k2 l2
      rw [ih t (by simpa using h), List.append_assoc]
theorem flatK_ins (f : Nat → Ty) (qs : List Nat) (ls : List Lay) (l : Lay) (a k : Nat) (hl : ls.length = qs.length) (ha : a ≤ qs.length) : (flatK (qs.map f) ls).take (a * 4) ++ cellsK (f k) l ++ (flatK (qs.map f) ls).drop (a * 4) = flatK ((qs.take a ++ [k] ++ qs.drop a).map f) (ls.take a ++ [l] ++ ls.drop a) := by
  have e : flatK (qs.map f) ls = flatK ((qs.take a).map f) (ls.take a) ++ flatK ((qs.drop a).map f) (ls.drop a) := by
    rw [← flatK_appQ _ _ _ _ (by simp; omega), ← List.map_append, List.take_append_drop, List.take_append_drop]
  have el : (flatK ((qs.take a).map f) (ls.take a)).length = a * 4 := by
    rw [flatK_len _ _ (by simp; omega)]
    simp; omega
  rw [e, List.take_left' el, List.drop_left' el, List.map_append, List.map_append, flatK_appQ _ _ _ _ (by simp; omega), flatK_appQ _ _ _ _ (by simp; omega)]
  simp [flatK]
theorem ins_get {β : Type} (qs : List β) (q : β) (a j : Nat) (ha : a ≤ qs.length) : (qs.take a ++ [q] ++ qs.drop a)[j]? = if j < a then qs[j]? else if j = a then some q else qs[j - 1]? := by
  have hm2 : (qs.take a).length = a := by rw [List.length_take]; omega
  rw [List.append_assoc]
  by_cases c : j < a
  · rw [if_pos c, List.getElem?_append_left (by omega), List.getElem?_take_of_lt c]
  · rw [if_neg c, List.getElem?_append_right (by omega), hm2]
    by_cases c2 : j = a
    · subst c2; simp
    · rw [if_neg c2, List.getElem?_append_right (by simp; omega), List.getElem?_drop, List.length_singleton, show a + (j - a - 1) = j - 1 from by omega]
theorem ord_ins {nms : List ByteArray} {qs : List Nat} {k a : Nat} (ho : InOrder nms qs) (ha : a ≤ qs.length) (h1 : ∀ j (h : j < qs.length), j < a → lessB (nameAt nms qs[j]) (nameAt nms k)) (h2 : ∀ j (h : j < qs.length), a ≤ j → ¬ lessB (nameAt nms qs[j]) (nameAt nms k)) : InOrder nms (qs.take a ++ [k] ++ qs.drop a) := by
  intro i j hij hj
  have gi := ins_get qs k a i ha
  have gj := ins_get qs k a j ha
  rw [List.getElem?_eq_getElem hj] at gj
  rw [List.getElem?_eq_getElem (by omega)] at gi
  have hj' := hj
  simp only [List.length_append, List.length_take, List.length_singleton, List.length_drop] at hj'
  by_cases c : j < a
  · rw [if_pos c, List.getElem?_eq_getElem (by omega), Option.some.injEq] at gj
    rw [if_pos (by omega), List.getElem?_eq_getElem (by omega), Option.some.injEq] at gi
    rw [gi, gj]
    exact ho i j hij (by omega)
  · rw [if_neg c] at gj
    by_cases c2 : j = a
    · rw [if_pos c2, Option.some.injEq] at gj
      rw [if_pos (by omega), List.getElem?_eq_getElem (by omega), Option.some.injEq] at gi
      rw [gi, gj]
      exact fun q => less_irrefl _ (less_trans q (h1 i (by omega) (by omega)))
    · rw [if_neg c2, List.getElem?_eq_getElem (by omega), Option.some.injEq] at gj
      by_cases d : i < a
      · rw [if_pos d, List.getElem?_eq_getElem (by omega), Option.some.injEq] at gi
        rw [gi, gj]
        exact ho i (j - 1) (by omega) (by omega)
      · rw [if_neg d] at gi
        by_cases d2 : i = a
        · rw [if_pos d2, Option.some.injEq] at gi
          rw [gi, gj]
          exact h2 (j - 1) (by omega) (by omega)
        · rw [if_neg d2, List.getElem?_eq_getElem (by omega), Option.some.injEq] at gi
          rw [gi, gj]
          exact ho (i - 1) (j - 1) (by omega) (by omega)
theorem RecM.ins {W1 U F : World} {T n k a : Nat} {nms : List ByteArray} {ks : List Ty} {qs : List Nat} {ls : List Lay} {vN vK vN' vK' : Value} {l : Lay} (h : RecM W1 U T n nms ks k qs vN vK ls) (ha : a ≤ k)
    (hbox : F.heap[T]? = some (.cells #[.int .i64 5, .string ⟨#[]⟩, vN', vK'] 28 (0, 0)))
    (hn : F.ownsRow W1.heap.size 9 1 vN' (k + 1) ((strV (qs.map (nameAt nms))).take a ++ [.string (nameAt nms k)] ++ (strV (qs.map (nameAt nms))).drop a))
    (hk : F.ownsRow W1.heap.size 28 4 vK' (k + 1) ((flatK (qs.map (kidAt ks)) ls).take (a * 4) ++ cellsK (kidAt ks k) l ++ (flatK (qs.map (kidAt ks)) ls).drop (a * 4)))
    (hl : LayAt F n l (kidAt ks k)) (hlb : ∀ b ∈ Lay.blocks n l, W1.heap.size ≤ b) (ho : OnlyL [T] U F)
    (h1 : ∀ j (h : j < qs.length), j < a → lessB (nameAt nms qs[j]) (nameAt nms k)) (h2 : ∀ j (h : j < qs.length), a ≤ j → ¬ lessB (nameAt nms qs[j]) (nameAt nms k)) :
    RecM W1 F T n nms ks (k + 1) (qs.take a ++ [k] ++ qs.drop a) vN' vK' (ls.take a ++ [l] ++ ls.drop a) := by
  obtain ⟨hl1, hl2⟩ := h.len
  refine ⟨hbox, ?_, ?_, ⟨by simp; omega, by simp; omega⟩, ?_, h.only.trans ho, h.lt, perm_ins h.perm a, ord_ins h.ord (by omega) h1 h2, fun e => absurd e (by omega)⟩
  · rw [strV_ins] at hn; exact hn
  · rw [flatK_ins _ _ _ _ _ _ (by omega) (by omega)] at hk; exact hk
  · exact all_ins (fun l q => LayAt F n l (kidAt ks q) ∧ ∀ b ∈ Lay.blocks n l, W1.heap.size ≤ b) ls qs l k a (by omega) (by omega) (fun j g1 g2 => ⟨(h.lay j g1 g2).1.same fun b hb => ho.block b ((h.lay j g1 g2).1.lt hb) (fun hm => by have := (h.lay j g1 g2).2 b hb; simp only [List.mem_singleton] at hm; have := h.lt; omega), (h.lay j g1 g2).2⟩) ⟨hl, hlb⟩

end Go.Proofs.YthomlchbgcjcfaaGreatDoor

namespace Go.Proofs.YthomlchbgcjcfaaGreatDoor
open Go.RowKit

theorem plainLayS {B : Nat} {w : World} {n : Nat} : LayAt w (n + 1) (.mk (.slice none 0 0) (.slice none 0 0) []) (.mk 0 ⟨#[]⟩ [] []) ∧ ∀ b ∈ Lay.blocks (n + 1) (.mk (.slice none 0 0) (.slice none 0 0) []), B ≤ b := by
  have h : NewLay B w (n + 1) (.mk (.slice none 0 0) (.slice none 0 0) []) (.mk 0 ⟨#[]⟩ [] []) := plainLay
  exact ⟨h.1, h.2.2⟩
theorem ret_recS {R : Ending → World → Prop} {W : World} {tmps : Array Value} {b : Nat} {x0 x1 x2 x3 : Value} {ok : Bool} (hp : tmps[4]?.getD undef = .pointer (some ⟨b, 0, none⟩)) (hq : tmps[5]?.getD undef = .bool ok)
    (h : W.cell? ⟨b, 0, none⟩ = some x0 ∧ W.cell? ⟨b, 1, none⟩ = some x1 ∧ W.cell? ⟨b, 2, none⟩ = some x2 ∧ W.cell? ⟨b, 3, none⟩ = some x3) (hR : R (.returned (.tuple #[.agg #[x0, x1, x2, x3], .bool ok])) W) :
    bodyPost Tryz.prog Tryz.f42 R .ret { tmps := tmps, defers := [] } W := by
  obtain ⟨h0, h1, h2, h3⟩ := h
  refine bodyPost_ret (v := .tuple #[.agg #[x0, x1, x2, x3], .bool ok]) ?_ rfl hR
  simp [results, Tryz.results42, go_sem, hp, hq, h0, h1, h2, h3]

set_option maxHeartbeats 1600000 in
set_option maxRecDepth 100000 in
theorem specRecNe (n : Nat) (an ak : Option Addr) (cn ck : Nat) (nms : List ByteArray) (ks : List Ty) (w : World) (hne : ¬ nms.length = ks.length) :
    Calls Tryz.prog 42 #[.slice an nms.length cn, .slice ak ks.length ck] w fun e w' => ∃ (l : Lay) (t : Ty) (ok : Bool), e = .returned (.tuple #[.agg (cellsK t l).toArray, .bool ok]) ∧ RecAns n nms ks t ok ∧ (LayAt w' (n + 1) l t ∧ ∀ b ∈ Lay.blocks (n + 1) l, w.heap.size ≤ b) ∧ Below w.heap.size w w' ∧ (t.kids = [] → l.vk = .slice none 0 0) := by
  have hneB : ((nms.length : Int) != (ks.length : Int)) = true := by rw [bne_iff_ne]; omega
  have HA : Hid (RecAns n nms ks (.mk 0 ⟨#[]⟩ [] []) false) := .inr ⟨rfl, rfl, fun h => absurd h hne⟩
  have hBW1 : Below w.heap.size w ((w.alloc (.cells #[.int .i64 0, .string ⟨#[]⟩, .slice none 0 0, .slice none 0 0] 28)).alloc (.cells #[.int .i64 5, .string ⟨#[]⟩, .slice none 0 0, .slice none 0 0] 28)) := ((Below.refl _ _).alloc (Nat.le_refl _) _).alloc (by simp) _
  obtain ⟨⟨r0, r1, r2, r3⟩, rf⟩ := block4 (heap_first w (.cells #[.int .i64 0, .string ⟨#[]⟩, .slice none 0 0, .slice none 0 0] 28) (.cells #[.int .i64 5, .string ⟨#[]⟩, .slice none 0 0, .slice none 0 0] 28))
  have rf0 := rf 0
  have rf1 := rf 1
  have rf2 := rf 2
  have rf3 := rf 3
  clear hne rf
  go_enter Tryz.func42, Tryz.ntmps42
  go_wp2_with fail
  exact ret_recS rfl rfl ⟨r0, r1, r2, r3⟩ ⟨.mk (.slice none 0 0) (.slice none 0 0) [], .mk 0 ⟨#[]⟩ [] [], false, rfl, HA.out, plainLayS, hBW1, fun _ => rfl⟩

theorem own_blk {w : World} {B e z n : Nat} {v : Value} {xs : List Value} (h : w.ownsRow B e z v n xs) : ∀ b ∈ blk v, B ≤ b := by
  intro b hb
  rcases h.2 with ⟨e, _⟩ | ⟨g, cap, cur, e, hg, _⟩
  · rw [e] at hb; simp [blk] at hb
  · rw [e] at hb
    cases n with
    | zero => simp [blk] at hb
    | succ n => rw [mem_blk (by omega)] at hb; rw [hb]; exact hg
theorem RecM.blocks {W1 wr : World} {T n i : Nat} {nms : List ByteArray} {ks : List Ty} {qs : List Nat} {vN vK : Value} {ls : List Lay} (h : RecM W1 wr T n nms ks i qs vN vK ls) : ∀ b ∈ Lay.blocks (n + 1) (.mk vN vK ls), W1.heap.size ≤ b := by
  intro b hb
  have hb' : b ∈ blk vN ++ (blk vK ++ ls.flatMap (Lay.blocks n)) := hb
  rw [List.mem_append, List.mem_append, List.mem_flatMap] at hb'
  rcases hb' with hb | hb | ⟨l, hl, hb⟩
  · exact own_blk h.names b hb
  · exact own_blk h.kids b hb
  · obtain ⟨j, hj, rfl⟩ := List.getElem_of_mem hl
    exact (h.lay j hj (by have := h.len; omega)).2 b hb
theorem recOf_sized {n : Nat} {nms : List ByteArray} {ks : List Ty} {ps : List Nat} (p1 : ps.Perm (List.range nms.length)) (hl : nms.length = ks.length) (hn : nms.length ≤ 1048576) (hs : ∀ x ∈ nms, x.size ≤ 1048576) (hk : ∀ q ∈ ks, Ty.sized n q) : Ty.sized (n + 1) (recOf nms ks ps) := by
  have h1 := (names_perm p1)
  have p2 : ps.Perm (List.range ks.length) := by rw [← hl]; exact p1
  have h2 := (kids_perm p2)
  refine ⟨⟨by show (-9223372036854775808 : Int) ≤ 5; omega, by show (5 : Int) ≤ 9223372036854775807; omega⟩, by show (0 : Nat) ≤ _; omega, ⟨?_, fun x hx => ?_⟩, ?_, fun k hkk => ?_⟩
  · show (ps.map (nameAt nms)).length ≤ maxLen
    rw [h1.length_eq]; unfold maxLen; omega
  · have := hs x (h1.mem_iff.1 hx)
    unfold maxLen; omega
  · show (ps.map (kidAt ks)).length ≤ maxLen
    rw [h2.length_eq, ← hl]; unfold maxLen; omega
  · exact hk k (h2.mem_iff.1 hkk)

end Go.Proofs.YthomlchbgcjcfaaGreatDoor
