/-
  An append onto a row of the call's own, as one step of a region that draws.
  The walks of slices.Clone at texts, and of impl.copyTexts.
-/
import Derived.Test.YtpaamlniicipbaaDoorTextsT
import Derived.Deep.RegionLaw
import Derived.Sort.Walk0
import Derived.MapKept
import Derived.Test.YtpaamlniicipbaaDoorCloneLib
import Derived.Test.YtpaamlniicipbaaDoorLayD
namespace Go.Proofs.YtpaamlniicipbaaDoor
open Go.RowKit

/-- an append onto a row of the call's own, as one step of a region that draws -/
theorem step_append_own {P : Program} {ops : Array Oper} {o : Oper} {a : Act} {w : World} {K : Act → World → Prop} {Q : Exit → Act → World → Prop} {E : Prop}
    (hg : o.guard = none) (s x : Operand) (t : TypeId) (hop : o.op = Op.call { callee := Callee.builtin Builtin.append, args := #[s, x], argTypes := #[t, t] })
    (base : Nat) (e : TypeId) (i : TypeInfo) (z : Value) (size bytes : Nat) (h1 : P.underlying t = some (.slice e)) (h2 : P.info? e = some i) (h3 : i.zero = some z) (h4 : i.size = size) (h5 : i.bytes = bytes) (h6 : z.cells.size = size) (h7 : 0 < size)
    (v : Value) (n : Nat) (xs : List Value) (hs : a.eval s = v) (hown : w.ownsRow base e size v n xs)
    (ad : Addr) (m c : Nat) (news : List Value) (hx : a.eval x = .slice (some ad) m c) (hn : news.length = m * size) (hc : ∀ j u, news[j]? = some u → w.cell? (ad.add j) = some u) (h1c : ∀ u ∈ news, u.oneCell' = true)
    (b1 : n + m ≤ maxLen) (b2 : (n + m) * bytes ≤ 140737488355328) (b3 : base ≤ w.heap.size)
    (hK : ∀ v' w', w'.ownsRow base e size v' (n + m) (xs ++ news) → w.grownBy w' v.ownBlock → (v' = .slice none 0 0 ↔ v = .slice none 0 0 ∧ m = 0) → K (a.put o.dst v') w') :
    if Region.wanted o (yielded ops a.tmps) = true then Oper.wp P o a w K Q else E := by
  have hw : Region.wanted o (yielded ops a.tmps) = true := by simp [Region.wanted, hg]
  rw [if_pos hw]
  obtain ⟨v', w', hrun, r1, r2, r3⟩ := run_append_own (P := P) w base t o.type e i z size bytes h1 h2 h3 h4 h5 h6 h7 v n xs hown ad m c news hn hc h1c b1 b2 b3
  unfold Oper.wp
  simp [execOp, hop, resolve, invoke, builtin, hs, hx, hrun, Result.andThen]
  exact hK v' w' r1 r2 r3

theorem own_empty {X : World} {B G : Nat} {e : TypeId} (h : X.heap[G]? = some (.cells #[] e (0, 0))) (hB : B ≤ G) : X.ownsRow B e 1 (.slice (some ⟨G, 0, none⟩) 0 0) 0 [] := ⟨rfl, .inr ⟨G, 0, #[], rfl, hB, h, Nat.le_refl _, Nat.zero_le _, rfl, rfl⟩⟩
theorem heap_first (w : World) (A B : Obj) : ((w.alloc A).alloc B).heap[w.heap.size]? = some A := ((MapKept.heap_alloc (w.alloc A) B).2 _ (by simp)).trans (MapKept.heap_alloc w A).1
theorem heap_second (w : World) (A B : Obj) : ((w.alloc A).alloc B).heap[w.heap.size + 1]? = some B := by
  have := (MapKept.heap_alloc (w.alloc A) B).1
  simpa using this
theorem own_grown {B : Nat} {w X w1 : World} {e z n : Nat} {v : Value} {xs : List Value} (hX : Below B w X) (hB : B ≤ X.heap.size) (ho : X.ownsRow B e z v n xs) (hg : X.grownBy w1 v.ownBlock) : Below B w w1 ∧ B ≤ w1.heap.size := ⟨hX.grown hg hB (fun j hj => (ho.lt j hj).1), Nat.le_trans hB hg.size⟩
theorem one_cell {X : World} {G : Nat} {s : ByteArray} (h : X.cell? ⟨G, 0, none⟩ = some (.string s)) : ∀ j u, [Value.string s][j]? = some u → X.cell? ((⟨G, 0, none⟩ : Addr).add j) = some u := by
  intro j u hj
  match j, hj with
  | 0, hj => simp at hj; subst hj; simpa [Addr.add] using h
  | j + 1, hj => simp at hj
theorem strV_one (l : List ByteArray) : ∀ u ∈ strV l, u.oneCell' = true := by
  intro u hu
  obtain ⟨x, _, rfl⟩ := List.mem_map.1 hu
  rfl

end Go.Proofs.YtpaamlniicipbaaDoor

namespace Go.Proofs.YtpaamlniicipbaaDoor
open Go.RowKit

set_option maxHeartbeats 800000 in
set_option maxRecDepth 100000 in
theorem slClone (v : Value) (ts : List ByteArray) (w : World) (hT : Texts w v ts) (hl : ts.length ≤ 1048577) :
    Calls Tryd.prog 70 #[v] w fun e w' => ∃ (a : Option Addr) (c : Nat), e = .returned (.slice a ts.length c) ∧ w'.ownsRow w.heap.size 9 1 (.slice a ts.length c) ts.length (strV ts) ∧ Below w.heap.size w w' := by
  obtain ⟨i0, hi0, hz0, hz1, hz2⟩ := info_parts Tryd.infoString
  obtain ⟨a, cap, rfl, hc⟩ := textsOpen hT
  clear hT
  cases a with
  | none =>
    have h0 : ts.length = 0 := by
      cases hh : ts.length with
      | zero => rfl
      | succ m => obtain ⟨b, off, e, _⟩ := hc 0 (by omega); cases e
    have ht : ts = [] := List.length_eq_zero_iff.1 h0
    subst ht
    clear hc hl h0
    have hq : ∀ w : World, Sem.run Tryd.prog (binOp BinOp.eql 29 (.slice none 0 cap) (.slice none 0 0)) w = .ok (.bool true) w := fun w => by kernel_rfl
    go_enter Tryd.func70, Tryd.ntmps70
    go_wp2
    go_ret
    exact ⟨none, 0, rfl, World.ownsRow_nil _ _ _ _, Below.refl _ _⟩
  | some ad =>
    have HC : Hid (∀ X : World, Below w.heap.size w X → ∀ j u, (strV ts)[j]? = some u → X.cell? (ad.add j) = some u) := fun X hX j u hu => by
      have hj : j < ts.length := by
        have := (List.getElem?_eq_some_iff.1 hu).1
        rwa [strV_length] at this
      obtain ⟨b, off, e, h⟩ := hc j hj
      simp only [Option.some.injEq] at e
      subst e
      rw [strV_get ts j hj] at hu
      rw [← hu, ← h, Addr.add_lit]
      exact hX.cell (p := ⟨b, off + j, none⟩) (World.block_lt_of_cell? w ⟨b, off + j, none⟩ h)
    have hB1 : Below w.heap.size w (w.alloc (.cells #[] 9)) := (Below.refl _ _).alloc (Nat.le_refl _) _
    have hE : (w.alloc (.cells #[] 9)).ownsRow w.heap.size 9 1 (.slice (some ⟨w.heap.size, 0, none⟩) 0 0) 0 [] := own_empty (MapKept.heap_alloc w _).1 (Nat.le_refl _)
    clear hc
    have hq : ∀ w : World, Sem.run Tryd.prog (binOp BinOp.eql 29 (.slice (some ad) ts.length cap) (.slice none 0 0)) w = .ok (.bool false) w := fun w => by kernel_rfl
    go_enter Tryd.func70, Tryd.ntmps70
    go_wp2_with (at_builtin; refine wpList_append_own _ rfl _ _ 29 rfl w.heap.size 9 i0 (.string ⟨#[]⟩) 1 16 Tryd.underlying29 hi0 hz0 hz1 hz2 rfl (by decide) _ _ _ rfl hE ad ts.length cap (strV ts) rfl (by rw [strV_length]; omega) (HC.out _ hB1) (strV_one ts) ?c3 ?c4 ?c5 ?_)
    case c3 => unfold maxLen; omega
    case c4 => omega
    case c5 => simp
    intro v' w3 hown' hgrow _
    have R1 : w3.ownsRow w.heap.size 9 1 v' ts.length (strV ts) := by simpa using hown'
    have R2 : Below w.heap.size w w3 := hB1.grown hgrow (by simp) (fun j hj => by simp [Value.ownBlock] at hj; omega)
    obtain ⟨a', c', hv⟩ := slice_ownM R1
    subst hv
    have HO : Hid (type_of% R1) := R1
    clear hown' hgrow R1 HC hE hB1
    go_wp2_with fail
    go_ret
    exact ⟨a', c', rfl, HO.out, R2⟩

theorem strV_set (ts : List ByteArray) (k : Nat) (h : k < ts.length) : (strV ts).set k (.string ts[k]) = strV ts := by
  apply List.ext_getElem?
  intro i
  by_cases c : k = i
  · subst c
    rw [List.getElem?_set_self (by rw [strV_length]; exact h), strV_get ts k h]
  · rw [List.getElem?_set_ne c]

set_option maxHeartbeats 800000 in
set_option maxRecDepth 100000 in
theorem implCopyTexts (v : Value) (ts : List ByteArray) (w : World) (hT : Texts w v ts) (hl : ts.length ≤ 1048577) (hs : ∀ x ∈ ts, x.size ≤ 1048576) :
    Calls Tryd.prog 63 #[v] w fun e w' => ∃ (a : Option Addr) (c : Nat), e = .returned (.slice a ts.length c) ∧ w'.ownsRow w.heap.size 9 1 (.slice a ts.length c) ts.length (strV ts) ∧ Below w.heap.size w w' := by
  have HCL := slClone v ts w hT hl
  obtain ⟨av, cv, rfl, _⟩ := textsOpen hT
  have HC : Hid (type_of% HCL) := HCL
  have HSZ : Hid (type_of% hs) := hs
  clear HCL hT hs
  go_enter Tryd.func63, Tryd.ntmps63
  go_wp2_with fail
  refine HC.out.mono ?_
  rintro e w1 ⟨a, c, rfl, ho1, hb1⟩
  clear HC
  go_wp2_with fail
  go_loopw [10] (fun i wr => ∃ k : Nat, k ≤ ts.length ∧ i = .int .i64 k ∧ wr.ownsRow w.heap.size 9 1 (.slice a ts.length c) ts.length (strV ts) ∧ Below w.heap.size w wr) (fun i _ => ts.length - (intOf i).toNat)
  case atStart => exact ⟨0, Nat.zero_le _, rfl, ho1, hb1⟩
  case round =>
    obtain ⟨k, hk, rfl, ho, hbe⟩ := hrel
    clear ho1 hb1
    have hz : w.heap.size ≤ wr.heap.size := hbe.size
    by_cases hlt : k < ts.length
    · obtain ⟨g, rfl, hgl, hgr⟩ : ∃ g, a = some ⟨g, 0, none⟩ ∧ w.heap.size ≤ g ∧ g < wr.heap.size := by
        rcases ho.2 with ⟨_, h0⟩ | ⟨g, cap, cur, hv, hg, hh, _⟩
        · omega
        · simp only [Value.slice.injEq, true_and] at hv
          exact ⟨g, hv.1, hg, (Array.getElem?_eq_some_iff.1 hh).1⟩
      have C1 : wr.cell? ⟨g, k, none⟩ = some (.string ts[k]) := by rw [ho.cellAt k (by omega), strV_get ts k hlt]
      have HS : Hid ((strV ts).set k (.string ts[k]) = strV ts) := strV_set ts k hlt
      have HCc : Hid (∀ wx : World, Calls Tryd.prog 62 #[.string ts[k]] wx fun e w' => e = .returned (.string ts[k]) ∧ Below wx.heap.size wx w') := fun wx => stringsClone ts[k] wx (by have := HSZ.out _ (List.getElem_mem hlt); omega)
      clear HSZ
      generalize ts[k] = x at *
      go_wp2_with fail
      refine (HCc.out _).mono ?_
      rintro e w2 ⟨rfl, hb2⟩
      have ho2 := kept_belowT ho hb2
      have C2 := (hb2.cell (p := ⟨g, k, none⟩) hgr).trans C1
      have F2 := ho2.frozenAt k
      obtain ⟨R1, _⟩ := ho2.stored k (.string x)
      rw [HS.out] at R1
      have R2 : Below w.heap.size w (w2.setCell ⟨g, k, none⟩ (.string x)) := (hbe.trans (hb2.mono hz)).setCell hgl _
      clear ho ho2 C1 HCc hb2
      go_wp2_with fail
      go_roundw
      case rel => exact ⟨k + 1, by omega, by go_num, R1, R2⟩
      case measure => simp [intOf]; omega
    · have HO : Hid (type_of% ho) := ho
      clear ho
      go_wp2_with fail
      go_ret
      exact ⟨a, c, rfl, HO.out, hbe⟩

end Go.Proofs.YtpaamlniicipbaaDoor
