/-
  The walks of slices.Clone at types, and of impl's copyKids.
  What holds while a copy is made list by list.
  One type of a list, as it is told by the source; copyKids at no kids.
  The walk of impl.copyOf.
-/
import Derived.Test.YtjihkebafoajdaaGreatDoorRegS
import Derived.Test.YtjihkebafoajdaaGreatDoorCopyT
import Derived.Deep.AppendLies
import Derived.Test.YtjihkebafoajdaaGreatDoorTypeD
namespace Go.Proofs.YtjihkebafoajdaaGreatDoor
open Go.RowKit

theorem Tryz.infoTypeP : (Tryz.prog.info? 27).map (fun i => (i.zero, i.size, i.bytes)) = some (some (.agg #[.int .i64 0, .string ⟨#[]⟩, .slice none 0 0, .slice none 0 0]), 4, 72) := by kernel_rfl
theorem Tryz.infoTypesP : (Tryz.prog.info? 25).map (fun i => (i.zero, i.size, i.bytes)) = some (some (.slice none 0 0), 1, 24) := by kernel_rfl
theorem own_emptyP {X : World} {B G : Nat} {e : TypeId} (h : X.heap[G]? = some (.cells #[] e (0, 0))) (hB : B ≤ G) : X.ownsRow B e 4 (.slice (some ⟨G, 0, none⟩) 0 0) 0 [] := ⟨rfl, .inr ⟨G, 0, #[], rfl, hB, h, Nat.le_refl _, Nat.zero_le _, rfl, rfl⟩⟩

set_option maxHeartbeats 800000 in
set_option maxRecDepth 100000 in
theorem slCloneT (a : Option Addr) (m cap : Nat) (xs : List Value) (w : World) (hx : xs.length = m * 4) (hone : ∀ u ∈ xs, u.oneCell' = true) (hm : m ≤ 1048576) (hc : 0 < m → ∃ b off, a = some ⟨b, off, none⟩ ∧ ∀ j u, xs[j]? = some u → w.cell? ⟨b, off + j, none⟩ = some u) :
    Calls Tryz.prog 75 #[.slice a m cap] w fun e w' => ∃ (a' : Option Addr) (c' : Nat), e = .returned (.slice a' m c') ∧ w'.ownsRow w.heap.size 27 4 (.slice a' m c') m xs ∧ Below w.heap.size w w' := by
  obtain ⟨i0, hi0, hz0, hz1, hz2⟩ := info_parts Tryz.infoTypeP
  cases a with
  | none =>
    have h0 : m = 0 := by
      cases m with
      | zero => rfl
      | succ m => obtain ⟨b, off, e, _⟩ := hc (by omega); cases e
    subst h0
    have ht : xs = [] := List.length_eq_zero_iff.1 (by omega)
    subst ht
    clear hc hone hx hm
    have hq : ∀ w : World, Sem.run Tryz.prog (binOp BinOp.eql 25 (.slice none 0 cap) (.slice none 0 0)) w = .ok (.bool true) w := fun w => by kernel_rfl
    go_enter Tryz.func75, Tryz.ntmps75
    go_wp2
    go_ret
    exact ⟨none, 0, rfl, World.ownsRow_nil _ _ _ _, Below.refl _ _⟩
  | some ad =>
    have HC : Hid (∀ X : World, Below w.heap.size w X → ∀ j u, xs[j]? = some u → X.cell? (ad.add j) = some u) := fun X hX j u hu => by
      have hj := (List.getElem?_eq_some_iff.1 hu).1
      obtain ⟨b, off, e, h⟩ := hc (by omega)
      simp only [Option.some.injEq] at e
      subst e
      rw [Addr.add_lit]
      have := h j u hu
      exact (hX.cell (p := ⟨b, off + j, none⟩) (World.block_lt_of_cell? w ⟨b, off + j, none⟩ this)).trans this
    have hB1 : Below w.heap.size w (w.alloc (.cells #[] 27)) := (Below.refl _ _).alloc (Nat.le_refl _) _
    have hE : (w.alloc (.cells #[] 27)).ownsRow w.heap.size 27 4 (.slice (some ⟨w.heap.size, 0, none⟩) 0 0) 0 [] := own_emptyP (MapKept.heap_alloc w _).1 (Nat.le_refl _)
    clear hc
    have hq : ∀ w : World, Sem.run Tryz.prog (binOp BinOp.eql 25 (.slice (some ad) m cap) (.slice none 0 0)) w = .ok (.bool false) w := fun w => by kernel_rfl
    go_enter Tryz.func75, Tryz.ntmps75
    go_wp2_with (at_builtin; refine wpList_append_own _ rfl _ _ 25 rfl w.heap.size 27 i0 _ 4 72 Tryz.underlying25 hi0 hz0 hz1 hz2 rfl (by decide) _ _ _ rfl hE ad m cap xs rfl hx (HC.out _ hB1) hone ?c3 ?c4 ?c5 ?_)
    case c3 => unfold maxLen; omega
    case c4 => omega
    case c5 => simp
    intro v' w3 hown' hgrow _
    have R1 : w3.ownsRow w.heap.size 27 4 v' m xs := by simpa using hown'
    have R2 : Below w.heap.size w w3 := hB1.grown hgrow (by simp) (fun j hj => by simp [Value.ownBlock] at hj; omega)
    obtain ⟨a', c', hv⟩ := slice_ownM R1
    subst hv
    have HO : Hid (type_of% R1) := R1
    clear hown' hgrow R1 HC hE hB1
    go_wp2_with fail
    go_ret
    exact ⟨a', c', rfl, HO.out, R2⟩

theorem step_openK {P : Program} {ops : Array Oper} {o : Oper} {a : Act} {w : World} {K : Act → World → Prop} {Q : Exit → Act → World → Prop} {E : Prop} (hg : o.guard = none) (h : Oper.wp P o a w K Q) : if Region.wanted o (yielded ops a.tmps) = true then Oper.wp P o a w K Q else E := by
  have hw : Region.wanted o (yielded ops a.tmps) = true := by simp [Region.wanted, hg]
  rw [if_pos hw]
  exact h
theorem OnlyL.grownK {w w' : World} {o : Option Nat} (h : w.grownBy w' o) : OnlyL o.toList w w' := ⟨h.os, h.tape, h.output, h.size, fun b hb ho => h.block b hb fun e => ho (by rw [← e]; simp)⟩
theorem own_keep {w w' : World} {B B' e z n : Nat} {v : Value} {xs : List Value} (h : w.ownsRow B e z v n xs) (hB : B' ≤ B) (hs : ∀ x cur, v.ownBlock = some x → w.heap[x]? = some (.cells cur e (0, 0)) → w'.heap[x]? = w.heap[x]?) : w'.ownsRow B' e z v n xs := by
  refine ⟨h.1, ?_⟩
  rcases h.2 with h' | ⟨g, cap, cur, h1, h2, h3, h4⟩
  · exact .inl h'
  · exact .inr ⟨g, cap, cur, h1, Nat.le_trans hB h2, by rw [hs g cur (by rw [h1]; rfl) h3]; exact h3, h4⟩
theorem own_obj {w : World} {B e z n x : Nat} {v : Value} {xs : List Value} (h : w.ownsRow B e z v n xs) (hx : v.ownBlock = some x) : B ≤ x ∧ ∃ cur, w.heap[x]? = some (.cells cur e (0, 0)) := by
  rcases h.2 with ⟨h', _⟩ | ⟨g, cap, cur, h1, h2, h3, h4⟩
  · rw [h'] at hx; cases hx
  · rw [h1] at hx
    simp only [Value.ownBlock, Option.some.injEq] at hx
    subst hx
    exact ⟨h2, cur, h3⟩
theorem block3K {W : World} {b : Nat} {x0 x1 x2 : Value} (h : W.heap[b]? = some (.cells #[x0, x1, x2] 97 (0, 0))) : (W.cell? ⟨b, 0, none⟩ = some x0 ∧ W.cell? ⟨b, 1, none⟩ = some x1 ∧ W.cell? ⟨b, 2, none⟩ = some x2) ∧ ∀ j, W.frozen? ⟨b, j, none⟩ = false := by
  refine ⟨⟨?_, ?_, ?_⟩, fun j => frozen_of_row W b j _ _ h⟩
  · rw [cell_of_row W b 0 _ _ (0, 0) h]; rfl
  · rw [cell_of_row W b 1 _ _ (0, 0) h]; rfl
  · rw [cell_of_row W b 2 _ _ (0, 0) h]; rfl
theorem one_cellK {X : World} {G : Nat} {v : Value} (h : X.cell? ⟨G, 0, none⟩ = some v) : ∀ j u, [v][j]? = some u → X.cell? ((⟨G, 0, none⟩ : Addr).add j) = some u := by
  intro j u hj
  match j, hj with
  | 0, hj => simp at hj; subst hj; simpa [Addr.add] using h
  | j + 1, hj => simp at hj
theorem KpPlaces.only {w w' : World} {M : Nat} {S : Addr → Prop} {bl : List Nat} (h : KpPlaces w M S) (ho : OnlyL bl w w') (hM : M ∉ bl) (hS : ∀ a, S a → a.block ∉ bl) : KpPlaces w' M S := by
  obtain ⟨es, clock, h1, hes⟩ := h
  exact ⟨es, clock, (ho.block M (Array.getElem?_eq_some_iff.1 h1).1 hM).trans h1, fun x hx => by obtain ⟨a, k, c, e, q1, q2, q3⟩ := hes x hx; exact ⟨a, k, c, e, q1, q2, (ho.block _ (Array.getElem?_eq_some_iff.1 q3).1 (hS a q2)).trans q3⟩⟩

set_option maxHeartbeats 3200000 in
set_option maxRecDepth 100000 in
theorem implCopyKids (B K M N b cap m : Nat) (vL : Value) (LS xs : List Value) (cnt : Int) (S : Addr → Prop) (w : World) (_hB : B ≤ w.heap.size) (hBK : B ≤ K) (hBM : B ≤ M)
    (hK : w.heap[K]? = some (.cells #[vL, .map (some M), .int .i64 cnt] 97 (0, 0))) (hL : w.ownsRow B 25 1 vL N LS) (hN : N ≤ 1048577)
    (hS : KpPlaces w M S) (hSB : ∀ a, S a → a.block < B) (hpS : ¬ S ⟨b, 0, none⟩) (hb : ∃ cur e, w.heap[b]? = some (.cells cur e (0, 0))) (hbB : b < B)
    (hx : xs.length = m * 4) (hone : ∀ u ∈ xs, u.oneCell' = true) (hm0 : 0 < m) (hm : m ≤ 1048576) (hc : ∀ j u, xs[j]? = some u → w.cell? ⟨b, j, none⟩ = some u) (hcnt : 0 ≤ cnt) (hcnt2 : cnt ≤ 1048576) :
    Calls Tryz.prog 59 #[.pointer (some ⟨K, 0, none⟩), .slice (some ⟨b, 0, none⟩) m cap] w fun e w' => ∃ (g c : Nat) (vL' : Value), e = .returned (.slice (some ⟨g, 0, none⟩) m c) ∧ w.heap.size ≤ g ∧ w'.ownsRow 0 27 4 (.slice (some ⟨g, 0, none⟩) m c) m xs ∧
      w'.heap[K]? = some (.cells #[vL', .map (some M), .int .i64 (cnt + m)] 97 (0, 0)) ∧ w'.ownsRow B 25 1 vL' (N + 1) (LS ++ [.slice (some ⟨g, 0, none⟩) m c]) ∧
      KpPlaces w' M (fun q => S q ∨ q = ⟨b, 0, none⟩) ∧ OnlyL (K :: M :: vL.ownBlock.toList) w w' := by
  obtain ⟨i0, hi0, hz0, hz1, hz2⟩ := info_parts Tryz.infoTypesP
  obtain ⟨aL, cL, rfl⟩ := slice_ownM hL
  have hKM : K ≠ M := fun e => by
    subst e
    obtain ⟨es, clock, h1, _⟩ := hS
    rw [hK] at h1
    simp at h1
  have hKl : K < w.heap.size := (Array.getElem?_eq_some_iff.1 hK).1
  have hB1 : Below w.heap.size w (w.alloc (.cells #[.pointer (some ⟨b, 0, none⟩), .int .i64 m] 115)) := (Below.refl _ _).alloc (Nat.le_refl _) _
  have hP1 : (w.alloc (.cells #[.pointer (some ⟨b, 0, none⟩), .int .i64 m] 115)).heap[w.heap.size]? = some (.cells #[.pointer (some ⟨b, 0, none⟩), .int .i64 m] 115 (0, 0)) := (MapKept.heap_alloc w _).1
  have hS1 := hS.only (OnlyL.of_below (bl := []) hB1) (by simp) (by simp)
  obtain ⟨cur, et, hbc⟩ := hb
  have hbl : b < w.heap.size := (Array.getElem?_eq_some_iff.1 hbc).1
  have HCL : Hid (∀ wx : World, Below w.heap.size w wx → Calls Tryz.prog 75 #[.slice (some ⟨b, 0, none⟩) m cap] wx fun e w' => ∃ (a' : Option Addr) (c' : Nat), e = .returned (.slice a' m c') ∧ w'.ownsRow wx.heap.size 27 4 (.slice a' m c') m xs ∧ Below wx.heap.size wx w') := fun wx hw => slCloneT _ m cap xs wx hx hone hm fun _ => ⟨b, 0, rfl, fun j u hu => by
    rw [Nat.zero_add]
    exact (hw.cell (p := ⟨b, j, none⟩) hbl).trans (hc j u hu)⟩
  have k1 : (w.alloc (.cells #[.pointer (some ⟨b, 0, none⟩), .int .i64 m] 115)).cell? ⟨K, 1, none⟩ = some (.map (some M)) := by
    rw [cellOld _ hKl]; simp only [World.cell?, hK]; rfl
  have HLK : ∀ q, Sem.run Tryz.prog (Instr.lookup 95 (.map (some M)) (.agg #[.pointer (some ⟨b, 0, none⟩), .int .i64 m]) true) ((w.alloc (.cells #[.pointer (some ⟨b, 0, none⟩), .int .i64 m] 115)).drewN q) = .ok (.tuple #[.slice none 0 0, .bool false]) ((w.alloc (.cells #[.pointer (some ⟨b, 0, none⟩), .int .i64 m] 115)).drewN q) := fun q => run_lookup_kp (w := (w.alloc (.cells #[.pointer (some ⟨b, 0, none⟩), .int .i64 m] 115)).drewN q) (S := S) hS1 (p := ⟨b, 0, none⟩) (m := (m : Int)) hpS ⟨cur, et, (hB1.block b hbl).trans hbc⟩
  have hm0i : ¬ ((m : Int) = 0) := by omega
  have hm0b : ((m : Int) == 0) = false := by rw [beq_eq_false_iff_ne]; omega
  have hmlt : (0 : Int) < (m : Int) := by omega
  have HH : Hid (type_of% hS1) := hS1
  clear hS1 hc hone hx
  go_enter Tryz.func59, Tryz.ntmps59
  go_wp2_with fail
  go_quiet (fail)
  go_wp2_with fail
  have hW2 : ∀ q, Below w.heap.size w ((w.alloc (.cells #[.pointer (some ⟨b, 0, none⟩), .int .i64 m] 115)).drewN q) := fun q => below_drewN hB1 q
  generalize hX : (w.alloc (.cells #[.pointer (some ⟨b, 0, none⟩), .int .i64 m] 115)).drewN _ = X at *
  have hWX : Below w.heap.size w X := hX ▸ hW2 _
  have hPX : X.heap[w.heap.size]? = some (.cells #[.pointer (some ⟨b, 0, none⟩), .int .i64 m] 115 (0, 0)) := hX ▸ hP1
  have hSX : KpPlaces X M S := hX ▸ HH.out
  clear hX hW2 hB1 hP1 HLK k1 HH
  refine (HCL.out _ hWX).mono ?_
  rintro e w2 ⟨a', c', rfl, ho2, hb2⟩
  obtain ⟨g, rfl, hgX, hg2⟩ : ∃ g, a' = some ⟨g, 0, none⟩ ∧ X.heap.size ≤ g ∧ g < w2.heap.size := by
    rcases ho2.2 with ⟨_, h0⟩ | ⟨g, cap', cur', hv, hg, hh, _⟩
    · omega
    · simp only [Value.slice.injEq, true_and] at hv
      exact ⟨g, hv.1, hg, (Array.getElem?_eq_some_iff.1 hh).1⟩
  have hW2 : Below w.heap.size w w2 := hWX.trans (hb2.mono hWX.size)
  have hXl : w.heap.size < X.heap.size := (Array.getElem?_eq_some_iff.1 hPX).1
  have hP2 := (hb2.block w.heap.size hXl).trans hPX
  have hK2 := (hW2.block K hKl).trans hK
  have hS2 := hSX.only (OnlyL.of_below (bl := []) hb2) (by simp) (by simp)
  have hbc2 := (hW2.block b hbl).trans hbc
  have hL2 := kept_belowT hL hW2
  have k1 : w2.cell? ⟨K, 1, none⟩ = some (.map (some M)) := by simp only [World.cell?, hK2]; rfl
  have p0 : w2.cell? ⟨w.heap.size, 0, none⟩ = some (.pointer (some ⟨b, 0, none⟩)) := by simp only [World.cell?, hP2]; rfl
  have p1 : w2.cell? ⟨w.heap.size, 1, none⟩ = some (.int .i64 m) := by simp only [World.cell?, hP2]; rfl
  clear hPX hSX HCL
  go_wp2_with fail
  obtain ⟨w3, hrun0, hS3, hbut⟩ := run_update_kp (w := w2.drew) (M := M) (S := S) hS2 (p := ⟨b, 0, none⟩) (m := (m : Int)) hpS ⟨cur, et, hbc2⟩ (.slice (some ⟨g, 0, none⟩) m c')
  have hrun : Sem.run Tryz.prog (Instr.mapUpdate 95 (.map (some M)) (.agg #[.pointer (some ⟨b, 0, none⟩), .int .i64 m]) (.slice (some ⟨g, 0, none⟩) m c')) w2.drew = .ok () w3 := hrun0
  have hQ0 : w2.cell? ⟨K, 1, none⟩ = some (.map (some M)) ∧ w2.cell? ⟨w.heap.size, 0, none⟩ = some (.pointer (some ⟨b, 0, none⟩)) ∧ w2.cell? ⟨w.heap.size, 1, none⟩ = some (.int .i64 m) := ⟨k1, p0, p1⟩
  refine wp_region_noPanic ?_
  refine wp_region_till (fun w' => w'.cell? ⟨K, 1, none⟩ = some (.map (some M)) ∧ w'.cell? ⟨w.heap.size, 0, none⟩ = some (.pointer (some ⟨b, 0, none⟩)) ∧ w'.cell? ⟨w.heap.size, 1, none⟩ = some (.int .i64 m)) 6 (by kernel_rfl) ?_
  refine wpTill.take (i := 0) (v := ?_) rfl rfl (by kernel_rfl) (by kernel_rfl) (by kernel_rfl) (by kernel_rfl) (fun _ _ _ h => h) (Or.inl ⟨by rfl, ?_⟩) hQ0 ?_
  rotate_left
  · intro w9 hs9
    obtain ⟨s0, s1, s2⟩ := hs9
    go_simp
    try rfl
  refine wpTill.take (i := 1) (v := ?_) rfl rfl (by kernel_rfl) (by kernel_rfl) (by kernel_rfl) (by kernel_rfl) (fun _ _ _ h => h) (Or.inl ⟨by rfl, ?_⟩) hQ0 ?_
  rotate_left
  · intro w9 hs9
    obtain ⟨s0, s1, s2⟩ := hs9
    go_simp
    try rfl
  refine wpTill.take (i := 2) (v := ?_) rfl rfl (by kernel_rfl) (by kernel_rfl) (by kernel_rfl) (by kernel_rfl) (fun _ _ _ h => h) (Or.inl ⟨by rfl, ?_⟩) hQ0 ?_
  rotate_left
  · intro w9 hs9
    obtain ⟨s0, s1, s2⟩ := hs9
    go_simp
    try rfl
  refine wpTill.take (i := 3) (v := ?_) rfl rfl (by kernel_rfl) (by kernel_rfl) (by kernel_rfl) (by kernel_rfl) (fun _ _ _ h => h) (Or.inl ⟨by rfl, ?_⟩) hQ0 ?_
  rotate_left
  · intro w9 hs9
    obtain ⟨s0, s1, s2⟩ := hs9
    go_simp
    try rfl
  refine wpTill.take (i := 4) (v := ?_) rfl rfl (by kernel_rfl) (by kernel_rfl) (by kernel_rfl) (by kernel_rfl) (fun _ _ _ h => h) (Or.inl ⟨by rfl, ?_⟩) hQ0 ?_
  rotate_left
  · intro w9 hs9
    obtain ⟨s0, s1, s2⟩ := hs9
    go_simp
    try rfl
  refine wpTill.take (i := 5) (v := ?_) rfl rfl (by kernel_rfl) (by kernel_rfl) (by kernel_rfl) (by kernel_rfl) (fun _ _ _ h => h) (Or.inl ⟨by rfl, ?_⟩) hQ0 ?_
  rotate_left
  · intro w9 hs9
    obtain ⟨s0, s1, s2⟩ := hs9
    go_simp
    try rfl
  refine wpTill.ready (rs := [6]) (by kernel_rfl) (by simp) ?_
  intro i9 hi9
  simp only [List.mem_cons, List.not_mem_nil, or_false] at hi9
  subst hi9
  refine wpOp_of rfl (step_openK (by rfl) ?_)
  go_simp
  refine wpTill.done (by kernel_rfl) ?_ _
  refine NoPanic.normal ?_
  have hb3 : ∀ x, x ≠ M → w3.heap[x]? = w2.heap[x]? := fun x hx => hbut.2.2.2.2 x hx
  have hz3 : w3.heap.size = w2.heap.size := hbut.2.2.2.1
  have hK3 := (hb3 K hKM).trans hK2
  obtain ⟨es3, ck3, hM2, _⟩ := hS2
  have hL3 : w3.ownsRow B 25 1 (.slice aL N cL) N LS := But.owns (w := w2.drew) hbut hM2 hL2
  have hT3 : w3.ownsRow X.heap.size 27 4 (.slice (some ⟨g, 0, none⟩) m c') m xs := But.owns (w := w2.drew) hbut hM2 ho2
  have hO3 : OnlyL [M] w2 w3 := ⟨hbut.1, hbut.2.1, hbut.2.2.1, Nat.le_of_eq hz3.symm, fun x _ hx => hb3 x (by simpa using hx)⟩
  have q0 : w3.cell? ⟨K, 0, none⟩ = some (.slice aL N cL) := by simp only [World.cell?, hK3]; rfl
  clear hrun0 hrun hQ0 k1 p0 p1 hP2 hK2 hL2 ho2 hbut
  have hGK : ∀ x, (Value.slice aL N cL).ownBlock = some x → x ≠ K ∧ x ≠ M ∧ x ≠ g := fun x hx => by
    obtain ⟨_, cu, hu⟩ := own_obj hL3 hx
    refine ⟨fun e => ?_, fun e => ?_, fun e => ?_⟩
    · subst e; rw [hK3] at hu; simp at hu
    · subst e
      obtain ⟨es, ck, h1, _⟩ := hS3
      rw [h1] at hu; simp at hu
    · subst e
      obtain ⟨_, cu', hu'⟩ := own_obj hT3 (x := x) rfl
      rw [hu'] at hu; simp at hu
  have hg3 : g < w3.heap.size := by omega
  have hBw3 : B ≤ w3.heap.size := by have := hW2.size; omega
  have hK3l : K < w3.heap.size := (Array.getElem?_eq_some_iff.1 hK3).1
  have HGK : Hid (type_of% hGK) := hGK
  have HS3 : Hid (type_of% hS3) := hS3
  have HGN : Hid (g ∉ K :: M :: (Value.slice aL N cL).ownBlock.toList) := fun hm => by
    obtain ⟨_, cu', hu'⟩ := own_obj hT3 (x := g) rfl
    rcases List.mem_cons.1 hm with e | hm
    · subst e; rw [hK3] at hu'; simp at hu'
    · rcases List.mem_cons.1 hm with e | hm
      · obtain ⟨es, ck, h1, _⟩ := hS3
        rw [← e, hu'] at h1; simp at h1
      · exact (hGK g (by simpa using hm)).2.2 rfl
  have HGB : Hid (∀ x ∈ (Value.slice aL N cL).ownBlock.toList, B ≤ x) := fun x hx => (own_obj hL3 (by simpa using hx)).1
  have HSB : Hid (type_of% hSB) := hSB
  have HO3 : Hid (OnlyL [M] w w3) := (OnlyL.of_below hW2).trans hO3
  have hgw : w.heap.size ≤ g := by omega
  clear hGK hS3 hSB hpS hz3 hO3
  go_wp2_with (at_builtin; refine wpList_append_own _ rfl _ _ 94 rfl B 25 i0 (.slice none 0 0) 1 24 Tryz.underlying94 hi0 hz0 hz1 hz2 rfl (by decide) _ _ _ rfl (hL3.alloc _) ⟨w3.heap.size, 0, none⟩ 1 1 [.slice (some ⟨g, 0, none⟩) m c'] rfl rfl ?c1 ?c2 ?c3 ?c4 ?c5 ?_)
  case c1 => exact one_cellK (cellNew 0 rfl)
  case c2 => intro u hu; simp at hu; subst hu; rfl
  case c3 => unfold maxLen; omega
  case c4 => omega
  case c5 => simp; omega
  intro v' w4 hown' hgrow _
  obtain ⟨aV, cV, hv⟩ := slice_ownM hown'
  subst hv
  have hO4 : OnlyL (Value.slice aL N cL).ownBlock.toList w3 w4 := (OnlyL.of_below ((Below.refl _ w3).alloc (Nat.le_refl _) _)).trans (OnlyL.grownK hgrow)
  have hKn : K ∉ (Value.slice aL N cL).ownBlock.toList := fun hm => (HGK.out K (by simpa using hm)).1 rfl
  have hK4 := (hO4.block K hK3l hKn).trans hK3
  obtain ⟨⟨t0, t1, t2⟩, tf⟩ := block3K hK4
  have tf0 := tf 0
  have tf2 := tf 2
  have HR : Hid (type_of% hown') := hown'
  have HO4 : Hid (type_of% hO4) := hO4
  clear hgrow hown' tf hO4 q0
  go_wp2_with fail
  go_ret
  have hO6 : OnlyL (K :: (Value.slice aL N cL).ownBlock.toList) w3 ((w4.setCell ⟨K, 0, none⟩ (.slice aV (N + 1) cV)).setCell ⟨K, 2, none⟩ (.int .i64 (cnt + m))) := (HO4.out.mono fun x hx => List.mem_cons_of_mem _ hx).trans ((OnlyL.set _ _ _ (by simp)).trans (OnlyL.set _ _ _ (by simp)))
  have hMn : M ∉ K :: (Value.slice aL N cL).ownBlock.toList := fun hm => by
    rcases List.mem_cons.1 hm with e | hm
    · exact hKM e.symm
    · exact (HGK.out M (by simpa using hm)).2.1 rfl
  refine ⟨g, c', .slice aV (N + 1) cV, rfl, hgw, ?_, heap_setCell_same _ K 2 _ _ _ (heap_setCell_same w4 K 0 _ _ _ hK4), ?_, ?_, ?_⟩
  · refine own_keep hT3 (Nat.zero_le _) fun x cu hx _ => hO6.block x ?_ ?_
    · simp only [Value.ownBlock, Option.some.injEq] at hx; omega
    · simp only [Value.ownBlock, Option.some.injEq] at hx
      subst hx
      exact fun hm => HGN.out (by
        rcases List.mem_cons.1 hm with e | hm
        · rw [e]; simp
        · exact List.mem_cons_of_mem _ (List.mem_cons_of_mem _ hm))
  · refine own_keep HR.out (Nat.le_refl _) fun x cu hx hh => ?_
    have hne : x ≠ K := fun e => by subst e; rw [hK4] at hh; simp at hh
    rw [Below.heap_setCell _ _ _ _ hne, Below.heap_setCell _ _ _ _ hne]
  · refine HS3.out.only hO6 hMn fun a ha hm => ?_
    have hab : a.block < B := by
      rcases ha with ha | ha
      · exact HSB.out a ha
      · rw [ha]; exact hbB
    rcases List.mem_cons.1 hm with e | hm
    · omega
    · have := HGB.out _ hm; omega
  · refine (HO3.out.mono ?_).trans (hO6.mono ?_)
    · intro x hx; simp only [List.mem_singleton] at hx; rw [hx]; simp
    · intro x hx
      rcases List.mem_cons.1 hx with e | hx
      · rw [e]; simp
      · exact List.mem_cons_of_mem _ (List.mem_cons_of_mem _ hx)

end Go.Proofs.YtjihkebafoajdaaGreatDoor

namespace Go.Proofs.YtjihkebafoajdaaGreatDoor
open Go.RowKit

/-- rows of types and of texts are as they were, but for one -/
def Fr (T : Nat) (w w' : World) : Prop := w.heap.size ≤ w'.heap.size ∧ ∀ x cur e, (e = 27 ∨ e = 9) → x ≠ T → w.heap[x]? = some (.cells cur e (0, 0)) → w'.heap[x]? = w.heap[x]?
theorem Fr.trans {T : Nat} {a b c : World} (h : Fr T a b) (k : Fr T b c) : Fr T a c := ⟨Nat.le_trans h.1 k.1, fun x cur e he hx hh => by
  have h1 := h.2 x cur e he hx hh
  exact (k.2 x cur e he hx (h1.trans hh)).trans h1⟩
theorem Fr.of_below {T : Nat} {a b : World} (h : Below a.heap.size a b) : Fr T a b := ⟨h.size, fun x _ _ _ _ hh => h.block x (Array.getElem?_eq_some_iff.1 hh).1⟩
theorem Fr.set {T : Nat} (w : World) (o : Nat) (u : Value) : Fr T w (w.setCell ⟨T, o, none⟩ u) := ⟨by simp, fun x cur e _ hx _ => Below.heap_setCell w _ u x hx⟩
theorem Fr.owns {T : Nat} {w w' : World} {B e z n : Nat} {v : Value} {xs : List Value} (h : w.ownsRow B e z v n xs) (fr : Fr T w w') (he : e = 27 ∨ e = 9) (hT : v.ownBlock ≠ some T) : w'.ownsRow B e z v n xs :=
  own_keep h (Nat.le_refl _) fun x cur hx hh => fr.2 x cur e he (fun q => hT (q ▸ hx)) hh

/-- a type of a list that is not done: it is what it is in the source -/
def RawE (W0 : World) (r : Src) (i : Nat) (t : Ty) (vn vk : Value) : Prop := TyIn W0 r.n (r.L i) (r.L (i + 1)) [.int .i64 t.kind, .string t.name, vn, vk] t ∧ Ty.bulk r.n t ≤ 1048576

/-- a list of which so many types are done -/
def RowP (W0 w : World) (rs : List Src) (ids : Ids) (r : Src) (i : Nat) (X : List Value) : Prop :=
  w.ownsRow 0 27 4 r.val r.ts.length X ∧ (∀ k (h : k < r.ts.length), k < i → ∃ vn vk, FourAt X k (.int .i64 r.ts[k].kind) (.string r.ts[k].name) vn vk ∧ DoneE w rs ids r k r.ts[k] vn vk) ∧ ∀ k (h : k < r.ts.length), i ≤ k → ∃ vn vk, FourAt X k (.int .i64 r.ts[k].kind) (.string r.ts[k].name) vn vk ∧ RawE W0 r k r.ts[k] vn vk

theorem DoneE.keep {T : Nat} {w w' : World} {rs rs' : List Src} {ids ids' : Ids} {r : Src} {i : Nat} {t : Ty} {vn vk : Value} (h : DoneE w rs ids r i t vn vk) (fr : Fr T w w') (hrs : ∀ q ∈ rs, q ∈ rs') (hid : ∀ e ∈ ids, e ∈ ids') (hT : ∃ cur, w.heap[T]? = some (.cells cur 27 (0, 0))) : DoneE w' rs' ids' r i t vn vk := by
  refine ⟨?_, fun x hx => hid _ (h.nid x hx), ?_⟩
  · rcases h.names with h' | ⟨hn, h'⟩
    · exact .inl h'
    · refine .inr ⟨hn, Fr.owns h' fr (.inr rfl) fun e => ?_⟩
      obtain ⟨cur, hc⟩ := hT
      obtain ⟨_, cur', hc'⟩ := own_obj h' e
      rw [hc] at hc'; simp at hc'
  · rcases h.kids with h' | ⟨r', h1, h2⟩
    · exact .inl h'
    · exact .inr ⟨r', hrs _ h1, h2⟩
theorem RowP.keep {T : Nat} {W0 w w' : World} {rs rs' : List Src} {ids ids' : Ids} {r : Src} {i : Nat} {X : List Value} (h : RowP W0 w rs ids r i X) (fr : Fr T w w') (hrs : ∀ q ∈ rs, q ∈ rs') (hid : ∀ e ∈ ids, e ∈ ids') (hT : ∃ cur, w.heap[T]? = some (.cells cur 27 (0, 0))) (hne : r.tb ≠ T) : RowP W0 w' rs' ids' r i X := by
  refine ⟨Fr.owns h.1 fr (.inl rfl) (fun e => hne (Option.some.inj e)), fun k hk hki => ?_, h.2.2⟩
  obtain ⟨vn, vk, h1, h2⟩ := h.2.1 k hk hki
  exact ⟨vn, vk, h1, h2.keep fr hrs hid hT⟩

/-- where the types of a list lie in the source -/
def Src.ivs (r : Src) : List (Nat × Nat) := (List.range r.ts.length).map fun k => (r.L k, r.L (k + 1))
/-- how many types stand below one -/
def nw : Nat → Ty → Nat
  | 0, _ => 0
  | n + 1, t => t.kids.length + (t.kids.map (nw n)).sum
def Src.els (r : Src) : List Nat := r.ts.map (nw r.n)
theorem ivs_len (r : Src) : r.ivs.length = r.ts.length := by simp [Src.ivs]
theorem els_len (r : Src) : r.els.length = r.ts.length := by simp [Src.els]

theorem nw_le (n : Nat) (t : Ty) : nw n t ≤ Ty.bulk n t := by
  induction n generalizing t with
  | zero => exact Nat.le_refl _
  | succ n ih =>
    unfold nw Ty.bulk
    have : (t.kids.map (nw n)).sum ≤ (t.kids.map (Ty.bulk n)).sum := by
      generalize t.kids = ks
      induction ks with
      | nil => exact Nat.le_refl _
      | cons q r ihr => simp only [List.map_cons, List.sum_cons]; have := ih q; omega
    omega

def apartI (a b : Nat × Nat) : Prop := a.2 ≤ b.1 ∨ b.2 ≤ a.1

/-- while it is made: the lists done, the one at hand, those to come -/
structure CpI (W0 w : World) (K M T : Nat) (vL : Value) (cnt : Nat) (dn hd pd : List Src) (i : Nat) (ids : Ids) : Prop where
  copier : w.heap[K]? = some (.cells #[vL, .map (some M), .int .i64 cnt] 97 (0, 0))
  lists : w.ownsRow W0.heap.size 25 1 vL (dn ++ hd ++ pd).length ((dn ++ hd ++ pd).map Src.val)
  places : KpPlaces w M (fun a => ∃ r ∈ dn ++ hd ++ pd, a = ⟨r.b, 0, none⟩ ∧ r.b < W0.heap.size)
  nd : (ids.map (·.2)).Nodup
  idr : ∀ e ∈ ids, W0.heap.size ≤ e.2 ∧ e.2 < w.heap.size
  sm : ∀ r ∈ dn ++ hd ++ pd, SrcM ids r
  bnd : ((dn ++ hd ++ pd).map Src.b).Nodup
  dnd : ∀ r ∈ dn, ∃ X, RowP W0 w (dn ++ hd ++ pd) ids r r.ts.length X
  pnd : ∀ r ∈ pd, ∃ X, RowP W0 w (dn ++ hd ++ pd) ids r 0 X
  far : ∀ I ∈ ((hd ++ pd).flatMap Src.ivs).drop i, ∀ r ∈ dn ++ hd ++ pd, ¬ (I.1 ≤ r.b ∧ r.b < I.2)
  dis : (((hd ++ pd).flatMap Src.ivs).drop i).Pairwise apartI
  sum : cnt + (((hd ++ pd).flatMap Src.els).drop i).sum = T
  len : (dn ++ hd ++ pd).length ≤ cnt + 1
  bel : Below W0.heap.size W0 w
  far2 : W0.heap.size ≤ K ∧ W0.heap.size ≤ M

theorem CpI.enter {W0 w : World} {K M T cnt : Nat} {vL : Value} {dn pd : List Src} {r : Src} {ids : Ids} (h : CpI W0 w K M T vL cnt dn [] (r :: pd) 0 ids) : CpI W0 w K M T vL cnt dn [r] pd 0 ids ∧ ∃ X, RowP W0 w (dn ++ [r] ++ pd) ids r 0 X := by
  have e : dn ++ [] ++ (r :: pd) = dn ++ [r] ++ pd := by simp
  obtain ⟨h1, h2, h3, h4, h5, h6, h7, h8, h9, h10, h11, h12, h13, h14, h15⟩ := h
  rw [e] at h2 h3 h6 h7 h8 h9 h10 h13
  exact ⟨⟨h1, h2, h3, h4, h5, h6, h7, h8, fun q hq => h9 q (by simp [hq]), h10, h11, h12, h13, h14, h15⟩, h9 r (by simp)⟩

theorem drop_head {α : Type} (f : Src → List α) (r : Src) (pd : List Src) (n : Nat) (h : (f r).length = n) : (([r] ++ pd).flatMap f).drop n = (([] ++ pd).flatMap f).drop 0 := by
  simp only [List.flatMap_append, List.flatMap_cons, List.flatMap_nil, List.append_nil, List.nil_append, List.drop_zero]
  rw [← h, List.drop_left]

theorem CpI.exit {W0 w : World} {K M T cnt : Nat} {vL : Value} {dn pd : List Src} {r : Src} {ids : Ids} {X : List Value} (h : CpI W0 w K M T vL cnt dn [r] pd r.ts.length ids) (hX : RowP W0 w (dn ++ [r] ++ pd) ids r r.ts.length X) : CpI W0 w K M T vL cnt (dn ++ [r]) [] pd 0 ids := by
  have e : dn ++ [r] ++ [] ++ pd = dn ++ [r] ++ pd := by simp
  obtain ⟨h1, h2, h3, h4, h5, h6, h7, h8, h9, h10, h11, h12, h13, h14, h15⟩ := h
  rw [drop_head Src.ivs r pd _ (ivs_len r)] at h10 h11
  rw [drop_head Src.els r pd _ (els_len r)] at h12
  refine ⟨h1, by rw [e]; exact h2, by rw [e]; exact h3, h4, h5, by rw [e]; exact h6, by rw [e]; exact h7, fun q hq => ?_, by rw [e]; exact h9, by rw [e]; exact h10, h11, h12, by rw [e]; exact h13, h14, h15⟩
  rw [e]
  rcases List.mem_append.1 hq with hq | hq
  · exact h8 q hq
  · simp only [List.mem_singleton] at hq
    subst hq
    exact ⟨X, hX⟩

theorem drop_cons {α : Type} (l : List α) (i : Nat) (h : i < l.length) : l.drop i = l[i] :: l.drop (i + 1) := List.drop_eq_getElem_cons h

theorem head_get {α : Type} (f : Src → List α) (r : Src) (pd : List Src) (i : Nat) (h : i < (f r).length) : (([r] ++ pd).flatMap f).drop i = (f r)[i] :: (([r] ++ pd).flatMap f).drop (i + 1) := by
  have hl : i < (([r] ++ pd).flatMap f).length := by
    rw [List.flatMap_append, List.length_append]
    simp only [List.flatMap_cons, List.flatMap_nil, List.append_nil]
    omega
  rw [List.drop_eq_getElem_cons hl]
  congr 1
  simp only [List.flatMap_append, List.flatMap_cons, List.flatMap_nil, List.append_nil]
  rw [List.getElem_append_left h]

/-- one type of the list at hand is done -/
theorem CpI.step {W0 w w' : World} {K M T cnt i : Nat} {vL vL' : Value} {dn pd nr : List Src} {r : Src} {ids nid : Ids} {X X' : List Value} {vn vk : Value} (h : CpI W0 w K M T vL cnt dn [r] pd i ids) (hX : RowP W0 w (dn ++ [r] ++ pd) ids r i X) (hi : i < r.ts.length)
    (fr : Fr r.tb w w') (hbel : Below W0.heap.size W0 w')
    (copier : w'.heap[K]? = some (.cells #[vL', .map (some M), .int .i64 (cnt + (nr.map fun q => q.ts.length).sum : Nat)] 97 (0, 0)))
    (lists : w'.ownsRow W0.heap.size 25 1 vL' ((dn ++ [r] ++ pd) ++ nr).length (((dn ++ [r] ++ pd) ++ nr).map Src.val))
    (places : KpPlaces w' M (fun a => ∃ q ∈ (dn ++ [r] ++ pd) ++ nr, a = ⟨q.b, 0, none⟩ ∧ q.b < W0.heap.size))
    (hX' : w'.ownsRow 0 27 4 r.val r.ts.length X') (hoth : ∀ k c, k ≠ i → c < 4 → X'[k * 4 + c]? = X[k * 4 + c]?) (hfour : FourAt X' i (.int .i64 r.ts[i].kind) (.string r.ts[i].name) vn vk)
    (hnid : (nid.map (·.2)).Nodup ∧ ∀ e ∈ nid, w.heap.size ≤ e.2 ∧ e.2 < w'.heap.size)
    (hdone : DoneE w' ((dn ++ [r] ++ pd) ++ nr) (ids ++ nid) r i r.ts[i] vn vk)
    (hnr : nr.length ≤ 1 ∧ ∀ q ∈ nr, SrcM (ids ++ nid) q ∧ (∃ Y, RowP W0 w' ((dn ++ [r] ++ pd) ++ nr) (ids ++ nid) q 0 Y) ∧ r.L i ≤ q.b ∧ q.b < q.L 0 ∧ q.L q.ts.length ≤ r.L (i + 1) ∧ 0 < q.ts.length)
    (hsum : nw r.n r.ts[i] = (nr.map fun q => q.ts.length + q.els.sum).sum) :
    CpI W0 w' K M T vL' (cnt + (nr.map fun q => q.ts.length).sum) dn [r] (pd ++ nr) (i + 1) (ids ++ nid) ∧ RowP W0 w' (dn ++ [r] ++ (pd ++ nr)) (ids ++ nid) r (i + 1) X' := by
  have ers : (dn ++ [r] ++ pd) ++ nr = dn ++ [r] ++ (pd ++ nr) := by simp
  rw [ers] at lists places hdone hnr
  have hrs : ∀ q ∈ dn ++ [r] ++ pd, q ∈ dn ++ [r] ++ (pd ++ nr) := fun q hq => by rw [← ers]; exact List.mem_append_left _ hq
  have hid : ∀ e ∈ ids, e ∈ ids ++ nid := fun e he => List.mem_append_left _ he
  have hT : ∃ cur, w.heap[r.tb]? = some (.cells cur 27 (0, 0)) := (own_obj hX.1 rfl).2
  have hrm := h.sm r (by simp)
  have hsml : ∀ q ∈ dn ++ [r] ++ pd, SrcM (ids ++ nid) q := fun q hq => by
    have := h.sm q hq
    exact ⟨this.pos, hid _ this.id, this.mono, this.apart⟩
  have hb := h.bnd
  have hne : ∀ q, q ∈ dn ∨ q ∈ pd → q.tb ≠ r.tb := fun q hq e => by
    have hqm : q ∈ dn ++ [r] ++ pd := by rcases hq with hq | hq <;> simp [hq]
    have h1 := (h.sm q hqm).id
    rw [e] at h1
    have h2 := ids_inj h.nd h1 hrm.id
    simp only [Prod.mk.injEq, and_true] at h2
    rw [List.map_append, List.map_append] at hb
    obtain ⟨hb1, _, hb3⟩ := List.nodup_append.1 hb
    obtain ⟨_, _, hb5⟩ := List.nodup_append.1 hb1
    rcases hq with hq | hq
    · exact hb5 q.b (List.mem_map.2 ⟨q, hq, rfl⟩) r.b (by simp) h2
    · exact hb3 r.b (by simp) q.b (List.mem_map.2 ⟨q, hq, rfl⟩) h2.symm
  have hI := head_get Src.ivs r pd i (by rw [ivs_len]; exact hi)
  have hIe : (r.ivs)[i]'(by rw [ivs_len]; exact hi) = (r.L i, r.L (i + 1)) := by simp [Src.ivs]
  rw [hIe] at hI
  have hE := head_get Src.els r pd i (by rw [els_len]; exact hi)
  have hEe : (r.els)[i]'(by rw [els_len]; exact hi) = nw r.n r.ts[i] := by simp [Src.els]
  rw [hEe] at hE
  have hfar := h.far
  have hdis := h.dis
  have hsm := h.sum
  rw [hI] at hfar hdis
  rw [hE, List.sum_cons] at hsm
  have snoc : ∀ {α : Type} (f : Src → List α), (f r).length = r.ts.length → (([r] ++ (pd ++ nr)).flatMap f).drop (i + 1) = (([r] ++ pd).flatMap f).drop (i + 1) ++ nr.flatMap f := fun f hf => by
    have e1 : ([r] ++ (pd ++ nr)).flatMap f = ([r] ++ pd).flatMap f ++ nr.flatMap f := by simp
    rw [e1, List.drop_append_of_le_length]
    simp only [List.flatMap_append, List.flatMap_cons, List.flatMap_nil, List.append_nil, List.length_append]
    omega
  have hivn : ∀ q ∈ nr, ∀ J ∈ q.ivs, r.L i ≤ J.1 ∧ q.b < J.1 ∧ J.2 ≤ r.L (i + 1) ∧ J.1 ≤ J.2 := fun q hq J hJ => by
    obtain ⟨m1, _, m3, m4, m5, _⟩ := hnr.2 q hq
    obtain ⟨k, hk, rfl⟩ := List.mem_map.1 hJ
    rw [List.mem_range] at hk
    have a1 := m1.mono 0 k (by omega) (by omega)
    have a2 := m1.mono (k + 1) q.ts.length (by omega) (by omega)
    have a3 := m1.mono k (k + 1) (by omega) (by omega)
    exact ⟨by simp only; omega, by simp only; omega, by simp only; omega, by simp only; omega⟩
  refine ⟨⟨copier, lists, places, ?_, ?_, ?_, ?_, ?_, ?_, ?_, ?_, ?_, ?_, hbel, h.far2⟩, ?_⟩
  · rw [List.map_append]
    refine List.nodup_append.2 ⟨h.nd, hnid.1, fun x hx y hy hxy => ?_⟩
    obtain ⟨e, he, rfl⟩ := List.mem_map.1 hx
    obtain ⟨e', he', rfl⟩ := List.mem_map.1 hy
    have := (h.idr e he).2
    have := (hnid.2 e' he').1
    omega
  · intro e he
    have hW := h.bel.size
    rcases List.mem_append.1 he with he | he
    · have := h.idr e he; have := fr.1; omega
    · have := hnid.2 e he; omega
  · intro q hq
    rw [← ers] at hq
    rcases List.mem_append.1 hq with hq | hq
    · exact hsml q hq
    · exact (hnr.2 q hq).1
  · rw [← ers, List.map_append]
    refine List.nodup_append.2 ⟨hb, ?_, fun x hx y hy hxy => ?_⟩
    · rcases nr with _ | ⟨q, _ | ⟨q', t⟩⟩
      · simp
      · simp
      · simp at hnr
    · obtain ⟨q, hq, rfl⟩ := List.mem_map.1 hx
      obtain ⟨q', hq', rfl⟩ := List.mem_map.1 hy
      obtain ⟨m1, _, m3, m4, m5, _⟩ := hnr.2 q' hq'
      have a1 := m1.mono 0 q'.ts.length (by omega) (by omega)
      exact hfar (r.L i, r.L (i + 1)) (by simp) q hq ⟨by simp only; omega, by simp only; omega⟩
  · intro q hq
    obtain ⟨Y, hY⟩ := h.dnd q hq
    exact ⟨Y, hY.keep fr hrs hid hT (hne q (.inl hq))⟩
  · intro q hq
    rcases List.mem_append.1 hq with hq | hq
    · obtain ⟨Y, hY⟩ := h.pnd q hq
      exact ⟨Y, hY.keep fr hrs hid hT (hne q (.inr hq))⟩
    · exact (hnr.2 q hq).2.1
  · rw [snoc Src.ivs (ivs_len r)]
    intro J hJ q hq hq2
    rw [← ers] at hq
    rcases List.mem_append.1 hJ with hJ | hJ
    · rcases List.mem_append.1 hq with hq | hq
      · exact hfar J (List.mem_cons_of_mem _ hJ) q hq hq2
      · obtain ⟨m1, _, m3, m4, m5, _⟩ := hnr.2 q hq
        have a1 := m1.mono 0 q.ts.length (by omega) (by omega)
        have := (List.pairwise_cons.1 hdis).1 J hJ
        unfold apartI at this
        simp only at this
        omega
    · obtain ⟨q', hq', hJ⟩ := List.mem_flatMap.1 hJ
      have hv := hivn q' hq' J hJ
      rcases List.mem_append.1 hq with hq | hq
      · exact hfar (r.L i, r.L (i + 1)) (by simp) q hq ⟨by simp only; omega, by simp only; omega⟩
      · have : q = q' := by
          rcases nr with _ | ⟨a, _ | ⟨a', t⟩⟩
          · simp at hq
          · simp only [List.mem_singleton] at hq hq'; rw [hq, hq']
          · simp at hnr
        subst this
        omega
  · rw [snoc Src.ivs (ivs_len r)]
    obtain ⟨d1, d2⟩ := List.pairwise_cons.1 hdis
    refine List.pairwise_append.2 ⟨d2, ?_, fun J hJ J' hJ' => ?_⟩
    · rcases nr with _ | ⟨q, _ | ⟨q', t⟩⟩
      · simp
      · have m1 := (hnr.2 q (by simp)).1
        simp only [List.flatMap_cons, List.flatMap_nil, List.append_nil, Src.ivs]
        rw [List.pairwise_map]
        refine List.pairwise_iff_getElem.2 fun a b ha hb hab => .inl ?_
        rw [List.length_range] at hb
        simp only [List.getElem_range]
        exact m1.mono (a + 1) b (by omega) (by omega)
      · simp at hnr
    · obtain ⟨q', hq', hJ'⟩ := List.mem_flatMap.1 hJ'
      have hv := hivn q' hq' J' hJ'
      have := d1 J hJ
      unfold apartI at this ⊢
      simp only at this
      omega
  · rw [snoc Src.els (els_len r), List.sum_append]
    have e2 : (nr.flatMap Src.els).sum + (nr.map fun q => q.ts.length).sum = (nr.map fun q => q.ts.length + q.els.sum).sum := by
      rcases nr with _ | ⟨q, _ | ⟨q', t⟩⟩
      · simp
      · simp; omega
      · simp at hnr
    omega
  · have := h.len
    rw [← ers, List.length_append]
    rcases nr with _ | ⟨q, _ | ⟨q', t⟩⟩
    · simpa using this
    · have := (hnr.2 q (by simp)).2.2.2.2.2
      simp only [List.map_cons, List.map_nil, List.sum_cons, List.sum_nil, List.length_singleton]
      omega
    · simp at hnr
  · refine ⟨hX', fun k hk hki => ?_, fun k hk hki => ?_⟩
    · by_cases c : k = i
      · subst c
        exact ⟨vn, vk, hfour, hdone⟩
      · obtain ⟨a, b, ⟨f0, f1, f2, f3⟩, hd⟩ := hX.2.1 k hk (by omega)
        exact ⟨a, b, ⟨(hoth k 0 c (by decide)).trans f0, (hoth k 1 c (by decide)).trans f1, (hoth k 2 c (by decide)).trans f2, (hoth k 3 c (by decide)).trans f3⟩, hd.keep fr hrs hid hT⟩
    · have c : k ≠ i := by omega
      obtain ⟨a, b, ⟨f0, f1, f2, f3⟩, hd⟩ := hX.2.2 k hk (by omega)
      exact ⟨a, b, ⟨(hoth k 0 c (by decide)).trans f0, (hoth k 1 c (by decide)).trans f1, (hoth k 2 c (by decide)).trans f2, (hoth k 3 c (by decide)).trans f3⟩, hd⟩

end Go.Proofs.YtjihkebafoajdaaGreatDoor

namespace Go.Proofs.YtjihkebafoajdaaGreatDoor
open Go.RowKit

theorem textsBulk_memP (l : List ByteArray) (x : ByteArray) (h : x ∈ l) : x.size ≤ Ty.textsBulk l := by
  induction l with
  | nil => simp at h
  | cons a r ih =>
    rw [Ty.textsBulk]
    rcases List.mem_cons.1 h with e | m
    · rw [e]; omega
    · have := ih m; omega

/-- what a type that is not done tells -/
structure RawO (W0 : World) (r : Src) (k : Nat) (t : Ty) (m b ck : Nat) (an : Option Addr) (cn : Nat) (L : Nat → Nat) (xs : List Value) : Prop where
  dep : r.n = m + 1
  texts : Texts W0 (.slice an t.names.length cn) t.names
  nlen : t.names.length ≤ 1048576
  nsz : ∀ x ∈ t.names, x.size ≤ 1048576
  msz : t.name.size ≤ 1048576
  klen : t.kids.length ≤ 1048576
  blo : r.L k ≤ b
  bL : b < L 0
  bhi : L t.kids.length ≤ r.L (k + 1)
  mono : ∀ i j, i ≤ j → j ≤ t.kids.length → L i ≤ L j
  obj : ∃ cur e, W0.heap[b]? = some (.cells cur e (0, 0))
  xlen : xs.length = t.kids.length * 4
  one : ∀ u ∈ xs, u.oneCell' = true
  cell : ∀ j u, xs[j]? = some u → W0.cell? ⟨b, j, none⟩ = some u
  kid : ∀ j (h : j < t.kids.length), ∃ vn vk, FourAt xs j (.int .i64 t.kids[j].kind) (.string t.kids[j].name) vn vk ∧ TyIn W0 m (L j) (L (j + 1)) [.int .i64 t.kids[j].kind, .string t.kids[j].name, vn, vk] t.kids[j] ∧ Ty.bulk m t.kids[j] ≤ 1048576

theorem raw_open {W0 : World} {r : Src} {k : Nat} {t : Ty} {vn vk : Value} (h : RawE W0 r k t vn vk) : ∃ m b ck an cn L xs, vn = .slice an t.names.length cn ∧ vk = .slice (some ⟨b, 0, none⟩) t.kids.length ck ∧ RawO W0 r k t m b ck an cn L xs := by
  obtain ⟨hT, hb⟩ := h
  cases hn : r.n with
  | zero => rw [hn] at hT; exact hT.elim
  | succ m =>
    rw [hn] at hT hb
    obtain ⟨vn', vk', mid, e, _, _, ⟨hN, _, _⟩, _, hlm, hR⟩ := hT
    simp only [List.cons.injEq, and_true, true_and] at e
    obtain ⟨rfl, rfl⟩ := e
    obtain ⟨an, cn, rfl⟩ := slice_ownM hN.1
    obtain ⟨b, ck, rfl, hb1, hb2, ⟨cur, et, hcur⟩, L, hL1, hL2, hL3⟩ := hR
    have hbu : t.name.size + (t.names.length + Ty.textsBulk t.names) + (t.kids.length + (t.kids.map (Ty.bulk m)).sum) ≤ 1048576 := hb
    have hcell : ∀ j, W0.cell? ⟨b, j, none⟩ = cur[j]? := fun j => cell_of_row W0 b j _ _ (0, 0) hcur
    have hkid : ∀ j (h : j < t.kids.length), ∃ vn vk, (cur[j * 4]? = some (.int .i64 t.kids[j].kind) ∧ cur[j * 4 + 1]? = some (.string t.kids[j].name) ∧ cur[j * 4 + 2]? = some vn ∧ cur[j * 4 + 3]? = some vk) ∧ (vn.oneCell' = true ∧ vk.oneCell' = true) ∧ TyIn W0 m (L j) (L (j + 1)) [.int .i64 t.kids[j].kind, .string t.kids[j].name, vn, vk] t.kids[j] ∧ Ty.bulk m t.kids[j] ≤ 1048576 := fun j h => by
      obtain ⟨cs, h1, h2⟩ := hL3 j h
      have hbj := kid_bulk m t.kids j h
      cases m with
      | zero => exact h1.elim
      | succ m' =>
        have h1' := h1
        obtain ⟨vn, vk, mid', rfl, _, _, ⟨hN', _, _⟩, _, _, hR'⟩ := h1'
        obtain ⟨an', cn', rfl⟩ := slice_ownM hN'.1
        obtain ⟨b', ck', rfl, _⟩ := hR'
        refine ⟨_, _, ⟨?_, ?_, ?_, ?_⟩, ⟨rfl, rfl⟩, h1, by omega⟩
        · rw [← hcell]; exact h2 0 _ rfl
        · rw [← hcell]; exact h2 1 _ rfl
        · rw [← hcell]; exact h2 2 _ rfl
        · rw [← hcell]; exact h2 3 _ rfl
    have hsz : t.kids.length * 4 ≤ cur.size := by
      by_cases c : t.kids.length = 0
      · omega
      · obtain ⟨_, _, ⟨_, _, _, q⟩, _⟩ := hkid (t.kids.length - 1) (by omega)
        have := (Array.getElem?_eq_some_iff.1 q).1
        omega
    have hget : ∀ q, q < t.kids.length * 4 → (cur.toList.take (t.kids.length * 4))[q]? = cur[q]? := fun q hq => by
      rw [List.getElem?_take_of_lt hq, Array.getElem?_toList]
    have hxl : (cur.toList.take (t.kids.length * 4)).length = t.kids.length * 4 := by rw [List.length_take, Nat.min_eq_left (show t.kids.length * 4 ≤ cur.toList.length from hsz)]
    refine ⟨m, b, ck, an, cn, L, cur.toList.take (t.kids.length * 4), rfl, rfl, ⟨hn, hN.texts, by omega, fun x hx => ?_, by omega, by omega, by omega, (hL1 0 (by omega)).1, (hL1 _ (Nat.le_refl _)).2, hL2, ⟨cur, et, hcur⟩, ?_, fun u hu => ?_, fun j u hu => ?_, fun j h => ?_⟩⟩
    · have := textsBulk_memP t.names x hx; omega
    · exact hxl
    · obtain ⟨q, hq, e⟩ := List.getElem_of_mem hu
      have hu2 : (cur.toList.take (t.kids.length * 4))[q]? = some u := by rw [List.getElem?_eq_getElem hq, e]
      rw [hxl] at hq
      clear e
      rw [hget q hq] at hu2
      obtain ⟨i, c, hc, rfl⟩ : ∃ i c, c < 4 ∧ q = i * 4 + c := ⟨q / 4, q % 4, Nat.mod_lt _ (by decide), by omega⟩
      obtain ⟨vn, vk, ⟨f0, f1, f2, f3⟩, ⟨o1, o2⟩, _⟩ := hkid i (by omega)
      match c, hc, hu2 with
      | 0, _, hu2 => rw [Nat.add_zero, f0, Option.some.injEq] at hu2; rw [← hu2]; rfl
      | 1, _, hu2 => rw [f1, Option.some.injEq] at hu2; rw [← hu2]; rfl
      | 2, _, hu2 => rw [f2, Option.some.injEq] at hu2; rw [← hu2]; exact o1
      | 3, _, hu2 => rw [f3, Option.some.injEq] at hu2; rw [← hu2]; exact o2
    · have hj := (List.getElem?_eq_some_iff.1 hu).1
      rw [hxl] at hj
      rw [hget j hj] at hu
      rw [hcell]; exact hu
    · obtain ⟨vn, vk, ⟨f0, f1, f2, f3⟩, _, h1, h2⟩ := hkid j h
      exact ⟨vn, vk, ⟨(hget _ (by omega)).trans f0, (hget _ (by omega)).trans f1, (hget _ (by omega)).trans f2, (hget _ (by omega)).trans f3⟩, h1, h2⟩

theorem Fr.of_only {T K M : Nat} {w w' : World} {vL : Value} {N : Nat} {LS : List Value} {B : Nat} {cs : Array Value} {es : Array MapEntry} {ck : Nat} (ho : OnlyL (K :: M :: vL.ownBlock.toList) w w') (hK : w.heap[K]? = some (.cells cs 97 (0, 0))) (hM : w.heap[M]? = some (.map es ck)) (hL : w.ownsRow B 25 1 vL N LS) : Fr T w w' := by
  refine ⟨ho.size, fun x cur e he _ hh => ho.block x (Array.getElem?_eq_some_iff.1 hh).1 fun hm => ?_⟩
  rcases List.mem_cons.1 hm with q | hm
  · subst q
    rw [hK] at hh
    simp only [Option.some.injEq, Obj.cells.injEq] at hh
    rcases he with he | he <;> rw [he] at hh <;> simp at hh
  · rcases List.mem_cons.1 hm with q | hm
    · subst q; rw [hM] at hh; simp at hh
    · obtain ⟨_, cu, hu⟩ := own_obj hL (x := x) (by simpa using hm)
      rw [hu] at hh
      simp only [Option.some.injEq, Obj.cells.injEq] at hh
      rcases he with he | he <;> rw [he] at hh <;> simp at hh

set_option maxHeartbeats 800000 in
set_option maxRecDepth 100000 in
theorem implCopyKids0 (K cap : Nat) (a : Option Addr) (w : World) :
    Calls Tryz.prog 59 #[.pointer (some ⟨K, 0, none⟩), .slice a 0 cap] w fun e w' => ∃ (a' : Option Addr) (c' : Nat), e = .returned (.slice a' 0 c') ∧ Below w.heap.size w w' := by
  have HC : Hid (type_of% (slCloneT a 0 cap [] w rfl (by simp) (by omega) (fun h => absurd h (by omega)))) := slCloneT a 0 cap [] w rfl (by simp) (by omega) (fun h => absurd h (by omega))
  go_enter Tryz.func59, Tryz.ntmps59
  go_wp2_with fail
  refine HC.out.mono ?_
  rintro e w2 ⟨a', c', rfl, _, hb2⟩
  go_wp2_with fail
  go_ret
  exact ⟨a', c', rfl, hb2⟩

end Go.Proofs.YtjihkebafoajdaaGreatDoor

namespace Go.Proofs.YtjihkebafoajdaaGreatDoor
open Go.RowKit

theorem heap_six (w : World) (A B C D E F : Obj) : ((((((w.alloc A).alloc B).alloc C).alloc D).alloc E).alloc F).heap[w.heap.size + 1]? = some B ∧ ((((((w.alloc A).alloc B).alloc C).alloc D).alloc E).alloc F).heap[w.heap.size + 1 + 1]? = some C ∧ ((((((w.alloc A).alloc B).alloc C).alloc D).alloc E).alloc F).heap[w.heap.size + 1 + 1 + 1]? = some D ∧ ((((((w.alloc A).alloc B).alloc C).alloc D).alloc E).alloc F).heap[w.heap.size + 1 + 1 + 1 + 1]? = some E ∧ ((((((w.alloc A).alloc B).alloc C).alloc D).alloc E).alloc F).heap[w.heap.size + 1 + 1 + 1 + 1 + 1]? = some F ∧ ((((((w.alloc A).alloc B).alloc C).alloc D).alloc E).alloc F).heap.size = w.heap.size + 1 + 1 + 1 + 1 + 1 + 1 := by
  have s1 : (w.alloc A).heap.size = w.heap.size + 1 := by simp
  have s2 : ((w.alloc A).alloc B).heap.size = w.heap.size + 1 + 1 := by simp
  have s3 : (((w.alloc A).alloc B).alloc C).heap.size = w.heap.size + 1 + 1 + 1 := by simp
  have s4 : ((((w.alloc A).alloc B).alloc C).alloc D).heap.size = w.heap.size + 1 + 1 + 1 + 1 := by simp
  have s5 : (((((w.alloc A).alloc B).alloc C).alloc D).alloc E).heap.size = w.heap.size + 1 + 1 + 1 + 1 + 1 := by simp
  have n2 := (MapKept.heap_alloc (w.alloc A) B).1
  have n3 := (MapKept.heap_alloc ((w.alloc A).alloc B) C)
  have n4 := (MapKept.heap_alloc (((w.alloc A).alloc B).alloc C) D)
  have n5 := (MapKept.heap_alloc ((((w.alloc A).alloc B).alloc C).alloc D) E)
  have n6 := (MapKept.heap_alloc (((((w.alloc A).alloc B).alloc C).alloc D).alloc E) F)
  rw [s1] at n2
  rw [s2] at n3
  rw [s3] at n4
  rw [s4] at n5
  rw [s5] at n6
  refine ⟨?_, ?_, ?_, ?_, n6.1, by simp⟩
  · rw [n6.2 _ (by omega), n5.2 _ (by omega), n4.2 _ (by omega), n3.2 _ (by omega)]; exact n2
  · rw [n6.2 _ (by omega), n5.2 _ (by omega), n4.2 _ (by omega)]; exact n3.1
  · rw [n6.2 _ (by omega), n5.2 _ (by omega)]; exact n4.1
  · rw [n6.2 _ (by omega)]; exact n5.1

theorem ret_cp {R : Ending → World → Prop} {W : World} {tmps : Array Value} {b : Nat} {x0 x1 x2 x3 : Value} (hp : tmps[2]?.getD undef = .pointer (some ⟨b, 0, none⟩))
    (h : W.cell? ⟨b, 0, none⟩ = some x0 ∧ W.cell? ⟨b, 1, none⟩ = some x1 ∧ W.cell? ⟨b, 2, none⟩ = some x2 ∧ W.cell? ⟨b, 3, none⟩ = some x3) (hR : R (.returned (.agg #[x0, x1, x2, x3])) W) :
    bodyPost Tryz.prog Tryz.f35 R .ret { tmps := tmps, defers := [] } W := by
  obtain ⟨h0, h1, h2, h3⟩ := h
  refine bodyPost_ret (v := .agg #[x0, x1, x2, x3]) ?_ rfl hR
  simp [results, Tryz.results35, go_sem, hp, h0, h1, h2, h3]
theorem block4P {W : World} {b : Nat} {x0 x1 x2 x3 : Value} (h : W.heap[b]? = some (.cells #[x0, x1, x2, x3] 27 (0, 0))) :
    (W.cell? ⟨b, 0, none⟩ = some x0 ∧ W.cell? ⟨b, 1, none⟩ = some x1 ∧ W.cell? ⟨b, 2, none⟩ = some x2 ∧ W.cell? ⟨b, 3, none⟩ = some x3) ∧ ∀ j, W.frozen? ⟨b, j, none⟩ = false := by
  refine ⟨⟨?_, ?_, ?_, ?_⟩, fun j => frozen_of_row W b j _ _ h⟩
  · rw [cell_of_row W b 0 _ _ (0, 0) h]; rfl
  · rw [cell_of_row W b 1 _ _ (0, 0) h]; rfl
  · rw [cell_of_row W b 2 _ _ (0, 0) h]; rfl
  · rw [cell_of_row W b 3 _ _ (0, 0) h]; rfl
theorem put_belowP {B b : Nat} {w0 w : World} {x0 x1 x2 x3 : Value} (h : Below B w w0) (hb : B ≤ b) : Below B w ((((w0.setCell ⟨b, 0, none⟩ x0).setCell ⟨b, 1, none⟩ x1).setCell ⟨b, 2, none⟩ x2).setCell ⟨b, 3, none⟩ x3) := (((h.setCell hb _).setCell hb _).setCell hb _).setCell hb _
theorem put_otherP {b c : Nat} {w0 : World} {x0 x1 x2 x3 : Value} (h : c ≠ b) : ((((w0.setCell ⟨b, 0, none⟩ x0).setCell ⟨b, 1, none⟩ x1).setCell ⟨b, 2, none⟩ x2).setCell ⟨b, 3, none⟩ x3).heap[c]? = w0.heap[c]? := by
  rw [Below.heap_setCell _ _ _ _ (by simpa using h), Below.heap_setCell _ _ _ _ (by simpa using h), Below.heap_setCell _ _ _ _ (by simpa using h), Below.heap_setCell _ _ _ _ (by simpa using h)]

theorem four_set {X : List Value} {k ln : Nat} {x0 x1 x2 x3 : Value} (hX : X.length = ln * 4) (hk : k < ln) (h0 : X[k * 4]? = some x0) : FourAt (((X.set (k * 4 + 1) x1).set (k * 4 + 2) x2).set (k * 4 + 3) x3) k x0 x1 x2 x3 ∧ ∀ j c, j ≠ k → c < 4 → (((X.set (k * 4 + 1) x1).set (k * 4 + 2) x2).set (k * 4 + 3) x3)[j * 4 + c]? = X[j * 4 + c]? := by
  refine ⟨⟨?_, ?_, ?_, ?_⟩, fun j c hj hc => ?_⟩
  · rw [List.getElem?_set_ne (by omega), List.getElem?_set_ne (by omega), List.getElem?_set_ne (by omega)]; exact h0
  · rw [List.getElem?_set_ne (by omega), List.getElem?_set_ne (by omega), List.getElem?_set_self (by omega)]
  · rw [List.getElem?_set_ne (by omega), List.getElem?_set_self (by rw [List.length_set]; omega)]
  · rw [List.getElem?_set_self (by rw [List.length_set, List.length_set]; omega)]
  · rw [List.getElem?_set_ne (by omega), List.getElem?_set_ne (by omega), List.getElem?_set_ne (by omega)]
theorem nid_snd {α : Type} (i : α) (l : List Nat) : (l.map fun x => (i, x)).map (·.2) = l := by
  induction l with
  | nil => rfl
  | cons a r ih => simp only [List.map_cons, ih]
theorem blk_own {w : World} {B e z n x : Nat} {v : Value} {xs : List Value} (h : w.ownsRow B e z v n xs) (hx : x ∈ blk v) : B ≤ x ∧ x < w.heap.size ∧ v.ownBlock = some x := by
  rcases h.2 with ⟨e, _⟩ | ⟨g, cap, cur, e, hg, hh, _⟩
  · rw [e] at hx; simp [blk] at hx
  · rw [e] at hx ⊢
    cases n with
    | zero => simp [blk] at hx
    | succ n =>
      rw [mem_blk (by omega)] at hx
      subst hx
      exact ⟨hg, (Array.getElem?_eq_some_iff.1 hh).1, rfl⟩

/-- the list that the copy begins with -/
def rootS (w : World) (n lo hi : Nat) (t : Ty) : Src := ⟨w.heap.size, w.heap.size + 1 + 1, 1, n, [t], fun k => if k = 0 then lo else hi⟩

theorem CpI.begin {w W : World} {n lo hi : Nat} {t : Ty} {vn vk : Value} (h : TyIn w n lo hi [.int .i64 t.kind, .string t.name, vn, vk] t) (hn : 0 < n) (hlo : lo ≤ hi) (hhi : hi ≤ w.heap.size) (hb : Ty.bulk n t ≤ 1048576) (hW : Below w.heap.size w W) (hs : W.heap.size = w.heap.size + 1 + 1 + 1 + 1 + 1 + 1)
    (h2 : W.heap[w.heap.size + 1 + 1]? = some (.cells #[.int .i64 t.kind, .string t.name, vn, vk] 27 (0, 0))) (h3 : W.heap[w.heap.size + 1 + 1 + 1]? = some (.cells #[.slice (some ⟨w.heap.size + 1 + 1, 0, none⟩) 1 1] 25 (0, 0))) (h4 : W.heap[w.heap.size + 1 + 1 + 1 + 1]? = some (.map #[] 0))
    (h5 : W.heap[w.heap.size + 1 + 1 + 1 + 1 + 1]? = some (.cells #[.slice (some ⟨w.heap.size + 1 + 1 + 1, 0, none⟩) 1 1, .map (some (w.heap.size + 1 + 1 + 1 + 1)), .int .i64 0] 97 (0, 0))) :
    CpI w W (w.heap.size + 1 + 1 + 1 + 1 + 1) (w.heap.size + 1 + 1 + 1 + 1) (nw n t) (.slice (some ⟨w.heap.size + 1 + 1 + 1, 0, none⟩) 1 1) 0 [] [] [rootS w n lo hi t] 0 [((w.heap.size, none), w.heap.size + 1 + 1)] := by
  have e : ([] ++ [] ++ [rootS w n lo hi t] : List Src) = [rootS w n lo hi t] := rfl
  have hsm : SrcM [((w.heap.size, none), w.heap.size + 1 + 1)] (rootS w n lo hi t) := by
    refine ⟨hn, by simp [rootS], fun i j hij hj => ?_, .inr ?_⟩
    · have hj' : j ≤ 1 := hj
      show (if i = 0 then lo else hi) ≤ (if j = 0 then lo else hi)
      split <;> split <;> omega
    · show (if 1 = 0 then lo else hi) ≤ w.heap.size
      simpa using hhi
  refine ⟨h5, ?_, KpPlaces.made h4 _, by simp, fun q hq => ?_, fun r hr => ?_, ?_, fun r hr => absurd hr (by simp), fun r hr => ?_, fun I hI r hr => ?_, ?_, ?_, by rw [e]; exact Nat.le_refl _, hW, by omega⟩
  · rw [e]
    exact ⟨rfl, .inr ⟨w.heap.size + 1 + 1 + 1, 1, _, rfl, by omega, h3, Nat.le_refl _, by decide, rfl, rfl⟩⟩
  · simp only [List.mem_singleton] at hq
    subst hq
    simp only
    omega
  · rw [e] at hr
    simp only [List.mem_singleton] at hr
    subst hr
    exact hsm
  · rw [e]; simp
  · simp only [List.mem_singleton] at hr
    subst hr
    refine ⟨[.int .i64 t.kind, .string t.name, vn, vk], ⟨rfl, .inr ⟨w.heap.size + 1 + 1, 1, _, rfl, Nat.zero_le _, h2, Nat.le_refl _, by decide, rfl, rfl⟩⟩, fun k _ hk => absurd hk (by omega), fun k hk _ => ?_⟩
    have hk' : k < 1 := hk
    obtain rfl : k = 0 := by omega
    exact ⟨vn, vk, ⟨rfl, rfl, rfl, rfl⟩, h, hb⟩
  · rw [e] at hr
    simp only [List.mem_singleton] at hr
    subst hr
    have hI' : I = (lo, hi) := by simpa [Src.ivs, rootS] using hI
    subst hI'
    simp only [rootS]
    omega
  · simp [Src.ivs, rootS]
  · simp [Src.els, rootS]

theorem CpI.finish {W0 w : World} {K M T cnt n lo hi : Nat} {vL : Value} {dn : List Src} {ids : Ids} {t : Ty} (h : CpI W0 w K M T vL cnt dn [] [] 0 ids) (hr : rootS W0 n lo hi t ∈ dn) : ∃ l, w.ownsRow 0 27 4 (.slice (some ⟨W0.heap.size + 1 + 1, 0, none⟩) 1 1) 1 (cellsK t l) ∧ LayAt w n l t ∧ (Lay.blocks n l).Nodup ∧ ∀ x ∈ Lay.blocks n l, ∃ d, (d, x) ∈ ids := by
  have e : dn ++ [] ++ [] = dn := by simp
  have hd := h.dnd
  have hm := h.sm
  rw [e] at hd hm
  obtain ⟨ls, ⟨h1, h2, h3⟩, h4⟩ := done_lay (fun r hr => by obtain ⟨X, hX⟩ := hd r hr; exact ⟨X, hX.1, fun i hi => hX.2.1 i hi hi⟩) hm h.nd n (rootS W0 n lo hi t) hr rfl
  have hl : ls.length = 1 := h1
  obtain ⟨l, rfl⟩ : ∃ l, ls = [l] := by
    match ls, hl with
    | [l], _ => exact ⟨l, rfl⟩
  refine ⟨l, ?_, h3 0 (by simp) (by simp [rootS]), (h4 0 (by simp)).1, fun x hx => ?_⟩
  · have := h2.pos (by simp [rootS])
    simpa [flatK, rootS, Src.val] using this
  · rcases (h4 0 (by simp)).2 x hx with q | ⟨b', o, _, _, q⟩
    · exact ⟨_, q⟩
    · exact ⟨_, q⟩

set_option maxHeartbeats 6400000 in
set_option maxRecDepth 100000 in
theorem implCopyOf (n lo hi : Nat) (cs : List Value) (t : Ty) (w : World) (h : TyIn w n lo hi cs t) (hhi : hi ≤ w.heap.size) (hb : Ty.bulk n t ≤ 1048576) :
    Calls Tryz.prog 35 #[.agg cs.toArray] w fun e w' => ∃ l, e = .returned (.agg (cellsK t l).toArray) ∧ NewLay w.heap.size w' n l t ∧ Below w.heap.size w w' := by
  have hn : 0 < n := by
    cases n with
    | zero => exact h.elim
    | succ m => omega
  obtain ⟨an, cn, bk, ck, rfl, hlo⟩ : ∃ an cn bk ck, cs = [.int .i64 t.kind, .string t.name, .slice an t.names.length cn, .slice (some ⟨bk, 0, none⟩) t.kids.length ck] ∧ lo ≤ hi := by
    cases n with
    | zero => exact h.elim
    | succ m =>
      obtain ⟨vn, vk, mid, rfl, _, _, ⟨hN, _, _⟩, _, hlm, hR⟩ := h
      obtain ⟨an, cn, rfl⟩ := slice_ownM hN.1
      obtain ⟨bk, ck, rfl, hbk1, hbk2, _⟩ := hR
      exact ⟨an, cn, bk, ck, rfl, by omega⟩
  obtain ⟨g1, g2, g3, g4, g5, g6⟩ := heap_six w (.cells #[.int .i64 t.kind, .string t.name, .slice an t.names.length cn, .slice (some ⟨bk, 0, none⟩) t.kids.length ck] 27) (.cells #[.int .i64 0, .string ⟨#[]⟩, .slice none 0 0, .slice none 0 0] 27) (.cells #[.int .i64 t.kind, .string t.name, .slice an t.names.length cn, .slice (some ⟨bk, 0, none⟩) t.kids.length ck] 27) (.cells #[.slice (some ⟨w.heap.size + 1 + 1, 0, none⟩) 1 1] 25) (.map #[] 0) (.cells #[.slice (some ⟨w.heap.size + 1 + 1 + 1, 0, none⟩) 1 1, .map (some (w.heap.size + 1 + 1 + 1 + 1)), .int .i64 0] 97)
  have hW1 : Below w.heap.size w ((((((w.alloc (.cells #[.int .i64 t.kind, .string t.name, .slice an t.names.length cn, .slice (some ⟨bk, 0, none⟩) t.kids.length ck] 27)).alloc (.cells #[.int .i64 0, .string ⟨#[]⟩, .slice none 0 0, .slice none 0 0] 27)).alloc (.cells #[.int .i64 t.kind, .string t.name, .slice an t.names.length cn, .slice (some ⟨bk, 0, none⟩) t.kids.length ck] 27)).alloc (.cells #[.slice (some ⟨w.heap.size + 1 + 1, 0, none⟩) 1 1] 25)).alloc (.map #[] 0)).alloc (.cells #[.slice (some ⟨w.heap.size + 1 + 1 + 1, 0, none⟩) 1 1, .map (some (w.heap.size + 1 + 1 + 1 + 1)), .int .i64 0] 97)) := ((((((Below.refl _ _).alloc (Nat.le_refl _) _).alloc (by simp) _).alloc (by simp; omega) _).alloc (by simp; omega) _).alloc (by simp; omega) _).alloc (by simp; omega) _
  have hI0 := CpI.begin h hn hlo hhi hb hW1 g6 g2 g3 g4 g5
  have HI0 : Hid (type_of% hI0) := hI0
  have HT : Hid (type_of% h) := h
  have hTb : nw n t ≤ 1048576 := Nat.le_trans (nw_le n t) hb
  have hmm := @run_makeMap Tryz.prog
  clear hI0 h g2 g3 g4 g5
  go_enter Tryz.func35, Tryz.ntmps35
  go_wp2_with fail
  generalize ((((((w.alloc (.cells #[.int .i64 t.kind, .string t.name, .slice an t.names.length cn, .slice (some ⟨bk, 0, none⟩) t.kids.length ck] 27)).alloc (.cells #[.int .i64 0, .string ⟨#[]⟩, .slice none 0 0, .slice none 0 0] 27)).alloc (.cells #[.int .i64 t.kind, .string t.name, .slice an t.names.length cn, .slice (some ⟨bk, 0, none⟩) t.kids.length ck] 27)).alloc (.cells #[.slice (some ⟨w.heap.size + 1 + 1, 0, none⟩) 1 1] 25)).alloc (.map #[] 0)).alloc (.cells #[.slice (some ⟨w.heap.size + 1 + 1 + 1, 0, none⟩) 1 1, .map (some (w.heap.size + 1 + 1 + 1 + 1)), .int .i64 0] 97)) = W1 at *
  have hb1 : W1.heap[w.heap.size + 1]? = some (.cells #[.int .i64 0, .string ⟨#[]⟩, .slice none 0 0, .slice none 0 0] 27 (0, 0)) := g1
  have hz1 : w.heap.size + 1 + 1 < W1.heap.size := by omega
  clear g1 g6 hmm
  go_loopw [5] (fun i wr => ∃ (vL : Value) (cnt : Nat) (dn pd : List Src) (ids : Ids), i = .int .i64 dn.length ∧ CpI w wr (w.heap.size + 1 + 1 + 1 + 1 + 1) (w.heap.size + 1 + 1 + 1 + 1) (nw n t) vL cnt dn [] pd 0 ids ∧ rootS w n lo hi t ∈ dn ++ pd ∧ wr.heap[w.heap.size + 1]? = some (.cells #[.int .i64 0, .string ⟨#[]⟩, .slice none 0 0, .slice none 0 0] 27 (0, 0)) ∧ (∀ e ∈ ids, w.heap.size + 1 < e.2) ∧ w.heap.size + 1 + 1 < wr.heap.size) (fun i _ => nw n t + 2 - (intOf i).toNat)
  case atStart => exact ⟨_, 0, [], [rootS w n lo hi t], _, rfl, HI0.out, by simp, hb1, fun e he => by simp only [List.mem_singleton] at he; subst he; simp only; omega, hz1⟩
  case round =>
    obtain ⟨vL, cnt, dn, pd, ids, rfl, hI, hroot, hbx, hids, hzr⟩ := hrel
    clear HI0 hb1 hz1
    obtain ⟨aL, cL, hvL⟩ := slice_ownM hI.lists
    subst hvL
    have hlen : (dn ++ [] ++ pd).length = dn.length + pd.length := by simp
    have hK := hI.copier
    obtain ⟨⟨k0, k1, k2⟩, _⟩ := block3K hK
    rw [hlen] at k0
    have hmax : dn.length + pd.length ≤ nw n t + 1 := by
      have h1 := hI.len
      have h2 := hI.sum
      rw [hlen] at h1
      omega
    cases pd with
    | nil =>
      obtain ⟨l, ho, hl, hnd, hbl⟩ := hI.finish (by simpa using hroot)
      have hge : ∀ x ∈ Lay.blocks n l, w.heap.size + 1 < x := fun x hx => by obtain ⟨d, hd⟩ := hbl x hx; exact hids _ hd
      simp only [List.length_nil, Nat.add_zero] at k0
      have hlt : ¬ (dn.length : Int) < (dn.length : Int) := by omega
      have hld : decide ((dn.length : Int) < (dn.length : Int)) = false := decide_eq_false hlt
      obtain ⟨⟨r0, r1, r2, r3⟩, rf⟩ := block4P hbx
      have rf0 := rf 0
      have rf1 := rf 1
      have rf2 := rf 2
      have rf3 := rf 3
      have w0 : wr.cell? ⟨w.heap.size + 1 + 1, 0, none⟩ = some (.int .i64 t.kind) := ho.cellAt 0 (by omega)
      have w1 : wr.cell? ⟨w.heap.size + 1 + 1, 1, none⟩ = some (.string t.name) := ho.cellAt 1 (by omega)
      have w2 : wr.cell? ⟨w.heap.size + 1 + 1, 2, none⟩ = some l.vn := ho.cellAt 2 (by omega)
      have w3 : wr.cell? ⟨w.heap.size + 1 + 1, 3, none⟩ = some l.vk := ho.cellAt 3 (by omega)
      have hbw := hI.bel
      obtain ⟨an2, ln2, cn2, ak2, lk2, ck2, ev1, ev2⟩ : ∃ an2 ln2 cn2 ak2 lk2 ck2, l.vn = .slice an2 ln2 cn2 ∧ l.vk = .slice ak2 lk2 ck2 := by
        cases n with
        | zero => exact hl.elim
        | succ m =>
          obtain ⟨a, c, e⟩ := hl.1.slice
          obtain ⟨a', c', e'⟩ := hl.2.2.1.slice
          exact ⟨a, _, c, a', _, c', e, e'⟩
      have HC : Hid (cellsK t l = [.int .i64 t.kind, .string t.name, .slice an2 ln2 cn2, .slice ak2 lk2 ck2]) := by show _ = _; unfold cellsK; rw [ev1, ev2]
      rw [ev1] at w2
      rw [ev2] at w3
      have HL : Hid (type_of% hl) := hl
      have HND : Hid (type_of% hnd) := hnd
      have HGE : Hid (type_of% hge) := hge
      clear hI ho hl hnd hbl hge hids HT hroot ev1 ev2 hK rf k1 k2 hbx
      go_wp2_with fail
      refine ret_cp rfl (put4T fun j hj => ?_) ⟨l, by rw [HC.out], ⟨HL.out.same fun b hb => put_otherP (by have := HGE.out b hb; omega), HND.out, fun b hb => by have := HGE.out b hb; omega⟩, put_belowP hbw (by omega)⟩
      match j, hj with
      | 0, _ => rw [r0]; rfl
      | 1, _ => rw [r1]; rfl
      | 2, _ => rw [r2]; rfl
      | 3, _ => rw [r3]; rfl
    | cons r pd =>
      obtain ⟨hI1, X, hX⟩ := hI.enter
      have hroot1 : rootS w n lo hi t ∈ dn ++ [r] ++ pd := by simpa using hroot
      have hlt : (dn.length : Int) < ((dn.length + (r :: pd).length : Nat) : Int) := by simp; omega
      have hl0 : wr.ownsRow w.heap.size 25 1 (.slice aL (dn ++ [] ++ r :: pd).length cL) (dn ++ [] ++ r :: pd).length ((dn ++ [] ++ r :: pd).map Src.val) := hI.lists
      obtain ⟨gL, rfl⟩ : ∃ gL, aL = some (⟨gL, 0, none⟩ : Addr) := by
        rcases hl0.2 with ⟨_, h0⟩ | ⟨g, cap, cur, h1, _⟩
        · simp at h0
        · simp only [Value.slice.injEq, true_and] at h1
          exact ⟨g, h1.1⟩
      have c0 : wr.cell? ⟨gL, dn.length, none⟩ = some r.val := by
        rw [hl0.cellAt dn.length (by simp)]
        simp
      have hd0 : (0 : Int) ≤ (dn.length : Int) := by omega
      generalize hNN : dn.length + (r :: pd).length = NN at *
      have HNN : Hid (dn.length + 1 ≤ NN) := by show _ ≤ _; simp at hNN; omega
      have HI1 : Hid (type_of% hI1) := hI1
      have HX : Hid (type_of% hX) := hX
      have HROOT : Hid (type_of% hroot1) := hroot1
      have HIDS : Hid (type_of% hids) := hids
      have hbx1 := hbx
      unfold Src.val at c0
      clear hI hI1 hX hroot hroot1 hl0 hNN hK hlen hids k1 k2 hbx
      go_wp2_with fail
      obtain ⟨U, hU⟩ : ∃ U : World, U = wr := ⟨wr, rfl⟩
      subst hU
      go_loopw [28] (fun i wx => ∃ (vL : Value) (cnt k : Nat) (pd : List Src) (ids : Ids) (X : List Value), k ≤ r.ts.length ∧ i = .int .i64 k ∧ CpI w wx (w.heap.size + 1 + 1 + 1 + 1 + 1) (w.heap.size + 1 + 1 + 1 + 1) (nw n t) vL cnt dn [r] pd k ids ∧ RowP w wx (dn ++ [r] ++ pd) ids r k X ∧ rootS w n lo hi t ∈ dn ++ [r] ++ pd ∧ wx.heap[w.heap.size + 1]? = some (.cells #[.int .i64 0, .string ⟨#[]⟩, .slice none 0 0, .slice none 0 0] 27 (0, 0)) ∧ (∀ e ∈ ids, w.heap.size + 1 < e.2) ∧ w.heap.size + 1 + 1 < wx.heap.size) (fun i _ => r.ts.length - (intOf i).toNat)
      case atStart => exact ⟨_, cnt, 0, pd, ids, X, Nat.zero_le _, rfl, HI1.out, HX.out, HROOT.out, hbx1, HIDS.out, hzr⟩
      case round =>
        clear HI1 HX HROOT HIDS hbx1 hzr c0 k0 X ids pd
        obtain ⟨vL, cnt, k, pd, ids, X, hk, rfl, hI, hX, hroot, hbx, hids, hzr⟩ := hrel
        by_cases hlk : k < r.ts.length
        · obtain ⟨vn, vk, hF, hRaw⟩ := hX.2.2 k hlk (Nat.le_refl _)
          obtain ⟨m, b, cb, an2, cn2, L, xs, rfl, rfl, hO⟩ := raw_open hRaw
          have hrid := hI.idr _ (hI.sm r (by simp)).id
          have hrt : w.heap.size + 1 < r.tb := hids _ (hI.sm r (by simp)).id
          have oX := hX.1
          have hXl : X.length = r.ts.length * 4 := oX.1
          have htbl : r.tb < wr.heap.size := hrid.2
          have hbel := hI.bel
          have n1 : wr.cell? ⟨r.tb, k * 4 + 1, none⟩ = some (.string r.ts[k].name) := (oX.cellAt (k * 4 + 1) (by omega)).trans hF.2.1
          have n2 : wr.cell? ⟨r.tb, k * 4 + 2, none⟩ = some (.slice an2 r.ts[k].names.length cn2) := (oX.cellAt (k * 4 + 2) (by omega)).trans hF.2.2.1
          have n3 : wr.cell? ⟨r.tb, k * 4 + 3, none⟩ = some (.slice (some ⟨b, 0, none⟩) r.ts[k].kids.length cb) := (oX.cellAt (k * 4 + 3) (by omega)).trans hF.2.2.2
          have hmx : r.ts.length ≤ maxLen := by
            rcases oX.2 with ⟨e, _⟩ | ⟨_, _, _, e, _, _, h1, h2, _⟩
            · simp [Src.val] at e
            · simp only [Src.val, Value.slice.injEq] at e
              omega
          unfold maxLen at hmx
          have HKL : Hid (k + 1 ≤ r.ts.length) := (by omega : k + 1 ≤ r.ts.length)
          have hk0 : (0 : Int) ≤ (k : Int) := by omega
          have hk1 : (k : Int) < (r.ts.length : Int) := by omega
          have HC1 : Hid (∀ wx : World, Calls Tryz.prog 46 #[.string r.ts[k].name] wx fun e w' => e = .returned (.string r.ts[k].name) ∧ Below wx.heap.size wx w') := fun wx => stringsClone _ wx (by have := hO.msz; omega)
          have HC2 : Hid (∀ wx : World, Below w.heap.size w wx → Calls Tryz.prog 47 #[.slice an2 r.ts[k].names.length cn2] wx fun e w' => ∃ (a : Option Addr) (c : Nat), e = .returned (.slice a r.ts[k].names.length c) ∧ w'.ownsRow wx.heap.size 9 1 (.slice a r.ts[k].names.length c) r.ts[k].names.length (strV r.ts[k].names) ∧ Below wx.heap.size wx w') := fun wx hx => implCopyTexts _ _ wx (hO.texts.below hx) (by have := hO.nlen; omega) (fun x hx => by have := hO.nsz x hx; omega)
          have HF : Hid (type_of% hF) := hF
          have HO : Hid (type_of% hO) := hO
          have HI : Hid (type_of% hI) := hI
          have HX : Hid (type_of% hX) := hX
          have HROOT : Hid (type_of% hroot) := hroot
          have HIDS : Hid (type_of% hids) := hids
          obtain ⟨t5, ht5⟩ : ∃ t5, t5 = r.ts[k] := ⟨_, rfl⟩
          unfold Src.val at oX
          clear hF hO hI hX hroot hids hRaw hk
          go_wp2_with fail
          refine (HC1.out _).mono ?_
          rintro e w1 ⟨rfl, hb1⟩
          have o1 := kept_belowT oX hb1
          have hz1 : r.tb < w1.heap.size := Nat.lt_of_lt_of_le htbl hb1.size
          have C1 := (hb1.cell (p := ⟨r.tb, k * 4 + 1, none⟩) htbl).trans n1
          have F1 := o1.frozenAt (k * 4 + 1)
          obtain ⟨o2, _⟩ := o1.stored (k * 4 + 1) (.string r.ts[k].name)
          have hbel2 : Below w.heap.size w (w1.setCell ⟨r.tb, k * 4 + 1, none⟩ (.string r.ts[k].name)) := (hbel.trans (hb1.mono hbel.size)).setCell (by simp; omega) _
          have C2 : (w1.setCell ⟨r.tb, k * 4 + 1, none⟩ (.string r.ts[k].name)).cell? ⟨r.tb, k * 4 + 2, none⟩ = some (.slice an2 r.ts[k].names.length cn2) := by
            rw [World.cell?_setCell_other _ _ _ _ (by simp), hb1.cell (p := ⟨r.tb, k * 4 + 2, none⟩) htbl]; exact n2
          have C3 : (w1.setCell ⟨r.tb, k * 4 + 1, none⟩ (.string r.ts[k].name)).cell? ⟨r.tb, k * 4 + 3, none⟩ = some (.slice (some ⟨b, 0, none⟩) r.ts[k].kids.length cb) := by
            rw [World.cell?_setCell_other _ _ _ _ (by simp), hb1.cell (p := ⟨r.tb, k * 4 + 3, none⟩) htbl]; exact n3
          have fr2 : Fr r.tb wr (w1.setCell ⟨r.tb, k * 4 + 1, none⟩ (.string r.ts[k].name)) := (Fr.of_below hb1).trans (Fr.set _ _ _)
          have on2 : OnlyL [r.tb] wr (w1.setCell ⟨r.tb, k * 4 + 1, none⟩ (.string r.ts[k].name)) := (OnlyL.of_below hb1).trans (OnlyL.set _ _ _ (by simp))
          have hz2 : r.tb < (w1.setCell ⟨r.tb, k * 4 + 1, none⟩ (.string r.ts[k].name)).heap.size := by simpa using hz1
          have HFR : Hid (type_of% fr2) := fr2
          have HON : Hid (type_of% on2) := on2
          clear fr2 on2 oX o1 n1 n2 n3 hb1 hz1
          go_wp2_with fail
          generalize (w1.setCell ⟨r.tb, k * 4 + 1, none⟩ (.string r.ts[k].name)) = W2 at *
          refine (HC2.out _ hbel2).mono ?_
          rintro e w3 ⟨a3, c3, rfl, own3, hb3⟩
          have o3 := kept_belowT o2 hb3
          have htb3 : r.tb < w3.heap.size := Nat.lt_of_lt_of_le hz2 hb3.size
          have D2 := (hb3.cell (p := ⟨r.tb, k * 4 + 2, none⟩) hz2).trans C2
          have D3 := (hb3.cell (p := ⟨r.tb, k * 4 + 3, none⟩) hz2).trans C3
          have F2 := o3.frozenAt (k * 4 + 2)
          obtain ⟨o4, _⟩ := o3.stored (k * 4 + 2) (.slice a3 r.ts[k].names.length c3)
          have E3 : (w3.setCell ⟨r.tb, k * 4 + 2, none⟩ (.slice a3 r.ts[k].names.length c3)).cell? ⟨r.tb, k * 4 + 3, none⟩ = some (.slice (some ⟨b, 0, none⟩) r.ts[k].kids.length cb) := by
            rw [World.cell?_setCell_other _ _ _ _ (by simp)]; exact D3
          have hbel4 : Below w.heap.size w (w3.setCell ⟨r.tb, k * 4 + 2, none⟩ (.slice a3 r.ts[k].names.length c3)) := (hbel2.trans (hb3.mono hbel2.size)).setCell (by simp; omega) _
          have fr4 : Fr r.tb wr (w3.setCell ⟨r.tb, k * 4 + 2, none⟩ (.slice a3 r.ts[k].names.length c3)) := HFR.out.trans ((Fr.of_below hb3).trans (Fr.set _ _ _))
          have on4 : OnlyL [r.tb] wr (w3.setCell ⟨r.tb, k * 4 + 2, none⟩ (.slice a3 r.ts[k].names.length c3)) := HON.out.trans ((OnlyL.of_below hb3).trans (OnlyL.set _ _ _ (by simp)))
          have own4 : (w3.setCell ⟨r.tb, k * 4 + 2, none⟩ (.slice a3 r.ts[k].names.length c3)).ownsRow W2.heap.size 9 1 (.slice a3 r.ts[k].names.length c3) r.ts[k].names.length (strV r.ts[k].names) := own_keep own3 (Nat.le_refl _) fun x cu hx _ => Below.heap_setCell _ _ _ _ (by have := (own3.lt x hx).1; simp only; omega)
          have hz4 : W2.heap.size ≤ (w3.setCell ⟨r.tb, k * 4 + 2, none⟩ (.slice a3 r.ts[k].names.length c3)).heap.size := by simpa using hb3.size
          have hwr2 : wr.heap.size ≤ W2.heap.size := HON.out.size
          clear HFR HON o2 o3 own3 C2 C3 D3 hbel2 HC1
          go_wp2_with fail
          generalize (w3.setCell ⟨r.tb, k * 4 + 2, none⟩ (.slice a3 r.ts[k].names.length c3)) = W4 at *
          clear D2 F2
          obtain ⟨⟨curT, hT0⟩, hTne⟩ : (∃ cur, wr.heap[r.tb]? = some (.cells cur 27 (0, 0))) ∧ True := ⟨(own_obj HX.out.1 rfl).2, trivial⟩
          have htb4 : r.tb < W4.heap.size := by omega
          have hKT : w.heap.size + 1 + 1 + 1 + 1 + 1 ≠ r.tb := fun e => by
            have := HI.out.copier
            rw [e, hT0] at this
            simp at this
          obtain ⟨es4, ck4, hM4, _⟩ := HI.out.places
          have hMT : w.heap.size + 1 + 1 + 1 + 1 ≠ r.tb := fun e => by rw [e, hT0] at hM4; simp at hM4
          have hK4 := (on4.block _ (Array.getElem?_eq_some_iff.1 HI.out.copier).1 (by simpa using hKT)).trans HI.out.copier
          have hM5 := (on4.block _ (Array.getElem?_eq_some_iff.1 hM4).1 (by simpa using hMT)).trans hM4
          have hL4 := own_keep (w' := W4) HI.out.lists (Nat.le_refl _) fun x cu hx hh => on4.block x (Array.getElem?_eq_some_iff.1 hh).1 (by
            simp only [List.mem_singleton]
            intro e
            rw [e, hT0] at hh
            simp at hh)
          have hP4 := HI.out.places.only on4 (by simpa using hMT) (fun a ⟨q, _, e, hq⟩ hm => by
            rw [e] at hm
            simp only [List.mem_singleton] at hm
            omega)
          have hsm := HI.out.sum
          have hln := HI.out.len
          have HO4 : Hid (type_of% o4) := o4
          have HFR : Hid (type_of% fr4) := fr4
          have HOWN : Hid (type_of% own4) := own4
          have HCK : Hid (type_of% hK4) := hK4
          have HCM : Hid (type_of% hM5) := hM5
          have HCL : Hid (type_of% hL4) := hL4
          have HCP : Hid (type_of% hP4) := hP4
          have HRB : Hid (W4.heap[w.heap.size + 1]? = some (.cells #[.int .i64 0, .string ⟨#[]⟩, .slice none 0 0, .slice none 0 0] 27 (0, 0))) := (on4.block _ (Array.getElem?_eq_some_iff.1 hbx).1 (by simp only [List.mem_singleton]; omega)).trans hbx
          have hzW : w.heap.size + 1 + 1 < W4.heap.size := by omega
          by_cases hk00 : r.ts[k].kids.length = 0
          · have HK0 : Hid (Calls Tryz.prog 59 #[.pointer (some ⟨w.heap.size + 1 + 1 + 1 + 1 + 1, 0, none⟩), .slice (some ⟨b, 0, none⟩) r.ts[k].kids.length cb] W4 fun e w' => ∃ (a' : Option Addr) (c' : Nat), e = .returned (.slice a' r.ts[k].kids.length c') ∧ Below W4.heap.size W4 w') := by
              show Calls _ _ _ _ _
              rw [hk00]
              exact implCopyKids0 _ cb _ W4
            have HZ : Hid (type_of% hk00) := hk00
            clear hk00 o4 fr4 on4 own4 hK4 hM5 hL4 hP4 hM4 hbx
            refine HK0.out.mono ?_
            rintro e w5 ⟨a5, c5, rfl, hb5⟩
            have o5 := kept_belowT HO4.out hb5
            have E5 := (hb5.cell (p := ⟨r.tb, k * 4 + 3, none⟩) htb4).trans E3
            have F5 := o5.frozenAt (k * 4 + 3)
            obtain ⟨o6, _⟩ := o5.stored (k * 4 + 3) (.slice a5 r.ts[k].kids.length c5)
            have hz5 := hb5.size
            have fr46 : Fr r.tb W4 (w5.setCell ⟨r.tb, k * 4 + 3, none⟩ (.slice a5 r.ts[k].kids.length c5)) := (Fr.of_below hb5).trans (Fr.set _ _ _)
            have on46 : OnlyL [r.tb] W4 (w5.setCell ⟨r.tb, k * 4 + 3, none⟩ (.slice a5 r.ts[k].kids.length c5)) := (OnlyL.of_below hb5).trans (OnlyL.set _ _ _ (by simp))
            have hbel6 : Below w.heap.size w (w5.setCell ⟨r.tb, k * 4 + 3, none⟩ (.slice a5 r.ts[k].kids.length c5)) := (hbel4.trans (hb5.mono hbel4.size)).setCell (by simp; omega) _
            obtain ⟨hfour, hoth⟩ := four_set (x1 := .string r.ts[k].name) (x2 := .slice a3 r.ts[k].names.length c3) (x3 := .slice a5 r.ts[k].kids.length c5) hXl hlk HF.out.1
            have hT4 := (own_obj HO4.out rfl).2
            have hstep := CpI.step (nr := []) (nid := (blk (.slice a3 r.ts[k].names.length c3)).map fun x => ((r.b, some k), x)) HI.out HX.out hlk (HFR.out.trans fr46) hbel6
              (copier := (on46.block _ (Array.getElem?_eq_some_iff.1 HCK.out).1 (by simpa using hKT)).trans HCK.out)
              (lists := by
                simp only [List.append_nil]
                exact own_keep HCL.out (Nat.le_refl _) fun x cu hx hh => on46.block x (Array.getElem?_eq_some_iff.1 hh).1 (by
                  obtain ⟨c4, h4⟩ := hT4
                  simp only [List.mem_singleton]
                  intro e
                  rw [e, h4] at hh
                  simp at hh))
              (places := by
                simp only [List.append_nil]
                exact HCP.out.only on46 (by simpa using hMT) (fun a ⟨q, _, e, hq⟩ hm => by
                  rw [e] at hm
                  simp only [List.mem_singleton] at hm
                  omega))
              o6 hoth hfour
              ⟨by rw [nid_snd]; exact blk_nodup _, fun e he => by
                obtain ⟨x, hx, rfl⟩ := List.mem_map.1 he
                have := blk_own HOWN.out hx
                simp only [World.size_setCell]
                omega⟩
              ⟨OwnS.of (Fr.owns HOWN.out fr46 (.inr rfl) fun e => by have := (HOWN.out.lt _ e).1; omega), fun x hx => List.mem_append_right _ (List.mem_map.2 ⟨x, hx, rfl⟩), .inl ⟨List.length_eq_zero_iff.1 HZ.out, a5, c5, by rw [HZ.out]⟩⟩
              ⟨by simp, fun q hq => absurd hq (by simp)⟩
              (by
                rw [HO.out.dep]
                show r.ts[k].kids.length + (r.ts[k].kids.map (nw m)).sum = 0
                rw [List.length_eq_zero_iff.1 HZ.out]
                rfl)
            have HST : Hid (type_of% hstep) := hstep
            have HRB6 : Hid ((w5.setCell ⟨r.tb, k * 4 + 3, none⟩ (.slice a5 r.ts[k].kids.length c5)).heap[w.heap.size + 1]? = some (.cells #[.int .i64 0, .string ⟨#[]⟩, .slice none 0 0, .slice none 0 0] 27 (0, 0))) := (on46.block _ (Array.getElem?_eq_some_iff.1 HRB.out).1 (by simp only [List.mem_singleton]; omega)).trans HRB.out
            have HID6 : Hid (∀ e ∈ ids ++ (blk (.slice a3 r.ts[k].names.length c3)).map fun x => ((r.b, some k), x), w.heap.size + 1 < e.2) := fun e he => by
              rcases List.mem_append.1 he with he | he
              · exact HIDS.out e he
              · obtain ⟨x, hx, rfl⟩ := List.mem_map.1 he
                have := (blk_own HOWN.out hx).1
                simp only
                omega
            have hz6 : w.heap.size + 1 + 1 < (w5.setCell ⟨r.tb, k * 4 + 3, none⟩ (.slice a5 r.ts[k].kids.length c5)).heap.size := by simp; omega
            clear hstep o5 o6 hfour hoth hT4 fr46 on46 hbel6
            go_wp2_with fail
            go_roundw
            case rel => exact ⟨vL, _, k + 1, _, _, _, HKL.out, by go_num, HST.out.1, HST.out.2, by simpa using HROOT.out, HRB6.out, HID6.out, hz6⟩
            case measure => simp [intOf]; have := HKL.out; omega
          · have hm0 : 0 < r.ts[k].kids.length := by omega
            have hbw : b < w.heap.size := by obtain ⟨cu, e, h⟩ := HO.out.obj; exact (Array.getElem?_eq_some_iff.1 h).1
            have hfar : ∀ q ∈ dn ++ [r] ++ pd, q.b ≠ b := fun q hq e => by
              have hh := head_get Src.ivs r pd k (by rw [ivs_len]; exact hlk)
              have hIe : (r.ivs)[k]'(by rw [ivs_len]; exact hlk) = (r.L k, r.L (k + 1)) := by simp [Src.ivs]
              rw [hIe] at hh
              have m1 := HO.out.mono 0 r.ts[k].kids.length (by omega) (by omega)
              have m2 := HO.out.blo
              have m3 := HO.out.bL
              have m4 := HO.out.bhi
              exact HI.out.far (r.L k, r.L (k + 1)) (by rw [hh]; simp) q hq ⟨by simp only; omega, by simp only; omega⟩
            have hobj : ∃ cur e, W4.heap[b]? = some (.cells cur e (0, 0)) := by
              obtain ⟨cu, e, h⟩ := HO.out.obj
              exact ⟨cu, e, (hbel4.block b hbw).trans h⟩
            have HK1 : Hid (type_of% (implCopyKids w.heap.size (w.heap.size + 1 + 1 + 1 + 1 + 1) (w.heap.size + 1 + 1 + 1 + 1) (dn ++ [r] ++ pd).length b cb r.ts[k].kids.length vL ((dn ++ [r] ++ pd).map Src.val) xs cnt _ W4 hbel4.size (by omega) (by omega) hK4 hL4 (by omega) hP4 (fun a ⟨q, _, e, hq⟩ => by rw [e]; exact hq) (fun ⟨q, hq, e, _⟩ => hfar q hq (by simp only [Addr.mk.injEq, and_true] at e; exact e.symm)) hobj hbw HO.out.xlen HO.out.one hm0 HO.out.klen (fun j u hu => (hbel4.cell (p := ⟨b, j, none⟩) hbw).trans (HO.out.cell j u hu)) (by omega) (by omega))) := implCopyKids w.heap.size (w.heap.size + 1 + 1 + 1 + 1 + 1) (w.heap.size + 1 + 1 + 1 + 1) (dn ++ [r] ++ pd).length b cb r.ts[k].kids.length vL ((dn ++ [r] ++ pd).map Src.val) xs cnt _ W4 hbel4.size (by omega) (by omega) hK4 hL4 (by omega) hP4 (fun a ⟨q, _, e, hq⟩ => by rw [e]; exact hq) (fun ⟨q, hq, e, _⟩ => hfar q hq (by simp only [Addr.mk.injEq, and_true] at e; exact e.symm)) hobj hbw HO.out.xlen HO.out.one hm0 HO.out.klen (fun j u hu => (hbel4.cell (p := ⟨b, j, none⟩) hbw).trans (HO.out.cell j u hu)) (by omega) (by omega)
            have HM0 : Hid (type_of% hm0) := hm0
            have HFAR : Hid (type_of% hfar) := hfar
            clear hk00 o4 fr4 on4 own4 hK4 hM5 hL4 hP4 hM4 hbx hm0 hfar hobj
            refine HK1.out.mono ?_
            rintro e w5 ⟨g, c5, vL5, rfl, hg4, hrow5, hcop5, hlist5, hpl5, honly5⟩
            have fr45 : Fr (r.tb + 1) W4 w5 := Fr.of_only honly5 HCK.out HCM.out HCL.out
            have frT : Fr r.tb W4 w5 := Fr.of_only honly5 HCK.out HCM.out HCL.out
            have o5 := Fr.owns HO4.out fr45 (.inl rfl) (by simp [Value.ownBlock])
            have hz5 := honly5.size
            have hX4l : k * 4 + 3 < r.ts.length * 4 := by have := HKL.out; omega
            have E5 := (o5.cellAt (k * 4 + 3) hX4l).trans ((HO4.out.cellAt (k * 4 + 3) hX4l).symm.trans E3)
            have F5 := o5.frozenAt (k * 4 + 3)
            obtain ⟨o6, _⟩ := o5.stored (k * 4 + 3) (.slice (some ⟨g, 0, none⟩) r.ts[k].kids.length c5)
            have fr46 : Fr r.tb W4 (w5.setCell ⟨r.tb, k * 4 + 3, none⟩ (.slice (some ⟨g, 0, none⟩) r.ts[k].kids.length c5)) := frT.trans (Fr.set _ _ _)
            have on56 : OnlyL [r.tb] w5 (w5.setCell ⟨r.tb, k * 4 + 3, none⟩ (.slice (some ⟨g, 0, none⟩) r.ts[k].kids.length c5)) := OnlyL.set _ _ _ (by simp)
            have hbel5 : Below w.heap.size w w5 := hbel4.trans (honly5.below (fun x hx => by
              rcases List.mem_cons.1 hx with e | hx
              · omega
              · rcases List.mem_cons.1 hx with e | hx
                · omega
                · exact (own_obj HCL.out (by simpa using hx)).1) hbel4.size)
            have hbel6 : Below w.heap.size w (w5.setCell ⟨r.tb, k * 4 + 3, none⟩ (.slice (some ⟨g, 0, none⟩) r.ts[k].kids.length c5)) := hbel5.setCell (by simp; omega) _
            obtain ⟨hfour, hoth⟩ := four_set (x1 := .string r.ts[k].name) (x2 := .slice a3 r.ts[k].names.length c3) (x3 := .slice (some ⟨g, 0, none⟩) r.ts[k].kids.length c5) hXl hlk HF.out.1
            have hT5 := (own_obj o5 rfl).2
            have hg5 : g < w5.heap.size := (hrow5.lt g rfl).2
            have hmpos : 0 < m := by
              obtain ⟨_, _, _, h1, _⟩ := HO.out.kid 0 HM0.out
              cases m with
              | zero => exact h1.elim
              | succ m' => omega
            have hstep := CpI.step (vL' := vL5) (nr := [⟨b, g, c5, m, r.ts[k].kids, L⟩]) (nid := ((blk (.slice a3 r.ts[k].names.length c3)).map fun x => ((r.b, some k), x)) ++ [((b, none), g)]) HI.out HX.out hlk (HFR.out.trans fr46) hbel6
              (copier := by
                have e1 : ((cnt + (([⟨b, g, c5, m, r.ts[k].kids, L⟩] : List Src).map fun q => q.ts.length).sum : Nat) : Int) = (cnt : Int) + (r.ts[k].kids.length : Int) := by simp
                rw [e1]
                exact (on56.block _ (Array.getElem?_eq_some_iff.1 hcop5).1 (by simpa using hKT)).trans hcop5)
              (lists := by
                rw [List.length_append, List.map_append]
                exact own_keep hlist5 (Nat.le_refl _) fun x cu hx hh => on56.block x (Array.getElem?_eq_some_iff.1 hh).1 (by
                  obtain ⟨c4, h4⟩ := hT5
                  simp only [List.mem_singleton]
                  intro e
                  rw [e, h4] at hh
                  simp at hh))
              (places := (hpl5.only on56 (by simpa using hMT) (fun a ha hm => by
                  simp only [List.mem_singleton] at hm
                  rcases ha with ⟨q, _, e, hq⟩ | e
                  · rw [e] at hm; simp only at hm; omega
                  · rw [e] at hm; simp only at hm; omega)).mono fun a ha => by
                rcases ha with ⟨q, hq, e, hq2⟩ | e
                · exact ⟨q, List.mem_append_left _ hq, e, hq2⟩
                · exact ⟨_, List.mem_append_right _ (List.mem_singleton.2 rfl), e, hbw⟩)
              o6 hoth hfour
              ⟨by
                rw [List.map_append, nid_snd]
                refine List.nodup_append.2 ⟨blk_nodup _, by simp, fun x hx y hy hxy => ?_⟩
                simp only [List.map_cons, List.map_nil, List.mem_singleton] at hy
                have := (blk_own HOWN.out hx).2.1
                omega, fun e he => by
                rcases List.mem_append.1 he with he | he
                · obtain ⟨x, hx, rfl⟩ := List.mem_map.1 he
                  have := blk_own HOWN.out hx
                  simp only [World.size_setCell]
                  omega
                · simp only [List.mem_singleton] at he
                  subst he
                  simp only [World.size_setCell]
                  omega⟩
              ⟨OwnS.of (Fr.owns HOWN.out fr46 (.inr rfl) fun e => by have := (HOWN.out.lt _ e).1; omega), fun x hx => List.mem_append_right _ (List.mem_append_left _ (List.mem_map.2 ⟨x, hx, rfl⟩)), .inr ⟨_, List.mem_append_right _ (List.mem_singleton.2 rfl), rfl, HM0.out, HO.out.dep.symm, rfl, HO.out.blo, HO.out.bL, HO.out.bhi⟩⟩
              ⟨by simp, fun q hq => by
                simp only [List.mem_singleton] at hq
                subst hq
                refine ⟨⟨hmpos, List.mem_append_right _ (List.mem_append_right _ (List.mem_singleton.2 rfl)), HO.out.mono, .inl HO.out.bL⟩, ⟨xs, own_keep hrow5 (Nat.le_refl _) fun x cu hx _ => ?_, fun j _ hj => absurd hj (by omega), fun j hj _ => ?_⟩, HO.out.blo, HO.out.bL, HO.out.bhi, HM0.out⟩
                · refine Below.heap_setCell _ _ _ _ ?_
                  have hgx : g = x := Option.some.inj hx
                  simp only
                  omega
                · obtain ⟨u1, u2, h1, h2, h3⟩ := HO.out.kid j hj
                  exact ⟨u1, u2, h1, h2, h3⟩⟩
              (by
                rw [HO.out.dep]
                show r.ts[k].kids.length + (r.ts[k].kids.map (nw m)).sum = _
                simp [Src.els])
            have HST : Hid (type_of% hstep) := hstep
            have HRB6 : Hid ((w5.setCell ⟨r.tb, k * 4 + 3, none⟩ (.slice (some ⟨g, 0, none⟩) r.ts[k].kids.length c5)).heap[w.heap.size + 1]? = some (.cells #[.int .i64 0, .string ⟨#[]⟩, .slice none 0 0, .slice none 0 0] 27 (0, 0))) := (fr46.2 _ _ _ (.inl rfl) (by omega) HRB.out).trans HRB.out
            have HID6 : Hid (∀ e ∈ ids ++ (((blk (.slice a3 r.ts[k].names.length c3)).map fun x => ((r.b, some k), x)) ++ [((b, none), g)]), w.heap.size + 1 < e.2) := fun e he => by
              rcases List.mem_append.1 he with he | he
              · exact HIDS.out e he
              · rcases List.mem_append.1 he with he | he
                · obtain ⟨x, hx, rfl⟩ := List.mem_map.1 he
                  have := (blk_own HOWN.out hx).1
                  simp only
                  omega
                · simp only [List.mem_singleton] at he
                  subst he
                  simp only
                  omega
            have hz6 : w.heap.size + 1 + 1 < (w5.setCell ⟨r.tb, k * 4 + 3, none⟩ (.slice (some ⟨g, 0, none⟩) r.ts[k].kids.length c5)).heap.size := by simp; omega
            clear hstep o5 o6 hfour hoth hT5 fr46 fr45 frT on56 hbel6 hbel5 hrow5 hcop5 hlist5 hpl5 honly5
            go_wp2_with fail
            go_roundw
            case rel => exact ⟨vL5, _, k + 1, _, _, _, HKL.out, by go_num, HST.out.1, HST.out.2, by have := HROOT.out; simp only [List.mem_append] at this ⊢; rcases this with h | h; exact .inl h; exact .inr (.inl h), HRB6.out, HID6.out, hz6⟩
            case measure => simp [intOf]; have := HKL.out; omega
        · have hke : k = r.ts.length := by omega
          subst hke
          have hE := hI.exit hX
          have HE : Hid (type_of% hE) := hE
          have HR : Hid (rootS w n lo hi t ∈ dn ++ [r] ++ pd) := hroot
          have HID : Hid (type_of% hids) := hids
          have HLN : Hid ((dn ++ [r]).length = dn.length + 1) := by show _ = _; simp
          have hlf : ¬ (r.ts.length : Int) < (r.ts.length : Int) := by omega
          clear hI hX hroot hids hE
          go_wp2_with fail
          go_roundw
          case rel => exact ⟨vL, cnt, dn ++ [r], pd, ids, by rw [HLN.out]; go_num, HE.out, HR.out, hbx, HID.out, hzr⟩
          case measure => simp [intOf]; have := HNN.out; omega

end Go.Proofs.YtjihkebafoajdaaGreatDoor
