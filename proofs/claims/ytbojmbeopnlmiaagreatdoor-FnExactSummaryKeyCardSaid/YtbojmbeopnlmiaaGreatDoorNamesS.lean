/-
 The walk of spec.TypeNames: the names in a type, ascending, each once; by recursion on its depth.
-/
import Derived.Test.YtbojmbeopnlmiaaGreatDoorLkS
namespace Go.Proofs.YtbojmbeopnlmiaaGreatDoor
open Go.RowKit
theorem cellNewT {w : World} {cs : Array Value} {t : TypeId} {b : Nat} (i : Nat) (h : b = w.heap.size) : (w.alloc (.cells cs t)).cell? ⟨b, i, none⟩ = cs[i]? := by
 subst h
 simp
theorem heap_mid (w : World) (A B C : Obj) : (((w.alloc A).alloc B).alloc C).heap[w.heap.size + 1]? = some B := by
 have h1 := (MapKept.heap_alloc ((w.alloc A).alloc B) C).2 (w.heap.size + 1) (by simp)
 rw [h1]
 exact heap_second w A B
structure Held (w : World) (v : Value) (r : List ByteArray) : Prop where
 form : ∃ g cap, v = .slice (some ⟨g, 0, none⟩) r.length cap ∧ r.length ≤ cap
 texts : Texts w v r
 asc : Asc r
theorem Held.below {w w' : World} {v : Value} {r : List ByteArray} (h : Held w v r) (hb : Below w.heap.size w w') : Held w' v r := ⟨h.form, h.texts.below hb, h.asc⟩
theorem held_none {w : World} {g : Nat} : Held w (.slice (some ⟨g, 0, none⟩) 0 0) [] := ⟨⟨g, 0, rfl, Nat.le_refl _⟩, .inl ⟨rfl, _, _, rfl⟩, List.Pairwise.nil⟩
theorem held_one {w : World} {B : Nat} {v : Value} {s : ByteArray} (h : w.ownsRow B 9 1 v (0 + 1) ([] ++ [.string s])) (hn : v ≠ .slice none 0 0) : Held w v [s] := by
 rcases h.2 with ⟨e, _⟩ | ⟨g, cap, cur, hv, _, _, hc, _⟩
 ·exact absurd e hn
 ·refine ⟨⟨g, cap, hv, hc⟩, ?_, List.pairwise_singleton _ _⟩
  rw [hv] at h ⊢
  exact Texts.own (ts := [s]) h
def kidsHave (n : Nat) (t : Ty) (k : Nat) (x : ByteArray) : Prop := (t.kind = 4 ∧ t.name = x) ∨ ∃ j, ∃ hj : j < t.kids.length, j < k ∧ namesIn n t.kids[j] x
theorem kidsHave_none {n : Nat} {t : Ty} {x : ByteArray} : kidsHave n t 0 x ↔ t.kind = 4 ∧ t.name = x := by
 constructor
 ·rintro (h | ⟨j, _, h, _⟩)
  ·exact h
  ·omega
 ·exact .inl
theorem kidsHave_more {n : Nat} {t : Ty} {k : Nat} {x : ByteArray} (hk : k < t.kids.length) : kidsHave n t (k + 1) x ↔ kidsHave n t k x ∨ namesIn n t.kids[k] x := by
 constructor
 ·rintro (h | ⟨j, hj, hjk, h⟩)
  ·exact .inl (.inl h)
  ·by_cases c : j = k
   ·subst c; exact .inr h
   ·exact .inl (.inr ⟨j, hj, by omega, h⟩)
 ·rintro ((h | ⟨j, hj, hjk, h⟩) | h)
  ·exact .inl h
  ·exact .inr ⟨j, hj, by omega, h⟩
  ·exact .inr ⟨k, hk, by omega, h⟩
theorem kidsHave_all {n : Nat} {t : Ty} {x : ByteArray} : kidsHave n t t.kids.length x ↔ namesIn (n + 1) t x := by
 unfold namesIn
 rw [Ty.nodes]
 constructor
 ·rintro (h | ⟨j, hj, _, u, hu, h⟩)
  ·exact ⟨t, List.mem_cons_self .., h⟩
  ·exact ⟨u, List.mem_cons_of_mem _ (List.mem_flatMap.2 ⟨_, List.getElem_mem hj, hu⟩), h⟩
 ·rintro ⟨u, hu, h⟩
  rcases List.mem_cons.1 hu with e | hu
  ·subst e; exact .inl h
  ·obtain ⟨q, hq, hu⟩ := List.mem_flatMap.1 hu
   obtain ⟨j, hj, rfl⟩ := List.getElem_of_mem hq
   exact .inr ⟨j, hj, hj, u, hu, h⟩
def nodeSum (n : Nat) (ks : List Ty) : Nat := (ks.map fun k => (Ty.nodes n k).length).sum
theorem nodeSum_more (n : Nat) (ks : List Ty) (k : Nat) (h : k < ks.length) : nodeSum n (ks.take (k + 1)) = nodeSum n (ks.take k) + (Ty.nodes n ks[k]).length := by
 unfold nodeSum
 rw [List.take_succ_eq_append_getElem h, List.map_append, List.sum_append]
 simp
theorem nodeSum_le (n : Nat) (ks : List Ty) (k : Nat) : nodeSum n (ks.take k) ≤ nodeSum n ks := by
 unfold nodeSum
 have : ks.map (fun k => (Ty.nodes n k).length) = (ks.take k).map (fun k => (Ty.nodes n k).length) ++ (ks.drop k).map (fun k => (Ty.nodes n k).length) := by rw [← List.map_append, List.take_append_drop]
 rw [this, List.sum_append]
 omega
theorem nodes_sum (n : Nat) (t : Ty) : (Ty.nodes (n + 1) t).length = 1 + nodeSum n t.kids := by
 rw [Ty.nodes, List.length_cons, List.length_flatMap]
 unfold nodeSum
 omega
set_option maxHeartbeats 1600000 in
set_option maxRecDepth 100000 in
theorem specNames (n : Nat) : ∀ (cs : List Value) (t : Ty) (w : World), TyAt w n cs t → (Ty.nodes n t).length ≤ 1048577 →
  Calls Tryz.prog 99 #[.agg cs.toArray] w fun e w' => ∃ g cap r, e = .returned (.slice (some ⟨g, 0, none⟩) r.length cap) ∧ Held w' (.slice (some ⟨g, 0, none⟩) r.length cap) r ∧ r.length ≤ (Ty.nodes n t).length ∧ (∀ x, x ∈ r ↔ namesIn n t x) ∧ Below w.heap.size w w' := by
 induction n with
 | zero => intro cs t w h; exact h.elim
 | succ n ih =>
  intro cs t w h hN
  obtain ⟨vn, vk, rfl, hkd, hnm, _, hkl, hrow⟩ := h
  rw [nodes_sum] at hN ⊢
  obtain ⟨av, capv, rfl, hel⟩ := rowOpen hrow
  obtain ⟨i0, hi, hz0, hz1, hz2⟩ := info_parts Tryz.infoString
  unfold maxLen at hkl
  have hkd1 := hkd.1
  have hkd2 := hkd.2
  have HEL : Hid (type_of% hel) := hel
  have IH : Hid (type_of% ih) := ih
  have HS : Hid (∀ wx : World, Below (w.heap.size + 1) (w.alloc (.cells #[.int .i64 t.kind, .string t.name, vn, .slice av t.kids.length capv] 30)) wx → (wx.cell? ⟨w.heap.size, 3, none⟩ = some (.slice av t.kids.length capv) ∧ wx.cell? ⟨w.heap.size, 1, none⟩ = some (.string t.name)) ∧ Below w.heap.size w wx ∧ w.heap.size + 1 ≤ wx.heap.size) := fun wx hx => by
   refine ⟨⟨?_, ?_⟩, ((Below.refl _ _).alloc (Nat.le_refl _) _).trans (hx.mono (by omega)), by have := hx.size; simpa using this⟩
   ·rw [hx.cell (p := ⟨w.heap.size, 3, none⟩) (Nat.lt_succ_self _), cellNewT _ rfl]; rfl
   ·rw [hx.cell (p := ⟨w.heap.size, 1, none⟩) (Nat.lt_succ_self _), cellNewT _ rfl]; rfl
  have HSUM : Hid (∀ k (h : k < t.kids.length), nodeSum n (t.kids.take (k + 1)) = nodeSum n (t.kids.take k) + (Ty.nodes n t.kids[k]).length ∧ nodeSum n (t.kids.take (k + 1)) ≤ nodeSum n t.kids) := fun k h => ⟨nodeSum_more n t.kids k h, nodeSum_le n t.kids (k + 1)⟩
  have HALL : Hid (∀ x, kidsHave n t t.kids.length x ↔ namesIn (n + 1) t x) := fun x => kidsHave_all
  have HMORE : Hid (∀ k (h : k < t.kids.length) x, kidsHave n t (k + 1) x ↔ kidsHave n t k x ∨ namesIn n t.kids[k] x) := fun k h x => kidsHave_more h
  clear hrow hel ih hkd hnm
  by_cases h4 : t.kind = 4
  ·have HST : Hid (∀ x, x ∈ [t.name] ↔ kidsHave n t 0 x) := fun x => by rw [kidsHave_none, List.mem_singleton]; exact ⟨fun e => ⟨h4, e.symm⟩, fun e => e.2.symm⟩
   have hkt : (t.kind == 4) = true := beq_iff_eq.2 h4
   clear h4
   go_enter Tryz.func99, Tryz.ntmps99
   go_wp2_with (at_builtin; refine wpList_append_own _ rfl _ _ 22 rfl (w.heap.size + 1) 9 i0 (.string ⟨#[]⟩) 1 16 Tryz.underlying22 hi hz0 hz1 hz2 rfl (by decide) (.slice (some ⟨w.heap.size + 1, 0, none⟩) 0 0) 0 [] rfl (own_empty (heap_mid w _ _ _) (Nat.le_refl _)) ⟨w.heap.size + 1 + 1, 0, none⟩ 1 1 [.string t.name] rfl rfl ?c1 ?c2 ?c3 ?c4 ?c5 ?_)
   case c1 => exact one_cell (cellNewT 0 (by simp))
   case c2 => intro u hu; simp at hu; subst hu; rfl
   case c3 => unfold maxLen; omega
   case c4 => omega
   case c5 => simp
   intro v' w1 hown' hgrow hnil
   have hh := held_one hown' hnil
   obtain ⟨g, cap, e0, _⟩ := hh.form
   have e1 : v' = .slice (some ⟨g, 0, none⟩) 1 cap := e0
   clear e0
   have D0 : Below (w.heap.size + 1) (w.alloc (.cells #[.int .i64 t.kind, .string t.name, vn, .slice av t.kids.length capv] 30)) w1 := ((((Below.refl _ _).alloc (by simp) _).alloc (by simp <;> omega) _).grown hgrow (by simp <;> omega) (fun j hj => by simp [Value.ownBlock] at hj; omega))
   rw [e1] at hh
   have HH0 : Hid (type_of% hh) := hh
   clear hown' hgrow hnil hh
   subst e1
   go_wp2_with fail
   go_loopw [3, 4] (fun v i wr => ∃ (k g cap : Nat) (r : List ByteArray), k ≤ t.kids.length ∧ i = .int .i64 k ∧ v = .slice (some ⟨g, 0, none⟩) r.length cap ∧ Held wr (.slice (some ⟨g, 0, none⟩) r.length cap) r ∧ r.length ≤ 1 + nodeSum n (t.kids.take k) ∧ (∀ x, x ∈ r ↔ kidsHave n t k x) ∧ Below (w.heap.size + 1) (w.alloc (.cells #[.int .i64 t.kind, .string t.name, vn, .slice av t.kids.length capv] 30)) wr) (fun _ i _ => t.kids.length - (intOf i).toNat)
   case atStart => exact ⟨0, _, _, [t.name], Nat.zero_le _, rfl, rfl, HH0.out, by simp [nodeSum], HST.out, D0⟩
   case round =>
    obtain ⟨k, g, cap, r, hk, rfl, rfl, hheld, hrl, hmem, D⟩ := hrel
    have HH : Hid (type_of% hheld) := hheld
    have HM : Hid (type_of% hmem) := hmem
    obtain ⟨⟨s3, s1⟩, hbw, hz⟩ := HS.out wr D
    clear hheld hmem HST
    by_cases hlt : k < t.kids.length
    ·obtain ⟨b, off, x0, x1, x2, x3, rfl, hba, hta, a0, a1, a2, a3⟩ := HEL.out k hlt
     have A0 := (hbw.cell (p := ⟨b, off + k * 4, none⟩) hba).trans a0
     have A1 := (hbw.cell (p := ⟨b, off + k * 4 + 1, none⟩) hba).trans a1
     have A2 := (hbw.cell (p := ⟨b, off + k * 4 + 2, none⟩) hba).trans a2
     have A3 := (hbw.cell (p := ⟨b, off + k * 4 + 3, none⟩) hba).trans a3
     obtain ⟨hs1, hs2⟩ := HSUM.out k hlt
     have HC0 := IH.out [x0, x1, x2, x3] t.kids[k] wr (hta.below hbw) (by omega)
     have HC : Hid (type_of% HC0) := HC0
     have HMK : Hid (∀ x, kidsHave n t (k + 1) x ↔ kidsHave n t k x ∨ namesIn n t.kids[k] x) := HMORE.out k hlt
     clear a0 a1 a2 a3 HC0 hta
     go_wp2_with fail
     refine HC.out.mono ?_
     rintro e w2 ⟨g2, cap2, r2, rfl, hh2, hr2, hm2, hb2⟩
     have hsum : r.length + r2.length ≤ 1 + nodeSum n (t.kids.take (k + 1)) := by omega
     have HM2 : Hid (∀ x, x ∈ r2 ↔ namesIn n t.kids[k] x) := hm2
     have HHH : Hid (Held w2 (.slice (some ⟨g, 0, none⟩) r.length cap) r) := HH.out.below hb2
     have D2 : Below (w.heap.size + 1) (w.alloc (.cells #[.int .i64 t.kind, .string t.name, vn, .slice (some ⟨b, off, none⟩) t.kids.length capv] 30)) w2 := D.trans (hb2.mono hz)
     have HR2 : Hid (∀ j (hj : j < r2.length), w2.cell? ⟨g2, j, none⟩ = some (.string r2[j])) := fun j hj => by
      rcases hh2.texts with ⟨e, _⟩ | ⟨g', off', c', e, hcl⟩
      ·rw [e] at hj; simp at hj
      ·simp only [Value.slice.injEq, Option.some.injEq, Addr.mk.injEq] at e
       obtain ⟨⟨rfl, rfl, _⟩, _, rfl⟩ := e
       have := hcl j hj
       rw [Nat.zero_add] at this
       exact this
     have hN2 : 1 + nodeSum n (t.kids.take (k + 1)) ≤ 1048577 := by omega
     generalize hnk : nodeSum n (t.kids.take (k + 1)) = NK at *
     clear HC HH A0 A1 A2 A3 s3 s1 hbw hz D hm2 hh2 hs1 hs2 hr2 hrl hb2
     go_wp2_with fail
     go_loopw [3, 6] (fun v i wr => ∃ (q g cap : Nat) (r' : List ByteArray), q ≤ r2.length ∧ i = .int .i64 q ∧ v = .slice (some ⟨g, 0, none⟩) r'.length cap ∧ Held wr (.slice (some ⟨g, 0, none⟩) r'.length cap) r' ∧ r'.length ≤ r.length + q ∧ (∀ x, x ∈ r' ↔ x ∈ r ∨ x ∈ r2.take q) ∧ Below w2.heap.size w2 wr) (fun _ i _ => r2.length - (intOf i).toNat)
     case atStart => exact ⟨0, _, _, r, Nat.zero_le _, rfl, rfl, HHH.out, Nat.le_refl _, fun x => by simp, Below.refl _ _⟩
     case round =>
      obtain ⟨q, g3, cap3, r', hq, rfl, rfl, hheld, hrl, hmem, hb3⟩ := hrel
      by_cases hlq : q < r2.length
      ·have hg2 : g2 < w2.heap.size := World.block_lt_of_cell? w2 ⟨g2, q, none⟩ (HR2.out q hlq)
       have C := (hb3.cell (p := ⟨g2, q, none⟩) hg2).trans (HR2.out q hlq)
       obtain ⟨g4, cap4, e4, hcap4⟩ := hheld.form
       simp only [Value.slice.injEq, Option.some.injEq, Addr.mk.injEq, true_and, and_true] at e4
       obtain ⟨rfl, rfl⟩ := e4
       have HP0 := specPut g3 cap3 r' r2[q] wr hheld.texts hcap4 (by omega) hheld.asc
       have HP : Hid (type_of% HP0) := HP0
       have HM3 : Hid (∀ r'' : List ByteArray, (∀ x, x ∈ r'' ↔ x = r2[q] ∨ x ∈ r') → ∀ x, x ∈ r'' ↔ x ∈ r ∨ x ∈ r2.take (q + 1)) := fun r'' hr'' x => by
        rw [hr'', hmem, List.take_succ_eq_append_getElem hlq, List.mem_append, List.mem_singleton]
        constructor
        ·rintro (h | h | h)
         ·exact .inr (.inr h)
         ·exact .inl h
         ·exact .inr (.inl h)
        ·rintro (h | h | h)
         ·exact .inr (.inl h)
         ·exact .inr (.inr h)
         ·exact .inl h
       generalize r2[q] = y at *
       clear HP0 hheld hmem hcap4
       go_wp2_with fail
       refine HP.out.mono ?_
       rintro e w4 ⟨g5, cap5, r5, rfl, ht5, hc5, hl5, ha5, hm5, hb5⟩
       have HF5 : Hid (Held w4 (.slice (some ⟨g5, 0, none⟩) r5.length cap5) r5) := ⟨⟨g5, cap5, rfl, hc5⟩, ht5, ha5⟩
       have HM5 := HM3.out r5 hm5
       have HM6 : Hid (type_of% HM5) := HM5
       have hb4 : Below w2.heap.size w2 w4 := hb3.trans (hb5.mono hb3.size)
       clear ht5 hc5 ha5 hm5 HM5 hb5 HP
       go_wp2_with fail
       go_roundw
       case rel => exact ⟨q + 1, g5, cap5, r5, by omega, by go_num, rfl, HF5.out, by omega, HM6.out, hb4⟩
       case measure => simp [intOf]; omega
      ·have hqe : q = r2.length := by omega
       subst hqe
       rw [List.take_of_length_le (Nat.le_refl _)] at hmem
       have HF : Hid (Held wr (.slice (some ⟨g3, 0, none⟩) r'.length cap3) r' ∧ ∀ x, x ∈ r' ↔ kidsHave n t (k + 1) x) := ⟨hheld, fun x => by rw [hmem, HM.out, HM2.out, HMK.out]⟩
       have D3 := D2.trans (hb3.mono (by have := D2.size; simpa using this))
       have hlen3 : r'.length ≤ 1 + NK := by omega
       clear hheld hmem
       go_wp2_with fail
       go_roundw
       case rel => exact ⟨k + 1, g3, cap3, r', by omega, by go_num, rfl, HF.out.1, by rw [hnk]; exact hlen3, HF.out.2, D3⟩
       case measure => simp [intOf]; omega
    ·have hke : k = t.kids.length := by omega
     have HF : Hid (Held wr (.slice (some ⟨g, 0, none⟩) r.length cap) r ∧ r.length ≤ 1 + nodeSum n t.kids ∧ ∀ x, x ∈ r ↔ namesIn (n + 1) t x) := by
      subst hke
      rw [List.take_of_length_le (Nat.le_refl _)] at hrl
      exact ⟨HH.out, hrl, fun x => by rw [HM.out, HALL.out]⟩
     clear HH HM hrl
     go_wp2_with fail
     go_ret
     exact ⟨g, cap, r, rfl, HF.out.1, HF.out.2.1, HF.out.2.2, hbw⟩
  ·have HST : Hid (∀ x, x ∈ ([] : List ByteArray) ↔ kidsHave n t 0 x) := fun x => by rw [kidsHave_none]; exact ⟨fun e => by simp at e, fun e => absurd e.1 h4⟩
   go_enter Tryz.func99, Tryz.ntmps99
   go_wp2_with fail
   have hkf : (t.kind == 4) = false := beq_eq_false_iff_ne.2 h4
   simp only [hkf]
   have D0 : Below (w.heap.size + 1) (w.alloc (.cells #[.int .i64 t.kind, .string t.name, vn, .slice av t.kids.length capv] 30)) ((w.alloc (.cells #[.int .i64 t.kind, .string t.name, vn, .slice av t.kids.length capv] 30)).alloc (.cells #[] 9)) := (Below.refl _ _).alloc (by simp) _
   go_loopw [3, 4] (fun v i wr => ∃ (k g cap : Nat) (r : List ByteArray), k ≤ t.kids.length ∧ i = .int .i64 k ∧ v = .slice (some ⟨g, 0, none⟩) r.length cap ∧ Held wr (.slice (some ⟨g, 0, none⟩) r.length cap) r ∧ r.length ≤ 1 + nodeSum n (t.kids.take k) ∧ (∀ x, x ∈ r ↔ kidsHave n t k x) ∧ Below (w.heap.size + 1) (w.alloc (.cells #[.int .i64 t.kind, .string t.name, vn, .slice av t.kids.length capv] 30)) wr) (fun _ i _ => t.kids.length - (intOf i).toNat)
   case atStart => exact ⟨0, _, _, ([] : List ByteArray), Nat.zero_le _, rfl, rfl, held_none, by simp [nodeSum], HST.out, D0⟩
   case round =>
    obtain ⟨k, g, cap, r, hk, rfl, rfl, hheld, hrl, hmem, D⟩ := hrel
    have HH : Hid (type_of% hheld) := hheld
    have HM : Hid (type_of% hmem) := hmem
    obtain ⟨⟨s3, s1⟩, hbw, hz⟩ := HS.out wr D
    clear hheld hmem HST
    by_cases hlt : k < t.kids.length
    ·obtain ⟨b, off, x0, x1, x2, x3, rfl, hba, hta, a0, a1, a2, a3⟩ := HEL.out k hlt
     have A0 := (hbw.cell (p := ⟨b, off + k * 4, none⟩) hba).trans a0
     have A1 := (hbw.cell (p := ⟨b, off + k * 4 + 1, none⟩) hba).trans a1
     have A2 := (hbw.cell (p := ⟨b, off + k * 4 + 2, none⟩) hba).trans a2
     have A3 := (hbw.cell (p := ⟨b, off + k * 4 + 3, none⟩) hba).trans a3
     obtain ⟨hs1, hs2⟩ := HSUM.out k hlt
     have HC0 := IH.out [x0, x1, x2, x3] t.kids[k] wr (hta.below hbw) (by omega)
     have HC : Hid (type_of% HC0) := HC0
     have HMK : Hid (∀ x, kidsHave n t (k + 1) x ↔ kidsHave n t k x ∨ namesIn n t.kids[k] x) := HMORE.out k hlt
     clear a0 a1 a2 a3 HC0 hta
     go_wp2_with fail
     refine HC.out.mono ?_
     rintro e w2 ⟨g2, cap2, r2, rfl, hh2, hr2, hm2, hb2⟩
     have hsum : r.length + r2.length ≤ 1 + nodeSum n (t.kids.take (k + 1)) := by omega
     have HM2 : Hid (∀ x, x ∈ r2 ↔ namesIn n t.kids[k] x) := hm2
     have HHH : Hid (Held w2 (.slice (some ⟨g, 0, none⟩) r.length cap) r) := HH.out.below hb2
     have D2 : Below (w.heap.size + 1) (w.alloc (.cells #[.int .i64 t.kind, .string t.name, vn, .slice (some ⟨b, off, none⟩) t.kids.length capv] 30)) w2 := D.trans (hb2.mono hz)
     have HR2 : Hid (∀ j (hj : j < r2.length), w2.cell? ⟨g2, j, none⟩ = some (.string r2[j])) := fun j hj => by
      rcases hh2.texts with ⟨e, _⟩ | ⟨g', off', c', e, hcl⟩
      ·rw [e] at hj; simp at hj
      ·simp only [Value.slice.injEq, Option.some.injEq, Addr.mk.injEq] at e
       obtain ⟨⟨rfl, rfl, _⟩, _, rfl⟩ := e
       have := hcl j hj
       rw [Nat.zero_add] at this
       exact this
     have hN2 : 1 + nodeSum n (t.kids.take (k + 1)) ≤ 1048577 := by omega
     generalize hnk : nodeSum n (t.kids.take (k + 1)) = NK at *
     clear HC HH A0 A1 A2 A3 s3 s1 hbw hz D hm2 hh2 hs1 hs2 hr2 hrl hb2
     go_wp2_with fail
     go_loopw [3, 6] (fun v i wr => ∃ (q g cap : Nat) (r' : List ByteArray), q ≤ r2.length ∧ i = .int .i64 q ∧ v = .slice (some ⟨g, 0, none⟩) r'.length cap ∧ Held wr (.slice (some ⟨g, 0, none⟩) r'.length cap) r' ∧ r'.length ≤ r.length + q ∧ (∀ x, x ∈ r' ↔ x ∈ r ∨ x ∈ r2.take q) ∧ Below w2.heap.size w2 wr) (fun _ i _ => r2.length - (intOf i).toNat)
     case atStart => exact ⟨0, _, _, r, Nat.zero_le _, rfl, rfl, HHH.out, Nat.le_refl _, fun x => by simp, Below.refl _ _⟩
     case round =>
      obtain ⟨q, g3, cap3, r', hq, rfl, rfl, hheld, hrl, hmem, hb3⟩ := hrel
      by_cases hlq : q < r2.length
      ·have hg2 : g2 < w2.heap.size := World.block_lt_of_cell? w2 ⟨g2, q, none⟩ (HR2.out q hlq)
       have C := (hb3.cell (p := ⟨g2, q, none⟩) hg2).trans (HR2.out q hlq)
       obtain ⟨g4, cap4, e4, hcap4⟩ := hheld.form
       simp only [Value.slice.injEq, Option.some.injEq, Addr.mk.injEq, true_and, and_true] at e4
       obtain ⟨rfl, rfl⟩ := e4
       have HP0 := specPut g3 cap3 r' r2[q] wr hheld.texts hcap4 (by omega) hheld.asc
       have HP : Hid (type_of% HP0) := HP0
       have HM3 : Hid (∀ r'' : List ByteArray, (∀ x, x ∈ r'' ↔ x = r2[q] ∨ x ∈ r') → ∀ x, x ∈ r'' ↔ x ∈ r ∨ x ∈ r2.take (q + 1)) := fun r'' hr'' x => by
        rw [hr'', hmem, List.take_succ_eq_append_getElem hlq, List.mem_append, List.mem_singleton]
        constructor
        ·rintro (h | h | h)
         ·exact .inr (.inr h)
         ·exact .inl h
         ·exact .inr (.inl h)
        ·rintro (h | h | h)
         ·exact .inr (.inl h)
         ·exact .inr (.inr h)
         ·exact .inl h
       generalize r2[q] = y at *
       clear HP0 hheld hmem hcap4
       go_wp2_with fail
       refine HP.out.mono ?_
       rintro e w4 ⟨g5, cap5, r5, rfl, ht5, hc5, hl5, ha5, hm5, hb5⟩
       have HF5 : Hid (Held w4 (.slice (some ⟨g5, 0, none⟩) r5.length cap5) r5) := ⟨⟨g5, cap5, rfl, hc5⟩, ht5, ha5⟩
       have HM5 := HM3.out r5 hm5
       have HM6 : Hid (type_of% HM5) := HM5
       have hb4 : Below w2.heap.size w2 w4 := hb3.trans (hb5.mono hb3.size)
       clear ht5 hc5 ha5 hm5 HM5 hb5 HP
       go_wp2_with fail
       go_roundw
       case rel => exact ⟨q + 1, g5, cap5, r5, by omega, by go_num, rfl, HF5.out, by omega, HM6.out, hb4⟩
       case measure => simp [intOf]; omega
      ·have hqe : q = r2.length := by omega
       subst hqe
       rw [List.take_of_length_le (Nat.le_refl _)] at hmem
       have HF : Hid (Held wr (.slice (some ⟨g3, 0, none⟩) r'.length cap3) r' ∧ ∀ x, x ∈ r' ↔ kidsHave n t (k + 1) x) := ⟨hheld, fun x => by rw [hmem, HM.out, HM2.out, HMK.out]⟩
       have D3 := D2.trans (hb3.mono (by have := D2.size; simpa using this))
       have hlen3 : r'.length ≤ 1 + NK := by omega
       clear hheld hmem
       go_wp2_with fail
       go_roundw
       case rel => exact ⟨k + 1, g3, cap3, r', by omega, by go_num, rfl, HF.out.1, by rw [hnk]; exact hlen3, HF.out.2, D3⟩
       case measure => simp [intOf]; omega
    ·have hke : k = t.kids.length := by omega
     have HF : Hid (Held wr (.slice (some ⟨g, 0, none⟩) r.length cap) r ∧ r.length ≤ 1 + nodeSum n t.kids ∧ ∀ x, x ∈ r ↔ namesIn (n + 1) t x) := by
      subst hke
      rw [List.take_of_length_le (Nat.le_refl _)] at hrl
      exact ⟨HH.out, hrl, fun x => by rw [HM.out, HALL.out]⟩
     clear HH HM hrl
     go_wp2_with fail
     go_ret
     exact ⟨g, cap, r, rfl, HF.out.1, HF.out.2.1, HF.out.2.2, hbw⟩
end Go.Proofs.YtbojmbeopnlmiaaGreatDoor
