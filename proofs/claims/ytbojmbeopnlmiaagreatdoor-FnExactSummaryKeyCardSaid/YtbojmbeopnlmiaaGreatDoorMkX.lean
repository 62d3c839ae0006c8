/-
 The walk of a maker's kidForms.
-/
import Derived.Test.YtbojmbeopnlmiaaGreatDoorPcJ
namespace Go.Proofs.YtbojmbeopnlmiaaGreatDoor
open Go.RowKit Go.Shelf
theorem RowAt.recap {w : World} {R : List Value → Ty → Prop} {a : Option Addr} {l c c' : Nat} {ts : List Ty} (h : RowAt w R (.slice a l c) ts) : RowAt w R (.slice a l c') ts := by
 rcases h with ⟨e, x, cap, e2⟩ | ⟨b, off, cap, e, hc⟩
 ·simp only [Value.slice.injEq] at e2
  exact .inl ⟨e, x, c', by rw [e2.1, e2.2.1]⟩
 ·simp only [Value.slice.injEq] at e
  exact .inr ⟨b, off, c', by rw [e.1, e.2.1], hc⟩
def KFPost (C : MkC) (M : Mk) (A : Nat → Prop) (n : Nat) (ks : List Ty) (d : Int) (w : World) (e : Ending) (w' : World) : Prop := ∃ (a : Option Addr) (l c : Nat) (ok : Bool) (M' : Mk), e = .returned (.tuple #[.slice a l c, .bool ok]) ∧ (ok = true ↔ ∀ q ∈ ks, Right n q d) ∧ (ok = true → ∃ nums, KidsOf M'.F nums ks ∧ VRow M'.ext w' (.slice a l c) (nums.map (valAt M'.F))) ∧ Step C M M' w w' A ∧ M'.F.length ≤ M.F.length + rowBulk n ks ∧ (ok = true → ∀ r ∈ M'.L, r ∈ M.L ∨ (ks ≠ [] ∧ hiMost r.ts ≤ hiMost ks))
theorem known_list {C : MkC} {M : Mk} {A : Nat → Prop} {w : World} {n cap : Nat} {ks : List Ty} {a : Addr} {r : LRec} (h : MkAt C w M) (hrow : RowR A w (TyR A w n) (.slice (some a) ks.length cap) ks) (hr : r ∈ M.L) (hp : r.pl = a) (hl : r.ts.length = ks.length) : r.ts = ks := by
 obtain ⟨cap', h1⟩ := (h.ls r hr).types
 have h2 : RowAt w (TyAt w 13) (.slice (some a) ks.length cap) r.ts := by
  have := h1.at (R' := TyAt w 13) fun cs t _ q => q.at
  rw [hp, hl] at this
  exact this.recap
 have h3 : RowAt w (TyAt w n) (.slice (some a) ks.length cap) ks := hrow.at fun cs t _ q => q.at
 exact h2.det h3 (fun cs t q => TyAt.len q) (fun cs t q => TyAt.len q) fun cs t u _ q1 q2 => TyAt.det q1 q2
theorem row_ends {A : Nat → Prop} {w : World} {n : Nat} {v : Value} {ks : List Ty} (h : RowR A w (TyR A w n) v ks) : ∀ q ∈ ks, Ty.ends n q := fun q hq => by
 rcases h with ⟨e, _⟩ | ⟨b, off, cap, e, _, _, hc⟩
 ·rw [e] at hq; simp at hq
 ·obtain ⟨j, hj, rfl⟩ := List.getElem_of_mem hq
  obtain ⟨cs, h1, _⟩ := hc j hj
  exact h1.at.ends
theorem kids_ok {C : MkC} {M : Mk} {w : World} {nums : List Nat} {ks : List Ty} (h : MkAt C w M) (hk : KidsOf M.F nums ks) : ∀ q ∈ ks, Ty.ok q := fun q hq => by
 obtain ⟨j, hj, rfl⟩ := List.getElem_of_mem hq
 obtain ⟨r, h1, h2⟩ := hk.2 j (by rw [hk.1]; exact hj)
 rw [List.getElem?_eq_getElem hj, Option.some.injEq] at h2
 rw [h2]
 exact (h.each _ r h1).ok
theorem right_by_most {n : Nat} {ks : List Ty} {deep : Nat} (hok : ∀ q ∈ ks, Ty.ok q) (he : ∀ q ∈ ks, Ty.ends n q) (hne : ks ≠ []) : ((deep : Int) + (hiMost ks : Int) ≤ 12) ↔ ∀ q ∈ ks, Right n q (12 - (deep : Int)) := by
 constructor
 ·intro h q hq
  refine ((hok q hq).right (he q hq)).2 ?_
  have := hiMost_le.1 (Nat.le_refl (hiMost ks)) q hq
  omega
 ·intro h
  by_cases hd : deep ≤ 12
  ·have : hiMost ks ≤ 12 - deep := hiMost_le.2 fun q hq => by
    have := ((hok q hq).right (he q hq)).1 (h q hq)
    omega
   omega
  ·obtain ⟨q, hq⟩ := List.exists_mem_of_ne_nil ks hne
   have h1 := ((hok q hq).right (he q hq)).1 (h q hq)
   omega
theorem lookL_mem {L : List LRec} {a : Addr} {m : Nat} (h : lookL L a m = none) {r : LRec} (hr : r ∈ L) (hp : r.pl = a) (hl : r.ts.length = m) : False := by
 induction L with
 | nil => simp at hr
 | cons x l ih =>
  unfold lookL at h
  split at h
  ·simp at h
  ·rename_i c
   rcases List.mem_cons.1 hr with rfl | hr
   ·exact c ⟨hp, hl⟩
   ·exact ih h hr
set_option maxHeartbeats 1200000 in
set_option maxRecDepth 100000 in
open Classical in
theorem implKidForms (n : Nat) (ih : FormOfAt n) (C : MkC) (M : Mk) (A : Nat → Prop) (vk : Value) (ks : List Ty) (deep : Nat) (w : World) (hM : MkAt C w M) (hA : ExtOk C w A) (hT : MkTab C w) (hrow : RowR A w (TyR A w n) vk ks) (hbk : rowBulk n ks ≤ 1048576) (hd : deep ≤ 14) (hFl : M.F.length + rowBulk n ks + 1 ≤ 2305843009213693952) :
  Calls Tryz.prog 95 #[.pointer (some ⟨C.mb, 0, none⟩), vk, .int .i64 deep] w (KFPost C M A n ks (12 - (deep : Int)) w) := by
 have hlen : ks.length ≤ 1048576 := by unfold rowBulk at hbk; omega
 by_cases hne : ks = []
 ·subst hne
  obtain ⟨av, capv, rfl, _⟩ := rowROpen hrow
  have HEND : Hid (KFPost C M A n [] (12 - (deep : Int)) w (.returned (.tuple #[.slice none 0 0, .bool true])) w) := ⟨none, 0, 0, true, M, rfl, ⟨fun _ q hq => by simp at hq, fun _ => rfl⟩, fun _ => ⟨[], ⟨rfl, fun j h => absurd h (by simp)⟩, .inl ⟨rfl, none, 0, rfl⟩⟩, Step.refl hM A, by omega, fun _ r hr => .inl hr⟩
  have hl0 : ([] : List Ty).length = 0 := rfl
  rw [hl0] at *
  clear hM hA hT hrow hbk hFl ih
  go_enter Tryz.func95, Tryz.ntmps95
  go_wp2_with fail
  go_ret2
  exact HEND.out
 ·have hpos : 0 < ks.length := List.length_pos_iff.2 hne
  have hrow0 := hrow
  rcases hrow with ⟨e, _⟩ | ⟨b, off, cap, rfl, hab, ⟨cur, et, hbc⟩, hc⟩
  ·exact absurd e hne
  have hblt : b < w.heap.size := (Array.getElem?_eq_some_iff.1 hbc).1
  have HPL : Hid (∀ wx : World, Calls Tryz.prog 69 #[.slice (some ⟨b, off, none⟩) ks.length cap] wx fun e w' => e = .returned (.agg #[.pointer (some ⟨b, off, none⟩), .int .i64 ks.length]) ∧ Below wx.heap.size wx w') := fun wx => implPlaceOf b off ks.length cap wx hpos
  have hz : ((ks.length : Int) == 0) = false := by rw [beq_eq_false_iff_ne]; omega
  have hzn : ¬ ((ks.length : Int) = 0) := by omega
  obtain ⟨vkey, nk, xs, hs0, _⟩ := hM.self
  -- what the call of placeOf, and its box, leave
  have HW : Hid (∀ w1 : World, Below w.heap.size w w1 → MkAt C w1 M ∧ ExtOk C w1 A ∧ MkTab C w1 ∧ RowR A w1 (TyR A w1 n) (.slice (some ⟨b, off, none⟩) ks.length cap) ks ∧ RowsOf w1 (some ⟨b, off, none⟩) ∧ w1.heap[C.mb]? = some (.cells #[vkey, .map (some C.fb), .map (some C.lb), .map (some C.tb)] 92 (0, 0))) := fun w1 h1 => by
   have hf : MkF C w w1 := MkF.ofBelow h1
   refine ⟨hM.below h1, hA.step hf, hT.step hf hM.base, hrow0.same (hA.sameF hf) fun cs t _ q => q.same (hA.sameF hf), fun x hx => ?_, (h1.block _ (Array.getElem?_eq_some_iff.1 hs0).1).trans hs0⟩
   simp only [Option.some.injEq] at hx
   subst hx
   exact ⟨cur, et, (h1.block b hblt).trans hbc⟩
  have HENDS : Hid (∀ q ∈ ks, Ty.ends n q) := row_ends hrow0
  have HIH : Hid (type_of% ih) := ih
  clear hM hA hT hrow0 hc hbc ih hs0
  go_enter Tryz.func95, Tryz.ntmps95
  go_wp2_with (go_at_call 69; refine (HPL.out _).mono ?_; rintro e w1 ⟨rfl, hb1⟩; refine Hid.out ?_)
  refine Lib.hid ?_
  obtain ⟨W, hWdef⟩ : ∃ W, W = w1.alloc (.cells #[.pointer (some ⟨b, off, none⟩), .int .i64 ks.length] 105) := ⟨_, rfl⟩
  have hbW : Below w.heap.size w W := by rw [hWdef]; exact hb1.alloc hb1.size _
  obtain ⟨hMW, hAW, hTW, hrowW, hRW, hsW⟩ := HW.out W hbW
  have hpW : W.heap[w1.heap.size]? = some (.cells #[.pointer (some ⟨b, off, none⟩), .int .i64 ks.length] 105 (0, 0)) := by rw [hWdef]; exact (MapKept.heap_alloc w1 _).1
  obtain ⟨⟨s0, s1, s2, s3⟩, hfs⟩ := block4M hsW
  have p0 : W.cell? ⟨w1.heap.size, 0, none⟩ = some (.pointer (some ⟨b, off, none⟩)) := by rw [cell_of_row W _ 0 _ _ (0, 0) hpW]; rfl
  have p1 : W.cell? ⟨w1.heap.size, 1, none⟩ = some (.int .i64 ks.length) := by rw [cell_of_row W _ 1 _ _ (0, 0) hpW]; rfl
  have hlk0 := fun q : Nat => run_lookup_pl (w := W.drewN q) (show LMapAt (W.drewN q) C.lb M.L from hMW.lists) (fun r hr => hMW.rows r hr) (show RowsOf (W.drewN q) (some ⟨b, off, none⟩) from hRW) ks.length
  have HMW : Hid (type_of% hMW) := hMW
  have HAW : Hid (type_of% hAW) := hAW
  have HTW : Hid (type_of% hTW) := hTW
  have HRW : Hid (type_of% hrowW) := hrowW
  have HRO : Hid (type_of% hRW) := hRW
  have HBW : Hid (type_of% hbW) := hbW
  have HSW : Hid (type_of% hsW) := hsW
  have HPW : Hid (type_of% hpW) := hpW
  clear hMW hAW hTW hrowW hRW HW hbW hsW hpW hb1 HPL
  cases hl : lookL M.L ⟨b, off, none⟩ ks.length with
  | some r =>
   obtain ⟨hrm, hrp, hrl⟩ := lookL_some hl
   rw [hl] at hlk0
   have hL := HMW.out.ls r hrm
   have hts : r.ts = ks := known_list HMW.out HRW.out hrm hrp hrl
   have hkids : KidsOf M.F r.ks ks := by have := hL.kids; rw [hts] at this; exact this
   have hkl : r.ks.length = ks.length := hkids.1
   obtain ⟨g, capr, hrv⟩ : ∃ g capr, r.v = .slice (some ⟨g, 0, none⟩) ks.length capr := by
    rcases hL.row with ⟨e, _⟩ | ⟨g, capr, e, _⟩
    ·have := congrArg List.length e
     rw [List.length_map, hkl] at this
     exact absurd this (by rw [List.length_nil]; omega)
    ·exact ⟨g, capr, by rw [e, List.length_map, hkl]⟩
   have hlk : ∀ q, Sem.run Tryz.prog (Instr.lookup 89 (.map (some C.lb)) (.agg #[.pointer (some ⟨b, off, none⟩), .int .i64 ks.length]) false) (W.drewN q) = .ok (.slice (some ⟨g, 0, none⟩) ks.length capr) (W.drewN q) := fun q => by
    rw [hlk0 q, Option.map_some, Option.getD_some, hrv]
   have hneq : ∀ wx : World, Sem.run Tryz.prog (binOp BinOp.neq 131 (.slice (some ⟨g, 0, none⟩) ks.length capr) (.slice none 0 0)) wx = .ok (.bool true) wx := fun wx => by kernel_rfl
   have hbd : ∀ q, Below W.heap.size W (W.drewN q) := fun q => below_drewN (Below.refl _ _) q
   have HHT : Hid (∀ q, Calls Tryz.prog 118 #[.slice (some ⟨g, 0, none⟩) ks.length capr] (W.drewN q) fun e w' => e = .returned (.int .i64 (hiMost ks)) ∧ w' = W.drewN q) := fun q => implHeightOf C M _ r.ks ks M.ext (W.drewN q) (HMW.out.below (hbd q)) (by rw [← hrv]; exact hL.row.same (HMW.out.extSame (MkF.ofBelow (hbd q)))) hkids (by omega)
   have hoks := kids_ok HMW.out hkids
   have hh12 : hiMost ks ≤ 12 := hiMost_le.2 fun k hk => (hoks k hk).hi_le
   have HEND : Hid (∀ q, KFPost C M A n ks (12 - (deep : Int)) w (.returned (.tuple #[.slice (some ⟨g, 0, none⟩) ks.length capr, .bool (decide ((deep : Int) + (hiMost ks : Int) ≤ 12))])) (W.drewN q)) := fun q => by
    have hst : Step C M M w (W.drewN q) A := ⟨HMW.out.below (hbd q), (MkF.ofBelow HBW.out).trans (MkF.ofBelow (hbd q)), ⟨[], by simp⟩, rfl, fun _ h => h, fun _ h => .inl h⟩
    refine ⟨_, _, _, _, M, rfl, ?_, fun _ => ⟨r.ks, hkids, ?_⟩, hst, by omega, fun _ r hr => .inl hr⟩
    ·rw [decide_eq_true_iff]
     exact right_by_most hoks HENDS.out hne
    ·rw [← hrv]
     exact hL.row.same (HMW.out.extSame (MkF.ofBelow (hbd q)))
   clear hlk0 hl hrm hrp hrl hL hts hkids hkl hrv hbd hoks HMW HAW HTW HRW HRO HBW HSW HPW HENDS HIH
   generalize hiMost ks = hm at *
   subst hWdef
   go_wp2_with fail
   go_quiet (fail)
   go_wp2_with (go_at_call 118; refine (HHT.out _).mono ?_; rintro e w9 ⟨rfl, rfl⟩)
   go_ret2
   exact HEND.out _
  | none =>
   rw [hl] at hlk0
   have hlk : ∀ q, Sem.run Tryz.prog (Instr.lookup 89 (.map (some C.lb)) (.agg #[.pointer (some ⟨b, off, none⟩), .int .i64 ks.length]) false) (W.drewN q) = .ok (.slice none 0 0) (W.drewN q) := hlk0
   have hneq : ∀ wx : World, Sem.run Tryz.prog (binOp BinOp.neq 131 (.slice none 0 0) (.slice none 0 0)) wx = .ok (.bool false) wx := fun wx => by kernel_rfl
   have hbd : ∀ q, Below W.heap.size W (W.drewN q) := fun q => below_drewN (Below.refl _ _) q
   have HFO : Hid (∀ q, Calls Tryz.prog 119 #[.pointer (some ⟨C.mb, 0, none⟩), .slice (some ⟨b, off, none⟩) ks.length cap, .int .i64 deep] (W.drewN q) (FSPost C M A n ks (12 - (deep : Int)) (W.drewN q))) := fun q => by
    have hf : MkF C W (W.drewN q) := MkF.ofBelow (hbd q)
    exact implFormsOf n HIH.out C M A _ ks deep (W.drewN q) (HMW.out.below (hbd q)) (HAW.out.step hf) (HTW.out.step hf HMW.out.base) (HRW.out.same (HAW.out.sameF hf) fun cs t _ q => q.same (HAW.out.sameF hf)) hbk hd hFl
   have HX : Hid (∀ q, MkF C w (W.drewN q) ∧ ExtOk C (W.drewN q) A ∧ RowR A (W.drewN q) (TyR A (W.drewN q) n) (.slice (some ⟨b, off, none⟩) ks.length cap) ks ∧ RowsOf (W.drewN q) (some ⟨b, off, none⟩) ∧ (W.drewN q).heap[w1.heap.size]? = some (.cells #[.pointer (some ⟨b, off, none⟩), .int .i64 ks.length] 105 (0, 0)) ∧ Step C M M w (W.drewN q) A) := fun q => by
    have hf : MkF C W (W.drewN q) := MkF.ofBelow (hbd q)
    have hfw : MkF C w (W.drewN q) := (MkF.ofBelow HBW.out).trans hf
    exact ⟨hfw, HAW.out.step hf, HRW.out.same (HAW.out.sameF hf) fun cs t _ q => q.same (HAW.out.sameF hf), HRO.out, HPW.out, HMW.out.below (hbd q), hfw, ⟨[], by simp⟩, rfl, fun _ h => h, fun _ h => .inl h⟩
   have HLN : Hid (lookL M.L ⟨b, off, none⟩ ks.length = none) := hl
   clear hlk0 hl hbd HMW HAW HTW HRW HRO HBW HSW HPW HIH
   subst hWdef
   go_wp2_with fail
   go_quiet (fail)
   go_wp2_with fail
   have HXX := HX.out nq
   have HFX : Hid (type_of% (HFO.out nq)) := HFO.out nq
   clear HX HFO hlk p0 p1 s0 s1 s2 s3 hfs
   generalize World.drewN _ nq = X at *
   obtain ⟨hfX, hAX, hrX, hRX, hpX, hstX⟩ := HXX
   refine HFX.out.mono ?_
   rintro e w2 ⟨v, ok, M1, rfl, hok, hfm, hst, hfl, ⟨a, l, c, rfl⟩, hls⟩
   clear HFX
   have hstw := hstX.trans hst
   cases ok with
   | false =>
    have HEND : Hid (KFPost C M A n ks (12 - (deep : Int)) w (.returned (.tuple #[.slice a l c, .bool false])) w2) := ⟨a, l, c, false, M1, rfl, hok, fun h => Bool.noConfusion h, hstw, hfl, fun h => Bool.noConfusion h⟩
    clear hok hfm hst hls hstw hfX hAX hrX hRX hpX hstX
    go_wp2_with fail
    go_ret2
    exact HEND.out
   | true =>
    obtain ⟨nums, hkd, hown⟩ := hfm rfl
    have hall := hok.1 rfl
    have hls1 := hls rfl
    have hnl : nums.length = ks.length := hkd.1
    rw [hnl] at hown
    have hoks := kids_ok hst.here hkd
    obtain ⟨g, capg, curg, hvg, hgb, hgh, hg1, hg2, hg3, hg4⟩ : ∃ g cap cur, (Value.slice a l c) = .slice (some ⟨g, 0, none⟩) ks.length cap ∧ X.heap.size ≤ g ∧ w2.heap[g]? = some (.cells cur 94 (0, 0)) ∧ ks.length ≤ cap ∧ cap ≤ maxLen ∧ cur.size = cap * 1 ∧ cur.toList.take (ks.length * 1) = nums.map (valAt M1.F) := by
     rcases hown.2 with ⟨_, h0⟩ | q
     ·omega
     ·exact q
    simp only [Value.slice.injEq] at hvg
    obtain ⟨rfl, rfl, rfl⟩ := hvg
    have hcell : ∀ j (hj : j < (nums.map (valAt M1.F)).length), w2.cell? ⟨g, j, none⟩ = some (nums.map (valAt M1.F))[j] := fun j hj => by
     rw [hown.cellAt j (by rw [List.length_map] at hj; omega), List.getElem?_eq_getElem hj]
    have hExt : ExtOk C w2 (fun x => A x ∨ x = g) := fun x hx => by
     rcases hx with hx | rfl
     ·exact (hAX.step hst.fr) x hx
     ·exact ⟨(Array.getElem?_eq_some_iff.1 hgh).1, .inr ⟨_, _, hgh, .inl rfl⟩⟩
    have hM2 := hst.here.wider hExt
    have hrow2 : VRow (M1.more fun x => A x ∨ x = g).ext w2 (.slice (some ⟨g, 0, none⟩) ks.length c) (nums.map (valAt M1.F)) := .inr ⟨g, c, by rw [List.length_map, hnl], by rw [List.length_map, hnl]; exact hg1, .inr (.inr rfl), hcell⟩
    have hst2 : Step C M (M1.more fun x => A x ∨ x = g) w w2 A := ⟨hM2, hstw.fr, hstw.F, hstw.T, fun x hx => .inl (hstw.extL x hx), fun x hx => by
     rcases hx with hx | hx | rfl
     ·exact hstw.extR x hx
     ·exact .inr (.inl hx)
     ·exact .inr (.inr (Nat.le_trans hfX.size hgb))⟩
    have hmost : ∀ r ∈ M1.L, r ∈ M.L ∨ hiMost r.ts < hiMost ks := fun r hr => by
     rcases hls1 r hr with q | ⟨q, hq, hlt⟩
     ·exact .inl q
     ·have := hiMost_le.1 (Nat.le_refl (hiMost ks)) q hq
      exact .inr (by omega)
    have HNO : Hid (KFPost C M A n ks (12 - (deep : Int)) w (.returned (.tuple #[.slice (some ⟨g, 0, none⟩) ks.length c, .bool true])) w2) := ⟨_, _, _, true, (M1.more fun x => A x ∨ x = g), rfl, hok, fun _ => ⟨nums, hkd, hrow2⟩, hst2, hfl, fun _ r hr => (hmost r hr).imp id fun q => ⟨hne, by omega⟩⟩
    obtain ⟨r0, hr0⟩ : ∃ r0 : LRec, r0 = ⟨⟨b, off, none⟩, ks, nums, .slice (some ⟨g, 0, none⟩) ks.length c⟩ := ⟨_, rfl⟩
    have hrow13 : RowR (M1.more fun x => A x ∨ x = g).ext w2 (TyR (M1.more fun x => A x ∨ x = g).ext w2 13) (.slice (some ⟨b, off, none⟩) ks.length cap) ks := by
     have h1 := hrX.same (hAX.sameF hst.fr) (R' := TyR A w2 n) fun cs t _ q => q.same (hAX.sameF hst.fr)
     exact h1.sub (fun x hx => .inr (.inl hx)) fun cs t ht q => (q.depth (hoks t ht).ends).sub fun x hx => .inr (.inl hx)
    have hLO : ListOk w2 (M1.more fun x => A x ∨ x = g) r0 := by
     rw [hr0]
     exact ⟨hpos, ⟨cap, hrow13⟩, hkd, hrow2⟩
    have hR2 : RowsOf w2 (some ⟨b, off, none⟩) := fun x hx => by
     obtain ⟨cu, ee, q⟩ := hRX x hx
     simp only [Option.some.injEq] at hx
     subst hx
     exact ⟨cu, ee, (hAX.sameF hst.fr b hab).trans q⟩
    have hnone : lookL M1.L r0.pl r0.ts.length = none := by
     cases hll : lookL M1.L r0.pl r0.ts.length with
     | none => rfl
     | some r1 =>
      exfalso
      obtain ⟨q1, q2, q3⟩ := lookL_some hll
      rw [hr0] at q2 q3
      have hts : r1.ts = ks := known_list (hM2) (r := r1) hrow13 q1 q2 q3
      rcases hmost r1 q1 with q | q
      ·exact lookL_mem HLN.out q q2 q3
      ·rw [hts] at q
       omega
    obtain ⟨w3, hup0, hL3, hbut⟩ := run_update_pl (w := w2.drew) (L := M1.L) hM2.lists (fun r hr => hM2.rows r hr) r0 (by rw [hr0]; exact hR2) hnone
    have hup : Sem.run Tryz.prog (Instr.mapUpdate 89 (.map (some C.lb)) (.agg #[.pointer (some ⟨b, off, none⟩), .int .i64 ks.length]) (.slice (some ⟨g, 0, none⟩) ks.length c)) w2.drew = .ok () w3 := by
     have := hup0
     rw [hr0] at this
     exact this
    have HYES : Hid (KFPost C M A n ks (12 - (deep : Int)) w (.returned (.tuple #[.slice (some ⟨g, 0, none⟩) ks.length c, .bool true])) w3) := by
     have hMd : MkAt C w2.drew (M1.more fun x => A x ∨ x = g) := hM2.below ⟨rfl, rfl, rfl, Nat.le_refl _, fun _ _ => rfl⟩
     have hLOd : ListOk w2.drew (M1.more fun x => A x ∨ x = g) r0 := hLO.same fun _ _ => rfl
     have hM3 := hMd.list r0 hLOd hL3 hbut
     have hF3 : MkF C w2 w3 := MkF.wrote (w := w2.drew) (MkF.refl C w2).drew hbut hMd.mineLb
     have hs3 : Step C M { (M1.more fun x => A x ∨ x = g) with L := M1.L ++ [r0] } w w3 A := ⟨hM3, hst2.fr.trans hF3, hst2.F, hst2.T, hst2.extL, hst2.extR⟩
     refine ⟨_, _, _, true, { (M1.more fun x => A x ∨ x = g) with L := M1.L ++ [r0] }, rfl, hok, fun _ => ⟨nums, hkd, hrow2.same (ExtOk.sameF (A := (M1.more fun x => A x ∨ x = g).ext) hM2.extok hF3)⟩, hs3, hfl, fun _ r hr => ?_⟩
     have hr' : r ∈ M1.L ++ [r0] := hr
     rcases List.mem_append.1 hr' with hr' | hr'
     ·exact (hmost r hr').imp id fun q => ⟨hne, by omega⟩
     ·rw [List.mem_singleton] at hr'
      rw [hr', hr0]
      exact .inr ⟨hne, Nat.le_refl _⟩
    have HHT : Hid (Calls Tryz.prog 118 #[.slice (some ⟨g, 0, none⟩) ks.length c] w2 fun e w' => e = .returned (.int .i64 (hiMost ks)) ∧ w' = w2) := implHeightOf C _ _ nums ks _ w2 hM2 hrow2 hkd (by omega)
    obtain ⟨vkey2, nk2, xs2, hs2, _⟩ := hM2.self
    obtain ⟨⟨s0, s1, s2, s3⟩, hfs⟩ := block4M hs2
    have hp2 := hst.fr.row hpX (by unfold mkT; decide)
    have p0 : w2.cell? ⟨w1.heap.size, 0, none⟩ = some (.pointer (some ⟨b, off, none⟩)) := by rw [cell_of_row w2 _ 0 _ _ (0, 0) hp2]; rfl
    have p1 : w2.cell? ⟨w1.heap.size, 1, none⟩ = some (.int .i64 ks.length) := by rw [cell_of_row w2 _ 1 _ _ (0, 0) hp2]; rfl
    have hh12 : hiMost ks ≤ 12 := hiMost_le.2 fun k hk => (hoks k hk).hi_le
    clear hok hfm hst hls hstw hfX hAX hrX hRX hpX hstX hkd hall hls1 hoks hown hcell hExt hM2 hrow2 hst2 hmost hrow13 hLO hR2 hnone hup0 hL3 hbut hgh hg4 hs2 hp2 HLN HENDS hnl hr0
    generalize hiMost ks = hm at *
    by_cases h8 : 8 < ks.length
    ·have h8i : (8 : Int) < (ks.length : Int) := by omega
     go_wp2_with fail
     go_region
     all_goals go_wp2_with fail
     all_goals go_ret2
     all_goals exact HYES.out
    ·have h8i : ¬ ((8 : Int) < (ks.length : Int)) := by omega
     by_cases hm0 : 0 < hm
     ·have hmi : (0 : Int) < (hm : Int) := by omega
      go_wp2_with (go_at_call 118; refine HHT.out.mono ?_; rintro e w9 ⟨rfl, rfl⟩)
      go_region
      all_goals go_wp2_with fail
      all_goals go_ret2
      all_goals exact HYES.out
     ·have hmi : ¬ ((0 : Int) < (hm : Int)) := by omega
      go_wp2_with (go_at_call 118; refine HHT.out.mono ?_; rintro e w9 ⟨rfl, rfl⟩)
      go_ret2
      exact HNO.out
structure TStep (C : MkC) (M M' : Mk) (w w' : World) : Prop where
 here : MkAt C w' M'
 fr : MkF C w w'
 F : M'.F = M.F
 L : M'.L = M.L
 T : M'.T = M.T
 extL : ∀ b, M.ext b → M'.ext b
 extR : ∀ b, M'.ext b → M.ext b ∨ w.heap.size ≤ b
theorem TStep.refl {C : MkC} {M : Mk} {w : World} (h : MkAt C w M) : TStep C M M w w := ⟨h, MkF.refl _ _, rfl, rfl, rfl, fun _ h => h, fun _ h => .inl h⟩
theorem TStep.trans {C : MkC} {M M1 M2 : Mk} {w w1 w2 : World} (h : TStep C M M1 w w1) (k : TStep C M1 M2 w1 w2) : TStep C M M2 w w2 :=
 ⟨k.here, h.fr.trans k.fr, k.F.trans h.F, k.L.trans h.L, k.T.trans h.T, fun b hb => k.extL b (h.extL b hb), fun b hb => (k.extR b hb).elim (h.extR b) fun q => .inr (Nat.le_trans h.fr.size q)⟩
theorem TStep.below {C : MkC} {M M1 : Mk} {w w1 w2 : World} (h : TStep C M M1 w w1) (hb : Below w1.heap.size w1 w2) : TStep C M M1 w w2 := ⟨h.here.below hb, h.fr.trans (MkF.ofBelow hb), h.F, h.L, h.T, h.extL, h.extR⟩
theorem TStep.step {C : MkC} {M M' : Mk} {w w' : World} (h : TStep C M M' w w') (A : Nat → Prop) : Step C M M' w w' A := ⟨h.here, h.fr, ⟨[], by rw [h.F, List.append_nil]⟩, h.T, h.extL, fun b hb => (h.extR b hb).elim .inl fun q => .inr (.inr q)⟩
open Classical in
def UnionKidsAt : Prop := ∀ (C : MkC) (M : Mk) (v : Value) (ks : List Nat) (ts : List Ty) (w : World), MkAt C w M → VRow M.ext w v (ks.map (valAt M.F)) → KidsOf M.F ks ts → ks.length ≤ 1048577 →
 Calls Tryz.prog 122 #[v] w fun e w' => ∃ M', e = .returned (.bool (decide (UKids ts))) ∧ TStep C M M' w w'
set_option maxHeartbeats 1600000 in
set_option maxRecDepth 100000 in
open Classical in
theorem implKindOk (hU : UnionKidsAt) (n : Nat) (kd : Int) (nm : ByteArray) (nms : List ByteArray) (kts : List Ty) (C : MkC) (M : Mk) (an : Option Addr) (ln cn : Nat) (ak4 : Option Addr) (lk4 ck4 : Nat) (ak : Option Addr) (lk ck : Nat) (ks : List Nat) (w : World) (hM : MkAt C w M) (hT : MkTab C w) (hv : VRow M.ext w (.slice ak lk ck) (ks.map (valAt M.F))) (hk : KidsOf M.F ks kts) (hn : Texts w (.slice an ln cn) nms) (hnm : nm.size ≤ 1048576) (hnl : nms.length ≤ 1048576) (hns : ∀ x ∈ nms, x.size ≤ 1048576) (hkl : ks.length ≤ 1048577) (hown : ownAlone kd nm nms.length kts.length = true) (htx : ∀ k ∈ kts, Ty.text n k = Ty.txt k) :
  Calls Tryz.prog 96 #[.agg #[.int .i64 kd, .string nm, .slice an ln cn, .slice ak4 lk4 ck4], .slice ak lk ck] w fun e w' => ∃ M', e = .returned (.bool (decide (OwnRight n (.mk kd nm nms kts)))) ∧ TStep C M M' w w' := by
 have hB1 : Below w.heap.size w (w.alloc (.cells #[.int .i64 kd, .string nm, .slice an ln cn, .slice ak4 lk4 ck4] 30)) := (Below.refl _ _).alloc (Nat.le_refl _) _
 obtain ⟨W, hW⟩ : ∃ W, W = w.alloc (.cells #[.int .i64 kd, .string nm, .slice an ln cn, .slice ak4 lk4 ck4] 30) := ⟨_, rfl⟩
 rw [← hW] at hB1
 have hTS : TStep C M M w W := (TStep.refl hM).below hB1
 have hTW : MkTab C W := hT.step (MkF.ofBelow hB1) hM.base
 have hlkk : lk = ks.length := by
  obtain ⟨a, cap, e, _⟩ := hv.open
  simp only [Value.slice.injEq, List.length_map] at e
  exact e.2.1
 have hvW : VRow M.ext W (.slice ak lk ck) (ks.map (valAt M.F)) := hv.same (hM.extSame (MkF.ofBelow hB1))
 have hlow : 0 < W.heap.size := Nat.lt_of_lt_of_le hT.low (Nat.le_trans hM.base hB1.size)
 have hkk : ks.length = kts.length := hk.1
 by_cases h03 : kd = 0 ∨ kd = 1 ∨ kd = 2 ∨ kd = 3
 ·have HEND : Hid (∃ M', (Ending.returned (.bool true)) = .returned (.bool (decide (OwnRight n (.mk kd nm nms kts)))) ∧ TStep C M M' w W) := ⟨M, by rw [decide_eq_true (own_plain h03 hown)], hTS⟩
  clear hM hT hv hk hn hns hown htx hTS hTW hvW hB1
  subst hW
  rcases h03 with rfl | rfl | rfl | rfl
  all_goals
   go_enter Tryz.func96, Tryz.ntmps96
   go_wp2_with fail
   go_ret
   exact HEND.out
 ·by_cases h4 : kd = 4
  ·subst h4
   have HC := implTypeNameOk nm W (by omega) hTW.cls hlow
   have HCH : Hid (type_of% HC) := HC
   have HEND : Hid (∀ w2 : World, Below W.heap.size W w2 → ∃ M', (Ending.returned (.bool (dottedP nm))) = .returned (.bool (decide (OwnRight n (.mk 4 nm nms kts)))) ∧ TStep C M M' w w2) := fun w2 h2 => ⟨M, by congr 2; rw [Bool.eq_iff_iff, decide_eq_true_iff]; exact (own_name hown).symm, hTS.below h2⟩
   clear hM hT hv hk hn hns hown htx hTS hTW hvW hB1 HC
   subst hW
   go_enter Tryz.func96, Tryz.ntmps96
   go_wp2_with fail
   refine HCH.out.mono ?_
   rintro e w2 ⟨rfl, hb2⟩
   have hE := HEND.out w2 hb2
   have HE : Hid (type_of% hE) := hE
   clear hE HEND hb2
   go_wp2_with fail
   go_ret
   exact HE.out
  ·by_cases h5 : kd = 5
   ·subst h5
    have HC := implFieldsOk (.slice an ln cn) nms ak lk ck W (hn.below hB1) hnl hns hTW.cls hlow
    have HCH : Hid (type_of% HC) := HC
    have HEND : Hid (∀ w2 : World, Below W.heap.size W w2 → ∃ M', (Ending.returned (.bool (decide (FieldsRight nms lk)))) = .returned (.bool (decide (OwnRight n (.mk 5 nm nms kts)))) ∧ TStep C M M' w w2) := fun w2 h2 => ⟨M, by congr 2; rw [Bool.eq_iff_iff, decide_eq_true_iff, decide_eq_true_iff, hlkk, hkk]; exact (own_record hown).symm, hTS.below h2⟩
    clear hM hT hv hk hn hns hown htx hTS hTW hvW hB1 HC hlkk hkk
    subst hW
    generalize decide (FieldsRight nms lk) = bb at *
    go_enter Tryz.func96, Tryz.ntmps96
    go_wp2_with fail
    refine HCH.out.mono ?_
    rintro e w2 ⟨rfl, hb2⟩
    have hE := HEND.out w2 hb2
    have HE : Hid (type_of% hE) := hE
    clear hE HEND hb2
    go_wp2_with fail
    go_ret
    exact HE.out
   ·by_cases h6 : kd = 6
    ·subst h6
     have HEND : Hid (∃ M', (Ending.returned (.bool (decide ((0 : Int) < (lk : Int))))) = .returned (.bool (decide (OwnRight n (.mk 6 nm nms kts)))) ∧ TStep C M M' w W) := ⟨M, by congr 2; rw [Bool.eq_iff_iff, decide_eq_true_iff, decide_eq_true_iff, own_fn hown]; omega, hTS⟩
     clear hM hT hv hk hn hns hown htx hTS hTW hvW hB1 hlkk hkk
     subst hW
     go_enter Tryz.func96, Tryz.ntmps96
     go_wp2_with fail
     go_ret
     have hE := HEND.out
     simpa using hE
    ·by_cases h7 : kd = 7
     ·subst h7
      have HC := hU C M _ ks kts W hTS.here hvW hk hkl
      have HCH : Hid (type_of% HC) := HC
      have HEND : Hid (∀ (w2 : World) (M' : Mk), TStep C M M' W w2 → ∃ M', (Ending.returned (.bool (decide (UKids kts)))) = .returned (.bool (decide (OwnRight n (.mk 7 nm nms kts)))) ∧ TStep C M M' w w2) := fun w2 M' h2 => ⟨M', by congr 2; rw [Bool.eq_iff_iff, decide_eq_true_iff, decide_eq_true_iff]; exact (own_union hown htx).symm, hTS.trans h2⟩
      clear hM hT hv hk hn hns hown htx hTS hTW hvW hB1 HC hlkk hkk
      subst hW
      generalize decide (UKids kts) = bb at *
      go_enter Tryz.func96, Tryz.ntmps96
      go_wp2_with fail
      refine HCH.out.mono ?_
      rintro e w2 ⟨M', rfl, hb2⟩
      have hE := HEND.out w2 M' hb2
      have HE : Hid (type_of% hE) := hE
      clear hE HEND hb2
      go_wp2_with fail
      go_ret
      exact HE.out
     ·have hout : kd < 0 ∨ 7 < kd := by omega
      have HEND : Hid (∃ M', (Ending.returned (.bool false)) = .returned (.bool (decide (OwnRight n (.mk kd nm nms kts)))) ∧ TStep C M M' w W) := ⟨M, by rw [decide_eq_false (own_other hout)], hTS⟩
      have k0 : (kd == 0) = false := by rw [beq_eq_false_iff_ne]; omega
      have k1 : (kd == 1) = false := by rw [beq_eq_false_iff_ne]; omega
      have k2 : (kd == 2) = false := by rw [beq_eq_false_iff_ne]; omega
      have k3 : (kd == 3) = false := by rw [beq_eq_false_iff_ne]; omega
      have k4 : (kd == 4) = false := by rw [beq_eq_false_iff_ne]; omega
      have k5 : (kd == 5) = false := by rw [beq_eq_false_iff_ne]; omega
      have k6 : (kd == 6) = false := by rw [beq_eq_false_iff_ne]; omega
      have k7 : (kd == 7) = false := by rw [beq_eq_false_iff_ne]; omega
      clear hM hT hv hk hn hns hown htx hTS hTW hvW hB1 hlkk hkk hout h03
      subst hW
      go_enter Tryz.func96, Tryz.ntmps96
      go_wp2_with fail
      go_ret
      exact HEND.out
end Go.Proofs.YtbojmbeopnlmiaaGreatDoor
