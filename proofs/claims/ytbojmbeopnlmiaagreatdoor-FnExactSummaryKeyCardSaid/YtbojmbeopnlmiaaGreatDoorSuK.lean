/-
 The walks of impl.namesOf and of slices.Equal at texts.
-/
import Derived.Test.YtbojmbeopnlmiaaGreatDoorSuO
namespace Go.Proofs.YtbojmbeopnlmiaaGreatDoor
open Go.RowKit
theorem suOne {X : World} {G : Nat} {v : Value} (h : X.cell? ⟨G, 0, none⟩ = some v) : ∀ j u, [v][j]? = some u → X.cell? ((⟨G, 0, none⟩ : Addr).add j) = some u := by
 intro j u hj
 match j, hj with
 | 0, hj => simp at hj; subst hj; simpa [Addr.add] using h
 | j + 1, hj => simp at hj
theorem suNew (w : World) (v : Value) (t : TypeId) : (w.alloc (.cells #[v] t)).cell? ⟨w.heap.size, 0, none⟩ = some v := by simp
theorem tyShapeS {w : World} {n : Nat} {x0 x1 x2 x3 : Value} {t : Ty} (h : TyAt w n [x0, x1, x2, x3] t) : ∃ an ln cn ak lk ck, x0 = .int .i64 t.kind ∧ x1 = .string t.name ∧ x2 = .slice an ln cn ∧ x3 = .slice ak lk ck := by
 cases n with
 | zero => exact h.elim
 | succ n =>
  obtain ⟨vn, vk, e, _, _, ⟨hT, _, _⟩, _, hR⟩ := h
  simp only [List.cons.injEq, and_true] at e
  obtain ⟨rfl, rfl, rfl, rfl⟩ := e
  have h1 : ∃ a l c, x2 = Value.slice a l c := by
   rcases hT with ⟨_, a, cap, e2⟩ | ⟨b, off, cap, e2, _⟩
   ·exact ⟨a, _, cap, e2⟩
   ·exact ⟨_, _, cap, e2⟩
  have h2 : ∃ a l c, x3 = Value.slice a l c := by
   rcases hR with ⟨_, a, cap, e2⟩ | ⟨b, off, cap, e2, _⟩
   ·exact ⟨a, _, cap, e2⟩
   ·exact ⟨_, _, cap, e2⟩
  obtain ⟨a1, l1, c1, e1⟩ := h1
  obtain ⟨a2, l2, c2, e2⟩ := h2
  exact ⟨a1, l1, c1, a2, l2, c2, rfl, rfl, e1, e2⟩
set_option maxHeartbeats 1600000 in
set_option maxRecDepth 100000 in
theorem implNamesOf (n : Nat) (v : Value) (es : List (ByteArray × Ty)) (w : World) (hrow : EnvAt w n v es) (hlen : es.length ≤ 1048576) :
  Calls Tryz.prog 83 #[v] w fun e w' => ∃ (a : Option Addr) (c : Nat), e = .returned (.slice a es.length c) ∧ w'.ownsRow w.heap.size 9 1 (.slice a es.length c) es.length (strV (es.map (·.1))) ∧ Below w.heap.size w w' := by
 obtain ⟨i0, hi0, hz0, hz1, hz2⟩ := info_parts Tryz.infoString
 obtain ⟨av, capv, rfl, hel⟩ := envOpen hrow
 have HEL : Hid (type_of% hel) := hel
 clear hel hrow
 go_enter Tryz.func83, Tryz.ntmps83
 go_wp2_with fail
 go_loopw [3, 8] (fun v i wr => ∃ (k : Nat) (zs : List ByteArray), k ≤ es.length ∧ i = .int .i64 k ∧ zs.length = k ∧ zs = (es.take k).map (·.1) ∧ wr.ownsRow w.heap.size 9 1 v zs.length (strV zs) ∧ Below w.heap.size w wr) (fun _ i _ => es.length - (intOf i).toNat)
 case atStart => exact ⟨0, [], Nat.zero_le _, rfl, rfl, rfl, World.ownsRow_nil _ _ _ _, Below.refl _ _⟩
 case round =>
  obtain ⟨k, zs, hk, rfl, hzl, hzs, how, hbe⟩ := hrel
  have HZ : Hid (zs = (es.take k).map (·.1)) := hzs
  have HZL : Hid (zs.length = k) := hzl
  have hzk : zs.length ≤ k := by omega
  have hzw : w.heap.size ≤ wr.heap.size := hbe.size
  clear hzs hzl
  obtain ⟨az, capz, hv⟩ := slice_ownT how
  subst hv
  by_cases hlt : k < es.length
  ·obtain ⟨b, off, x0, x1, x2, x3, rfl, hbl, _, hty, q0, q1, q2, q3, q4⟩ := HEL.out k hlt
   have c0 := (hbe.cell (p := ⟨b, off + k * 5, none⟩) hbl).trans q0
   have c1 := (hbe.cell (p := ⟨b, off + k * 5 + 1, none⟩) hbl).trans q1
   have c2 := (hbe.cell (p := ⟨b, off + k * 5 + 2, none⟩) hbl).trans q2
   have c3 := (hbe.cell (p := ⟨b, off + k * 5 + 3, none⟩) hbl).trans q3
   have c4 := (hbe.cell (p := ⟨b, off + k * 5 + 4, none⟩) hbl).trans q4
   obtain ⟨an, ln, cn, ak, lk, ck, rfl, rfl, rfl, rfl⟩ := tyShapeS hty
   have HZ2 : Hid (zs ++ [es[k].1] = (es.take (k + 1)).map (·.1)) := by
    show _ = _
    rw [List.take_succ_eq_append_getElem hlt, List.map_append, HZ.out]; rfl
   have hk0i : (0 : Int) ≤ (k : Int) := by omega
   have hk1i : (k : Int) < (es.length : Int) := by omega
   clear q0 q1 q2 q3 q4 HEL HZ hty
   generalize es[k].1 = x at *
   generalize es[k].2.kind = yk at *
   generalize es[k].2.name = yn at *
   have hB1 : Below wr.heap.size wr (wr.alloc (.cells #[.string x, .int .i64 yk, .string yn, .slice an ln cn, .slice ak lk ck] 75)) := (Below.refl _ _).alloc (Nat.le_refl _) _
   have how3 := kept_belowT how hB1
   have hw3 := hbe.trans (hB1.mono hzw)
   have hz3w : w.heap.size ≤ (wr.alloc (.cells #[.string x, .int .i64 yk, .string yn, .slice an ln cn, .slice ak lk ck] 75)).heap.size := hw3.size
   go_wp2_with (at_builtin; refine wpList_append_own _ rfl _ _ 22 rfl w.heap.size 9 i0 (.string ⟨#[]⟩) 1 16 Tryz.underlying22 hi0 hz0 hz1 hz2 rfl (by decide) _ _ _ rfl (how3.alloc _) ⟨wr.heap.size + 1, 0, none⟩ 1 1 [.string x] rfl rfl ?c1 ?c2 ?c3 ?c4 ?c5 ?_)
   case c1 =>
    have := suOne (suNew (wr.alloc (.cells #[.string x, .int .i64 yk, .string yn, .slice an ln cn, .slice ak lk ck] 75)) (.string x) 9)
    simpa using this
   case c2 => intro u hu; simp at hu; subst hu; rfl
   case c3 => unfold maxLen; omega
   case c4 => omega
   case c5 => simp; omega
   intro v' w4 hown' hgrow _
   have R1 : w4.ownsRow w.heap.size 9 1 v' (zs ++ [x]).length (strV (zs ++ [x])) := by simpa [strV] using hown'
   have R2 : Below w.heap.size w w4 := (hw3.alloc hz3w _).grown hgrow (by simp; omega) (fun j hj => (how3.lt j hj).1)
   have HZL2 : Hid ((zs ++ [x]).length = k + 1) := by show _ = _; rw [List.length_append, List.length_singleton, HZL.out]
   clear hown' hgrow how3 hw3
   go_wp2_with fail
   go_roundw
   case rel => exact ⟨k + 1, zs ++ [x], by omega, by go_num, HZL2.out, HZ2.out, R1, R2⟩
   case measure => simp [intOf]; omega
  ·have hke : k = es.length := by omega
   have HR : Hid (zs.length = es.length ∧ wr.ownsRow w.heap.size 9 1 (.slice az zs.length capz) zs.length (strV (es.map (·.1)))) := by
    refine ⟨by rw [HZL.out]; exact hke, ?_⟩
    have e1 := HZ.out
    rw [hke, List.take_length] at e1
    rw [← e1]
    exact how
   clear how HEL HZ
   go_wp2_with fail
   go_ret
   obtain ⟨h1, h2⟩ := HR.out
   rw [h1] at h2
   exact ⟨az, capz, by rw [h1]; rfl, h2, hbe⟩
theorem texts_openS {w : World} {v : Value} {ts : List ByteArray} (hT : Texts w v ts) : ∃ a cap, v = .slice a ts.length cap ∧ ∀ j (h : j < ts.length), ∃ b off, a = some ⟨b, off, none⟩ ∧ w.cell? ⟨b, off + j, none⟩ = some (.string ts[j]) := by
 rcases hT with ⟨h, a, cap, e⟩ | ⟨b, off, cap, e, hc⟩
 ·subst h; exact ⟨a, cap, e, fun j hj => absurd hj (by simp)⟩
 ·exact ⟨_, cap, e, fun j hj => ⟨b, off, rfl, hc j hj⟩⟩
theorem same_noS {a b : ByteArray} (h : a ≠ b) : (a.toList == b.toList) = false := by
 rw [beq_eq_false_iff_ne, Lib.toList_data, Lib.toList_data]
 intro e
 exact h (by
  cases a
  cases b
  exact congrArg ByteArray.mk (Array.toList_inj.1 e))
set_option maxHeartbeats 1600000 in
set_option maxRecDepth 100000 in
open Classical in
theorem slEqualT (va vb : Value) (xs ys : List ByteArray) (w : World) (ha : Texts w va xs) (hb : Texts w vb ys) (hla : xs.length ≤ 1048577) (hlb : ys.length ≤ 1048577) :
  Calls Tryz.prog 82 #[va, vb] w fun e w' => e = .returned (.bool (decide (xs = ys))) ∧ Below w.heap.size w w' := by
 obtain ⟨a, cap, rfl, hc⟩ := texts_openS ha
 obtain ⟨a', cap', rfl, hc'⟩ := texts_openS hb
 have HC : Hid (type_of% hc) := hc
 have HC' : Hid (type_of% hc') := hc'
 obtain ⟨RR, hRR⟩ : ∃ RR, RR = decide (xs = ys) := ⟨_, rfl⟩
 rw [← hRR]
 have HNO : Hid (xs ≠ ys → RR = false) := fun h => by rw [hRR]; exact decide_eq_false h
 have HYES : Hid (xs = ys → RR = true) := fun h => by rw [hRR]; exact decide_eq_true h
 clear hRR ha hb hc hc'
 by_cases hl : xs.length = ys.length
 ·have HL : Hid (type_of% hl) := hl
  rw [← hl]
  clear hl
  go_enter Tryz.func82, Tryz.ntmps82
  go_wp2_with fail
  go_loopw [13] (fun i wr => ∃ m : Nat, m ≤ xs.length ∧ i = .int .i64 m ∧ (∀ j (hj : j < xs.length) (hj' : j < ys.length), j < m → xs[j] = ys[j]) ∧ Below w.heap.size w wr) (fun i _ => xs.length - (intOf i).toNat)
  case atStart => exact ⟨0, Nat.zero_le _, rfl, fun j hj h h0 => absurd h0 (by omega), Below.refl _ _⟩
  case round =>
   obtain ⟨m, hm, rfl, hall, hbe⟩ := hrel
   have HALL : Hid (type_of% hall) := hall
   clear hall
   by_cases hlt : m < xs.length
   ·have hlt' : m < ys.length := by have := HL.out; omega
    obtain ⟨b, off, rfl, c1⟩ := HC.out m hlt
    obtain ⟨b', off', rfl, c0⟩ := HC'.out m hlt'
    have hb : b < w.heap.size := World.block_lt_of_cell? w ⟨b, off + m, none⟩ c1
    have hb' : b' < w.heap.size := World.block_lt_of_cell? w ⟨b', off' + m, none⟩ c0
    have C1 := (hbe.cell (p := ⟨b, off + m, none⟩) hb).trans c1
    have C0 := (hbe.cell (p := ⟨b', off' + m, none⟩) hb').trans c0
    have hm0 : (0 : Int) ≤ (m : Int) := by omega
    have hm1 : (m : Int) < (xs.length : Int) := by omega
    by_cases hls : xs[m] = ys[m]
    ·have HA2 : Hid (∀ j (hj : j < xs.length) (hj' : j < ys.length), j < m + 1 → xs[j] = ys[j]) := fun j hj hj' hjk => by
      by_cases c : j = m
      ·subst c; exact hls
      ·exact HALL.out j hj hj' (by omega)
     rw [← hls] at C0
     clear c0 c1 hls HALL HNO HYES HC HC'
     generalize xs[m] = x at *
     go_wp2_with fail
     go_quiet (fail)
     go_wp2_with fail
     go_roundw
     case rel => exact ⟨m + 1, by omega, by go_num, HA2.out, below_drewN hbe _⟩
     case measure => simp [intOf]; omega
    ·have HR : Hid (RR = false) := HNO.out fun h => hls (by subst h; rfl)
     have hcmp := same_noS hls
     clear c0 c1 hls HALL HNO HYES HC HC'
     generalize xs[m] = x at *
     generalize ys[m] = y at *
     go_wp2_with fail
     go_quiet (fail)
     go_wp2_with fail
     go_ret
     exact ⟨by rw [HR.out]; rfl, below_drewN hbe _⟩
   ·have HR : Hid (RR = true) := HYES.out (List.ext_getElem HL.out fun i h h' => HALL.out i h h' (by omega))
    clear HALL HNO HYES HC HC'
    go_wp2_with fail
    go_ret
    exact ⟨by rw [HR.out]; rfl, hbe⟩
 ·have HR : Hid (RR = false) := HNO.out fun h => hl (by rw [h])
  have hli : ¬ ((xs.length : Int) = (ys.length : Int)) := by omega
  clear HNO HYES HC HC'
  go_enter Tryz.func82, Tryz.ntmps82
  go_wp2_with fail
  go_ret
  exact ⟨by rw [HR.out]; rfl, Below.refl _ _⟩
end Go.Proofs.YtbojmbeopnlmiaaGreatDoor
namespace Go.Proofs.YtbojmbeopnlmiaaGreatDoor
open Go.RowKit Go.Shelf
set_option maxHeartbeats 800000 in
set_option maxRecDepth 100000 in
open Classical in
theorem implMkOk (n : Nat) (C : MkC) (M : Mk) (A : Nat → Prop) (x0 x1 x2 x3 : Value) (t : Ty) (w : World) (hM : MkAt C w M) (hA : ExtOk C w A) (hT : MkTab C w) (h : TyR A w n [x0, x1, x2, x3] t) (hbk : Ty.bulk n t ≤ 1048576) (hFl : M.F.length ≤ 1152921504606846976) :
  Calls Tryz.prog 41 #[.pointer (some ⟨C.mb, 0, none⟩), .agg #[x0, x1, x2, x3]] w fun e w' => ∃ M', e = .returned (.bool (decide (Right n t 12))) ∧ Step C M M' w w' A ∧ M'.F.length ≤ M.F.length + Ty.bulk n t + 1 := by
 obtain ⟨W, hW⟩ : ∃ W, W = w.alloc (.cells #[x0, x1, x2, x3] 30) := ⟨_, rfl⟩
 have hB1 : Below w.heap.size w W := by rw [hW]; exact (Below.refl _ _).alloc (Nat.le_refl _) _
 have hs : Step C M M w W A := (Step.refl hM A).below hB1
 have hf := implFormOf n C M A [x0, x1, x2, x3] t 0 W (hM.below hB1) (hA.step (MkF.ofBelow hB1)) (hT.step (MkF.ofBelow hB1) hM.base) (h.same (hA.sameF (MkF.ofBelow hB1))) hbk (by omega) (by omega)
 have HF : Hid (Calls Tryz.prog 66 #[.pointer (some ⟨C.mb, 0, none⟩), .agg #[x0, x1, x2, x3], .int .i64 0] (w.alloc (.cells #[x0, x1, x2, x3] 30)) fun e w' => ∃ v M', e = .returned (.tuple #[v, .bool (decide (Right n t 12))]) ∧ Step C M M' w w' A ∧ M'.F.length ≤ M.F.length + Ty.bulk n t + 1) := by
  rw [← hW]
  refine hf.mono ?_
  rintro e w' ⟨v, ok, M', rfl, h1, h2, h3, h4, h5⟩
  have e1 : ok = decide (Right n t 12) := by
   have h6 : ok = true ↔ Right n t 12 := h1
   by_cases hr : Right n t 12
   ·rw [decide_eq_true hr, h6.2 hr]
   ·rw [decide_eq_false hr]
    exact Bool.eq_false_iff.2 fun q => hr (h6.1 q)
  subst e1
  exact ⟨v, M', rfl, hs.then h3 fun b hb => .inr (.inl hb), h4⟩
 clear hf hs hB1 hW hM hA hT h hbk hFl
 generalize decide (Right n t 12) = R at *
 generalize M.F.length + Ty.bulk n t + 1 = NN at *
 go_enter Tryz.func41, Tryz.ntmps41
 go_wp2_with (go_at_call 66; refine HF.out.mono ?_; rintro e w2 ⟨v, M', rfl, hs, hl⟩; have HL : Hid (type_of% hl) := hl; clear hl)
 go_ret
 exact ⟨M', rfl, hs, HL.out⟩
end Go.Proofs.YtbojmbeopnlmiaaGreatDoor
namespace Go.Proofs.YtbojmbeopnlmiaaGreatDoor
open Go.RowKit
open Go.Sort (grow)
def EnvRight (n : Nat) (es : List (ByteArray × Ty)) : Prop := (∀ j (h : j < es.length), dottedP es[j].1 = true ∧ Right n es[j].2 12 ∧ ∀ _ : 0 < j, lessB (es[j - 1]'(by omega)).1 es[j].1) ∧ es.length ≤ 60
set_option maxHeartbeats 1600000 in
set_option maxRecDepth 100000 in
open Classical in
theorem specEnvOk (n : Nat) (v : Value) (es : List (ByteArray × Ty)) (w : World) (hrow : EnvAt w n v es) (hb : envBulk n es ≤ 1048576) :
  Calls Tryz.prog 49 #[v] w fun e w' => e = .returned (.bool (decide (EnvRight n es))) ∧ Below w.heap.size w w' := by
 obtain ⟨av, capv, rfl, hel⟩ := envOpen hrow
 have hlen : es.length ≤ 1048576 := by unfold envBulk at hb; omega
 obtain ⟨RR, hRR⟩ : ∃ RR, RR = decide (EnvRight n es) := ⟨_, rfl⟩
 rw [← hRR]
 have HNO : Hid (¬ EnvRight n es → RR = false) := fun h => by rw [hRR]; exact decide_eq_false h
 have HYES : Hid (EnvRight n es → RR = true) := fun h => by rw [hRR]; exact decide_eq_true h
 have HEL : Hid (type_of% hel) := hel
 have HB : Hid (type_of% hb) := hb
 clear hRR hel hrow hb
 go_enter Tryz.func49, Tryz.ntmps49
 go_wp2_with fail
 go_loopw [3] (fun i wr => ∃ k : Nat, k ≤ es.length ∧ i = .int .i64 k ∧ (∀ j (h : j < es.length), j < k → dottedP es[j].1 = true ∧ Right n es[j].2 12 ∧ ∀ _ : 0 < j, lessB (es[j - 1]'(by omega)).1 es[j].1) ∧ Below w.heap.size w wr) (fun i _ => es.length - (intOf i).toNat)
 case atStart => exact ⟨0, Nat.zero_le _, rfl, fun j _ h => absurd h (by omega), Below.refl _ _⟩
 case round =>
  obtain ⟨k, hk, rfl, hall, hbe⟩ := hrel
  have HALL : Hid (type_of% hall) := hall
  clear hall
  by_cases hlt : k < es.length
  ·obtain ⟨b, off, x0, x1, x2, x3, rfl, hbl, hsz, hty, q0, q1, q2, q3, q4⟩ := HEL.out k hlt
   have c0 := (hbe.cell (p := ⟨b, off + k * 5, none⟩) hbl).trans q0
   have c1 := (hbe.cell (p := ⟨b, off + k * 5 + 1, none⟩) hbl).trans q1
   have c2 := (hbe.cell (p := ⟨b, off + k * 5 + 2, none⟩) hbl).trans q2
   have c3 := (hbe.cell (p := ⟨b, off + k * 5 + 3, none⟩) hbl).trans q3
   have c4 := (hbe.cell (p := ⟨b, off + k * 5 + 4, none⟩) hbl).trans q4
   have r0 : ∀ d os, (grow (redrawn wr d) os).cell? ⟨b, off + k * 5, none⟩ = _ := fun d os => cell_regrown c0 d os
   have r1 : ∀ d os, (grow (redrawn wr d) os).cell? ⟨b, off + k * 5 + 1, none⟩ = _ := fun d os => cell_regrown c1 d os
   have r2 : ∀ d os, (grow (redrawn wr d) os).cell? ⟨b, off + k * 5 + 2, none⟩ = _ := fun d os => cell_regrown c2 d os
   have r3 : ∀ d os, (grow (redrawn wr d) os).cell? ⟨b, off + k * 5 + 3, none⟩ = _ := fun d os => cell_regrown c3 d os
   have r4 : ∀ d os, (grow (redrawn wr d) os).cell? ⟨b, off + k * 5 + 4, none⟩ = _ := fun d os => cell_regrown c4 d os
   have hbk := env_bulk n es k hlt
   have hB := HB.out
   have HND : Hid (∀ wx : World, Calls Tryz.prog 63 #[.string es[k].1] wx fun e w' => e = .returned (.bool (dottedP es[k].1)) ∧ Below wx.heap.size wx w') := fun wx => specDotted _ wx (by omega)
   have HTO : Hid (∀ d os, Calls Tryz.prog 20 #[.agg #[x0, x1, x2, x3]] (grow (redrawn wr d) os) fun e w' => e = .returned (.bool (decide (Right n es[k].2 12))) ∧ Below (grow (redrawn wr d) os).heap.size (grow (redrawn wr d) os) w') := fun d os => specTypeOk n _ _ _ ((hty.below hbe).below (below_regrown wr d os)) (by omega)
   have hk0i : (0 : Int) ≤ (k : Int) := by omega
   have hk1i : (k : Int) < (es.length : Int) := by omega
   clear q0 q1 q2 q3 q4 hty hsz hbk hB
   cases hd : dottedP es[k].1 with
   | false =>
    have HR : Hid (RR = false) := HNO.out fun h => by
     have := (h.1 k hlt).1
     rw [hd] at this
     cases this
    rw [hd] at HND
    clear hd HNO HYES HALL HEL HB HTO
    generalize es[k].1 = x at *
    go_wp2_with fail
    refine wp_region_quiet_below (by kernel_rfl) (by kernel_rfl) ?_
    repeat (go_big_quiet_step (exact Calls.regrown_of (HND.out _)))
    refine wpQuiet_nil ?_
    intro _ hw'
    obtain ⟨⟨dq, osq⟩, hw''⟩ := hw'
    subst hw''
    have D2 := hbe.trans ((below_regrown wr dq osq).mono hbe.size)
    clear r0 r1 r2 r3 r4
    generalize grow (redrawn wr dq) osq = w2 at *
    go_wp2_with fail
    go_ret
    exact ⟨by rw [HR.out]; rfl, D2⟩
   | true =>
    rw [hd] at HND
    by_cases hr : Right n es[k].2 12
    ·rw [decide_eq_true hr] at HTO
     by_cases hk0 : k = 0
     ·have HA2 : Hid (∀ j (h : j < es.length), j < k + 1 → dottedP es[j].1 = true ∧ Right n es[j].2 12 ∧ ∀ _ : 0 < j, lessB (es[j - 1]'(by omega)).1 es[j].1) := fun j hj hjk => by
       have e : j = k := by omega
       subst e
       exact ⟨hd, hr, fun h0 => absurd h0 (by omega)⟩
      have hkp : decide ((0 : Int) < (k : Int)) = false := decide_eq_false (by omega)
      have hkn : decide (0 < k) = false := decide_eq_false (by omega)
      clear hd hr hk0 HNO HYES HALL HEL HB
      generalize es[k].1 = x at *
      go_wp2_with fail
      refine wp_region_quiet_below (by kernel_rfl) (by kernel_rfl) ?_
      repeat (go_big_quiet_step (first | exact Calls.regrown_of (HND.out _) | exact Calls.regrown_of (HTO.out _ _)))
      refine wpQuiet_nil ?_
      intro _ hw'
      obtain ⟨⟨dq, osq⟩, hw''⟩ := hw'
      subst hw''
      have D2 := hbe.trans ((below_regrown wr dq osq).mono hbe.size)
      clear r0 r1 r2 r3 r4 HTO
      generalize grow (redrawn wr dq) osq = w2 at *
      go_wp2_with fail
      go_roundw
      case rel => exact ⟨k + 1, by omega, by go_num, HA2.out, D2⟩
      case measure => simp [intOf]; omega
     ·obtain ⟨m, rfl⟩ : ∃ m, k = m + 1 := ⟨k - 1, by omega⟩
      have hlm : m < es.length := by omega
      obtain ⟨b', off', _, _, _, _, e', _, _, _, p0, _, _, _, _⟩ := HEL.out m hlm
      simp only [Option.some.injEq, Addr.mk.injEq, and_true] at e'
      obtain ⟨rfl, rfl⟩ := e'
      have P0 := (hbe.cell (p := ⟨b, off + m * 5, none⟩) hbl).trans p0
      have rP : ∀ d os, (grow (redrawn wr d) os).cell? ⟨b, off + m * 5, none⟩ = _ := fun d os => cell_regrown P0 d os
      have hm0 : (0 : Int) ≤ (m : Int) := by omega
      have hm1 : (m : Int) < (es.length : Int) := by omega
      have hkp : (0 : Int) < (m : Int) + 1 := by omega
      by_cases hls : lessB es[m].1 es[m + 1].1
      ·have HA2 : Hid (∀ j (h : j < es.length), j < m + 1 + 1 → dottedP es[j].1 = true ∧ Right n es[j].2 12 ∧ ∀ _ : 0 < j, lessB (es[j - 1]'(by omega)).1 es[j].1) := fun j hj hjk => by
        by_cases c : j = m + 1
        ·subst c
         exact ⟨hd, hr, fun h0 => hls⟩
        ·exact HALL.out j hj (by omega)
       have hcmp := leq_no hls
       clear hd hr hk0 hls HNO HYES HALL HEL HB p0
       generalize es[m + 1].1 = x at *
       generalize es[m].1 = y at *
       go_wp2_with fail
       refine wp_region_quiet_below (by kernel_rfl) (by kernel_rfl) ?_
       repeat (go_big_quiet_step (first | exact Calls.regrown_of (HND.out _) | exact Calls.regrown_of (HTO.out _ _)))
       refine wpQuiet_nil ?_
       intro _ hw'
       obtain ⟨⟨dq, osq⟩, hw''⟩ := hw'
       subst hw''
       have D2 := hbe.trans ((below_regrown wr dq osq).mono hbe.size)
       clear r0 r1 r2 r3 r4 rP HTO
       generalize grow (redrawn wr dq) osq = w2 at *
       go_wp2_with fail
       go_roundw
       case rel => exact ⟨m + 1 + 1, by omega, by go_num, HA2.out, D2⟩
       case measure => simp [intOf]; omega
      ·have HR : Hid (RR = false) := HNO.out fun h => hls ((h.1 (m + 1) hlt).2.2 (by omega))
       have hcmp := leq_yes hls
       clear hd hr hk0 hls HNO HYES HALL HEL HB p0
       generalize es[m + 1].1 = x at *
       generalize es[m].1 = y at *
       go_wp2_with fail
       refine wp_region_quiet_below (by kernel_rfl) (by kernel_rfl) ?_
       repeat (go_big_quiet_step (first | exact Calls.regrown_of (HND.out _) | exact Calls.regrown_of (HTO.out _ _)))
       refine wpQuiet_nil ?_
       intro _ hw'
       obtain ⟨⟨dq, osq⟩, hw''⟩ := hw'
       subst hw''
       have D2 := hbe.trans ((below_regrown wr dq osq).mono hbe.size)
       clear r0 r1 r2 r3 r4 rP HTO
       generalize grow (redrawn wr dq) osq = w2 at *
       go_wp2_with fail
       go_ret
       exact ⟨by rw [HR.out]; rfl, D2⟩
    ·rw [decide_eq_false hr] at HTO
     have HR : Hid (RR = false) := HNO.out fun h => hr (h.1 k hlt).2.1
     clear hd hr HNO HYES HALL HEL HB
     generalize es[k].1 = x at *
     go_wp2_with fail
     refine wp_region_quiet_below (by kernel_rfl) (by kernel_rfl) ?_
     repeat (go_big_quiet_step (first | exact Calls.regrown_of (HND.out _) | exact Calls.regrown_of (HTO.out _ _)))
     refine wpQuiet_nil ?_
     intro _ hw'
     obtain ⟨⟨dq, osq⟩, hw''⟩ := hw'
     subst hw''
     have D2 := hbe.trans ((below_regrown wr dq osq).mono hbe.size)
     clear r0 r1 r2 r3 r4 HTO
     generalize grow (redrawn wr dq) osq = w2 at *
     go_wp2_with fail
     go_ret
     exact ⟨by rw [HR.out]; rfl, D2⟩
  ·by_cases h60 : es.length ≤ 60
   ·have HR : Hid (RR = true) := HYES.out ⟨fun j h => HALL.out j h (by omega), h60⟩
    have h60i : (es.length : Int) ≤ 60 := by omega
    clear HNO HYES HALL HEL HB
    go_wp2_with fail
    go_ret
    exact ⟨by rw [HR.out]; rfl, hbe⟩
   ·have HR : Hid (RR = false) := HNO.out fun h => h60 h.2
    have h60i : ¬ (es.length : Int) ≤ 60 := by omega
    clear HNO HYES HALL HEL HB
    go_wp2_with fail
    go_ret
    exact ⟨by rw [HR.out]; rfl, hbe⟩
end Go.Proofs.YtbojmbeopnlmiaaGreatDoor
