/-
 The walk of impl.compareTexts: two forms' texts held against each other, piece by piece.
-/
import Derived.Test.YtbojmbeopnlmiaaGreatDoorPcS
namespace Go.Proofs.YtbojmbeopnlmiaaGreatDoor
open Go.RowKit Go.Shelf
theorem least_of3 {α β γ : Type} (R : Nat → α → β → γ → Prop) : ∃ mu : α → β → γ → Nat, ∀ k a b c, R k a b c → mu a b c ≤ k ∧ R (mu a b c) a b c := by
 have least : ∀ (P : Nat → Prop) (k : Nat), P k → ∃ m, P m ∧ ∀ j, P j → m ≤ j := fun P k => by
  induction k using Nat.strongRecOn with
  | ind k ih =>
   intro h
   by_cases c : ∃ j, j < k ∧ P j
   ·obtain ⟨j, hj, hp⟩ := c
    exact ih j hj hp
   ·exact ⟨k, h, fun j hj => Nat.le_of_not_lt fun e => c ⟨j, e, hj⟩⟩
 refine ⟨fun a b c => Classical.epsilon fun m => R m a b c ∧ ∀ j, R j a b c → m ≤ j, fun k a b c h => ?_⟩
 have := Classical.epsilon_spec (least (fun m => R m a b c) k h)
 exact ⟨this.2 k h, this.1⟩
theorem top_cells {w : World} {B g n cap : Nat} {F : List FRec} {L : List Pc} {p : Pc} (h : w.ownsRow B 211 2 (.slice (some ⟨g, 0, none⟩) n cap) n (pcCells F (L ++ [p]))) : w.cell? ⟨g, L.length * 2, none⟩ = some (.string p.s) ∧ w.cell? ⟨g, L.length * 2 + 1, none⟩ = some (pcV F p.f) ∧ n ≤ cap := by
 have e1 : pcCells F [p] = [.string p.s, pcV F p.f] := by simp [pcCells]
 rw [pcCells_app, e1] at h
 refine ⟨?_, ?_, ?_⟩
 ·have h1 := h.cells (g := g) rfl (L.length * 2) (.string p.s) (by
   rw [List.getElem?_append_right (by rw [pcCells_len]; omega), pcCells_len, Nat.sub_self]
   rfl)
  have e : ((⟨g, 0, none⟩ : Addr).add (L.length * 2)) = ⟨g, L.length * 2, none⟩ := by simp [Addr.add]; omega
  rw [e] at h1
  exact h1
 ·have h1 := h.cells (g := g) rfl (L.length * 2 + 1) (pcV F p.f) (by
   rw [List.getElem?_append_right (by rw [pcCells_len]; omega), pcCells_len]
   have e : L.length * 2 + 1 - L.length * 2 = 1 := by omega
   rw [e]
   rfl)
  have e : ((⟨g, 0, none⟩ : Addr).add (L.length * 2 + 1)) = ⟨g, L.length * 2 + 1, none⟩ := by simp [Addr.add]
  rw [e] at h1
  exact h1
 ·rcases h.2 with ⟨q, _⟩ | ⟨g', c', cur, q, _, _, h1, _⟩
  ·simp at q
  ·simp only [Value.slice.injEq] at q
   omega
set_option maxRecDepth 100000 in
set_option maxHeartbeats 1000000 in
theorem implCompareTexts (C : MkC) (M : Mk) (i j : Nat) (r q : FRec) (w : World) (hM : MkAt C w M) (hr : M.F[i]? = some r) (hq : M.F[j]? = some q) :
  Calls Tryz.prog 141 #[.iface (ptT r.ty.kind) (.pointer (some ⟨r.blk, 0, none⟩)), .iface (ptT q.ty.kind) (.pointer (some ⟨q.blk, 0, none⟩))] w fun e w' => ∃ (M' : Mk) (o : Int), e = .returned (.int .i64 o) ∧ Orders o (bt r.ty.txt) (bt q.ty.txt) ∧ TStep C M M' w w' := by
 obtain ⟨mu, hmu⟩ := least_of3 (CState C M (bt r.ty.txt) (bt q.ty.txt) w)
 have HMU : Hid (type_of% hmu) := hmu
 have hst0 : CState C M (bt r.ty.txt) (bt q.ty.txt) w (loadOf M.F [pcF i] + loadOf M.F [pcF j]) _ _ _ := ⟨M, [pcF i], [pcF j], CmpAt.new hM hr hq, CmpSt.start hr hq (hM.each i r hr).ok (hM.each j q hq).ok, Nat.le_refl _⟩
 rw [show r.val = .iface (ptT r.ty.kind) (.pointer (some ⟨r.blk, 0, none⟩)) from rfl, show q.val = .iface (ptT q.ty.kind) (.pointer (some ⟨q.blk, 0, none⟩)) from rfl] at hst0
 have HST : Hid (type_of% hst0) := hst0
 have hla : (bt r.ty.txt).length ≤ 1099511627776 := (hM.small i r hr).1
 have hlb : (bt q.ty.txt).length ≤ 1099511627776 := (hM.small j q hq).1
 have HCI : Hid (∀ (x y : Int) (wx : World), Calls Tryz.prog 156 #[.int .i64 x, .int .i64 y] wx fun e w' => e = .returned (.int .i64 (Lib.compareInt x y)) ∧ w' = wx) := Tryz.cmp_Compare_int
 clear hmu hst0 hM hr hq
 generalize ptT r.ty.kind = P1 at *
 generalize ptT q.ty.kind = P2 at *
 go_enter Tryz.func141, Tryz.ntmps141
 go_wp2_with fail
 go_loopw [5, 6] (fun vl vr wr => ∃ k, CState C M (bt r.ty.txt) (bt q.ty.txt) w k vl vr wr) (fun vl vr wr => mu vl vr wr)
 case atStart => exact ⟨_, HST.out⟩
 case round =>
  clear HST
  obtain ⟨wo, rfl⟩ : ∃ wo, wo = wr := ⟨_, rfl⟩
  obtain ⟨k, HK, hst⟩ : ∃ k, Hid (∀ k', k' < k → k' < mu u5 u6 wo) ∧ CState C M (bt r.ty.txt) (bt q.ty.txt) w k u5 u6 wo := by
   obtain ⟨k, h⟩ := hrel
   exact ⟨_, fun k' h => h, (HMU.out k _ _ _ h).2⟩
  clear hrel
  obtain ⟨M1, L, K, hA, hS, hk⟩ := hst
  obtain ⟨al, cl, hvl⟩ := slice_own2 hA.rl
  obtain ⟨ar, cr, hvr⟩ := slice_own2 hA.rr
  subst hvl
  subst hvr
  have hLl : L.length ≤ 1099511627776 := Nat.le_trans (live_txt hS.left) (Nat.le_trans hS.lenL hla)
  have hKl : K.length ≤ 1099511627776 := Nat.le_trans (live_txt hS.right) (Nat.le_trans hS.lenR hlb)
  have HA : Hid (type_of% hA) := hA
  have HS : Hid (type_of% hS) := hS
  have HKK : Hid (type_of% hk) := hk
  clear hA hS hk
  by_cases hL0 : L = []
  ·subst hL0
   have HEND : Hid (Orders (Lib.compareInt ((0 : Nat) : Int) (K.length : Int)) (bt r.ty.txt) (bt q.ty.txt)) := HS.out.ends (.inl rfl)
   go_wp2_with (go_at_call 156; refine (HCI.out _ _ _).mono ?_; rintro e w9 ⟨rfl, rfl⟩)
   go_ret
   exact ⟨M1, _, rfl, HEND.out, HA.out.st⟩
  ·have hLp : (0 : Int) < (L.length : Int) := by
    have := List.length_pos_iff.2 hL0
    omega
   by_cases hK0 : K = []
   ·subst hK0
    have HEND : Hid (Orders (Lib.compareInt (L.length : Int) ((0 : Nat) : Int)) (bt r.ty.txt) (bt q.ty.txt)) := HS.out.ends (.inr rfl)
    go_wp2_with (go_at_call 156; refine (HCI.out _ _ _).mono ?_; rintro e w9 ⟨rfl, rfl⟩)
    go_ret
    exact ⟨M1, _, rfl, HEND.out, HA.out.st⟩
   ·obtain ⟨L', p, hLe⟩ := (List.eq_nil_or_concat L).resolve_left hL0
    obtain ⟨K', p', hKe⟩ := (List.eq_nil_or_concat K).resolve_left hK0
    rw [List.concat_eq_append] at hLe hKe
    have hA := HA.out
    have hS := HS.out
    have hk := HKK.out
    clear HA HS HKK hLp
    subst hLe
    subst hKe
    obtain ⟨gl, cl', hvl⟩ := owns_pos2 hA.rl (by simp)
    obtain ⟨gr, cr', hvr⟩ := owns_pos2 hA.rr (by simp)
    simp only [Value.slice.injEq] at hvl hvr
    obtain ⟨rfl, _, rfl⟩ := hvl
    obtain ⟨rfl, _, rfl⟩ := hvr
    obtain ⟨xl0, xl1, hcl⟩ := top_cells hA.rl
    obtain ⟨xr0, xr1, hcr⟩ := top_cells hA.rr
    rw [List.length_append, List.length_singleton] at hLl hKl hA hcl hcr
    rw [List.length_append, List.length_singleton] at hA
    rw [List.length_append, List.length_singleton, List.length_append, List.length_singleton]
    have HA : Hid (type_of% hA) := hA
    have HS : Hid (type_of% hS) := hS
    have HKK : Hid (type_of% hk) := hk
    obtain ⟨nL, hnL⟩ : ∃ n, n = L'.length := ⟨_, rfl⟩
    obtain ⟨nK, hnK⟩ : ∃ n, n = K'.length := ⟨_, rfl⟩
    rw [← hnL] at hLl hcl xl0 xl1 ⊢
    rw [← hnK] at hKl hcr xr0 xr1 ⊢
    have HK2 : Hid (∀ k', k' < k → k' < mu (.slice (some ⟨gl, 0, none⟩) (nL + 1) cl) (.slice (some ⟨gr, 0, none⟩) (nK + 1) cr) wo) := by
     have h9 := HK.out
     simp only [List.length_append, List.length_singleton] at h9
     rw [hnL, hnK]
     exact h9
    have HNL : Hid (type_of% hnL) := hnL
    have HNK : Hid (type_of% hnK) := hnK
    clear hA hS hk hL0 hK0 hnL hnK
    have l1 : (0 : Int) < ((nL + 1 : Nat) : Int) := by omega
    have l2 : (0 : Int) < ((nK + 1 : Nat) : Int) := by omega
    have l3 : (nL : Int) < ((nL + 1 : Nat) : Int) := by omega
    have l4 : (nK : Int) < ((nK + 1 : Nat) : Int) := by omega
    have l5 : (0 : Int) ≤ (nL : Int) := by omega
    have l6 : (0 : Int) ≤ (nK : Int) := by omega
    go_wp2_with fail
    go_quiet (fail)
    have hA2 : CmpAt C M M1 w (wo.drewN nq) (.slice (some ⟨gl, 0, none⟩) (nL + 1) cl) (.slice (some ⟨gr, 0, none⟩) (nK + 1) cr) (L' ++ [p]) (K' ++ [p']) := by
     rw [HNL.out, HNK.out]
     exact HA.out.drawn nq
    have y0 : (wo.drewN nq).cell? ⟨gl, nL * 2, none⟩ = _ := xl0
    have y1 : (wo.drewN nq).cell? ⟨gl, nL * 2 + 1, none⟩ = _ := xl1
    have z0 : (wo.drewN nq).cell? ⟨gr, nK * 2, none⟩ = _ := xr0
    have z1 : (wo.drewN nq).cell? ⟨gr, nK * 2 + 1, none⟩ = _ := xr1
    clear xl0 xl1 xr0 xr1 HA
    generalize wo.drewN nq = X at *
    have hS := HS.out
    rcases hS.left p (by simp) with ⟨hp, hps⟩ | ⟨i1, r1, rfl, hr1, ho1⟩
    ·rw [hp, show pcV M.F none = .nilIface from rfl] at y1
     rcases hS.right p' (by simp) with ⟨hp', hps'⟩ | ⟨i2, r2, rfl, hr2, ho2⟩
     ·rw [hp', show pcV M.F none = .nilIface from rfl] at z1
      have HA2 : Hid (∀ nq, type_of% (hA2.drawn nq)) := fun nq => hA2.drawn nq
      clear hA2 hS
      have hs1 : p.s.size ≤ 1099511627776 := by
       have h1 := HS.out.lenL
       rw [stTxt_push, List.length_append] at h1
       have h2 : (p.txt M.F).length = p.s.size := by
        unfold Pc.txt
        rw [hp]
        rfl
       omega
      have hs2 : p'.s.size ≤ 1099511627776 := by
       have h1 := HS.out.lenR
       rw [stTxt_push, List.length_append] at h1
       have h2 : (p'.txt M.F).length = p'.s.size := by
        unfold Pc.txt
        rw [hp']
        rfl
       omega
      go_wp2_with fail
      go_region
      obtain ⟨s1, f1⟩ := p
      obtain ⟨s2, f2⟩ := p'
      obtain rfl : f1 = none := hp
      obtain rfl : f2 = none := hp'
      simp only at y0 z0 hps hps' hs1 hs2 ⊢
      have hcc : min (s1.size : Int) (s2.size : Int) = ((min s1.size s2.size : Nat) : Int) := by omega
      rw [hcc]
      obtain ⟨c, hc⟩ : ∃ c, c = min s1.size s2.size := ⟨_, rfl⟩
      rw [← hc]
      have c1 : c ≤ s1.size := by omega
      have c2 : c ≤ s2.size := by omega
      have c3 : 0 < c := by omega
      clear hc hcc
      have c4 : (0 : Int) ≤ (c : Int) := by omega
      have c5 : (c : Int) ≤ (s1.size : Int) := by omega
      have c6 : (c : Int) ≤ (s2.size : Int) := by omega
      have HA3 : Hid (∀ n, CmpAt C M M1 w (X.drew.drewN n) (.slice (some ⟨gl, 0, none⟩) (nL + 1) cl) (.slice (some ⟨gr, 0, none⟩) (nK + 1) cr) (L' ++ [⟨s1, none⟩]) (K' ++ [⟨s2, none⟩])) := fun n => by
       rw [World.drewN_drew]
       exact HA2.out (1 + n)
      clear HA2
      have y0' : X.drew.cell? ⟨gl, nL * 2, none⟩ = _ := y0
      have z0' : X.drew.cell? ⟨gr, nK * 2, none⟩ = _ := z0
      have HCM : Hid (∀ (a b : ByteArray) (wx : World), Calls Tryz.prog 152 #[.string a, .string b] wx fun e w' => e = .returned (.int .i64 (Lib.compareBytes a.data.toList b.data.toList)) ∧ w' = wx) := Tryz.strings_Compare
      clear y0 z0 y1 z1
      generalize X.drew = Y at *
      go_wp2_with fail
      go_quiet ((go_at_call 152; exact Calls.quiet_of_same (HCM.out _ _ _)))
      have hA4 := HA3.out nq
      clear HA3 y0' z0'
      generalize Y.drewN nq = Z at *
      by_cases ho : Lib.compareBytes (s1.extract 0 c).data.toList (s2.extract 0 c).data.toList = 0
      ·have hS2 := HS.out.cut ((cmpB_zero _ _).1 ho)
       have HS2 : Hid (type_of% hS2) := hS2
       have hrow := hA4.rl
       rw [List.length_append, List.length_singleton, HNL.out] at hrow
       have hc1 := implCutFirst M.F L' s1 c w.heap.size gl cl Z (by rw [← HNL.out]; omega) hrow c1
       rw [← HNL.out] at hc1
       have HC1 : Hid (type_of% hc1) := hc1
       have HA4 : Hid (type_of% hA4) := hA4
       clear hc1 hrow hS2 hA4
       rw [ho]
       go_wp2_with (first | (go_at_call 153; refine HC2.out.mono ?_; rintro e w3 ⟨k2, rfl, hb2, hk2, hr2⟩) | (go_at_call 153; refine HC1.out.mono ?_; rintro e w2 ⟨k1, rfl, hb1, hk1, hr1⟩; have hA5 := (HA4.out.cutL hb1 hk1 hr1).swap; have hrow := hA5.rl; rw [List.length_append, List.length_singleton, HNK.out] at hrow; have hc2 := implCutFirst M.F K' s2 c w.heap.size gr cr w2 (by rw [← HNK.out]; omega) hrow c2; rw [← HNK.out] at hc2; have HC2 : Hid (type_of% hc2) := hc2; have HA5 : Hid (type_of% hA5) := hA5; have HK1 : Hid (type_of% hk1) := hk1; clear hc2 hrow hA5 hb1 hr1 hk1))
       subst hk2
       have HST2 : CState C M (bt r.ty.txt) (bt q.ty.txt) w (loadOf M.F (cutL L' s1 c) + loadOf M.F (cutL K' s2 c)) (.slice (some ⟨gl, 0, none⟩) k1 cl) (.slice (some ⟨gr, 0, none⟩) (cutL K' s2 c).length cr) w3 := ⟨M1, _, _, (HA5.out.cutL hb2 rfl hr2).swap, HS2.out, Nat.le_refl _⟩
       have hlt : loadOf M.F (cutL L' s1 c) + loadOf M.F (cutL K' s2 c) < loadOf M.F (L' ++ [⟨s1, none⟩]) + loadOf M.F (K' ++ [⟨s2, none⟩]) := by
        rw [load_cut, load_cut, load_text, load_text]
        omega
       exact ⟨⟨_, HST2⟩, Nat.lt_of_le_of_lt (HMU.out _ _ _ _ HST2).1 (HK2.out _ (Nat.lt_of_lt_of_le hlt HKK.out))⟩
      ·have hend : Orders (Lib.compareBytes (s1.extract 0 c).data.toList (s2.extract 0 c).data.toList) (bt r.ty.txt) (bt q.ty.txt) := HS.out.part c1 c2 ho
       have HA4 : Hid (type_of% hA4) := hA4
       clear hA4
       generalize Lib.compareBytes (s1.extract 0 c).data.toList (s2.extract 0 c).data.toList = o at *
       have ho2 : (o != 0) = true := by simpa using ho
       have HEND : Hid (type_of% hend) := hend
       clear hend
       go_wp2_with fail
       go_ret
       exact ⟨M1, _, rfl, HEND.out, HA4.out.st⟩
     ·rw [show pcV M.F (pcF i2).f = _ from val_iface hr2] at z1
      have hnl : ∀ n, (binOp .eql 94 .nilIface (.iface (ptT r2.ty.kind) (.pointer (some ⟨r2.blk, 0, none⟩)))).run Tryz.prog (X.drewN n) = .ok (.bool false) (X.drewN n) := fun n => run_eql_iface_nil_left _ _ _ Tryz.underlying94
      have HOP : Hid (∀ nq, type_of% (opened_call (hA2.swap.drawn nq) hr2 (by rw [HNK.out]) (by omega))) := fun nq => opened_call (hA2.swap.drawn nq) hr2 (by rw [HNK.out]) (by omega)
      have HA2 : Hid (∀ nq, type_of% (hA2.drawn nq)) := fun nq => hA2.drawn nq
      clear hA2 hS
      generalize ptT r2.ty.kind = P3 at *
      go_wp2_with fail
      go_quiet (fail)
      go_wp2_with fail
      go_quiet (fail)
      go_wp2_with (go_at_call 155; refine (HOP.out _).mono ?_; rintro e w2 ⟨M2, v2, rfl, hop⟩)
      obtain ⟨k2, hk2, HST2⟩ := step_openR (HA2.out _) HS.out hr2 hop
      go_roundw
      case rel => exact ⟨_, HST2⟩
      case measure => exact Nat.lt_of_le_of_lt (HMU.out _ _ _ _ HST2).1 (HK2.out _ (Nat.lt_of_lt_of_le hk2 HKK.out))
    ·rw [show pcV M.F (pcF i1).f = _ from val_iface hr1] at y1
     rcases hS.right p' (by simp) with ⟨hp', hps'⟩ | ⟨i2, r2, rfl, hr2, ho2⟩
     ·rw [hp', show pcV M.F none = .nilIface from rfl] at z1
      have HOP : Hid (∀ nq, type_of% (opened_call (hA2.drawn nq) hr1 (by rw [HNL.out]) (by omega))) := fun nq => opened_call (hA2.drawn nq) hr1 (by rw [HNL.out]) (by omega)
      have HA2 : Hid (∀ nq, type_of% (hA2.drawn nq)) := fun nq => hA2.drawn nq
      clear hA2 hS
      generalize ptT r1.ty.kind = P3 at *
      go_wp2_with fail
      go_quiet (fail)
      go_wp2_with fail
      go_quiet (fail)
      go_wp2_with (go_at_call 155; refine (HOP.out _).mono ?_; rintro e w2 ⟨M2, v2, rfl, hop⟩)
      obtain ⟨k2, hk2, HST2⟩ := step_openL (HA2.out _) HS.out hr1 hop
      go_roundw
      case rel => exact ⟨_, HST2⟩
      case measure => exact Nat.lt_of_le_of_lt (HMU.out _ _ _ _ HST2).1 (HK2.out _ (Nat.lt_of_lt_of_le hk2 HKK.out))
     ·rw [show pcV M.F (pcF i2).f = _ from val_iface hr2] at z1
      have hT : TwoAt C M w gl gr nL nK cl cr L' K' i1 i2 X := ⟨M1, hA2⟩
      by_cases hii : i1 = i2
      ·subst hii
       obtain rfl : r1 = r2 := Option.some.inj (hr1.symm.trans hr2)
       have heq : ∀ n, (binOp .eql 94 (.iface (ptT r1.ty.kind) (.pointer (some ⟨r1.blk, 0, none⟩))) (.iface (ptT r1.ty.kind) (.pointer (some ⟨r1.blk, 0, none⟩)))).run Tryz.prog (X.drewN n) = .ok (.bool true) (X.drewN n) := fun n => eql_same _ _ _
       have hS2 := HS.out.same
       have HS2 : Hid (type_of% hS2) := hS2
       have HA2 : Hid (∀ n, CmpAt C M M1 w (X.drewN n) (.slice (some ⟨gl, 0, none⟩) nL cl) (.slice (some ⟨gr, 0, none⟩) nK cr) L' K') := fun n => by
        have h1 := (hA2.drawn n).popL (by rw [HNL.out])
        have h2 := h1.swap.popL (by rw [HNK.out])
        rw [HNL.out, HNK.out]
        exact h2.swap
       have hld : loadOf M.F L' + loadOf M.F K' < loadOf M.F (L' ++ [pcF i1]) + loadOf M.F (K' ++ [pcF i1]) := by
        have := load_open_pos hr1 ho1
        rw [load_push, load_push]
        omega
       have HLD : Hid (type_of% hld) := hld
       clear hA2 hS hT hS2 hld hr1 hr2 ho1 ho2
       generalize ptT r1.ty.kind = P3 at *
       generalize r1.blk = B3 at *
       go_wp2_with fail
       go_quiet (fail)
       have HA3 : Hid (∀ n, CmpAt C M M1 w ((X.drewN nq).drewN n) (.slice (some ⟨gl, 0, none⟩) nL cl) (.slice (some ⟨gr, 0, none⟩) nK cr) L' K') := fun n => by
        rw [World.drewN_drewN]
        exact HA2.out _
       clear HA2 heq y0 y1 z0 z1
       generalize X.drewN nq = Y at *
       go_wp2_with fail
       go_quiet (fail)
       have HST2 : CState C M (bt r.ty.txt) (bt q.ty.txt) w (loadOf M.F L' + loadOf M.F K') (.slice (some ⟨gl, 0, none⟩) nL cl) (.slice (some ⟨gr, 0, none⟩) nK cr) (Y.drewN nq) := ⟨M1, _, _, HA3.out _, HS2.out, Nat.le_refl _⟩
       go_wp2_with fail
       go_roundw
       case rel => exact ⟨_, HST2⟩
       case measure => exact Nat.lt_of_le_of_lt (HMU.out _ _ _ _ HST2).1 (HK2.out _ (Nat.lt_of_lt_of_le HLD.out HKK.out))
      ·have hbn : r1.blk ≠ r2.blk := fun e => hii (hA2.st.here.blks i1 i2 r1 r2 (by rw [hA2.st.F]; exact hr1) (by rw [hA2.st.F]; exact hr2) e)
       have heq : ∀ n, (binOp .eql 94 (.iface (ptT r1.ty.kind) (.pointer (some ⟨r1.blk, 0, none⟩))) (.iface (ptT r2.ty.kind) (.pointer (some ⟨r2.blk, 0, none⟩)))).run Tryz.prog (X.drewN n) = .ok (.bool false) (X.drewN n) := fun n => by
        have h9 := hA2.drawn n
        obtain ⟨_, _, o1, _⟩ := (h9.st.here.each i1 r1 (by rw [h9.st.F]; exact hr1)).obj
        obtain ⟨_, _, o2, _⟩ := (h9.st.here.each i2 r2 (by rw [h9.st.F]; exact hr2)).obj
        exact eql_other _ _ _ hbn o1 o2
       have HT : Hid (∀ n, TwoAt C M w gl gr nL nK cl cr L' K' i1 i2 (X.drewN n)) := fun n => hT.drawn n
       have HCE : Hid (∀ W, TwoAt C M w gl gr nL nK cl cr L' K' i1 i2 W → W.cell? ⟨gl, nL * 2 + 1, none⟩ = some (.iface (ptT r1.ty.kind) (.pointer (some ⟨r1.blk, 0, none⟩))) ∧ W.cell? ⟨gr, nK * 2 + 1, none⟩ = some (.iface (ptT r2.ty.kind) (.pointer (some ⟨r2.blk, 0, none⟩)))) := fun W h => h.cells HNL.out HNK.out hr1 hr2
       have HZ1 : Hid (∀ W, TwoAt C M w gl gr nL nK cl cr L' K' i1 i2 W → Calls Tryz.prog 154 #[.iface (ptT r1.ty.kind) (.pointer (some ⟨r1.blk, 0, none⟩))] W fun e w' => e = .returned (.int .i64 ((min r1.ty.txt.size 8589934593 : Nat) : Int)) ∧ TwoAt C M w gl gr nL nK cl cr L' K' i1 i2 w') := fun W h => h.size hr1
       have HZ2 : Hid (∀ W, TwoAt C M w gl gr nL nK cl cr L' K' i1 i2 W → Calls Tryz.prog 154 #[.iface (ptT r2.ty.kind) (.pointer (some ⟨r2.blk, 0, none⟩))] W fun e w' => e = .returned (.int .i64 ((min r2.ty.txt.size 8589934593 : Nat) : Int)) ∧ TwoAt C M w gl gr nL nK cl cr L' K' i1 i2 w') := fun W h => h.size hr2
       have HR1 : Hid (type_of% hr1) := hr1
       have HR2 : Hid (type_of% hr2) := hr2
       clear hA2 hS hT hbn hii ho1 ho2 hr1 hr2
       generalize hz1 : (min r1.ty.txt.size 8589934593 : Nat) = Z1 at *
       generalize hz2 : (min r2.ty.txt.size 8589934593 : Nat) = Z2 at *
       have lz1 : Z1 ≤ 8589934593 := by omega
       have lz2 : Z2 ≤ 8589934593 := by omega
       clear hz1 hz2
       generalize hP3 : ptT r1.ty.kind = P3 at *
       generalize hP4 : ptT r2.ty.kind = P4 at *
       clear hP3 hP4
       go_wp2_with fail
       go_quiet (fail)
       have HT3 : Hid (∀ n, TwoAt C M w gl gr nL nK cl cr L' K' i1 i2 ((X.drewN nq).drewN n)) := fun n => by
        rw [World.drewN_drewN]
        exact HT.out _
       clear HT heq y0 y1 z0 z1
       generalize X.drewN nq = Y at *
       have hT0 : TwoAt C M w gl gr nL nK cl cr L' K' i1 i2 Y := HT3.out 0
       have hT1 : TwoAt C M w gl gr nL nK cl cr L' K' i1 i2 Y.drew := hT0.drew
       go_wp2_with fail
       go_region_held3 (fun w' => w'.cell? ⟨gl, nL * 2 + 1, none⟩ = some (.iface P3 (.pointer (some ⟨r1.blk, 0, none⟩))) ∧ w'.cell? ⟨gr, nK * 2 + 1, none⟩ = some (.iface P4 (.pointer (some ⟨r2.blk, 0, none⟩))))
        (first
         | exact HCE.out _ (by assumption)
         | exact HCE.out _ (TwoAt.drew (by assumption)))
        (first
         | (go_at_call 154; with_reducible refine (HZ1.out _ (by assumption)).mono ?_; rintro e w2 ⟨rfl, hT2⟩)
         | (go_at_call 154; with_reducible refine (HZ2.out _ (by assumption)).mono ?_; rintro e w2 ⟨rfl, hT2⟩))
       all_goals
        obtain ⟨M2, hA3⟩ := hT2
        have HA3 : Hid (type_of% hA3) := hA3
        by_cases hzz : (Z2 : Int) ≤ (Z1 : Int)
        ·have HOP : Hid (type_of% (opened_call hA3 HR1.out (by rw [HNL.out]) (by omega))) := opened_call hA3 HR1.out (by rw [HNL.out]) (by omega)
         clear hA3 HZ1 HZ2 HCE HT3 hT0 hT1
         go_wp2_with (go_at_call 155; refine HOP.out.mono ?_; rintro e w5 ⟨M3, v2, rfl, hop⟩)
         obtain ⟨k2, hk2, HST2⟩ := step_openL HA3.out HS.out HR1.out hop
         go_roundw
         case rel => exact ⟨_, HST2⟩
         case measure => exact Nat.lt_of_le_of_lt (HMU.out _ _ _ _ HST2).1 (HK2.out _ (Nat.lt_of_lt_of_le hk2 HKK.out))
        ·have HOP : Hid (type_of% (opened_call hA3.swap HR2.out (by rw [HNK.out]) (by omega))) := opened_call hA3.swap HR2.out (by rw [HNK.out]) (by omega)
         clear hA3 HZ1 HZ2 HCE HT3 hT0 hT1
         go_wp2_with (go_at_call 155; refine HOP.out.mono ?_; rintro e w5 ⟨M3, v2, rfl, hop⟩)
         obtain ⟨k2, hk2, HST2⟩ := step_openR HA3.out HS.out HR2.out hop
         go_roundw
         case rel => exact ⟨_, HST2⟩
         case measure => exact Nat.lt_of_le_of_lt (HMU.out _ _ _ _ HST2).1 (HK2.out _ (Nat.lt_of_lt_of_le hk2 HKK.out))
end Go.Proofs.YtbojmbeopnlmiaaGreatDoor
