/-
 The walk of impl.weightOfFew at types.
-/
import Derived.Test.YtbojmbeopnlmiaaGreatDoorWtP
import Derived.Maps.AppendAt
namespace Go.Proofs.YtbojmbeopnlmiaaGreatDoor
open Go.RowKit Go.Sort
theorem Tryz.infoRowT : (Tryz.prog.info? 28).map (fun i => (i.zero, i.size, i.bytes)) = some (some (.slice none 0 0), 1, 24) := by kernel_rfl
theorem one_cellW {X : World} {G : Nat} {v : Value} (h : X.cell? ⟨G, 0, none⟩ = some v) : ∀ j u, [v][j]? = some u → X.cell? ((⟨G, 0, none⟩ : Addr).add j) = some u := by
 intro j u hj
 match j, hj with
 | 0, hj => simp at hj; subst hj; simpa [Addr.add] using h
theorem own_cut1 {w : World} {B e g n m cap : Nat} {xs ys : List Value} (h : w.ownsRow B e 1 (.slice (some ⟨g, 0, none⟩) n cap) n xs) (hm : m ≤ n) (hy : ys = xs.take m) : w.ownsRow B e 1 (.slice (some ⟨g, 0, none⟩) m cap) m ys := by
 rcases h.2 with ⟨q, _⟩ | ⟨g', c', cur, q, h1, h2, h3, h4, h5, h6⟩
 ·simp at q
 ·simp only [Value.slice.injEq, Option.some.injEq, Addr.mk.injEq, true_and, and_true] at q
  obtain ⟨rfl, rfl⟩ := q
  have hl := h.1
  refine ⟨by rw [hy, List.length_take, hl]; omega, .inr ⟨g, cap, cur, rfl, h1, h2, by omega, h4, h5, ?_⟩⟩
  rw [hy, ← h6, List.take_take]
  congr 1
  omega
theorem own_posW {w : World} {B e : Nat} {v : Value} {n : Nat} {xs : List Value} (h : w.ownsRow B e 1 v n xs) (hn : 0 < n) : ∃ g cap, v = .slice (some ⟨g, 0, none⟩) n cap ∧ n ≤ cap := by
 rcases h.2 with ⟨_, h0⟩ | ⟨g, cap, cur, hv, _, _, hc, _⟩
 ·omega
 ·exact ⟨g, cap, hv, hc⟩
theorem own_sliceW {w : World} {B e : Nat} {v : Value} {n : Nat} {xs : List Value} (h : w.ownsRow B e 1 v n xs) : ∃ a c, v = .slice a n c := by
 rcases h.2 with ⟨h, h0⟩ | ⟨g, cap, cur, h, _⟩
 ·exact ⟨none, 0, by rw [h, h0]⟩
 ·exact ⟨_, cap, h⟩
theorem own_topW {w : World} {B e g n cap : Nat} {xs : List Value} {x : Value} (h : w.ownsRow B e 1 (.slice (some ⟨g, 0, none⟩) (n + 1) cap) (n + 1) (xs ++ [x])) (hl : xs.length = n) : w.cell? ⟨g, n, none⟩ = some x := by
 have h0 := h.cells (g := g) rfl n x (by rw [List.getElem?_append_right (by omega), hl, Nat.sub_self]; rfl)
 have ea : ((⟨g, 0, none⟩ : Addr).add n) = ⟨g, n, none⟩ := by
  cases n with
  | zero => rfl
  | succ n => simp [Addr.add]
 rw [ea] at h0
 exact h0
theorem own_belW {w w' : World} {B e z : Nat} {v : Value} {n : Nat} {xs : List Value} (h : w.ownsRow B e z v n xs) (hb : Below w.heap.size w w') : w'.ownsRow B e z v n xs := kept_belowT h hb
theorem kids_wt {A : Nat → Prop} {w : World} {e : LE} (h : e.fits A w) : e.ts.length ≤ rowWt e.n e.ts := by
 obtain ⟨_, _, _, hop⟩ := LE.open h
 have : ∀ l : List Ty, (∃ m, e.n = m + 1) ∨ l = [] → l.length ≤ rowWt e.n l := fun l hl => by
  induction l with
  | nil => simp
  | cons a r ih =>
   obtain ⟨m, hm⟩ : ∃ m, e.n = m + 1 := by rcases hl with q | q; exact q; cases q
   have := ih (.inl ⟨m, hm⟩)
   have h9 : 1 ≤ Ty.wt e.n a := by rw [hm, Ty.wt]; have := ownW_pos a; omega
   rw [rowWt_cons, List.length_cons]
   omega
 exact this e.ts (by
  cases hts : e.ts with
  | nil => exact .inr rfl
  | cons a r =>
   obtain ⟨m, _, _, _, _, hm, _⟩ := hop 0 (by rw [hts]; simp)
   exact .inl ⟨m, hm⟩)
structure FewAt (A : Nat → Prop) (w : World) (wr : World) (v : Value) (E : List LE) : Prop where
 row : wr.ownsRow w.heap.size 28 1 v E.length (E.map LE.v)
 fit : ∀ e ∈ E, e.fits A w
 bel : Below w.heap.size w wr
set_option maxHeartbeats 3200000 in
set_option maxRecDepth 100000 in
theorem implFew (A : Nat → Prop) (e0 : LE) (w : World) (hA : ∀ b, A b → b < w.heap.size) (hf : e0.fits A w) (hw : e0.wt ≤ 1000000000) (hc : e0.cost ≤ 1000000000) :
  Calls Tryz.prog 67 #[e0.v, .func (.func 43) #[] #[], .func (.func 44) #[] #[]] w fun e w' => (e = .returned (.tuple #[.int .i64 ((e0.wt : Nat) : Int), .bool true]) ∨ e = .returned (.tuple #[.int .i64 0, .bool false])) ∧ Below w.heap.size w w' := by
 obtain ⟨i0, hi0, hz0, hz1, hz2⟩ := info_parts Tryz.infoRowT
 obtain ⟨a0, cap0, hv0, _⟩ := LE.open hf
 have hB0 : Below w.heap.size w (w.alloc (.cells #[.slice a0 e0.ts.length cap0] 28)) := (Below.refl _ _).alloc (Nat.le_refl _) _
 have hrow0 : (w.alloc (.cells #[.slice a0 e0.ts.length cap0] 28)).ownsRow w.heap.size 28 1 (.slice (some ⟨w.heap.size, 0, none⟩) 1 1) 1 ([e0].map LE.v) :=
  ⟨rfl, .inr ⟨w.heap.size, 1, _, rfl, Nat.le_refl _, (MapKept.heap_alloc w _).1, Nat.le_refl _, by decide, rfl, by rw [List.map_singleton, hv0]; rfl⟩⟩
 have HST : Hid (FewAt A w (w.alloc (.cells #[.slice a0 e0.ts.length cap0] 28)) (.slice (some ⟨w.heap.size, 0, none⟩) 1 1) [e0]) := ⟨hrow0, fun e he => by rw [List.mem_singleton] at he; rw [he]; exact hf, hB0⟩
 have HA : Hid (type_of% hA) := hA
 have HTO : Hid (0 + sumWt [e0] = e0.wt) := by show _ = _; rw [sumWt_one, Nat.zero_add]
 have HCO : Hid (sumCost [e0] = e0.cost) := sumCost_one e0
 obtain ⟨TW, hTW⟩ : ∃ TW, TW = e0.wt := ⟨_, rfl⟩
 obtain ⟨TC, hTC⟩ : ∃ TC, TC = e0.cost := ⟨_, rfl⟩
 rw [← hTW] at hw HTO ⊢
 rw [← hTC] at hc HCO
 have HTW : Hid (type_of% hTW) := hTW
 rw [hv0]
 clear hf hrow0 hB0 hA hTW hTC
 go_enter Tryz.func67, Tryz.ntmps67
 go_wp2_with fail
 go_loopg [8, 9, 10] TC (fun k s8 s9 s10 wr => ∃ (E : List LE) (wt cnt : Nat), s8 = .int .i64 wt ∧ s9 = .int .i64 cnt ∧ cnt ≤ 500 ∧ FewAt A w wr s10 E ∧ wt + sumWt E = TW ∧ sumCost E = k ∧ k ≤ TC)
 case atStart => exact ⟨[e0], 0, 0, rfl, rfl, by omega, HST.out, HTO.out, HCO.out, Nat.le_refl _⟩
 case round =>
  clear HST HTO HCO
  obtain ⟨E, wt, cnt, rfl, rfl, hcnt, hF, hsum, hk, hkT⟩ := hrel
  obtain ⟨wo, rfl⟩ : ∃ wo, wo = wr := ⟨_, rfl⟩
  have hwt : wt ≤ TW := by omega
  have hEl := len_cost E
  have HSUM : Hid (type_of% hsum) := hsum
  have HK : Hid (type_of% hk) := hk
  rcases List.eq_nil_or_concat E with hE | ⟨E', e, hE⟩
  ·subst hE
   obtain ⟨av, cv, hv⟩ := own_sliceW hF.row
   subst hv
   have HR : Hid (wt = TW) := by
    have h := HSUM.out
    simp only [sumWt, List.map_nil, List.sum_nil, Nat.add_zero] at h
    exact h
   have HB : Hid (type_of% hF.bel) := hF.bel
   clear hF hsum hk hEl
   go_wp2_with fail
   go_ret2
   exact ⟨.inl (by rw [← HR.out]; rfl), HB.out⟩
  ·rw [List.concat_eq_append] at hE
   subst hE
   have hl1 : (E' ++ [e]).length = E'.length + 1 := by simp
   have hrow := hF.row
   rw [hl1, List.map_append, List.map_singleton] at hrow
   obtain ⟨gs, cs, hv, hcap⟩ := own_posW hrow (by omega)
   subst hv
   have hfe := hF.fit e (by simp)
   obtain ⟨ae, ce, hve, hop⟩ := LE.open hfe
   rw [hve] at hrow
   have ctop := own_topW hrow (by simp)
   have hrow2 : wo.ownsRow w.heap.size 28 1 (.slice (some ⟨gs, 0, none⟩) E'.length cs) E'.length (E'.map LE.v) := own_cut1 hrow (by omega) (by rw [List.take_left' (by simp)])
   have hEl2 : E'.length ≤ 1000000000 := by omega
   have hel : e.ts.length ≤ 1000000000 := by
    have h1 : e.cost ≤ sumCost (E' ++ [e]) := by rw [sumCost_app, sumCost_one]; omega
    have h2 : e.ts.length ≤ e.cost := by
     unfold LE.cost ndRow
     have : ∀ l : List Ty, (∃ m, e.n = m + 1) ∨ l = [] → l.length ≤ (l.map fun t => (Ty.nodes e.n t).length).sum := fun l hl => by
      induction l with
      | nil => simp
      | cons a r ih =>
       obtain ⟨m, hm⟩ : ∃ m, e.n = m + 1 := by rcases hl with q | q; exact q; cases q
       have := ih (.inl ⟨m, hm⟩)
       have h9 : 1 ≤ (Ty.nodes e.n a).length := by rw [hm, Ty.nodes, List.length_cons]; omega
       simp only [List.map_cons, List.sum_cons, List.length_cons]
       omega
     have := this e.ts (by
      cases hts : e.ts with
      | nil => exact .inr rfl
      | cons a r =>
       obtain ⟨m, _, _, _, _, hm, _⟩ := hop 0 (by rw [hts]; simp)
       exact .inl ⟨m, hm⟩)
     omega
    omega
   have hli : (E'.length : Int) < ((E'.length + 1 : Nat) : Int) := by omega
   have h0i : (0 : Int) ≤ (E'.length : Int) := by omega
   have hcapi : (E'.length : Int) ≤ (cs : Int) := by omega
   have HSUM2 : Hid (wt + sumWt E' + sumWt [] + rowWt e.n (e.ts.drop 0) = TW) := by
    have := HSUM.out
    rw [sumWt_app, sumWt_one] at this
    show _ = _
    simp only [List.drop_zero]
    have e0 : sumWt [] = 0 := rfl
    have e1 : e.wt = rowWt e.n e.ts := rfl
    omega
   have HCST : Hid (sumCost E' + 3 * (1 + ndRow e.n e.ts) = gk) := by
    have := HK.out
    rw [sumCost_app, sumCost_one] at this
    exact this
   have HFIT : Hid (∀ q ∈ E', q.fits A w) := fun q hq => hF.fit q (List.mem_append_left _ hq)
   have HOP : Hid (type_of% hop) := hop
   have HBEL : Hid (type_of% hF.bel) := hF.bel
   have hbz := hF.bel.size
   clear hF hsum hk hEl hrow hfe hop HSUM HK hl1 hve
   by_cases hs1 : 500 < cnt + e.ts.length
   ·have hs1i : (500 : Int) < (cnt : Int) + (e.ts.length : Int) := by omega
    clear HSUM2 HCST HFIT HOP HA
    go_wp2_with fail
    go_ret2
    exact ⟨.inr rfl, HBEL.out⟩
   ·have hs1i : ¬ (500 : Int) < (cnt : Int) + (e.ts.length : Int) := by omega
    by_cases hs2 : 65536 < wt
    ·have hs2i : (65536 : Int) < (wt : Int) := by omega
     clear HSUM2 HCST HFIT HOP HA
     go_wp2_with fail
     go_ret2
     exact ⟨.inr rfl, HBEL.out⟩
    ·have hs2i : ¬ (65536 : Int) < (wt : Int) := by omega
     have hwtT : wt ≤ 1000000000 := by omega
     go_wp2_with fail
     go_loopw [8, 10, 42] (fun s8 s10 i wr => ∃ (j : Nat) (K : List LE) (wt2 : Nat), j ≤ e.ts.length ∧ i = .int .i64 j ∧ s8 = .int .i64 wt2 ∧ FewAt A w wr s10 (E' ++ K) ∧ wt2 + sumWt E' + sumWt K + rowWt e.n (e.ts.drop j) = TW ∧ sumCost K + 3 * ndRow e.n (e.ts.drop j) ≤ 3 * ndRow e.n e.ts) (fun _ _ i _ => e.ts.length - (intOf i).toNat)
     case atStart => exact ⟨0, [], wt, Nat.zero_le _, rfl, rfl, ⟨by rw [List.append_nil]; exact hrow2, by rw [List.append_nil]; exact HFIT.out, HBEL.out⟩, HSUM2.out, by simp [sumCost]⟩
     case round =>
      obtain ⟨j, K, wt2, hj, rfl, rfl, hF, hsm, hcs⟩ := hrel
      obtain ⟨wi, rfl⟩ : ∃ wi, wi = wr := ⟨_, rfl⟩
      have hw2 : wt2 ≤ 1000000000 := by omega
      obtain ⟨av, cv, hv⟩ := own_sliceW hF.row
      subst hv
      have HF : Hid (type_of% hF) := hF
      have HSM : Hid (type_of% hsm) := hsm
      have HCS : Hid (type_of% hcs) := hcs
      by_cases hlt : j < e.ts.length
      ·obtain ⟨m, b, off, vn, vk, hm, rfl, hAb, hbc, c0, c1, c2, c3, hnm, htx, hkf⟩ := HOP.out j hlt
       have hbl : b < w.heap.size := HA.out b hAb
       obtain ⟨akk, ckk, hvk, _⟩ := LE.open hkf
       have hvk' : vk = .slice akk e.ts[j].kids.length ckk := hvk
       rw [hvk'] at c3
       have hown := wt_step hm hlt
       have hco := cost_step (ts := e.ts) hm hlt
       have hoW : ownW e.ts[j] ≤ 1000000000 := by omega
       have d0 := (hF.bel.cell (p := ⟨b, off + j * 4, none⟩) hbl).trans c0
       have d1 := (hF.bel.cell (p := ⟨b, off + j * 4 + 1, none⟩) hbl).trans c1
       have d3 := (hF.bel.cell (p := ⟨b, off + j * 4 + 3, none⟩) hbl).trans c3
       have d2 := (hF.bel.cell (p := ⟨b, off + j * 4 + 2, none⟩) hbl).trans c2
       have HKIDS : Hid (∀ wx : World, Below w.heap.size w wx → Calls Tryz.prog 44 #[.pointer (some ⟨b, off + j * 4, none⟩)] wx fun e9 w' => e9 = .returned (.slice akk e.ts[j].kids.length ckk) ∧ Below wx.heap.size wx w') := fun wx hx => implTypeKids b (off + j * 4) _ wx ((hx.cell (p := ⟨b, off + j * 4 + 3, none⟩) hbl).trans c3)
       have hkl8 : e.ts[j].kids.length ≤ 4000000000 := by
        have h4 : e.ts[j].kids.length ≤ rowWt m e.ts[j].kids := kids_wt hkf
        omega
       have HTW2 : Hid (Calls Tryz.prog 43 #[.pointer (some ⟨b, off + j * 4, none⟩)] wi fun e9 w' => e9 = .returned (.int .i64 ((ownW e.ts[j] : Nat) : Int)) ∧ Below wi.heap.size wi w') := implTypeW b (off + j * 4) e.ts[j] vn akk ckk wi d0 d1 d2 d3 (htx.at.below hF.bel) hoW hkl8
       have HKF : Hid (LE.fits A w ⟨.slice akk e.ts[j].kids.length ckk, e.ts[j].kids, m⟩) := by rw [← hvk']; exact hkf
       have HOWN : Hid (type_of% hown) := hown
       have HCO2 : Hid (type_of% hco) := hco
       have hj0i : (0 : Int) ≤ (j : Int) := by omega
       have hj1i : (j : Int) < (e.ts.length : Int) := by omega
       have hKl : (E' ++ K).length ≤ 4000000000 := by
        have h1 := len_cost (E' ++ K)
        rw [sumCost_app] at h1
        have h2 := HCST.out
        omega
       have hkl9 : e.ts[j].kids.length ≤ 3000000000 := by
        have h4 : e.ts[j].kids.length ≤ rowWt m e.ts[j].kids := kids_wt hkf
        omega
       obtain ⟨EK, hEK⟩ : ∃ EK, EK = E' ++ K := ⟨_, rfl⟩
       rw [← hEK] at hF hKl HF ⊢
       obtain ⟨NK, hNK⟩ : ∃ NK, NK = EK.length := ⟨_, rfl⟩
       rw [← hNK] at hF hKl HF ⊢
       have hrowK := hF.row
       rw [← hNK] at hrowK
       have HEK : Hid (type_of% hEK) := hEK
       have HNK : Hid (EK.length = NK) := hNK.symm
       have hbi := hF.bel
       have HFIT2 : Hid (∀ q ∈ EK, q.fits A w) := hF.fit
       clear hF hsm hcs c0 c1 c2 c3 hnm htx hkf hvk hvk' hown hco d0 d1 d2 d3 hkl8 HOP hrow2 ctop hEK hNK HF
       generalize hTJ : e.ts[j] = T at *
       clear hTJ
       go_wp2_with fail
       refine HTW2.out.mono ?_
       rintro e9 w2 ⟨rfl, hb2⟩
       have hbw2 : Below w.heap.size w w2 := hbi.trans (hb2.mono hbi.size)
       have hrow3 := own_belW hrowK hb2
       have HKI : Hid (type_of% (HKIDS.out w2 hbw2)) := HKIDS.out w2 hbw2
       clear HTW2 HKIDS hb2 hrowK
       go_wp2_with fail
       refine HKI.out.mono ?_
       rintro e9 w3 ⟨rfl, hb3⟩
       have hbw3 : Below w.heap.size w w3 := hbw2.trans (hb3.mono hbw2.size)
       have hrow4 := own_belW hrow3 hb3
       have hz3 := hbw3.size
       clear HKI hb3 hrow3
       by_cases hk0 : 0 < T.kids.length
       ·have hk0i : (0 : Int) < (T.kids.length : Int) := by omega
        go_wp2_with (at_builtin; refine wpList_append_own_at _ rfl _ _ 99 rfl w.heap.size 28 i0 (.slice none 0 0) 1 24 Tryz.underlying99 hi0 hz0 hz1 hz2 rfl (by decide) _ _ _ rfl (hrow4.alloc _) ⟨w3.heap.size, 0, none⟩ 1 1 [.slice akk T.kids.length ckk] rfl rfl ?c1 ?c2 ?c3 ?c4 ?c5 ?_)
        case c1 => exact one_cellW (cellNew 0 rfl)
        case c2 => intro u hu; simp at hu; subst hu; rfl
        case c3 => unfold maxLen; omega
        case c4 => omega
        case c5 => simp; omega
        intro v5 w5 hown5 hgrow5 _ _
        have hbw5 : Below w.heap.size w w5 := (hbw3.alloc hz3 _).grown hgrow5 (by simp; omega) fun g hg => (hrow4.lt g hg).1
        have HFN : Hid (FewAt A w w5 v5 (E' ++ (K ++ [⟨.slice akk T.kids.length ckk, T.kids, m⟩]))) := by
         rw [← List.append_assoc, ← HEK.out]
         refine ⟨?_, fun q hq => ?_, hbw5⟩
         ·rw [List.length_append, List.length_singleton, HNK.out, List.map_append, List.map_singleton]
          exact hown5
         ·rcases List.mem_append.1 hq with hq | hq
          ·exact HFIT2.out q hq
          ·rw [List.mem_singleton] at hq
           rw [hq]
           exact HKF.out
        have HSN : Hid (wt2 + ownW T + sumWt E' + sumWt (K ++ [⟨.slice akk T.kids.length ckk, T.kids, m⟩]) + rowWt e.n (e.ts.drop (j + 1)) = TW) := by
         have h1 := HSM.out
         rw [HOWN.out] at h1
         show _ = _
         rw [sumWt_app, sumWt_one]
         have : LE.wt ⟨.slice akk T.kids.length ckk, T.kids, m⟩ = rowWt m T.kids := rfl
         omega
        have HCN : Hid (sumCost (K ++ [⟨.slice akk T.kids.length ckk, T.kids, m⟩]) + 3 * ndRow e.n (e.ts.drop (j + 1)) ≤ 3 * ndRow e.n e.ts) := by
         have h1 := HCS.out
         rw [HCO2.out] at h1
         show _ ≤ _
         rw [sumCost_app, sumCost_one]
         have : LE.cost ⟨.slice akk T.kids.length ckk, T.kids, m⟩ = 3 * (1 + ndRow m T.kids) := rfl
         omega
        obtain ⟨a5, c5, hv5⟩ := own_sliceW hown5
        subst hv5
        clear hown5 hgrow5 hrow4 HSM HCS HOWN HCO2 HKF HFIT2
        go_wp2_with fail
        go_roundw
        case rel => exact ⟨j + 1, _, wt2 + ownW T, by omega, by go_num, by go_num, HFN.out, HSN.out, HCN.out⟩
        case measure => simp [intOf]; omega
       ·have hk0i : ¬ (0 : Int) < (T.kids.length : Int) := by omega
        have hkn : T.kids = [] := List.length_eq_zero_iff.1 (by omega)
        have HFN : Hid (FewAt A w w3 (.slice av NK cv) (E' ++ K)) := by
         rw [← HEK.out]
         exact ⟨by rw [HNK.out]; exact hrow4, HFIT2.out, hbw3⟩
        have HSN : Hid (wt2 + ownW T + sumWt E' + sumWt K + rowWt e.n (e.ts.drop (j + 1)) = TW) := by
         have h1 := HSM.out
         rw [HOWN.out, hkn, rowWt_nil] at h1
         show _ = _
         omega
        have HCN : Hid (sumCost K + 3 * ndRow e.n (e.ts.drop (j + 1)) ≤ 3 * ndRow e.n e.ts) := by
         have h1 := HCS.out
         rw [HCO2.out] at h1
         show _ ≤ _
         omega
        clear hrow4 HSM HCS HOWN HCO2 HKF HFIT2 hkn
        go_wp2_with fail
        go_roundw
        case rel => exact ⟨j + 1, K, wt2 + ownW T, by omega, by go_num, by go_num, HFN.out, HSN.out, HCN.out⟩
        case measure => simp [intOf]; omega
      ·have hje : j = e.ts.length := by omega
       have hd : e.ts.drop j = [] := List.drop_eq_nil_of_le (by omega)
       rw [hd, rowWt_nil] at hsm
       rw [hd] at hcs
       have hc0 : ndRow e.n [] = 0 := rfl
       have HSN : Hid (wt2 + sumWt (E' ++ K) = TW) := by
        show _ = _
        rw [sumWt_app]
        omega
       have HCN : Hid (sumCost (E' ++ K) < gk ∧ sumCost (E' ++ K) ≤ TC) := by
        have h2 := HCST.out
        show _ ∧ _
        rw [sumCost_app]
        omega
       have hcn2 : cnt + e.ts.length ≤ 500 := by omega
       clear hF hsm hcs hd hje HSM HCS HOP hrow2 ctop hc0
       obtain ⟨EK, hEK⟩ : ∃ EK, EK = E' ++ K := ⟨_, rfl⟩
       rw [← hEK] at HF HSN HCN
       obtain ⟨NK, hNK⟩ : ∃ NK, NK = EK.length := ⟨_, rfl⟩
       rw [← hEK, ← hNK]
       rw [← hNK] at HF
       clear hEK hNK
       go_wp2_with fail
       go_roundg (sumCost EK)
       case rel => exact ⟨EK, wt2, cnt + e.ts.length, rfl, by go_num, hcn2, HF.out, HSN.out, rfl, HCN.out.2⟩
       case measure => exact HCN.out.1
end Go.Proofs.YtbojmbeopnlmiaaGreatDoor
