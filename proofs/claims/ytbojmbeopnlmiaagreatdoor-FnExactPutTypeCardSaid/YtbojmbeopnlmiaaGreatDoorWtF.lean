/-
  The walk of impl.weightOfFew at types.
  Lists within lists, gone through so that each comes once, behind those within it: what holds between two steps, and that each step keeps it. No program here.
  The walk of impl.listsWithin at types.
  The walk of impl.weightOf at types: how much a list of types takes, each of its types as often as it stands there.
-/
import Derived.Test.YtbojmbeopnlmiaaGreatDoorPlM
import Derived.Maps.AppendAt
import Derived.Test.YtbojmbeopnlmiaaGreatDoorNewI
namespace Go.Proofs.YtbojmbeopnlmiaaGreatDoor
open Go.RowKit Go.Sort

theorem Tryz.infoRowT : (Tryz.prog.info? 28).map (fun i => (i.zero, i.size, i.bytes)) = some (some (.slice none 0 0), 1, 24) := by kernel_rfl
theorem one_cellW {X : World} {G : Nat} {v : Value} (h : X.cell? ⟨G, 0, none⟩ = some v) : ∀ j u, [v][j]? = some u → X.cell? ((⟨G, 0, none⟩ : Addr).add j) = some u := by
  intro j u hj
  match j, hj with
  | 0, hj => simp at hj; subst hj; simpa [Addr.add] using h
theorem own_cut1 {w : World} {B e g n m cap : Nat} {xs ys : List Value} (h : w.ownsRow B e 1 (.slice (some ⟨g, 0, none⟩) n cap) n xs) (hm : m ≤ n) (hy : ys = xs.take m) : w.ownsRow B e 1 (.slice (some ⟨g, 0, none⟩) m cap) m ys := by
  rcases h.2 with ⟨q, _⟩ | ⟨g', c', cur, q, h1, h2, h3, h4, h5, h6⟩
  · simp at q
  · simp only [Value.slice.injEq, Option.some.injEq, Addr.mk.injEq, true_and, and_true] at q
    obtain ⟨rfl, rfl⟩ := q
    have hl := h.1
    refine ⟨by rw [hy, List.length_take, hl]; omega, .inr ⟨g, cap, cur, rfl, h1, h2, by omega, h4, h5, ?_⟩⟩
    rw [hy, ← h6, List.take_take]
    congr 1
    omega
theorem own_posW {w : World} {B e : Nat} {v : Value} {n : Nat} {xs : List Value} (h : w.ownsRow B e 1 v n xs) (hn : 0 < n) : ∃ g cap, v = .slice (some ⟨g, 0, none⟩) n cap ∧ n ≤ cap := by
  rcases h.2 with ⟨_, h0⟩ | ⟨g, cap, cur, hv, _, _, hc, _⟩
  · omega
  · exact ⟨g, cap, hv, hc⟩
theorem own_sliceW {w : World} {B e : Nat} {v : Value} {n : Nat} {xs : List Value} (h : w.ownsRow B e 1 v n xs) : ∃ a c, v = .slice a n c := by
  rcases h.2 with ⟨h, h0⟩ | ⟨g, cap, cur, h, _⟩
  · exact ⟨none, 0, by rw [h, h0]⟩
  · exact ⟨_, cap, h⟩
theorem own_topW {w : World} {B e g n cap : Nat} {xs : List Value} {x : Value} (h : w.ownsRow B e 1 (.slice (some ⟨g, 0, none⟩) (n + 1) cap) (n + 1) (xs ++ [x])) (hl : xs.length = n) : w.cell? ⟨g, n, none⟩ = some x := by
  have h0 := h.cells (g := g) rfl n x (by rw [List.getElem?_append_right (by omega), hl, Nat.sub_self]; rfl)
  have ea : ((⟨g, 0, none⟩ : Addr).add n) = ⟨g, n, none⟩ := by
    cases n with
    | zero => rfl
    | succ n => simp [Addr.add]
  rw [ea] at h0
  exact h0

theorem own_belW {w w' : World} {B e z : Nat} {v : Value} {n : Nat} {xs : List Value} (h : w.ownsRow B e z v n xs) (hb : Below w.heap.size w w') : w'.ownsRow B e z v n xs := kept_belowT h hb
/-- a list of types takes at least so much -/
theorem kids_wt {A : Nat → Prop} {w : World} {e : LE} (h : e.fits A w) : e.ts.length ≤ rowWt e.n e.ts := by
  obtain ⟨_, _, _, hop⟩ := LE.open h
  have : ∀ l : List Ty, (∃ m, e.n = m + 1) ∨ l = [] → l.length ≤ rowWt e.n l := fun l hl => by
    induction l with
    | nil => simp
    | cons a r ih =>
      obtain ⟨m, hm⟩ : ∃ m, e.n = m + 1 := by rcases hl with q | q; exact q; cases q
      have := ih (.inl ⟨m, hm⟩)
      have h9 : 1 ≤ Ty.wt e.n a := by rw [hm, Ty.wt]; have := ownW_pos a; omega
      rw [rowWt_cons, List.length_cons]
      omega
  exact this e.ts (by
    cases hts : e.ts with
    | nil => exact .inr rfl
    | cons a r =>
      obtain ⟨m, _, _, _, _, hm, _⟩ := hop 0 (by rw [hts]; simp)
      exact .inl ⟨m, hm⟩)

/-- a stack of lists in memory of its own -/
structure FewAt (A : Nat → Prop) (w : World) (wr : World) (v : Value) (E : List LE) : Prop where
  row : wr.ownsRow w.heap.size 28 1 v E.length (E.map LE.v)
  fit : ∀ e ∈ E, e.fits A w
  bel : Below w.heap.size w wr

set_option maxHeartbeats 3200000 in
set_option maxRecDepth 100000 in
theorem implFew (A : Nat → Prop) (e0 : LE) (w : World) (hA : ∀ b, A b → b < w.heap.size) (hf : e0.fits A w) (hw : e0.wt ≤ 1000000000) (hc : e0.cost ≤ 1000000000) :
    Calls Tryz.prog 67 #[e0.v, .func (.func 43) #[] #[], .func (.func 44) #[] #[]] w fun e w' => (e = .returned (.tuple #[.int .i64 ((e0.wt : Nat) : Int), .bool true]) ∨ e = .returned (.tuple #[.int .i64 0, .bool false])) ∧ Below w.heap.size w w' := by
  obtain ⟨i0, hi0, hz0, hz1, hz2⟩ := info_parts Tryz.infoRowT
  obtain ⟨a0, cap0, hv0, _⟩ := LE.open hf
  have hB0 : Below w.heap.size w (w.alloc (.cells #[.slice a0 e0.ts.length cap0] 28)) := (Below.refl _ _).alloc (Nat.le_refl _) _
  have hrow0 : (w.alloc (.cells #[.slice a0 e0.ts.length cap0] 28)).ownsRow w.heap.size 28 1 (.slice (some ⟨w.heap.size, 0, none⟩) 1 1) 1 ([e0].map LE.v) :=
    ⟨rfl, .inr ⟨w.heap.size, 1, _, rfl, Nat.le_refl _, (MapKept.heap_alloc w _).1, Nat.le_refl _, by decide, rfl, by rw [List.map_singleton, hv0]; rfl⟩⟩
  have HST : Hid (FewAt A w (w.alloc (.cells #[.slice a0 e0.ts.length cap0] 28)) (.slice (some ⟨w.heap.size, 0, none⟩) 1 1) [e0]) := ⟨hrow0, fun e he => by rw [List.mem_singleton] at he; rw [he]; exact hf, hB0⟩
  have HA : Hid (type_of% hA) := hA
  have HTO : Hid (0 + sumWt [e0] = e0.wt) := by show _ = _; rw [sumWt_one, Nat.zero_add]
  have HCO : Hid (sumCost [e0] = e0.cost) := sumCost_one e0
  obtain ⟨TW, hTW⟩ : ∃ TW, TW = e0.wt := ⟨_, rfl⟩
  obtain ⟨TC, hTC⟩ : ∃ TC, TC = e0.cost := ⟨_, rfl⟩
  rw [← hTW] at hw HTO ⊢
  rw [← hTC] at hc HCO
  have HTW : Hid (type_of% hTW) := hTW
  rw [hv0]
  clear hf hrow0 hB0 hA hTW hTC
  go_enter Tryz.func67, Tryz.ntmps67
  go_wp2_with fail
  go_loopg [8, 9, 10] TC (fun k s8 s9 s10 wr => ∃ (E : List LE) (wt cnt : Nat), s8 = .int .i64 wt ∧ s9 = .int .i64 cnt ∧ cnt ≤ 500 ∧ FewAt A w wr s10 E ∧ wt + sumWt E = TW ∧ sumCost E = k ∧ k ≤ TC)
  case atStart => exact ⟨[e0], 0, 0, rfl, rfl, by omega, HST.out, HTO.out, HCO.out, Nat.le_refl _⟩
  case round =>
    clear HST HTO HCO
    obtain ⟨E, wt, cnt, rfl, rfl, hcnt, hF, hsum, hk, hkT⟩ := hrel
    obtain ⟨wo, rfl⟩ : ∃ wo, wo = wr := ⟨_, rfl⟩
    have hwt : wt ≤ TW := by omega
    have hEl := len_cost E
    have HSUM : Hid (type_of% hsum) := hsum
    have HK : Hid (type_of% hk) := hk
    rcases List.eq_nil_or_concat E with hE | ⟨E', e, hE⟩
    · subst hE
      obtain ⟨av, cv, hv⟩ := own_sliceW hF.row
      subst hv
      have HR : Hid (wt = TW) := by
        have h := HSUM.out
        simp only [sumWt, List.map_nil, List.sum_nil, Nat.add_zero] at h
        exact h
      have HB : Hid (type_of% hF.bel) := hF.bel
      clear hF hsum hk hEl
      go_wp2_with fail
      go_ret2
      exact ⟨.inl (by rw [← HR.out]; rfl), HB.out⟩
    · rw [List.concat_eq_append] at hE
      subst hE
      have hl1 : (E' ++ [e]).length = E'.length + 1 := by simp
      have hrow := hF.row
      rw [hl1, List.map_append, List.map_singleton] at hrow
      obtain ⟨gs, cs, hv, hcap⟩ := own_posW hrow (by omega)
      subst hv
      have hfe := hF.fit e (by simp)
      obtain ⟨ae, ce, hve, hop⟩ := LE.open hfe
      rw [hve] at hrow
      have ctop := own_topW hrow (by simp)
      have hrow2 : wo.ownsRow w.heap.size 28 1 (.slice (some ⟨gs, 0, none⟩) E'.length cs) E'.length (E'.map LE.v) := own_cut1 hrow (by omega) (by rw [List.take_left' (by simp)])
      have hEl2 : E'.length ≤ 1000000000 := by omega
      have hel : e.ts.length ≤ 1000000000 := by
        have h1 : e.cost ≤ sumCost (E' ++ [e]) := by rw [sumCost_app, sumCost_one]; omega
        have h2 : e.ts.length ≤ e.cost := by
          unfold LE.cost ndRow
          have : ∀ l : List Ty, (∃ m, e.n = m + 1) ∨ l = [] → l.length ≤ (l.map fun t => (Ty.nodes e.n t).length).sum := fun l hl => by
            induction l with
            | nil => simp
            | cons a r ih =>
              obtain ⟨m, hm⟩ : ∃ m, e.n = m + 1 := by rcases hl with q | q; exact q; cases q
              have := ih (.inl ⟨m, hm⟩)
              have h9 : 1 ≤ (Ty.nodes e.n a).length := by rw [hm, Ty.nodes, List.length_cons]; omega
              simp only [List.map_cons, List.sum_cons, List.length_cons]
              omega
          have := this e.ts (by
            cases hts : e.ts with
            | nil => exact .inr rfl
            | cons a r =>
              obtain ⟨m, _, _, _, _, hm, _⟩ := hop 0 (by rw [hts]; simp)
              exact .inl ⟨m, hm⟩)
          omega
        omega
      have hli : (E'.length : Int) < ((E'.length + 1 : Nat) : Int) := by omega
      have h0i : (0 : Int) ≤ (E'.length : Int) := by omega
      have hcapi : (E'.length : Int) ≤ (cs : Int) := by omega
      have HSUM2 : Hid (wt + sumWt E' + sumWt [] + rowWt e.n (e.ts.drop 0) = TW) := by
        have := HSUM.out
        rw [sumWt_app, sumWt_one] at this
        show _ = _
        simp only [List.drop_zero]
        have e0 : sumWt [] = 0 := rfl
        have e1 : e.wt = rowWt e.n e.ts := rfl
        omega
      have HCST : Hid (sumCost E' + 3 * (1 + ndRow e.n e.ts) = gk) := by
        have := HK.out
        rw [sumCost_app, sumCost_one] at this
        exact this
      have HFIT : Hid (∀ q ∈ E', q.fits A w) := fun q hq => hF.fit q (List.mem_append_left _ hq)
      have HOP : Hid (type_of% hop) := hop
      have HBEL : Hid (type_of% hF.bel) := hF.bel
      have hbz := hF.bel.size
      clear hF hsum hk hEl hrow hfe hop HSUM HK hl1 hve
      by_cases hs1 : 500 < cnt + e.ts.length
      · have hs1i : (500 : Int) < (cnt : Int) + (e.ts.length : Int) := by omega
        clear HSUM2 HCST HFIT HOP HA
        go_wp2_with fail
        go_ret2
        exact ⟨.inr rfl, HBEL.out⟩
      · have hs1i : ¬ (500 : Int) < (cnt : Int) + (e.ts.length : Int) := by omega
        by_cases hs2 : 65536 < wt
        · have hs2i : (65536 : Int) < (wt : Int) := by omega
          clear HSUM2 HCST HFIT HOP HA
          go_wp2_with fail
          go_ret2
          exact ⟨.inr rfl, HBEL.out⟩
        · have hs2i : ¬ (65536 : Int) < (wt : Int) := by omega
          have hwtT : wt ≤ 1000000000 := by omega
          go_wp2_with fail
          go_loopw [8, 10, 42] (fun s8 s10 i wr => ∃ (j : Nat) (K : List LE) (wt2 : Nat), j ≤ e.ts.length ∧ i = .int .i64 j ∧ s8 = .int .i64 wt2 ∧ FewAt A w wr s10 (E' ++ K) ∧ wt2 + sumWt E' + sumWt K + rowWt e.n (e.ts.drop j) = TW ∧ sumCost K + 3 * ndRow e.n (e.ts.drop j) ≤ 3 * ndRow e.n e.ts) (fun _ _ i _ => e.ts.length - (intOf i).toNat)
          case atStart => exact ⟨0, [], wt, Nat.zero_le _, rfl, rfl, ⟨by rw [List.append_nil]; exact hrow2, by rw [List.append_nil]; exact HFIT.out, HBEL.out⟩, HSUM2.out, by simp [sumCost]⟩
          case round =>
            obtain ⟨j, K, wt2, hj, rfl, rfl, hF, hsm, hcs⟩ := hrel
            obtain ⟨wi, rfl⟩ : ∃ wi, wi = wr := ⟨_, rfl⟩
            have hw2 : wt2 ≤ 1000000000 := by omega
            obtain ⟨av, cv, hv⟩ := own_sliceW hF.row
            subst hv
            have HF : Hid (type_of% hF) := hF
            have HSM : Hid (type_of% hsm) := hsm
            have HCS : Hid (type_of% hcs) := hcs
            by_cases hlt : j < e.ts.length
            · obtain ⟨m, b, off, vn, vk, hm, rfl, hAb, hbc, c0, c1, c2, c3, hnm, htx, hkf⟩ := HOP.out j hlt
              have hbl : b < w.heap.size := HA.out b hAb
              obtain ⟨akk, ckk, hvk, _⟩ := LE.open hkf
              have hvk' : vk = .slice akk e.ts[j].kids.length ckk := hvk
              rw [hvk'] at c3
              have hown := wt_step hm hlt
              have hco := cost_step (ts := e.ts) hm hlt
              have hoW : ownW e.ts[j] ≤ 1000000000 := by omega
              have d0 := (hF.bel.cell (p := ⟨b, off + j * 4, none⟩) hbl).trans c0
              have d1 := (hF.bel.cell (p := ⟨b, off + j * 4 + 1, none⟩) hbl).trans c1
              have d3 := (hF.bel.cell (p := ⟨b, off + j * 4 + 3, none⟩) hbl).trans c3
              have d2 := (hF.bel.cell (p := ⟨b, off + j * 4 + 2, none⟩) hbl).trans c2
              have HKIDS : Hid (∀ wx : World, Below w.heap.size w wx → Calls Tryz.prog 44 #[.pointer (some ⟨b, off + j * 4, none⟩)] wx fun e9 w' => e9 = .returned (.slice akk e.ts[j].kids.length ckk) ∧ Below wx.heap.size wx w') := fun wx hx => implTypeKids b (off + j * 4) _ wx ((hx.cell (p := ⟨b, off + j * 4 + 3, none⟩) hbl).trans c3)
              have hkl8 : e.ts[j].kids.length ≤ 4000000000 := by
                have h4 : e.ts[j].kids.length ≤ rowWt m e.ts[j].kids := kids_wt hkf
                omega
              have HTW2 : Hid (Calls Tryz.prog 43 #[.pointer (some ⟨b, off + j * 4, none⟩)] wi fun e9 w' => e9 = .returned (.int .i64 ((ownW e.ts[j] : Nat) : Int)) ∧ Below wi.heap.size wi w') := implTypeW b (off + j * 4) e.ts[j] vn akk ckk wi d0 d1 d2 d3 (htx.at.below hF.bel) hoW hkl8
              have HKF : Hid (LE.fits A w ⟨.slice akk e.ts[j].kids.length ckk, e.ts[j].kids, m⟩) := by rw [← hvk']; exact hkf
              have HOWN : Hid (type_of% hown) := hown
              have HCO2 : Hid (type_of% hco) := hco
              have hj0i : (0 : Int) ≤ (j : Int) := by omega
              have hj1i : (j : Int) < (e.ts.length : Int) := by omega
              have hKl : (E' ++ K).length ≤ 4000000000 := by
                have h1 := len_cost (E' ++ K)
                rw [sumCost_app] at h1
                have h2 := HCST.out
                omega
              have hkl9 : e.ts[j].kids.length ≤ 3000000000 := by
                have h4 : e.ts[j].kids.length ≤ rowWt m e.ts[j].kids := kids_wt hkf
                omega
              obtain ⟨EK, hEK⟩ : ∃ EK, EK = E' ++ K := ⟨_, rfl⟩
              rw [← hEK] at hF hKl HF ⊢
              obtain ⟨NK, hNK⟩ : ∃ NK, NK = EK.length := ⟨_, rfl⟩
              rw [← hNK] at hF hKl HF ⊢
              have hrowK := hF.row
              rw [← hNK] at hrowK
              have HEK : Hid (type_of% hEK) := hEK
              have HNK : Hid (EK.length = NK) := hNK.symm
              have hbi := hF.bel
              have HFIT2 : Hid (∀ q ∈ EK, q.fits A w) := hF.fit
              clear hF hsm hcs c0 c1 c2 c3 hnm htx hkf hvk hvk' hown hco d0 d1 d2 d3 hkl8 HOP hrow2 ctop hEK hNK HF
              generalize hTJ : e.ts[j] = T at *
              clear hTJ
              go_wp2_with fail
              refine HTW2.out.mono ?_
              rintro e9 w2 ⟨rfl, hb2⟩
              have hbw2 : Below w.heap.size w w2 := hbi.trans (hb2.mono hbi.size)
              have hrow3 := own_belW hrowK hb2
              have HKI : Hid (type_of% (HKIDS.out w2 hbw2)) := HKIDS.out w2 hbw2
              clear HTW2 HKIDS hb2 hrowK
              go_wp2_with fail
              refine HKI.out.mono ?_
              rintro e9 w3 ⟨rfl, hb3⟩
              have hbw3 : Below w.heap.size w w3 := hbw2.trans (hb3.mono hbw2.size)
              have hrow4 := own_belW hrow3 hb3
              have hz3 := hbw3.size
              clear HKI hb3 hrow3
              by_cases hk0 : 0 < T.kids.length
              · have hk0i : (0 : Int) < (T.kids.length : Int) := by omega
                go_wp2_with (at_builtin; refine wpList_append_own_at _ rfl _ _ 99 rfl w.heap.size 28 i0 (.slice none 0 0) 1 24 Tryz.underlying99 hi0 hz0 hz1 hz2 rfl (by decide) _ _ _ rfl (hrow4.alloc _) ⟨w3.heap.size, 0, none⟩ 1 1 [.slice akk T.kids.length ckk] rfl rfl ?c1 ?c2 ?c3 ?c4 ?c5 ?_)
                case c1 => exact one_cellW (cellNew 0 rfl)
                case c2 => intro u hu; simp at hu; subst hu; rfl
                case c3 => unfold maxLen; omega
                case c4 => omega
                case c5 => simp; omega
                intro v5 w5 hown5 hgrow5 _ _
                have hbw5 : Below w.heap.size w w5 := (hbw3.alloc hz3 _).grown hgrow5 (by simp; omega) fun g hg => (hrow4.lt g hg).1
                have HFN : Hid (FewAt A w w5 v5 (E' ++ (K ++ [⟨.slice akk T.kids.length ckk, T.kids, m⟩]))) := by
                  rw [← List.append_assoc, ← HEK.out]
                  refine ⟨?_, fun q hq => ?_, hbw5⟩
                  · rw [List.length_append, List.length_singleton, HNK.out, List.map_append, List.map_singleton]
                    exact hown5
                  · rcases List.mem_append.1 hq with hq | hq
                    · exact HFIT2.out q hq
                    · rw [List.mem_singleton] at hq
                      rw [hq]
                      exact HKF.out
                have HSN : Hid (wt2 + ownW T + sumWt E' + sumWt (K ++ [⟨.slice akk T.kids.length ckk, T.kids, m⟩]) + rowWt e.n (e.ts.drop (j + 1)) = TW) := by
                  have h1 := HSM.out
                  rw [HOWN.out] at h1
                  show _ = _
                  rw [sumWt_app, sumWt_one]
                  have : LE.wt ⟨.slice akk T.kids.length ckk, T.kids, m⟩ = rowWt m T.kids := rfl
                  omega
                have HCN : Hid (sumCost (K ++ [⟨.slice akk T.kids.length ckk, T.kids, m⟩]) + 3 * ndRow e.n (e.ts.drop (j + 1)) ≤ 3 * ndRow e.n e.ts) := by
                  have h1 := HCS.out
                  rw [HCO2.out] at h1
                  show _ ≤ _
                  rw [sumCost_app, sumCost_one]
                  have : LE.cost ⟨.slice akk T.kids.length ckk, T.kids, m⟩ = 3 * (1 + ndRow m T.kids) := rfl
                  omega
                obtain ⟨a5, c5, hv5⟩ := own_sliceW hown5
                subst hv5
                clear hown5 hgrow5 hrow4 HSM HCS HOWN HCO2 HKF HFIT2
                go_wp2_with fail
                go_roundw
                case rel => exact ⟨j + 1, _, wt2 + ownW T, by omega, by go_num, by go_num, HFN.out, HSN.out, HCN.out⟩
                case measure => simp [intOf]; omega
              · have hk0i : ¬ (0 : Int) < (T.kids.length : Int) := by omega
                have hkn : T.kids = [] := List.length_eq_zero_iff.1 (by omega)
                have HFN : Hid (FewAt A w w3 (.slice av NK cv) (E' ++ K)) := by
                  rw [← HEK.out]
                  exact ⟨by rw [HNK.out]; exact hrow4, HFIT2.out, hbw3⟩
                have HSN : Hid (wt2 + ownW T + sumWt E' + sumWt K + rowWt e.n (e.ts.drop (j + 1)) = TW) := by
                  have h1 := HSM.out
                  rw [HOWN.out, hkn, rowWt_nil] at h1
                  show _ = _
                  omega
                have HCN : Hid (sumCost K + 3 * ndRow e.n (e.ts.drop (j + 1)) ≤ 3 * ndRow e.n e.ts) := by
                  have h1 := HCS.out
                  rw [HCO2.out] at h1
                  show _ ≤ _
                  omega
                clear hrow4 HSM HCS HOWN HCO2 HKF HFIT2 hkn
                go_wp2_with fail
                go_roundw
                case rel => exact ⟨j + 1, K, wt2 + ownW T, by omega, by go_num, by go_num, HFN.out, HSN.out, HCN.out⟩
                case measure => simp [intOf]; omega
            · have hje : j = e.ts.length := by omega
              have hd : e.ts.drop j = [] := List.drop_eq_nil_of_le (by omega)
              rw [hd, rowWt_nil] at hsm
              rw [hd] at hcs
              have hc0 : ndRow e.n [] = 0 := rfl
              have HSN : Hid (wt2 + sumWt (E' ++ K) = TW) := by
                show _ = _
                rw [sumWt_app]
                omega
              have HCN : Hid (sumCost (E' ++ K) < gk ∧ sumCost (E' ++ K) ≤ TC) := by
                have h2 := HCST.out
                show _ ∧ _
                rw [sumCost_app]
                omega
              have hcn2 : cnt + e.ts.length ≤ 500 := by omega
              clear hF hsm hcs hd hje HSM HCS HOP hrow2 ctop hc0
              obtain ⟨EK, hEK⟩ : ∃ EK, EK = E' ++ K := ⟨_, rfl⟩
              rw [← hEK] at HF HSN HCN
              obtain ⟨NK, hNK⟩ : ∃ NK, NK = EK.length := ⟨_, rfl⟩
              rw [← hEK, ← hNK]
              rw [← hNK] at HF
              clear hEK hNK
              go_wp2_with fail
              go_roundg (sumCost EK)
              case rel => exact ⟨EK, wt2, cnt + e.ts.length, rfl, by go_num, hcn2, HF.out, HSN.out, rfl, HCN.out.2⟩
              case measure => exact HCN.out.1

end Go.Proofs.YtbojmbeopnlmiaaGreatDoor

namespace Go.Proofs.YtbojmbeopnlmiaaGreatDoor
open Go.RowKit

/-- the key of a list -/
def LE.key (e : LE) : KeyP := match e.v with
  | .slice a n _ => if n = 0 then ⟨none, 0⟩ else ⟨a, (n : Int)⟩
  | _ => ⟨none, 0⟩
theorem LE.key_of {e : LE} {a : Option Addr} {n c : Nat} (h : e.v = .slice a n c) (hn : 0 < n) : e.key = ⟨a, (n : Int)⟩ := by
  unfold LE.key
  rw [h]
  simp only
  rw [if_neg (by omega)]
theorem LE.key_nil {e : LE} {a : Option Addr} {c : Nat} (h : e.v = .slice a 0 c) : e.key = ⟨none, 0⟩ := by
  unfold LE.key
  rw [h]
  rfl
theorem row_cap {w : World} {R : List Value → Ty → Prop} {a : Option Addr} {n c c' : Nat} {ts : List Ty} (h : RowAt w R (.slice a n c) ts) : RowAt w R (.slice a n c') ts := by
  rcases h with ⟨e, a', cap, e2⟩ | ⟨b, off, cap, e2, hc⟩
  · simp only [Value.slice.injEq] at e2
    exact .inl ⟨e, a, c', by rw [e2.2.1]⟩
  · simp only [Value.slice.injEq] at e2
    exact .inr ⟨b, off, c', by rw [e2.1, e2.2.1], hc⟩
/-- one place, one list -/
theorem key_one {A : Nat → Prop} {w : World} {e f : LE} (he : e.fits A w) (hf : f.fits A w) (hn : e.ts ≠ []) (h : e.key = f.key) : e.ts = f.ts := by
  obtain ⟨a, c, hv, _⟩ := LE.open he
  obtain ⟨a', c', hv', _⟩ := LE.open hf
  have hl : 0 < e.ts.length := List.length_pos_iff.2 hn
  rw [LE.key_of hv hl] at h
  have hl' : 0 < f.ts.length := by
    rcases Nat.eq_zero_or_pos f.ts.length with q | q
    · rw [q] at hv'
      rw [LE.key_nil hv'] at h
      have : (e.ts.length : Int) = 0 := congrArg KeyP.count h
      omega
    · exact q
  rw [LE.key_of hv' hl'] at h
  have h1 : a = a' := congrArg KeyP.place h
  have h2 : (e.ts.length : Int) = (f.ts.length : Int) := congrArg KeyP.count h
  have h3 : f.ts.length = e.ts.length := by omega
  have r1 : RowAt w (TyAt w e.n) e.v e.ts := RowR.at he fun cs t _ q => q.at
  have r2 : RowAt w (TyAt w f.n) f.v f.ts := RowR.at hf fun cs t _ q => q.at
  rw [hv] at r1
  rw [hv', ← h1, h3] at r2
  exact r1.det (row_cap r2) (fun cs t h => TyAt.len h) (fun cs t h => TyAt.len h) fun cs t u _ q1 q2 => TyAt.det q1 q2

/-- a list within a list: that of its type of that number -/
def KidAt (w : World) (e : LE) (k : Nat) (f : LE) : Prop := ∃ (hk : k < e.ts.length) (b off cap : Nat), e.v = .slice (some ⟨b, off, none⟩) e.ts.length cap ∧ w.cell? ⟨b, off + k * 4 + 3, none⟩ = some f.v ∧ f.ts = e.ts[k].kids ∧ e.n = f.n + 1
theorem KidAt.less {w : World} {e f : LE} {k : Nat} (h : KidAt w e k f) : SizeOf.sizeOf f.ts < SizeOf.sizeOf e.ts := by
  obtain ⟨hk, _, _, _, _, _, h1, _⟩ := h
  rw [h1]
  have h2 := size_kids e.ts[k]
  have h3 := size_mem (List.getElem_mem hk)
  omega
theorem KidAt.wt_le {w : World} {e f : LE} {k : Nat} (h : KidAt w e k f) : f.wt ≤ e.wt := by
  obtain ⟨hk, _, _, _, _, _, h1, h2⟩ := h
  unfold LE.wt
  rw [h1]
  have h3 := wt_step (ts := e.ts) h2 hk
  have h4 : rowWt e.n (e.ts.drop k) ≤ rowWt e.n e.ts := by
    have : rowWt e.n e.ts = rowWt e.n (e.ts.take k) + rowWt e.n (e.ts.drop k) := by
      unfold rowWt
      rw [← List.sum_append, ← List.map_append, List.take_append_drop]
    omega
  omega
/-- its value is told by the memory -/
theorem KidAt.val {w : World} {e f g : LE} {k : Nat} (h : KidAt w e k f) (h' : KidAt w e k g) : f.v = g.v := by
  obtain ⟨_, b, off, cap, e1, c1, _, _⟩ := h
  obtain ⟨_, b', off', cap', e2, c2, _, _⟩ := h'
  rw [e1] at e2
  simp only [Value.slice.injEq, Option.some.injEq, Addr.mk.injEq, true_and] at e2
  obtain ⟨⟨rfl, rfl, _⟩, rfl⟩ := e2
  rw [c1] at c2
  exact Option.some.inj c2
theorem KidAt.key {w : World} {e f g : LE} {k : Nat} (h : KidAt w e k f) (h' : KidAt w e k g) : f.key = g.key := by
  unfold LE.key
  rw [h.val h']

/-- what holds between two steps; a number beside each list of the stack: 0 not begun there, 1 begun, 2 being begun -/
structure Lw (A : Nat → Prop) (w : World) (root : LE) (D : List (KeyP × Int)) (S : List (LE × Nat)) (O : List LE) : Prop where
  fitS : ∀ x ∈ S, x.1.fits A w ∧ x.1.ts ≠ []
  fitO : ∀ e ∈ O, e.fits A w ∧ e.ts ≠ []
  zero : lookKP D ⟨none, 0⟩ = some 2
  vals : ∀ k v, lookKP D k = some v → v = 1 ∨ v = 2
  act : ∀ k, lookKP D k = some 1 ↔ ∃ x ∈ S, x.2 ≠ 0 ∧ x.1.key = k
  left : ∀ k, k ≠ ⟨none, 0⟩ → (lookKP D k = some 2 ↔ ∃ o ∈ O, o.key = k)
  rank : S.Pairwise fun x y => x.2 ≠ 0 → SizeOf.sizeOf y.1.ts < SizeOf.sizeOf x.1.ts
  kids : ∀ P x Q, S = P ++ x :: Q → x.2 = 1 → ∀ k f, f.fits A w → KidAt w x.1 k f → f.ts ≠ [] → lookKP D f.key = some 2 ∨ ∃ y ∈ Q, y.1.key = f.key
  post : ∀ P o Q, O = P ++ o :: Q → ∀ k f, f.fits A w → KidAt w o k f → f.ts ≠ [] → ∃ p ∈ P, p.key = f.key
  begun : ∀ x ∈ S, x.2 ≠ 0 → lookKP D x.1.key = some 1
  bottom : S ≠ [] → ∃ b Q, S = (root, b) :: Q ∧ (Q ≠ [] → b ≠ 0)
  last : (S = [] ∨ lookKP D root.key = some 2) → ∃ P, O = P ++ [root]
  alone : lookKP D root.key = some 2 → ∀ x ∈ S, x = (root, 0)
  flag : ∀ x ∈ S, x.2 ≤ 2
  small : (∀ x ∈ S, x.1.wt ≤ root.wt) ∧ ∀ o ∈ O, o.wt ≤ root.wt

theorem key_ne {A : Nat → Prop} {w : World} {e : LE} (h : e.fits A w) (hn : e.ts ≠ []) : e.key ≠ ⟨none, 0⟩ := by
  obtain ⟨a, c, hv, _⟩ := LE.open h
  have hl : 0 < e.ts.length := List.length_pos_iff.2 hn
  rw [LE.key_of hv hl]
  intro q
  have : (e.ts.length : Int) = 0 := congrArg KeyP.count q
  omega

/-- at the beginning -/
theorem Lw.start {A : Nat → Prop} {w : World} {root : LE} (hf : root.fits A w) (hn : root.ts ≠ []) : Lw A w root [(⟨none, 0⟩, 2)] [(root, 0)] [] := by
  have hz : ∀ k v, lookKP [((⟨none, 0⟩ : KeyP), (2 : Int))] k = some v → k = ⟨none, 0⟩ ∧ v = 2 := fun k v h => by
    by_cases c : (⟨none, 0⟩ : KeyP) = k
    · rw [lookK_yesP c] at h
      exact ⟨c.symm, (Option.some.inj h).symm⟩
    · rw [lookK_noP c] at h
      cases h
  refine ⟨fun x hx => ?_, fun e he => by simp at he, lookK_yesP rfl, fun k v h => .inr (hz k v h).2, fun k => ⟨fun h => ?_, fun ⟨x, hx, h1, _⟩ => ?_⟩, fun k hk => ⟨fun h => absurd (hz k 2 h).1 hk, fun ⟨o, ho, _⟩ => by simp at ho⟩, by simp, fun P x Q h hx => ?_, fun P o Q h => by simp at h, fun x hx h => ?_, fun _ => ⟨0, [], rfl, fun q => absurd rfl q⟩, fun h => ?_, fun h => absurd (hz _ 2 h).1 (key_ne hf hn), fun x hx => by rw [List.mem_singleton] at hx; rw [hx]; exact Nat.zero_le _, fun x hx => by rw [List.mem_singleton] at hx; rw [hx]; exact Nat.le_refl _, fun o ho => by simp at ho⟩
  · rw [List.mem_singleton] at hx
    rw [hx]
    exact ⟨hf, hn⟩
  · have := (hz k 1 h).2
    omega
  · rw [List.mem_singleton] at hx
    rw [hx] at h1
    exact absurd rfl h1
  · have : x ∈ [(root, 0)] := by rw [h]; simp
    rw [List.mem_singleton] at this
    rw [this] at hx
    cases hx
  · rw [List.mem_singleton] at hx
    rw [hx] at h
    exact absurd rfl h
  · rcases h with h | h
    · cases h
    · exact absurd (hz _ 2 h).1 (key_ne hf hn)

/-- a list that was left is taken off -/
theorem Lw.pop {A : Nat → Prop} {w : World} {root e : LE} {b : Nat} {D : List (KeyP × Int)} {S : List (LE × Nat)} {O : List LE} (h : Lw A w root D (S ++ [(e, b)]) O) (hl : lookKP D e.key = some 2) : Lw A w root D S O := by
  have hb : b = 0 := by
    by_cases c : b = 0
    · exact c
    · have := h.begun (e, b) (by simp) c
      rw [hl] at this
      cases this
  subst hb
  refine ⟨fun x hx => h.fitS x (List.mem_append_left _ hx), h.fitO, h.zero, h.vals, fun k => ⟨fun q => ?_, fun ⟨x, hx, q⟩ => (h.act k).2 ⟨x, List.mem_append_left _ hx, q⟩⟩, h.left, (List.pairwise_append.1 h.rank).1, fun P x Q hS hx k f hf hk hn => ?_, h.post, fun x hx => h.begun x (List.mem_append_left _ hx), fun hS => ?_, fun hS => ?_, fun hr x hx => h.alone hr x (List.mem_append_left _ hx), fun x hx => h.flag x (List.mem_append_left _ hx), fun x hx => h.small.1 x (List.mem_append_left _ hx), h.small.2⟩
  · obtain ⟨x, hx, h1, h2⟩ := (h.act k).1 q
    rcases List.mem_append.1 hx with hx | hx
    · exact ⟨x, hx, h1, h2⟩
    · rw [List.mem_singleton] at hx
      rw [hx] at h1
      exact absurd rfl h1
  · rcases h.kids P x (Q ++ [(e, 0)]) (by rw [hS]; simp) hx k f hf hk hn with q | ⟨y, hy, q⟩
    · exact .inl q
    · rcases List.mem_append.1 hy with hy | hy
      · exact .inr ⟨y, hy, q⟩
      · rw [List.mem_singleton] at hy
        rw [hy] at q
        exact .inl (by rw [← q]; exact hl)
  · obtain ⟨b, Q, hQ, hQ2⟩ := h.bottom (by simp)
    cases S with
    | nil => exact absurd rfl hS
    | cons x S =>
      simp only [List.cons_append, List.cons.injEq] at hQ
      exact ⟨b, S, by rw [hQ.1], fun _ => hQ2 (by rw [← hQ.2]; simp)⟩
  · rcases hS with hS | hS
    · obtain ⟨b, Q, hQ, _⟩ := h.bottom (by simp)
      rw [hS] at hQ
      simp only [List.nil_append, List.cons.injEq, Prod.mk.injEq] at hQ
      exact h.last (.inr (by rw [← hQ.1.1]; exact hl))
    · exact h.last (.inr hS)

/-- nothing that was begun below is that list -/
theorem Lw.other {A : Nat → Prop} {w : World} {root e : LE} {b : Nat} {D : List (KeyP × Int)} {S : List (LE × Nat)} {O : List LE} (h : Lw A w root D (S ++ [(e, b)]) O) : ∀ x ∈ S, x.2 ≠ 0 → x.1.key ≠ e.key := fun x hx h0 q => by
  have h1 := (List.pairwise_append.1 h.rank).2.2 x hx (e, b) (by simp) h0
  have h2 := h.fitS x (List.mem_append_left _ hx)
  have h3 := h.fitS (e, b) (by simp)
  have := key_one h2.1 h3.1 h2.2 q
  rw [this] at h1
  exact absurd h1 (Nat.lt_irrefl _)

/-- a list that was begun is left: it comes behind those within it -/
theorem Lw.finish {A : Nat → Prop} {w : World} {root e : LE} {b : Nat} {D : List (KeyP × Int)} {S : List (LE × Nat)} {O : List LE} (h : Lw A w root D (S ++ [(e, b)]) O) (hb : b ≠ 2) (hl : lookKP D e.key = some 1) : Lw A w root (setKP D e.key 2) (S ++ [(e, 0)]) (O ++ [e]) := by
  have hfe := h.fitS (e, b) (by simp)
  have hne := key_ne hfe.1 hfe.2
  have hb1 : b = 1 := by
    obtain ⟨x, hx, h1, h2⟩ := (h.act e.key).1 hl
    rcases List.mem_append.1 hx with hx | hx
    · exact absurd h2 (h.other x hx h1)
    · rw [List.mem_singleton] at hx
      rw [hx] at h1
      have := h.flag (e, b) (by simp)
      simp only at h1 this
      omega
  subst hb1
  have hsm : (∀ x ∈ S ++ [(e, 0)], x.1.wt ≤ root.wt) ∧ ∀ o ∈ O ++ [e], o.wt ≤ root.wt := ⟨fun x hx => by
    rcases List.mem_append.1 hx with hx | hx
    · exact h.small.1 x (List.mem_append_left _ hx)
    · rw [List.mem_singleton] at hx; rw [hx]; exact h.small.1 (e, 1) (by simp), fun o ho => by
    rcases List.mem_append.1 ho with ho | ho
    · exact h.small.2 o ho
    · rw [List.mem_singleton] at ho; rw [ho]; exact h.small.1 (e, 1) (by simp)⟩
  have hset : ∀ k, k ≠ e.key → lookKP (setKP D e.key 2) k = lookKP D k := fun k hk => look_set_otherP D 2 (Ne.symm hk)
  have hsame : lookKP (setKP D e.key 2) e.key = some 2 := look_set_sameP D e.key 2
  have two : ∀ k, lookKP D k = some 2 → lookKP (setKP D e.key 2) k = some 2 := fun k q => by
    by_cases c : k = e.key
    · rw [c]; exact hsame
    · rw [hset k c]; exact q
  have hroot : lookKP D root.key = some 2 → False := fun q => by
    have := h.alone q (e, 1) (by simp)
    simp at this
  have hfirst : root.key = e.key → S = [] ∧ root = e := fun c => by
    obtain ⟨b, Q, hQ, hQ2⟩ := h.bottom (by simp)
    cases S with
    | nil =>
      simp only [List.nil_append, List.cons.injEq, Prod.mk.injEq] at hQ
      exact ⟨rfl, hQ.1.1.symm⟩
    | cons x S' =>
      exfalso
      simp only [List.cons_append, List.cons.injEq] at hQ
      have hb0 : b ≠ 0 := hQ2 (by rw [← hQ.2]; simp)
      exact h.other x (by simp) (by rw [hQ.1]; exact hb0) (by rw [hQ.1]; exact c)
  refine ⟨fun x hx => ?_, fun x hx => ?_, two _ h.zero, fun k v q => ?_, fun k => ⟨fun q => ?_, fun ⟨x, hx, h1, h2⟩ => ?_⟩, fun k hk => ⟨fun q => ?_, fun ⟨o, ho, q⟩ => ?_⟩, ?_, fun P x Q hS hx k f hf hk hn => ?_, fun P o Q hO k f hf hk hn => ?_, fun x hx h0 => ?_, fun _ => ?_, fun q => ?_, fun q x hx => ?_, fun x hx => ?_, hsm⟩
  · rcases List.mem_append.1 hx with hx | hx
    · exact h.fitS x (List.mem_append_left _ hx)
    · rw [List.mem_singleton] at hx; rw [hx]; exact hfe
  · rcases List.mem_append.1 hx with hx | hx
    · exact h.fitO x hx
    · rw [List.mem_singleton] at hx; rw [hx]; exact hfe
  · by_cases c : k = e.key
    · rw [c, hsame] at q
      exact .inr (Option.some.inj q).symm
    · rw [hset k c] at q
      exact h.vals k v q
  · by_cases c : k = e.key
    · rw [c, hsame] at q
      cases q
    · rw [hset k c] at q
      obtain ⟨x, hx, h1, h2⟩ := (h.act k).1 q
      rcases List.mem_append.1 hx with hx | hx
      · exact ⟨x, List.mem_append_left _ hx, h1, h2⟩
      · rw [List.mem_singleton] at hx
        rw [hx] at h2
        exact absurd h2.symm c
  · rcases List.mem_append.1 hx with hx | hx
    · have c : k ≠ e.key := fun c => h.other x hx h1 (h2.trans c)
      rw [hset k c]
      exact (h.act k).2 ⟨x, List.mem_append_left _ hx, h1, h2⟩
    · rw [List.mem_singleton] at hx
      rw [hx] at h1
      exact absurd rfl h1
  · by_cases c : k = e.key
    · exact ⟨e, by simp, c.symm⟩
    · rw [hset k c] at q
      obtain ⟨o, ho, q2⟩ := (h.left k hk).1 q
      exact ⟨o, List.mem_append_left _ ho, q2⟩
  · rcases List.mem_append.1 ho with ho | ho
    · exact two k ((h.left k hk).2 ⟨o, ho, q⟩)
    · rw [List.mem_singleton] at ho
      rw [← q, ho]
      exact hsame
  · obtain ⟨r1, _, r3⟩ := List.pairwise_append.1 h.rank
    refine List.pairwise_append.2 ⟨r1, by simp, fun x hx y hy h0 => ?_⟩
    rw [List.mem_singleton] at hy
    rw [hy]
    exact r3 x hx (e, 1) (by simp) h0
  · -- one that was begun below it
    have hS2 : S ++ [(e, 0)] = P ++ x :: Q := hS
    rcases List.eq_nil_or_concat Q with hQ | ⟨Q', y, hQ⟩
    · rw [hQ] at hS2
      have := (List.append_inj' hS2 rfl).2
      simp only [List.cons.injEq, and_true] at this
      rw [← this] at hx
      cases hx
    · rw [List.concat_eq_append] at hQ
      rw [hQ] at hS2
      have e2 : P ++ x :: (Q' ++ [y]) = (P ++ x :: Q') ++ [y] := by simp
      rw [e2] at hS2
      obtain ⟨q1, q2⟩ := List.append_inj' hS2 rfl
      simp only [List.cons.injEq, and_true] at q2
      rcases h.kids P x (Q' ++ [(e, 1)]) (by rw [q1]; simp) hx k f hf hk hn with q | ⟨z, hz, q⟩
      · exact .inl (two _ q)
      · rcases List.mem_append.1 hz with hz | hz
        · exact .inr ⟨z, by rw [hQ]; exact List.mem_append_left _ hz, q⟩
        · rw [List.mem_singleton] at hz
          rw [hz] at q
          exact .inl (by rw [← q]; exact hsame)
  · -- those within it came ahead
    rcases List.eq_nil_or_concat Q with hQ | ⟨Q', y, hQ⟩
    · rw [hQ] at hO
      obtain ⟨q1, q2⟩ := List.append_inj' hO rfl
      simp only [List.cons.injEq, and_true] at q2
      rw [← q2] at hk
      rcases h.kids S (e, 1) [] (by simp) rfl k f hf hk hn with q | ⟨z, hz, _⟩
      · obtain ⟨o', ho', q'⟩ := (h.left _ (key_ne hf hn)).1 q
        exact ⟨o', by rw [← q1]; exact ho', q'⟩
      · simp at hz
    · rw [List.concat_eq_append] at hQ
      rw [hQ] at hO
      have e2 : P ++ o :: (Q' ++ [y]) = (P ++ o :: Q') ++ [y] := by simp
      rw [e2] at hO
      obtain ⟨q1, _⟩ := List.append_inj' hO rfl
      exact h.post P o Q' q1 k f hf hk hn
  · rcases List.mem_append.1 hx with hx | hx
    · rw [hset _ (h.other x hx h0)]
      exact h.begun x (List.mem_append_left _ hx) h0
    · rw [List.mem_singleton] at hx
      rw [hx] at h0
      exact absurd rfl h0
  · obtain ⟨b, Q, hQ, hQ2⟩ := h.bottom (by simp)
    cases S with
    | nil =>
      simp only [List.nil_append, List.cons.injEq, Prod.mk.injEq] at hQ
      exact ⟨0, [], by rw [hQ.1.1]; rfl, fun q => absurd rfl q⟩
    | cons x S =>
      simp only [List.cons_append, List.cons.injEq] at hQ
      exact ⟨b, S ++ [(e, 0)], by rw [hQ.1]; rfl, fun _ => hQ2 (by rw [← hQ.2]; simp)⟩
  · rcases q with q | q
    · simp at q
    · by_cases c : root.key = e.key
      · obtain ⟨hS0, hre⟩ := hfirst c
        exact ⟨O, by rw [hre]⟩
      · rw [hset _ c] at q
        exact (hroot q).elim
  · by_cases c : root.key = e.key
    · obtain ⟨hS0, hre⟩ := hfirst c
      rw [hS0, List.nil_append, List.mem_singleton] at hx
      rw [hx, hre]
    · rw [hset _ c] at q
      exact (hroot q).elim
  · rcases List.mem_append.1 hx with hx | hx
    · exact h.flag x (List.mem_append_left _ hx)
    · rw [List.mem_singleton] at hx; rw [hx]; exact Nat.zero_le _

/-- a list is begun -/
theorem Lw.enter {A : Nat → Prop} {w : World} {root e : LE} {b : Nat} {D : List (KeyP × Int)} {S : List (LE × Nat)} {O : List LE} (h : Lw A w root D (S ++ [(e, b)]) O) (hl : lookKP D e.key = none) : b = 0 ∧ Lw A w root (setKP D e.key 1) (S ++ (e, 2) :: []) O := by
  have hfe := h.fitS (e, b) (by simp)
  have hne := key_ne hfe.1 hfe.2
  have hb : b = 0 := by
    by_cases c : b = 0
    · exact c
    · have := h.begun (e, b) (by simp) c
      rw [hl] at this
      cases this
  subst hb
  have hsm : (∀ x ∈ S ++ (e, 2) :: [], x.1.wt ≤ root.wt) ∧ ∀ o ∈ O, o.wt ≤ root.wt := ⟨fun x hx => by
    rcases List.mem_append.1 hx with hx | hx
    · exact h.small.1 x (List.mem_append_left _ hx)
    · rw [List.mem_singleton] at hx; rw [hx]; exact h.small.1 (e, 0) (by simp), h.small.2⟩
  have hset : ∀ k, k ≠ e.key → lookKP (setKP D e.key 1) k = lookKP D k := fun k hk => look_set_otherP D 1 (Ne.symm hk)
  have hsame : lookKP (setKP D e.key 1) e.key = some 1 := look_set_sameP D e.key 1
  have two : ∀ k, lookKP (setKP D e.key 1) k = some 2 ↔ lookKP D k = some 2 := fun k => by
    by_cases c : k = e.key
    · rw [c, hsame, hl]; simp
    · rw [hset k c]
  have hroot : lookKP D root.key = some 2 → False := fun q => by
    have := h.alone q (e, 0) (by simp)
    simp only [Prod.mk.injEq, and_true] at this
    rw [← this, hl] at q
    cases q
  refine ⟨rfl, fun x hx => ?_, h.fitO, (two _).2 h.zero, fun k v q => ?_, fun k => ⟨fun q => ?_, fun ⟨x, hx, h1, h2⟩ => ?_⟩, fun k hk => (two k).trans (h.left k hk), ?_, fun P x Q hS hx k f hf hk hn => ?_, h.post, fun x hx h0 => ?_, fun _ => ?_, fun q => ?_, fun q => (hroot ((two _).1 q)).elim, fun x hx => ?_, hsm⟩
  · rcases List.mem_append.1 hx with hx | hx
    · exact h.fitS x (List.mem_append_left _ hx)
    · rw [List.mem_singleton] at hx; rw [hx]; exact hfe
  · by_cases c : k = e.key
    · rw [c, hsame] at q
      exact .inl (Option.some.inj q).symm
    · rw [hset k c] at q
      exact h.vals k v q
  · by_cases c : k = e.key
    · exact ⟨(e, 2), by simp, by simp, c.symm⟩
    · rw [hset k c] at q
      obtain ⟨x, hx, h1, h2⟩ := (h.act k).1 q
      rcases List.mem_append.1 hx with hx | hx
      · exact ⟨x, List.mem_append_left _ hx, h1, h2⟩
      · rw [List.mem_singleton] at hx
        rw [hx] at h1
        exact absurd rfl h1
  · rcases List.mem_append.1 hx with hx | hx
    · have c : k ≠ e.key := fun c => h.other x hx h1 (h2.trans c)
      rw [hset k c]
      exact (h.act k).2 ⟨x, List.mem_append_left _ hx, h1, h2⟩
    · rw [List.mem_singleton] at hx
      rw [hx] at h2
      rw [← h2]
      exact hsame
  · obtain ⟨r1, _, r3⟩ := List.pairwise_append.1 h.rank
    refine List.pairwise_append.2 ⟨r1, by simp, fun x hx y hy h0 => ?_⟩
    rw [List.mem_singleton] at hy
    rw [hy]
    exact r3 x hx (e, 0) (by simp) h0
  · have hS2 : S ++ [(e, 2)] = P ++ x :: Q := hS
    rcases List.eq_nil_or_concat Q with hQ | ⟨Q', y, hQ⟩
    · rw [hQ] at hS2
      have := (List.append_inj' hS2 rfl).2
      simp only [List.cons.injEq, and_true] at this
      rw [← this] at hx
      cases hx
    · rw [List.concat_eq_append] at hQ
      rw [hQ] at hS2
      have e2 : P ++ x :: (Q' ++ [y]) = (P ++ x :: Q') ++ [y] := by simp
      rw [e2] at hS2
      obtain ⟨q1, q2⟩ := List.append_inj' hS2 rfl
      simp only [List.cons.injEq, and_true] at q2
      rcases h.kids P x (Q' ++ [(e, 0)]) (by rw [q1]; simp) hx k f hf hk hn with q | ⟨z, hz, q⟩
      · exact .inl ((two _).2 q)
      · rcases List.mem_append.1 hz with hz | hz
        · exact .inr ⟨z, by rw [hQ]; exact List.mem_append_left _ hz, q⟩
        · rw [List.mem_singleton] at hz
          rw [hz] at q
          exact .inr ⟨y, by rw [hQ]; simp, by rw [← q2]; exact q⟩
  · rcases List.mem_append.1 hx with hx | hx
    · rw [hset _ (h.other x hx h0)]
      exact h.begun x (List.mem_append_left _ hx) h0
    · rw [List.mem_singleton] at hx
      rw [hx]
      exact hsame
  · obtain ⟨b, Q, hQ, hQ2⟩ := h.bottom (by simp)
    cases S with
    | nil =>
      simp only [List.nil_append, List.cons.injEq, Prod.mk.injEq] at hQ
      exact ⟨2, [], by rw [hQ.1.1]; rfl, fun q => absurd rfl q⟩
    | cons x S =>
      simp only [List.cons_append, List.cons.injEq] at hQ
      exact ⟨b, S ++ [(e, 2)], by rw [hQ.1]; rfl, fun _ => hQ2 (by rw [← hQ.2]; simp)⟩
  · rcases q with q | q
    · simp at q
    · exact (hroot ((two _).1 q)).elim
  · rcases List.mem_append.1 hx with hx | hx
    · exact h.flag x (List.mem_append_left _ hx)
    · rw [List.mem_singleton] at hx; rw [hx]; exact Nat.le_refl _

/-- one within it was not begun: it would be within itself -/
theorem Lw.notIn {A : Nat → Prop} {w : World} {root e f : LE} {k : Nat} {D : List (KeyP × Int)} {S K : List (LE × Nat)} {O : List LE} (h : Lw A w root D (S ++ (e, 2) :: K) O) (hK : ∀ y ∈ K, y.2 = 0) (hk : KidAt w e k f) (hf : f.fits A w) : lookKP D f.key ≠ some 1 := fun q => by
  obtain ⟨x, hx, h1, h2⟩ := (h.act f.key).1 q
  have hless := hk.less
  rcases List.mem_append.1 hx with hx | hx
  · have h3 := (List.pairwise_append.1 h.rank).2.2 x hx (e, 2) (by simp) h1
    have h4 := h.fitS x (List.mem_append_left _ hx)
    have := key_one h4.1 hf h4.2 h2
    rw [this] at h3
    simp only at h3
    omega
  · rcases List.mem_cons.1 hx with hx | hx
    · have h4 := h.fitS (e, 2) (by simp)
      rw [hx] at h2
      have := key_one h4.1 hf h4.2 h2
      simp only at this
      rw [this] at hless
      omega
    · exact h1 (hK x hx)

/-- one within it is put on the stack -/
theorem Lw.push {A : Nat → Prop} {w : World} {root e f : LE} {k : Nat} {D : List (KeyP × Int)} {S K : List (LE × Nat)} {O : List LE} (h : Lw A w root D (S ++ (e, 2) :: K) O) (hK : ∀ y ∈ K, y.2 = 0) (hk : KidAt w e k f) (hf : f.fits A w) (hn : f.ts ≠ []) : Lw A w root D (S ++ (e, 2) :: (K ++ [(f, 0)])) O := by
  have eS : S ++ (e, 2) :: (K ++ [(f, 0)]) = (S ++ (e, 2) :: K) ++ [(f, 0)] := by simp
  have hless := hk.less
  have hsm : (∀ x ∈ S ++ (e, 2) :: K ++ [(f, 0)], x.1.wt ≤ root.wt) ∧ ∀ o ∈ O, o.wt ≤ root.wt := ⟨fun x hx => by
    rcases List.mem_append.1 hx with hx | hx
    · exact h.small.1 x hx
    · rw [List.mem_singleton] at hx; rw [hx]; exact Nat.le_trans hk.wt_le (h.small.1 (e, 2) (by simp)), h.small.2⟩
  rw [eS]
  refine ⟨fun x hx => ?_, h.fitO, h.zero, h.vals, fun k => ⟨fun q => ?_, fun ⟨x, hx, h1, h2⟩ => ?_⟩, h.left, ?_, fun P x Q hS hx k f' hf' hk' hn' => ?_, h.post, fun x hx h0 => ?_, fun _ => ?_, fun q => ?_, fun q x hx => ?_, fun x hx => ?_, hsm⟩
  · rcases List.mem_append.1 hx with hx | hx
    · exact h.fitS x hx
    · rw [List.mem_singleton] at hx; rw [hx]; exact ⟨hf, hn⟩
  · obtain ⟨x, hx, h1, h2⟩ := (h.act k).1 q
    exact ⟨x, List.mem_append_left _ hx, h1, h2⟩
  · rcases List.mem_append.1 hx with hx | hx
    · exact (h.act k).2 ⟨x, hx, h1, h2⟩
    · rw [List.mem_singleton] at hx
      rw [hx] at h1
      exact absurd rfl h1
  · refine List.pairwise_append.2 ⟨h.rank, by simp, fun x hx y hy h0 => ?_⟩
    rw [List.mem_singleton] at hy
    rw [hy]
    rcases List.mem_append.1 hx with hx | hx
    · have h3 := (List.pairwise_append.1 h.rank).2.2 x hx (e, 2) (by simp) h0
      simp only at h3 ⊢
      omega
    · rcases List.mem_cons.1 hx with hx | hx
      · rw [hx]; exact hless
      · exact absurd (hK x hx) h0
  · rcases List.eq_nil_or_concat Q with hQ | ⟨Q', y, hQ⟩
    · rw [hQ] at hS
      have := (List.append_inj' hS rfl).2
      simp only [List.cons.injEq, and_true] at this
      rw [← this] at hx
      cases hx
    · rw [List.concat_eq_append] at hQ
      rw [hQ] at hS
      have e2 : P ++ x :: (Q' ++ [y]) = (P ++ x :: Q') ++ [y] := by simp
      rw [e2] at hS
      obtain ⟨q1, q2⟩ := List.append_inj' hS rfl
      rcases h.kids P x Q' q1 hx k f' hf' hk' hn' with q | ⟨z, hz, q⟩
      · exact .inl q
      · exact .inr ⟨z, by rw [hQ]; exact List.mem_append_left _ hz, q⟩
  · rcases List.mem_append.1 hx with hx | hx
    · exact h.begun x hx h0
    · rw [List.mem_singleton] at hx
      rw [hx] at h0
      exact absurd rfl h0
  · obtain ⟨b, Q, hQ, hQ2⟩ := h.bottom (by simp)
    refine ⟨b, Q ++ [(f, 0)], by rw [hQ]; rfl, fun _ => ?_⟩
    cases S with
    | nil =>
      simp only [List.nil_append, List.cons.injEq, Prod.mk.injEq] at hQ
      omega
    | cons x S =>
      simp only [List.cons_append, List.cons.injEq] at hQ
      exact hQ2 (by rw [← hQ.2]; simp)
  · rcases q with q | q
    · simp at q
    · exact h.last (.inr q)
  · have := h.alone q (e, 2) (by simp)
    simp at this
  · rcases List.mem_append.1 hx with hx | hx
    · exact h.flag x hx
    · rw [List.mem_singleton] at hx; rw [hx]; exact Nat.zero_le _

/-- all within it were asked for -/
theorem Lw.close {A : Nat → Prop} {w : World} {root e : LE} {D : List (KeyP × Int)} {S K : List (LE × Nat)} {O : List LE} (h : Lw A w root D (S ++ (e, 2) :: K) O) (hK : ∀ y ∈ K, y.2 = 0) (ha : ∀ k f, f.fits A w → KidAt w e k f → f.ts ≠ [] → lookKP D f.key = some 2 ∨ ∃ y ∈ K, y.1.key = f.key) : Lw A w root D (S ++ (e, 1) :: K) O := by
  have mem : ∀ x, x ∈ S ++ (e, 1) :: K → ∃ y ∈ S ++ (e, 2) :: K, y.1 = x.1 ∧ (y.2 ≠ 0 ↔ x.2 ≠ 0) ∧ (x.2 = 2 → False ∨ x = y) := fun x hx => by
    rcases List.mem_append.1 hx with hx | hx
    · exact ⟨x, List.mem_append_left _ hx, rfl, Iff.rfl, fun _ => .inr rfl⟩
    · rcases List.mem_cons.1 hx with hx | hx
      · exact ⟨(e, 2), by simp, by rw [hx], by rw [hx]; simp, fun q => by rw [hx] at q; cases q⟩
      · exact ⟨x, by simp [hx], rfl, Iff.rfl, fun _ => .inr rfl⟩
  refine ⟨fun x hx => ?_, h.fitO, h.zero, h.vals, fun k => ⟨fun q => ?_, fun ⟨x, hx, h1, h2⟩ => ?_⟩, h.left, ?_, fun P x Q hS hx k f hf hk hn => ?_, h.post, fun x hx h0 => ?_, fun _ => ?_, fun q => ?_, fun q x hx => ?_, fun x hx => ?_, fun x hx => ?_, h.small.2⟩
  · obtain ⟨y, hy, e1, _⟩ := mem x hx
    rw [← e1]
    exact h.fitS y hy
  · obtain ⟨x, hx, h1, h2⟩ := (h.act k).1 q
    rcases List.mem_append.1 hx with hx | hx
    · exact ⟨x, List.mem_append_left _ hx, h1, h2⟩
    · rcases List.mem_cons.1 hx with hx | hx
      · exact ⟨(e, 1), by simp, by simp, by rw [hx] at h2; exact h2⟩
      · exact ⟨x, by simp [hx], h1, h2⟩
  · obtain ⟨y, hy, e1, e2, _⟩ := mem x hx
    exact (h.act k).2 ⟨y, hy, e2.2 h1, by rw [e1]; exact h2⟩
  · obtain ⟨r1, r2, r3⟩ := List.pairwise_append.1 h.rank
    obtain ⟨r4, r5⟩ := List.pairwise_cons.1 r2
    refine List.pairwise_append.2 ⟨r1, List.pairwise_cons.2 ⟨fun y hy _ => r4 y hy (by simp), r5⟩, fun x hx y hy h0 => ?_⟩
    rcases List.mem_cons.1 hy with hy | hy
    · rw [hy]; exact r3 x hx (e, 2) (by simp) h0
    · exact r3 x hx y (List.mem_cons_of_mem _ hy) h0
  · rcases List.append_eq_append_iff.1 hS with ⟨a', q1, q2⟩ | ⟨c', q1, q2⟩
    · cases a' with
      | nil =>
        simp only [List.nil_append, List.cons.injEq] at q2
        obtain ⟨q3, q4⟩ := q2
        subst q3
        rw [← q4]
        exact ha k f hf hk hn
      | cons z a' =>
        simp only [List.cons_append, List.cons.injEq] at q2
        have hxK : x ∈ K := by rw [q2.2]; simp
        rw [hK x hxK] at hx
        cases hx
    · cases c' with
      | nil =>
        simp only [List.nil_append, List.cons.injEq] at q2
        obtain ⟨q3, q4⟩ := q2
        subst q3
        rw [q4]
        exact ha k f hf hk hn
      | cons z c' =>
        simp only [List.cons_append, List.cons.injEq] at q2
        rcases h.kids P x (c' ++ (e, 2) :: K) (by rw [q1, q2.1]; simp) hx k f hf hk hn with q | ⟨y, hy, q⟩
        · exact .inl q
        · right
          rw [q2.2]
          rcases List.mem_append.1 hy with hy | hy
          · exact ⟨y, List.mem_append_left _ hy, q⟩
          · rcases List.mem_cons.1 hy with hy | hy
            · exact ⟨(e, 1), by simp, by rw [hy] at q; exact q⟩
            · exact ⟨y, by simp [hy], q⟩
  · obtain ⟨y, hy, e1, e2, _⟩ := mem x hx
    rw [← e1]
    exact h.begun y hy (e2.2 h0)
  · obtain ⟨b, Q, hQ, hQ2⟩ := h.bottom (by simp)
    cases S with
    | nil =>
      simp only [List.nil_append, List.cons.injEq, Prod.mk.injEq] at hQ
      exact ⟨1, K, by rw [hQ.1.1]; rfl, fun _ => by simp⟩
    | cons x S =>
      simp only [List.cons_append, List.cons.injEq] at hQ
      exact ⟨b, S ++ (e, 1) :: K, by rw [hQ.1]; rfl, fun _ => hQ2 (by rw [← hQ.2]; simp)⟩
  · rcases q with q | q
    · simp at q
    · exact h.last (.inr q)
  · have := h.alone q (e, 2) (by simp)
    simp at this
  · rcases List.mem_append.1 hx with hx | hx
    · exact h.flag x (List.mem_append_left _ hx)
    · rcases List.mem_cons.1 hx with hx | hx
      · rw [hx]; simp
      · exact h.flag x (by simp [hx])
  · obtain ⟨y, hy, e1, _⟩ := mem x hx
    rw [← e1]
    exact h.small.1 y hy

/-- how much there is to do at one of the stack -/
def mOf (D : List (KeyP × Int)) (x : LE × Nat) : Nat := if lookKP D x.1.key = some 2 then 1 else if x.2 ≠ 0 then 2 else x.1.cost
def mSum (D : List (KeyP × Int)) (S : List (LE × Nat)) : Nat := (S.map (mOf D)).sum
theorem mSum_app (D : List (KeyP × Int)) (S T : List (LE × Nat)) : mSum D (S ++ T) = mSum D S + mSum D T := by simp [mSum]
theorem mSum_one (D : List (KeyP × Int)) (x : LE × Nat) : mSum D [x] = mOf D x := by simp [mSum]
theorem cost_pos (e : LE) : 3 ≤ e.cost := by unfold LE.cost; omega
theorem mOf_pos (D : List (KeyP × Int)) (x : LE × Nat) : 1 ≤ mOf D x := by
  unfold mOf
  have := cost_pos x.1
  split
  · omega
  split <;> omega
theorem mOf_le (D : List (KeyP × Int)) (x : LE × Nat) : mOf D x ≤ x.1.cost := by
  unfold mOf
  have := cost_pos x.1
  split
  · omega
  split <;> omega
theorem mSum_len (D : List (KeyP × Int)) (S : List (LE × Nat)) : S.length ≤ mSum D S := by
  induction S with
  | nil => simp
  | cons x S ih =>
    have := mOf_pos D x
    simp only [mSum, List.map_cons, List.sum_cons, List.length_cons] at ih ⊢
    omega
theorem mSum_mono {D D' : List (KeyP × Int)} {S : List (LE × Nat)} (h : ∀ x ∈ S, mOf D' x ≤ mOf D x) : mSum D' S ≤ mSum D S := by
  induction S with
  | nil => simp [mSum]
  | cons x S ih =>
    have h1 := h x (by simp)
    have h2 := ih fun y hy => h y (List.mem_cons_of_mem _ hy)
    simp only [mSum, List.map_cons, List.sum_cons] at h2 ⊢
    omega
theorem m_pop (D : List (KeyP × Int)) (S : List (LE × Nat)) (x : LE × Nat) : mSum D S < mSum D (S ++ [x]) := by
  have := mOf_pos D x
  rw [mSum_app, mSum_one]
  omega
theorem m_finish {e : LE} {b : Nat} {D : List (KeyP × Int)} {S : List (LE × Nat)} (hl : lookKP D e.key = some 1) : mSum (setKP D e.key 2) (S ++ [(e, 0)]) < mSum D (S ++ [(e, b)]) := by
  rw [mSum_app, mSum_app, mSum_one, mSum_one]
  have h1 : mSum (setKP D e.key 2) S ≤ mSum D S := mSum_mono fun x _ => by
    by_cases c : x.1.key = e.key
    · have : mOf (setKP D e.key 2) x = 1 := by
        unfold mOf
        rw [c, look_set_sameP, if_pos rfl]
      have := mOf_pos D x
      omega
    · unfold mOf
      rw [look_set_otherP D 2 (Ne.symm c)]
      exact Nat.le_refl _
  have h2 : mOf (setKP D e.key 2) (e, 0) = 1 := by
    unfold mOf
    simp only
    rw [look_set_sameP, if_pos rfl]
  have h3 : 2 ≤ mOf D (e, b) := by
    unfold mOf
    simp only
    rw [hl, if_neg (by simp)]
    have := cost_pos e
    split <;> omega
  omega
theorem m_enter {e : LE} {D : List (KeyP × Int)} {S K : List (LE × Nat)} (hl : lookKP D e.key = none) (hK : (K.map fun y => y.1.cost).sum ≤ 3 * ndRow e.n e.ts) : mSum (setKP D e.key 1) (S ++ (e, 1) :: K) < mSum D (S ++ [(e, 0)]) := by
  have e1 : S ++ (e, 1) :: K = S ++ [(e, 1)] ++ K := by simp
  rw [e1, mSum_app, mSum_app, mSum_app, mSum_one, mSum_one]
  have h1 : mSum (setKP D e.key 1) S ≤ mSum D S := mSum_mono fun x _ => by
    by_cases c : x.1.key = e.key
    · unfold mOf
      rw [c, look_set_sameP, hl, if_neg (show ¬ (some (1 : Int) = some 2) by simp), if_neg (show ¬ (none = some (2 : Int)) by simp)]
      exact Nat.le_refl _
    · unfold mOf
      rw [look_set_otherP D 1 (Ne.symm c)]
      exact Nat.le_refl _
  have h2 : mOf (setKP D e.key 1) (e, 1) = 2 := by
    unfold mOf
    simp only
    rw [look_set_sameP, if_neg (by simp), if_pos (by simp)]
  have h3 : mOf D (e, 0) = e.cost := by
    unfold mOf
    simp only
    rw [hl, if_neg (by simp), if_neg (by simp)]
  have h4 : mSum (setKP D e.key 1) K ≤ (K.map fun y => y.1.cost).sum := by
    clear hK
    induction K with
    | nil => simp [mSum]
    | cons x K ih =>
      have := mOf_le (setKP D e.key 1) x
      have h5 := ih (by simp)
      simp only [mSum, List.map_cons, List.sum_cons] at h5 ⊢
      omega
  have h5 : e.cost = 3 * (1 + ndRow e.n e.ts) := rfl
  omega

end Go.Proofs.YtbojmbeopnlmiaaGreatDoor

namespace Go.Proofs.YtbojmbeopnlmiaaGreatDoor
open Go.RowKit Go.Sort

set_option maxHeartbeats 400000 in
theorem implPlace0 (a : Option Addr) (cap : Nat) (w : World) : Calls Tryz.prog 69 #[.slice a 0 cap] w fun e w' => e = .returned (.agg #[.pointer none, .int .i64 0]) ∧ Below w.heap.size w w' := by
  go_enter Tryz.func69, Tryz.ntmps69
  go_wp2_with fail
  exact ret_place rfl ⟨by rw [cellNew _ rfl]; rfl, by rw [cellNew _ rfl]; rfl⟩ ⟨rfl, (Below.refl _ _).alloc (Nat.le_refl _) _⟩

/-- the key of a list, told -/
theorem implPlaceKey {A : Nat → Prop} {w0 : World} {a : Option Addr} {n m c : Nat} {ts : List Ty} (hf : LE.fits A w0 ⟨.slice a n c, ts, m⟩) (w : World) : Calls Tryz.prog 69 #[.slice a n c] w fun e w' => e = .returned (keyVP (LE.key ⟨.slice a n c, ts, m⟩)) ∧ Below w.heap.size w w' := by
  rcases Nat.eq_zero_or_pos n with hn | hn
  · subst hn
    rw [LE.key_nil (e := ⟨.slice a 0 c, ts, m⟩) rfl]
    exact implPlace0 a c w
  · rw [LE.key_of (e := ⟨.slice a n c, ts, m⟩) rfl hn]
    have hl : n = ts.length := by
      rcases hf with ⟨e, a', cap, e2⟩ | ⟨b, off, cap, e2, _⟩
      · have e' : ts = [] := e
        have e3 : Value.slice a n c = .slice a' 0 cap := e2
        simp only [Value.slice.injEq] at e3
        omega
      · have e3 : Value.slice a n c = .slice (some ⟨b, off, none⟩) ts.length cap := e2
        simp only [Value.slice.injEq] at e3
        exact e3.2.1
    obtain ⟨b, off, ha⟩ : ∃ b off, a = some ⟨b, off, none⟩ := by
      rcases hf with ⟨e, a', cap, e2⟩ | ⟨b, off, cap, e2, _⟩
      · have e3 : Value.slice a n c = .slice a' 0 cap := e2
        simp only [Value.slice.injEq] at e3
        omega
      · have e3 : Value.slice a n c = .slice (some ⟨b, off, none⟩) ts.length cap := e2
        simp only [Value.slice.injEq] at e3
        exact ⟨b, off, e3.1⟩
    subst ha
    exact implPlaceOf b off n c w hn
/-- a list's place lies where it is read -/
theorem key_rows {A : Nat → Prop} {w : World} {e : LE} (h : e.fits A w) : RowsOf w e.key.place ∧ ∀ a, e.key.place = some a → A a.block := by
  obtain ⟨a, c, hv, hop⟩ := LE.open h
  rcases Nat.eq_zero_or_pos e.ts.length with hn | hn
  · rw [hn] at hv
    rw [LE.key_nil hv]
    exact ⟨(fun x hx => by cases hx), (fun x hx => by cases hx)⟩
  · rw [LE.key_of hv hn]
    obtain ⟨m, b, off, vn, vk, _, ha, hA, hh, _⟩ := hop 0 hn
    refine ⟨fun x hx => ?_, fun x hx => ?_⟩
    · rw [ha] at hx
      obtain rfl := Option.some.inj hx
      exact hh
    · rw [ha] at hx
      obtain rfl := Option.some.inj hx
      exact hA

theorem few_len {A : Nat → Prop} {w : World} {e : LE} (h : e.fits A w) : e.ts.length ≤ e.cost := by
  obtain ⟨_, _, _, hop⟩ := LE.open h
  unfold LE.cost ndRow
  have : ∀ l : List Ty, (∃ m, e.n = m + 1) ∨ l = [] → l.length ≤ (l.map fun t => (Ty.nodes e.n t).length).sum := fun l hl => by
    induction l with
    | nil => simp
    | cons a r ih =>
      obtain ⟨m, hm⟩ : ∃ m, e.n = m + 1 := by rcases hl with q | q; exact q; cases q
      have := ih (.inl ⟨m, hm⟩)
      have h9 : 1 ≤ (Ty.nodes e.n a).length := by rw [hm, Ty.nodes, List.length_cons]; omega
      simp only [List.map_cons, List.sum_cons, List.length_cons]
      omega
  have := this e.ts (by
    cases hts : e.ts with
    | nil => exact .inr rfl
    | cons a r =>
      obtain ⟨m, _, _, _, _, hm, _⟩ := hop 0 (by rw [hts]; simp)
      exact .inl ⟨m, hm⟩)
  omega
/-- what lies in memory between two steps -/
structure LwM (A : Nat → Prop) (w wr : World) (M : Nat) (D : List (KeyP × Int)) (vS : Value) (S : List (LE × Nat)) (vO : Value) (O : List LE) : Prop where
  map : KMapP wr M D
  low : w.heap.size ≤ M
  lowD : ∀ p ∈ D, ∀ a, p.1.place = some a → a.block < w.heap.size
  stk : wr.ownsRow w.heap.size 28 1 vS S.length (S.map fun x => x.1.v)
  out : wr.ownsRow w.heap.size 28 1 vO O.length (O.map LE.v)
  apart : ∀ g, vS.ownBlock = some g → vO.ownBlock ≠ some g
  bel : Below w.heap.size w wr
theorem own_atW {X Y : World} {B e z : Nat} {v : Value} {n : Nat} {xs : List Value} (h : X.ownsRow B e z v n xs) (hs : ∀ g, v.ownBlock = some g → Y.heap[g]? = X.heap[g]?) : Y.ownsRow B e z v n xs := by
  refine ⟨h.1, ?_⟩
  rcases h.2 with q | ⟨g, cap, cur, hv, hg, hh, q⟩
  · exact .inl q
  · exact .inr ⟨g, cap, cur, hv, hg, (hs g (by rw [hv]; rfl)).trans hh, q⟩
theorem own_rowW {X : World} {B e z : Nat} {v : Value} {n : Nat} {xs : List Value} (h : X.ownsRow B e z v n xs) {g : Nat} (hg : v.ownBlock = some g) : B ≤ g ∧ ∃ c, X.heap[g]? = some (.cells c e (0, 0)) := by
  rcases h.2 with ⟨q, _⟩ | ⟨g', cap, cur, hv, hB, hh, _⟩
  · rw [q] at hg; simp [Value.ownBlock] at hg
  · rw [hv] at hg
    simp only [Value.ownBlock, Option.some.injEq] at hg
    subst hg
    exact ⟨hB, _, hh⟩
theorem LwM.below {A : Nat → Prop} {w wr w2 : World} {M : Nat} {D : List (KeyP × Int)} {vS vO : Value} {S : List (LE × Nat)} {O : List LE} (h : LwM A w wr M D vS S vO O) (hb : Below wr.heap.size wr w2) : LwM A w w2 M D vS S vO O :=
  ⟨h.map.kept (hb.block M h.map.lt) h.lowD (fun b hb' => hb.block b (Nat.lt_of_lt_of_le hb' h.bel.size)), h.low, h.lowD, own_atW h.stk fun g hg => hb.block g (h.stk.lt g hg).2, own_atW h.out fun g hg => hb.block g (h.out.lt g hg).2, h.apart, h.bel.trans (hb.mono h.bel.size)⟩
/-- a number is put at a place -/
theorem LwM.put {A : Nat → Prop} {w wr w2 : World} {M : Nat} {D : List (KeyP × Int)} {vS vO : Value} {S : List (LE × Nat)} {O : List LE} (h : LwM A w wr M D vS S vO O) {k : KeyP} {v : Int} (hk : ∀ a, k.place = some a → a.block < w.heap.size) (hm : KMapP w2 M (setKP D k v)) (hb : But M wr w2) : LwM A w w2 M (setKP D k v) vS S vO O := by
  obtain ⟨es, ck, hM⟩ := h.map.obj
  have ne : ∀ {X : Value} {n : Nat} {xs : List Value}, wr.ownsRow w.heap.size 28 1 X n xs → ∀ g, X.ownBlock = some g → g ≠ M := fun hr g hg e => by
    obtain ⟨_, c, q⟩ := own_rowW hr hg
    subst e
    rw [hM] at q
    simp at q
  refine ⟨hm, h.low, fun p hp a ha => ?_, own_atW h.stk fun g hg => hb.2.2.2.2 g (ne h.stk g hg), own_atW h.out fun g hg => hb.2.2.2.2 g (ne h.out g hg), h.apart, h.bel.trans ⟨hb.1, hb.2.1, hb.2.2.1, Nat.le_of_eq hb.2.2.2.1.symm, fun b hb' => hb.2.2.2.2 b (by have := h.low; omega)⟩⟩
  rcases set_memP hp with q | q
  · exact h.lowD p q a ha
  · rw [q] at ha
    exact hk a ha
/-- the stack grows -/
theorem LwM.push {A : Nat → Prop} {w wr w2 : World} {M : Nat} {D : List (KeyP × Int)} {vS vO v' : Value} {S : List (LE × Nat)} {O : List LE} {x : LE × Nat} {o : Obj} (h : LwM A w wr M D vS S vO O) (hown : w2.ownsRow w.heap.size 28 1 v' (S ++ [x]).length ((S ++ [x]).map fun x => x.1.v)) (hg : (wr.alloc o).grownBy w2 vS.ownBlock) (hloc : v'.ownBlock = vS.ownBlock ∨ v'.ownBlock = some (wr.alloc o).heap.size) : LwM A w w2 M D v' (S ++ [x]) vO O := by
  have h1 := h.below ((Below.refl wr.heap.size wr).alloc (Nat.le_refl _) o)
  obtain ⟨es, ck, hM⟩ := h1.map.obj
  have hMs : some M ≠ vS.ownBlock := fun e => by
    obtain ⟨_, c, q⟩ := own_rowW h1.stk e.symm
    rw [hM] at q
    simp at q
  refine ⟨h1.map.kept (hg.block M h1.map.lt hMs) h1.lowD (fun b hb' => hg.block b (Nat.lt_of_lt_of_le hb' h1.bel.size) fun e => ?_), h1.low, h1.lowD, hown, own_atW h1.out fun g hg' => hg.block g (h1.out.lt g hg').2 fun e => h1.apart g e.symm hg', fun g hg' => ?_, h1.bel.grown hg h1.bel.size fun g hg' => (h1.stk.lt g hg').1⟩
  · have := (h1.stk.lt b e.symm).1
    omega
  · rcases hloc with q | q
    · exact h1.apart g (q ▸ hg')
    · intro q2
      have := (h1.out.lt g q2).2
      rw [hg'] at q
      have := Option.some.inj q
      omega
/-- what comes out grows -/
theorem LwM.tell {A : Nat → Prop} {w wr w2 : World} {M : Nat} {D : List (KeyP × Int)} {vS vO v' : Value} {S : List (LE × Nat)} {O : List LE} {x : LE} {o : Obj} (h : LwM A w wr M D vS S vO O) (hown : w2.ownsRow w.heap.size 28 1 v' (O ++ [x]).length ((O ++ [x]).map LE.v)) (hg : (wr.alloc o).grownBy w2 vO.ownBlock) (hloc : v'.ownBlock = vO.ownBlock ∨ v'.ownBlock = some (wr.alloc o).heap.size) : LwM A w w2 M D vS S v' (O ++ [x]) := by
  have h1 := h.below ((Below.refl wr.heap.size wr).alloc (Nat.le_refl _) o)
  obtain ⟨es, ck, hM⟩ := h1.map.obj
  have hMs : some M ≠ vO.ownBlock := fun e => by
    obtain ⟨_, c, q⟩ := own_rowW h1.out e.symm
    rw [hM] at q
    simp at q
  refine ⟨h1.map.kept (hg.block M h1.map.lt hMs) h1.lowD (fun b hb' => hg.block b (Nat.lt_of_lt_of_le hb' h1.bel.size) fun e => ?_), h1.low, h1.lowD, own_atW h1.stk fun g hg' => hg.block g (h1.stk.lt g hg').2 fun e => h1.apart g hg' e.symm, hown, fun g hg' q2 => ?_, h1.bel.grown hg h1.bel.size fun g hg' => (h1.out.lt g hg').1⟩
  · have := (h1.out.lt b e.symm).1
    omega
  · rcases hloc with q | q
    · exact h1.apart g hg' (q ▸ q2)
    · have := (h1.stk.lt g hg').2
      rw [q2] at q
      have := Option.some.inj q
      omega
/-- the top of the stack is taken off -/
theorem LwM.pop {A : Nat → Prop} {w wr : World} {M gs cap : Nat} {D : List (KeyP × Int)} {vO : Value} {S : List (LE × Nat)} {O : List LE} {x : LE × Nat} (h : LwM A w wr M D (.slice (some ⟨gs, 0, none⟩) (S.length + 1) cap) (S ++ [x]) vO O) : LwM A w wr M D (.slice (some ⟨gs, 0, none⟩) S.length cap) S vO O := by
  have hr := h.stk
  rw [List.length_append, List.length_singleton, List.map_append, List.map_singleton] at hr
  exact ⟨h.map, h.low, h.lowD, own_cut1 hr (by omega) (by rw [List.take_left' (by simp)]), h.out, fun g hg => h.apart g hg, h.bel⟩

set_option maxHeartbeats 3200000 in
set_option maxRecDepth 100000 in
theorem implLists (A : Nat → Prop) (root : LE) (w : World) (hA : ∀ b, A b → b < w.heap.size) (hf : root.fits A w) (hn : root.ts ≠ []) (hc : root.cost ≤ 1000000000) :
    Calls Tryz.prog 68 #[root.v, .func (.func 44) #[] #[]] w fun e w' => ∃ (M : Nat) (D : List (KeyP × Int)) (vS vO : Value) (O : List LE), e = .returned (.tuple #[vO, .bool false]) ∧ Lw A w root D [] O ∧ LwM A w w' M D vS [] vO O ∧ O.length ≤ 2000000000 := by
  obtain ⟨i0, hi0, hz0, hz1, hz2⟩ := info_parts Tryz.infoRowT
  obtain ⟨a0, cap0, hv0, _⟩ := LE.open hf
  have hmm := @run_makeMap Tryz.prog
  obtain ⟨w1, hup, hm1, hb1⟩ := run_update_stopP (KMapP.made (MapKept.heap_alloc w (.map #[] 0)).1) ⟨none, 0⟩ (fun x hx => by cases hx) 2
  have hup' : (Instr.mapUpdate 102 (.map (some w.heap.size)) (.agg #[.pointer none, .int .i64 0]) (.int .i64 2)).run Tryz.prog (w.alloc (.map #[] 0)) = .ok () w1 := hup
  have hB1 : Below w.heap.size w w1 := ((Below.refl w.heap.size w).alloc (Nat.le_refl _) (.map #[] 0)).trans ⟨hb1.1, hb1.2.1, hb1.2.2.1, Nat.le_of_eq hb1.2.2.2.1.symm, fun b hb' => hb1.2.2.2.2 b (by omega)⟩
  have hz9 : w1.heap.size = w.heap.size + 1 := by have := hb1.2.2.2.1; simpa using this
  have hM0 : LwM A w (w1.alloc (.cells #[.slice a0 root.ts.length cap0] 28)) w.heap.size [(⟨none, 0⟩, 2)] (.slice (some ⟨w.heap.size + 1, 0, none⟩) 1 1) [(root, 0)] (.slice none 0 0) [] := by
    have hb2 : Below w1.heap.size w1 (w1.alloc (.cells #[.slice a0 root.ts.length cap0] 28)) := (Below.refl _ _).alloc (Nat.le_refl _) _
    refine ⟨hm1.kept (B := 0) (hb2.block _ hm1.lt) (fun p hp a ha => ?_) (fun b hb' => by omega), Nat.le_refl _, fun p hp a ha => ?_, ⟨rfl, .inr ⟨w.heap.size + 1, 1, #[.slice a0 root.ts.length cap0], rfl, by omega, ?_, Nat.le_refl _, by decide, rfl, ?_⟩⟩, World.ownsRow_nil _ _ _ _, fun g _ => by simp [Value.ownBlock], hB1.trans (hb2.mono hB1.size)⟩
    · have hp' : p ∈ [((⟨none, 0⟩ : KeyP), (2 : Int))] := hp
      rw [List.mem_singleton] at hp'
      rw [hp'] at ha
      cases ha
    · rw [List.mem_singleton] at hp
      rw [hp] at ha
      cases ha
    · have := (MapKept.heap_alloc w1 (.cells #[.slice a0 root.ts.length cap0] 28)).1
      rw [hz9] at this
      exact this
    · simp [hv0]
  have HLW : Hid (type_of% (Lw.start hf hn)) := Lw.start hf hn
  have HM0 : Hid (type_of% hM0) := hM0
  have HMS : Hid (mSum [(⟨none, 0⟩, 2)] [(root, 0)] ≤ root.cost) := by show _ ≤ _; rw [mSum_one]; exact mOf_le _ _
  obtain ⟨TC, hTC⟩ : ∃ TC, TC = root.cost := ⟨_, rfl⟩
  rw [← hTC] at hc HMS
  have HA : Hid (type_of% hA) := hA
  rw [hv0]
  clear hm1 hb1 hM0 hA hf hn hTC hB1 hup
  go_enter Tryz.func68, Tryz.ntmps68
  go_wp2_with fail
  clear hup' hmm hz9
  go_loopg [4, 5, 7] (mSum [(⟨none, 0⟩, 2)] [(root, 0)]) (fun k s4 s5 s7 wr => ∃ (D : List (KeyP × Int)) (S : List (LE × Nat)) (O : List LE), s5 = .bool false ∧ Lw A w root D S O ∧ LwM A w wr w.heap.size D s7 S s4 O ∧ mSum D S = k ∧ k ≤ TC ∧ O.length + k ≤ 2000000000 ∧ ∀ x ∈ S, x.2 ≠ 2)
  case atStart => exact ⟨_, _, [], rfl, HLW.out, HM0.out, rfl, HMS.out, by have := HMS.out; simp; omega, fun x hx => by rw [List.mem_singleton] at hx; rw [hx]; simp⟩
  case round =>
    clear HLW HM0 HMS
    obtain ⟨D, S, O, rfl, hL, hM, hk, hkT, hO, hfl⟩ := hrel
    obtain ⟨wo, rfl⟩ : ∃ wo, wo = wr := ⟨_, rfl⟩
    have HL : Hid (type_of% hL) := hL
    have HM : Hid (type_of% hM) := hM
    have HKK : Hid (type_of% hk) := hk
    have hSl := mSum_len D S
    obtain ⟨ao, co, hvo⟩ := own_sliceW hM.out
    subst hvo
    rcases List.eq_nil_or_concat S with hS | ⟨S', x, hS⟩
    · subst hS
      obtain ⟨av, cv, hv⟩ := own_sliceW hM.stk
      subst hv
      clear hL hM hk hSl
      go_wp2_with fail
      go_ret2
      exact ⟨_, D, _, _, O, rfl, HL.out, HM.out, by omega⟩
    · rw [List.concat_eq_append] at hS
      subst hS
      obtain ⟨e, b⟩ := x
      have hl1 : (S' ++ [(e, b)]).length = S'.length + 1 := by simp
      have hrow := hM.stk
      rw [hl1, List.map_append, List.map_singleton] at hrow
      obtain ⟨gs, cs, hv, hcap⟩ := own_posW hrow (by omega)
      subst hv
      obtain ⟨hfe, hne⟩ := hL.fitS (e, b) (by simp)
      obtain ⟨ae, ce, hve, hop⟩ := LE.open hfe
      have hve' : e.v = .slice ae e.ts.length ce := hve
      simp only at hrow
      rw [hve'] at hrow
      have ctop := own_topW hrow (by simp)
      have hep : 0 < e.ts.length := List.length_pos_iff.2 hne
      have hSl2 : S'.length ≤ 1000000000 := by omega
      have hli : (S'.length : Int) < ((S'.length + 1 : Nat) : Int) := by omega
      have h0i : (0 : Int) ≤ (S'.length : Int) := by omega
      have hcapi : (S'.length : Int) ≤ (cs : Int) := by omega
      have HPL : Hid (∀ wx : World, Calls Tryz.prog 69 #[.slice ae e.ts.length ce] wx fun e9 w' => e9 = .returned (.agg #[.pointer e.key.place, .int .i64 e.key.count]) ∧ Below wx.heap.size wx w') := fun wx => by
        obtain ⟨v, ts, n⟩ := e
        have hv9 : v = .slice ae ts.length ce := hve'
        subst hv9
        exact implPlaceKey hfe wx
      have hkey := key_rows hfe
      have hkA : ∀ a, e.key.place = some a → a.block < w.heap.size := fun a ha => HA.out _ (hkey.2 a ha)
      have HRW : Hid (∀ wx : World, Below w.heap.size w wx → RowsOf wx e.key.place) := fun wx hx a ha => by
        obtain ⟨cur, T, q⟩ := hkey.1 a ha
        exact ⟨cur, T, (hx.block _ (hkA a ha)).trans q⟩
      have HOP : Hid (type_of% hop) := hop
      have HFE : Hid (type_of% hfe) := hfe
      have HNE : Hid (type_of% hne) := hne
      have HKA : Hid (type_of% hkA) := hkA
      have HFL : Hid (type_of% hfl) := hfl
      have hbo := hM.bel
      clear hL hM hk hSl hrow hfe hne hop hkey hkA hfl hl1 hve
      go_wp2_with fail
      refine (HPL.out _).mono ?_
      rintro e9 w2 ⟨rfl, hb2⟩
      have hB2 : Below wo.heap.size wo (w2.alloc (.cells #[.pointer e.key.place, .int .i64 e.key.count] 105)) := hb2.alloc hb2.size _
      have hM2 := HM.out.below hB2
      have hR2 := HRW.out _ hM2.bel
      have hlk : (Instr.lookup 102 (.map (some w.heap.size)) (.agg #[.pointer e.key.place, .int .i64 e.key.count]) false).run Tryz.prog (w2.alloc (.cells #[.pointer e.key.place, .int .i64 e.key.count] 105)) = .ok (.int .i64 ((lookKP D e.key).getD 0)) (w2.alloc (.cells #[.pointer e.key.place, .int .i64 e.key.count] 105)) := run_lookup_stopP hM2.map e.key hR2
      have HM2 : Hid (type_of% hM2) := hM2
      have hbW := hM2.bel
      clear HPL HM hB2 hb2 ctop
      cases hlook : lookKP D e.key with
      | none =>
        rw [hlook] at hlk
        obtain ⟨w3, hup, hm3, hb3⟩ := run_update_stopP hM2.map e.key hR2 1
        have hup' : (Instr.mapUpdate 102 (.map (some w.heap.size)) (.agg #[.pointer e.key.place, .int .i64 e.key.count]) (.int .i64 1)).run Tryz.prog (w2.alloc (.cells #[.pointer e.key.place, .int .i64 e.key.count] 105)) = .ok () w3 := hup
        have hM3 := hM2.put HKA.out hm3 hb3
        obtain ⟨hb0, hL3⟩ := HL.out.enter hlook
        subst hb0
        have hM4 : LwM A w w3 w.heap.size (setKP D e.key 1) (.slice (some ⟨gs, 0, none⟩) (S'.length + 1) cs) (S' ++ (e, 2) :: []) (.slice ao O.length co) O := ⟨hM3.map, hM3.low, hM3.lowD, by have := hM3.stk; simpa using this, hM3.out, hM3.apart, hM3.bel⟩
        have HL4 : Hid (type_of% hL3) := hL3
        have HM4 : Hid (type_of% hM4) := hM4
        have HEN : Hid (∀ K : List (LE × Nat), (K.map fun y => y.1.cost).sum ≤ 3 * ndRow e.n e.ts → mSum (setKP D e.key 1) (S' ++ (e, 1) :: K) < gk) := fun K hK => by rw [← HKK.out]; exact m_enter hlook hK
        have HFL2 : Hid (∀ x ∈ S', x.2 ≠ 2) := fun x hx => HFL.out x (List.mem_append_left _ hx)
        have hel : e.ts.length ≤ 1000000000 := by
          have h1 := HKK.out
          rw [mSum_app, mSum_one] at h1
          have h2 : mOf D (e, 0) = e.cost := by
            unfold mOf
            simp only
            rw [hlook, if_neg (by simp), if_neg (by simp)]
          have h3 := few_len HFE.out
          omega
        have HCE : Hid (3 * ndRow e.n e.ts ≤ gk) := by
          have h1 := HKK.out
          rw [mSum_app, mSum_one] at h1
          have h2 : mOf D (e, 0) = e.cost := by
            unfold mOf
            simp only
            rw [hlook, if_neg (by simp), if_neg (by simp)]
          have h3 : e.cost = 3 * (1 + ndRow e.n e.ts) := rfl
          show _ ≤ _
          omega
        have hOl : O.length ≤ 2000000000 := by omega
        clear hM2 hM3 hM4 hm3 hup HRW HKA HFL hR2 hb3 HL HM2 hL3
        generalize hD1 : setKP D e.key 1 = D1 at *
        clear hD1
        go_wp2_with fail
        go_loopw [5, 7, 37] (fun s5 s7 i wr => ∃ (j : Nat) (K : List (LE × Nat)), j ≤ e.ts.length ∧ i = .int .i64 j ∧ s5 = .bool false ∧ Lw A w root D1 (S' ++ (e, 2) :: K) O ∧ LwM A w wr w.heap.size D1 s7 (S' ++ (e, 2) :: K) (.slice ao O.length co) O ∧ (∀ y ∈ K, y.2 = 0) ∧ (∀ k f, k < j → f.fits A w → KidAt w e k f → f.ts ≠ [] → lookKP D1 f.key = some 2 ∨ ∃ y ∈ K, y.1.key = f.key) ∧ (K.map fun y => y.1.cost).sum + 3 * ndRow e.n (e.ts.drop j) ≤ 3 * ndRow e.n e.ts) (fun _ _ i _ => e.ts.length - (intOf i).toNat)
        case atStart => exact ⟨0, [], Nat.zero_le _, rfl, rfl, HL4.out, HM4.out, fun y hy => by simp at hy, fun k f hk => absurd hk (by omega), by simp⟩
        case round =>
          clear HL4 HM4
          obtain ⟨j, K, hj, rfl, rfl, hLi, hMi, hK0, hkd, hcs⟩ := hrel
          obtain ⟨wi, rfl⟩ : ∃ wi, wi = wr := ⟨_, rfl⟩
          obtain ⟨SK, hSK⟩ : ∃ SK, SK = S' ++ (e, 2) :: K := ⟨_, rfl⟩
          have HSK : Hid (type_of% hSK) := hSK
          have HLI : Hid (type_of% hLi) := hLi
          have HK0 : Hid (type_of% hK0) := hK0
          have HKD : Hid (type_of% hkd) := hkd
          have HCS : Hid (type_of% hcs) := hcs
          rw [← hSK] at hMi
          have HMI : Hid (type_of% hMi) := hMi
          obtain ⟨av, cv, hv⟩ := own_sliceW hMi.stk
          subst hv
          have hSl9 : SK.length ≤ 4000000000 := by
            have h1 : SK.length = S'.length + 1 + K.length := by rw [hSK, List.length_append, List.length_cons]; omega
            have h2 : K.length ≤ (K.map fun y => y.1.cost).sum := by
              clear hcs HCS hkd HKD hK0 HK0 hLi HLI HMI hMi hSK HSK h1
              induction K with
              | nil => simp
              | cons y K ih =>
                have := cost_pos y.1
                simp only [List.map_cons, List.sum_cons, List.length_cons]
                omega
            have h3 := HCE.out
            omega
          obtain ⟨NK, hNK⟩ : ∃ NK, NK = SK.length := ⟨_, rfl⟩
          rw [← hNK] at HMI hSl9 ⊢
          have HNK : Hid (SK.length = NK) := hNK.symm
          have hrowK := hMi.stk
          rw [← hNK] at hrowK
          have hbi := hMi.bel
          clear hSK hLi hK0 hkd hcs hMi hNK
          by_cases hlt : j < e.ts.length
          · obtain ⟨m, b, off, vn, vk, hm, rfl, hAb, hbc, c0, c1, c2, c3, hnm, htx, hkf⟩ := HOP.out j hlt
            have hbl : b < w.heap.size := HA.out b hAb
            obtain ⟨akk, ckk, hvk, _⟩ := LE.open hkf
            have hvk' : vk = .slice akk e.ts[j].kids.length ckk := hvk
            rw [hvk'] at c3 hkf
            have hkid : KidAt w e j ⟨.slice akk e.ts[j].kids.length ckk, e.ts[j].kids, m⟩ := ⟨hlt, b, off, ce, hve', c3, rfl, hm⟩
            have hco := cost_step (ts := e.ts) hm hlt
            have HKIDS : Hid (Calls Tryz.prog 44 #[.pointer (some ⟨b, off + j * 4, none⟩)] wi fun e9 w' => e9 = .returned (.slice akk e.ts[j].kids.length ckk) ∧ Below wi.heap.size wi w') := implTypeKids b (off + j * 4) _ wi ((hbi.cell (p := ⟨b, off + j * 4 + 3, none⟩) hbl).trans c3)
            have HPK : Hid (∀ wx : World, Calls Tryz.prog 69 #[.slice akk e.ts[j].kids.length ckk] wx fun e9 w' => e9 = .returned (keyVP (LE.key ⟨.slice akk e.ts[j].kids.length ckk, e.ts[j].kids, m⟩)) ∧ Below wx.heap.size wx w') := fun wx => implPlaceKey hkf wx
            have HCO : Hid (type_of% hco) := hco
            have hj0i : (0 : Int) ≤ (j : Int) := by omega
            have hj1i : (j : Int) < (e.ts.length : Int) := by omega
            have hkrow := key_rows hkf
            have HKF : Hid (type_of% hkf) := hkf
            have HKID : Hid (type_of% hkid) := hkid
            have hempty : e.ts[j].kids = [] → lookKP D1 (LE.key ⟨.slice akk e.ts[j].kids.length ckk, e.ts[j].kids, m⟩) = some 2 := fun q => by
              rw [LE.key_nil (e := ⟨.slice akk e.ts[j].kids.length ckk, e.ts[j].kids, m⟩) (a := akk) (c := ckk) (by rw [q]; rfl)]
              exact HLI.out.zero
            have hnot : lookKP D1 (LE.key ⟨.slice akk e.ts[j].kids.length ckk, e.ts[j].kids, m⟩) ≠ some 1 := HLI.out.notIn HK0.out hkid hkf
            have HNX : Hid (∀ K2 : List (LE × Nat), (∀ y ∈ K, y ∈ K2) → (e.ts[j].kids ≠ [] → lookKP D1 (LE.key ⟨.slice akk e.ts[j].kids.length ckk, e.ts[j].kids, m⟩) = some 2 ∨ ∃ y ∈ K2, y.1.key = LE.key ⟨.slice akk e.ts[j].kids.length ckk, e.ts[j].kids, m⟩) → ∀ k f, k < j + 1 → f.fits A w → KidAt w e k f → f.ts ≠ [] → lookKP D1 f.key = some 2 ∨ ∃ y ∈ K2, y.1.key = f.key) := fun K2 hsub hnew k f hk hf hkk hfn => by
              by_cases c : k = j
              · subst c
                have hkey9 := hkk.key hkid
                have hts9 : f.ts = e.ts[k].kids := by obtain ⟨_, _, _, _, _, _, q, _⟩ := hkk; exact q
                rw [hkey9]
                exact hnew (by rw [← hts9]; exact hfn)
              · rcases HKD.out k f (by omega) hf hkk hfn with q | ⟨y, hy, q⟩
                · exact .inl q
                · exact .inr ⟨y, hsub y hy, q⟩
            clear c0 c1 c2 c3 hnm htx hkf hvk hvk' hco HOP hbc hkid HKD
            generalize hTK : e.ts[j].kids = TK at *
            have HTK : Hid (type_of% hTK) := hTK
            clear hTK
            generalize hFE : (⟨.slice akk TK.length ckk, TK, m⟩ : LE) = f at *
            have HFF : Hid (type_of% hFE) := hFE
            clear hFE
            go_wp2_with fail
            refine HKIDS.out.mono ?_
            rintro e9 w4 ⟨rfl, hb4⟩
            clear HKIDS
            go_wp2_with fail
            refine (HPK.out _).mono ?_
            rintro e9 w5 ⟨rfl, hb5⟩
            have hM5 := HMI.out.below (hb4.trans (hb5.mono hb4.size))
            have hR5 : RowsOf w5 f.key.place := fun a ha => by
              obtain ⟨cur, T, q⟩ := hkrow.1 a ha
              exact ⟨cur, T, (hM5.bel.block _ (HA.out _ (hkrow.2 a ha))).trans q⟩
            have hlk : (Instr.lookup 102 (.map (some w.heap.size)) (keyVP f.key) false).run Tryz.prog w5 = .ok (.int .i64 ((lookKP D1 f.key).getD 0)) w5 := run_lookup_stopP hM5.map f.key hR5
            have HM5 : Hid (type_of% hM5) := hM5
            have hrow5 := own_belW hrowK (hb4.trans (hb5.mono hb4.size))
            have hz5 := hM5.bel.size
            clear HPK hb4 hb5 HMI hrowK hM5 hR5 hkrow
            cases hl5 : lookKP D1 f.key with
            | none =>
              rw [hl5] at hlk
              have hTKn : TK ≠ [] := fun q => by
                have := hempty q
                rw [hl5] at this
                cases this
              have hfts : f.ts = TK := by rw [← HFF.out]
              have hLn := HLI.out.push HK0.out HKID.out HKF.out (by rw [hfts]; exact hTKn)
              have HLN : Hid (type_of% hLn) := hLn
              have HK0N : Hid (∀ y ∈ K ++ [(f, 0)], y.2 = 0) := fun y hy => by
                rcases List.mem_append.1 hy with hy | hy
                · exact HK0.out y hy
                · rw [List.mem_singleton] at hy; rw [hy]
              have HKDN : Hid (type_of% (HNX.out (K ++ [(f, 0)]) (fun y hy => List.mem_append_left _ hy) (fun _ => .inr ⟨(f, 0), by simp, rfl⟩))) := HNX.out (K ++ [(f, 0)]) (fun y hy => List.mem_append_left _ hy) (fun _ => .inr ⟨(f, 0), by simp, rfl⟩)
              have HCN : Hid (((K ++ [(f, 0)] : List (LE × Nat)).map fun y => y.1.cost).sum + 3 * ndRow e.n (e.ts.drop (j + 1)) ≤ 3 * ndRow e.n e.ts) := by
                have h1 := HCS.out
                have h2 := HCO.out
                rw [h2] at h1
                have h3 : f.cost = 3 * (1 + ndRow m TK) := by rw [← HFF.out]; rfl
                show _ ≤ _
                rw [List.map_append, List.sum_append, List.map_singleton, List.sum_singleton]
                simp only
                have h4 := HTK.out
                omega
              clear hnot hempty hLn HNX hTKn hfts
              go_wp2_with (at_builtin; refine wpList_append_own_at _ rfl _ _ 99 rfl w.heap.size 28 i0 (.slice none 0 0) 1 24 Tryz.underlying99 hi0 hz0 hz1 hz2 rfl (by decide) _ _ _ rfl (hrow5.alloc _) ⟨w5.heap.size, 0, none⟩ 1 1 [.slice akk TK.length ckk] rfl rfl ?c1 ?c2 ?c3 ?c4 ?c5 ?_)
              case c1 => exact one_cellW (cellNew 0 rfl)
              case c2 => intro u hu; simp at hu; subst hu; rfl
              case c3 => unfold maxLen; omega
              case c4 => omega
              case c5 => simp; omega
              intro v6 w6 hown6 hgrow6 _ hloc6
              have HM6 : Hid (LwM A w w6 w.heap.size D1 v6 (S' ++ (e, 2) :: (K ++ [(f, 0)])) (.slice ao O.length co) O) := by
                have e1 : S' ++ (e, 2) :: (K ++ [(f, 0)]) = SK ++ [(f, 0)] := by rw [HSK.out]; simp
                rw [e1]
                refine HM5.out.push ?_ hgrow6 (by simpa using hloc6)
                have e2 : f.v = .slice akk TK.length ckk := by rw [← HFF.out]
                rw [List.length_append, List.length_singleton, HNK.out, List.map_append, List.map_singleton]
                simp only
                rw [e2]
                exact hown6
              obtain ⟨a6, c6, hv6⟩ := own_sliceW hown6
              subst hv6
              clear hown6 hgrow6 hrow5 HM5 hlk
              go_wp2_with fail
              go_roundw
              case rel => exact ⟨j + 1, K ++ [(f, 0)], by omega, by go_num, rfl, HLN.out, HM6.out, HK0N.out, HKDN.out, HCN.out⟩
              case measure => simp [intOf]; omega
            | some v5 =>
              rcases HLI.out.vals _ _ hl5 with hv5 | hv5
              · exact absurd (by rw [hl5, hv5]) hnot
              · rw [hl5, hv5] at hlk
                have HKDN : Hid (type_of% (HNX.out K (fun y hy => hy) (fun _ => .inl (by rw [hl5, hv5])))) := HNX.out K (fun y hy => hy) (fun _ => .inl (by rw [hl5, hv5]))
                have HCN : Hid ((K.map fun y => y.1.cost).sum + 3 * ndRow e.n (e.ts.drop (j + 1)) ≤ 3 * ndRow e.n e.ts) := by
                  have h1 := HCS.out
                  have h2 := HCO.out
                  rw [h2] at h1
                  show _ ≤ _
                  omega
                have HM6 : Hid (LwM A w w5 w.heap.size D1 (.slice av NK cv) (S' ++ (e, 2) :: K) (.slice ao O.length co) O) := by rw [← HSK.out]; exact HM5.out
                clear hnot hempty HNX hl5 hv5 hrow5 HM5
                go_wp2_with fail
                go_roundw
                case rel => exact ⟨j + 1, K, by omega, by go_num, rfl, HLI.out, HM6.out, HK0.out, HKDN.out, HCN.out⟩
                case measure => simp [intOf]; omega
          · have hje : j = e.ts.length := by omega
            have hLc : Lw A w root D1 (S' ++ (e, 1) :: K) O := HLI.out.close HK0.out fun k f hf hkk hfn => HKD.out k f (by obtain ⟨h9, _⟩ := hkk; omega) hf hkk hfn
            have HLC : Hid (type_of% hLc) := hLc
            have HMC : Hid (LwM A w wi w.heap.size D1 (.slice av NK cv) (S' ++ (e, 1) :: K) (.slice ao O.length co) O) := by
              have h1 := HMI.out
              rw [HSK.out] at h1
              exact ⟨h1.map, h1.low, h1.lowD, by have := h1.stk; simpa using this, h1.out, h1.apart, h1.bel⟩
            have HLT : Hid (mSum D1 (S' ++ (e, 1) :: K) < gk) := HEN.out K (by have := HCS.out; omega)
            have HFC : Hid (∀ x ∈ S' ++ (e, 1) :: K, x.2 ≠ 2) := fun x hx => by
              rcases List.mem_append.1 hx with hx | hx
              · exact HFL2.out x hx
              · rcases List.mem_cons.1 hx with hx | hx
                · rw [hx]; simp
                · rw [HK0.out x hx]; simp
            clear hLc hje HKD HCS HLI HMI HOP hrowK
            go_wp2_with fail
            go_roundg (mSum D1 (S' ++ (e, 1) :: K))
            case rel => exact ⟨_, _, _, rfl, HLC.out, HMC.out, rfl, by have := HLT.out; omega, by have := HLT.out; omega, HFC.out⟩
            case measure => exact HLT.out
      | some v =>
        rw [hlook] at hlk
        have hv := HL.out.vals _ _ hlook
        rcases hv with hv | hv
        · subst hv
          obtain ⟨w3, hup, hm3, hb3⟩ := run_update_stopP hM2.map e.key hR2 2
          have hup' : (Instr.mapUpdate 102 (.map (some w.heap.size)) (.agg #[.pointer e.key.place, .int .i64 e.key.count]) (.int .i64 2)).run Tryz.prog (w2.alloc (.cells #[.pointer e.key.place, .int .i64 e.key.count] 105)) = .ok () w3 := hup
          have hM3 := hM2.put HKA.out hm3 hb3
          have hb2 : b ≠ 2 := HFL.out (e, b) (by simp)
          have HL3 : Hid (Lw A w root (setKP D e.key 2) (S' ++ [(e, 0)]) (O ++ [e])) := HL.out.finish hb2 hlook
          have HMS : Hid (mSum (setKP D e.key 2) (S' ++ [(e, 0)]) < gk) := by show _ < _; rw [← HKK.out]; exact m_finish hlook
          have HFL2 : Hid (∀ x ∈ S' ++ [(e, 0)], x.2 ≠ 2) := fun x hx => by
            rcases List.mem_append.1 hx with hx | hx
            · exact HFL.out x (List.mem_append_left _ hx)
            · rw [List.mem_singleton] at hx; rw [hx]; simp
          have hM4 : LwM A w w3 w.heap.size (setKP D e.key 2) (.slice (some ⟨gs, 0, none⟩) (S'.length + 1) cs) (S' ++ [(e, 0)]) (.slice ao O.length co) O := ⟨hM3.map, hM3.low, hM3.lowD, by have := hM3.stk; simpa using this, hM3.out, hM3.apart, hM3.bel⟩
          have hrowO := hM4.out
          have hO2 : O.length ≤ 2000000000 := by omega
          have hz3 := hM4.bel.size
          have HM4 : Hid (type_of% hM4) := hM4
          have hcell3 := hb3.2.2.2.2
          clear hM2 hM3 hM4 hm3 hup HRW HOP HFE HNE HKA HFL hR2 hb3 hcell3
          generalize hNO : O.length = NO at *
          have HNO : Hid (O.length = NO) := hNO
          clear hNO
          go_wp2_with (at_builtin; refine wpList_append_own_at _ rfl _ _ 99 rfl w.heap.size 28 i0 (.slice none 0 0) 1 24 Tryz.underlying99 hi0 hz0 hz1 hz2 rfl (by decide) _ _ _ rfl (hrowO.alloc _) ⟨w3.heap.size, 0, none⟩ 1 1 [.slice ae e.ts.length ce] rfl rfl ?c1 ?c2 ?c3 ?c4 ?c5 ?_)
          case c1 => exact one_cellW (cellNew 0 rfl)
          case c2 => intro u hu; simp at hu; subst hu; rfl
          case c3 => unfold maxLen; omega
          case c4 => omega
          case c5 => simp; omega
          intro v5 w5 hown5 hgrow5 _ hloc5
          have HM5 : Hid (LwM A w w5 w.heap.size (setKP D e.key 2) (.slice (some ⟨gs, 0, none⟩) (S'.length + 1) cs) (S' ++ [(e, 0)]) v5 (O ++ [e])) := by
            refine HM4.out.tell ?_ hgrow5 (by simpa using hloc5)
            rw [List.length_append, List.length_singleton, HNO.out, List.map_append, List.map_singleton, hve']
            exact hown5
          obtain ⟨a5, c5, hv5⟩ := own_sliceW hown5
          subst hv5
          clear hown5 hgrow5 hrowO HM4
          go_wp2_with fail
          go_roundg (mSum (setKP D e.key 2) (S' ++ [(e, 0)]))
          case rel => exact ⟨_, _, _, rfl, HL3.out, HM5.out, rfl, by have := HMS.out; omega, by have := HMS.out; rw [List.length_append, List.length_singleton, HNO.out]; omega, HFL2.out⟩
          case measure => exact HMS.out
        · subst hv
          have HL3 : Hid (Lw A w root D S' O) := HL.out.pop hlook
          have HM3 : Hid (type_of% hM2.pop) := hM2.pop
          have HMS : Hid (mSum D S' < gk) := by show _ < _; rw [← HKK.out]; exact m_pop _ _ _
          have HFL2 : Hid (∀ x ∈ S', x.2 ≠ 2) := fun x hx => HFL.out x (List.mem_append_left _ hx)
          clear hM2 HRW HOP HFE HNE HKA HFL hR2
          go_wp2_with fail
          go_roundg (mSum D S')
          case rel => exact ⟨_, _, _, rfl, HL3.out, HM3.out, rfl, by have := HMS.out; omega, by have := HMS.out; omega, HFL2.out⟩
          case measure => exact HMS.out

end Go.Proofs.YtbojmbeopnlmiaaGreatDoor

namespace Go.Proofs.YtbojmbeopnlmiaaGreatDoor
open Go.RowKit Go.Sort

/-- one list, one weight -/
theorem wt_one {A : Nat → Prop} {w : World} {e f : LE} (he : e.fits A w) (hf : f.fits A w) (h : e.ts = f.ts) : e.wt = f.wt := by
  have ends : ∀ g : LE, g.fits A w → ∀ t ∈ g.ts, Ty.ends g.n t := fun g hg t ht => by
    rcases hg with ⟨q, _⟩ | ⟨b, off, cap, _, _, _, hc⟩
    · rw [q] at ht; simp at ht
    · obtain ⟨j, hj, rfl⟩ := List.getElem_of_mem ht
      obtain ⟨cs, h1, _⟩ := hc j hj
      exact h1.at.ends
  unfold LE.wt rowWt
  rw [← h]
  congr 1
  exact List.map_congr_left fun t ht => wt_any (ends e he t ht) (ends f hf t (h ▸ ht))
/-- the weights of the lists that came, by their places -/
structure WMap (D : List (KeyP × Int)) (P : List LE) : Prop where
  has : ∀ p ∈ P, lookKP D p.key = some ((p.wt : Nat) : Int)
  zero : lookKP D ⟨none, 0⟩ = none
theorem WMap.nil : WMap [] [] := ⟨fun p hp => by simp at hp, rfl⟩
theorem WMap.put {A : Nat → Prop} {w : World} {D : List (KeyP × Int)} {P : List LE} {o : LE} (h : WMap D P) (hP : ∀ p ∈ P, p.fits A w ∧ p.ts ≠ []) (ho : o.fits A w) (hn : o.ts ≠ []) : WMap (setKP D o.key ((o.wt : Nat) : Int)) (P ++ [o]) := by
  refine ⟨fun p hp => ?_, ?_⟩
  · by_cases c : p.key = o.key
    · rw [c, look_set_sameP]
      rcases List.mem_append.1 hp with hp | hp
      · rw [wt_one (hP p hp).1 ho (key_one (hP p hp).1 ho (hP p hp).2 c)]
      · rw [List.mem_singleton] at hp; rw [hp]
    · rw [look_set_otherP D _ (Ne.symm c)]
      rcases List.mem_append.1 hp with hp | hp
      · exact h.has p hp
      · rw [List.mem_singleton] at hp; rw [hp] at c; exact absurd rfl c
  · rw [look_set_otherP D _ (key_ne ho hn)]
    exact h.zero
/-- what is found at a list within one that comes next -/
theorem WMap.kid {A : Nat → Prop} {w : World} {root o f : LE} {D D2 : List (KeyP × Int)} {O P Q : List LE} {k : Nat} (h : WMap D2 P) (hL : Lw A w root D [] O) (hO : O = P ++ o :: Q) (hf : f.fits A w) (hk : KidAt w o k f) : (lookKP D2 f.key).getD 0 = ((f.wt : Nat) : Int) := by
  by_cases hn : f.ts = []
  · obtain ⟨a, c, hv, _⟩ := LE.open hf
    rw [hn] at hv
    rw [LE.key_nil hv, h.zero]
    unfold LE.wt
    rw [hn]
    rfl
  · obtain ⟨p, hp, hpk⟩ := hL.post P o Q hO k f hf hk hn
    have hpO := hL.fitO p (by rw [hO]; exact List.mem_append_left _ hp)
    rw [← hpk, h.has p hp, ← wt_one hpO.1 hf (key_one hpO.1 hf hpO.2 hpk)]
    rfl
theorem wt_take {n : Nat} {ts : List Ty} {k : Nat} (hk : k < ts.length) : rowWt n (ts.take (k + 1)) = rowWt n (ts.take k) + Ty.wt n ts[k] := by
  unfold rowWt
  rw [List.take_succ_eq_append_getElem hk, List.map_append, List.sum_append]
  simp
theorem wt_take_le (n : Nat) (ts : List Ty) (k : Nat) : rowWt n (ts.take k) ≤ rowWt n ts := by
  have : rowWt n ts = rowWt n (ts.take k) + rowWt n (ts.drop k) := by
    unfold rowWt
    rw [← List.sum_append, ← List.map_append, List.take_append_drop]
  omega

/-- the weight of the last one -/
def lastW (l : List LE) : Nat := (l.getLast?.map LE.wt).getD 0
theorem lastW_snoc (l : List LE) (o : LE) : lastW (l ++ [o]) = o.wt := by simp [lastW]
/-- what lies in memory: the lists, and the map of weights -/
structure WoM (A : Nat → Prop) (w wr : World) (M : Nat) (D : List (KeyP × Int)) (v : Value) (O : List LE) : Prop where
  map : KMapP wr M D
  low : w.heap.size ≤ M
  lowD : ∀ p ∈ D, ∀ a, p.1.place = some a → a.block < w.heap.size
  row : wr.ownsRow w.heap.size 28 1 v O.length (O.map LE.v)
  bel : Below w.heap.size w wr
theorem WoM.below {A : Nat → Prop} {w wr w2 : World} {M : Nat} {D : List (KeyP × Int)} {v : Value} {O : List LE} (h : WoM A w wr M D v O) (hb : Below wr.heap.size wr w2) : WoM A w w2 M D v O :=
  ⟨h.map.kept (hb.block M h.map.lt) h.lowD (fun b hb' => hb.block b (Nat.lt_of_lt_of_le hb' h.bel.size)), h.low, h.lowD, own_atW h.row fun g hg => hb.block g (h.row.lt g hg).2, h.bel.trans (hb.mono h.bel.size)⟩
theorem WoM.put {A : Nat → Prop} {w wr w2 : World} {M : Nat} {D : List (KeyP × Int)} {v : Value} {O : List LE} (h : WoM A w wr M D v O) {k : KeyP} {x : Int} (hk : ∀ a, k.place = some a → a.block < w.heap.size) (hm : KMapP w2 M (setKP D k x)) (hb : But M wr w2) : WoM A w w2 M (setKP D k x) v O := by
  obtain ⟨es, ck, hM⟩ := h.map.obj
  refine ⟨hm, h.low, fun p hp a ha => ?_, own_atW h.row fun g hg => hb.2.2.2.2 g fun e => ?_, h.bel.trans ⟨hb.1, hb.2.1, hb.2.2.1, Nat.le_of_eq hb.2.2.2.1.symm, fun b hb' => hb.2.2.2.2 b (by have := h.low; omega)⟩⟩
  · rcases set_memP hp with q | q
    · exact h.lowD p q a ha
    · rw [q] at ha
      exact hk a ha
  · obtain ⟨_, c, q⟩ := own_rowW h.row hg
    subst e
    rw [hM] at q
    simp at q

set_option maxHeartbeats 3200000 in
set_option maxRecDepth 100000 in
theorem implWeight (A : Nat → Prop) (root : LE) (w : World) (hA : ∀ b, A b → b < w.heap.size) (hf : root.fits A w) (hn : root.ts ≠ []) (hw : root.wt ≤ 1000000000) (hc : root.cost ≤ 1000000000) :
    Calls Tryz.prog 42 #[root.v, .func (.func 43) #[] #[], .func (.func 44) #[] #[]] w fun e w' => e = .returned (.int .i64 ((root.wt : Nat) : Int)) ∧ Below w.heap.size w w' := by
  have hmm := @run_makeMap Tryz.prog
  obtain ⟨a0, cap0, hv0, _⟩ := LE.open hf
  have HF0 := implFew A root w hA hf hw hc
  rw [hv0] at HF0 ⊢
  have HF : Hid (type_of% HF0) := HF0
  have HLS : Hid (∀ wx : World, Below w.heap.size w wx → Calls Tryz.prog 68 #[.slice a0 root.ts.length cap0, .func (.func 44) #[] #[]] wx fun e w' => ∃ (D : List (KeyP × Int)) (vO : Value) (O : List LE), e = .returned (.tuple #[vO, .bool false]) ∧ Lw A wx root D [] O ∧ w'.ownsRow wx.heap.size 28 1 vO O.length (O.map LE.v) ∧ O.length ≤ 2000000000 ∧ Below wx.heap.size wx w') := fun wx hx => by
    have hsame : SameOn A w wx := fun b hb => hx.block b (hA b hb)
    have hfx : root.fits A wx := RowR.same hf hsame fun cs t _ q => q.same hsame
    have := implLists A root wx (fun b hb => Nat.lt_of_lt_of_le (hA b hb) hx.size) hfx hn hc
    rw [hv0] at this
    refine this.mono ?_
    rintro e w' ⟨M, D, vS, vO, O, rfl, h1, h2, h3⟩
    exact ⟨D, vO, O, rfl, h1, h2.out, h3, h2.bel⟩
  have HA : Hid (type_of% hA) := hA
  have HFI : Hid (type_of% hf) := hf
  have HNN : Hid (type_of% hn) := hn
  obtain ⟨TW, hTW⟩ : ∃ TW, TW = root.wt := ⟨_, rfl⟩
  rw [← hTW] at HF hw ⊢
  have HTW : Hid (type_of% hTW) := hTW
  clear HF0 hf hn hA hTW hc
  go_enter Tryz.func42, Tryz.ntmps42
  go_wp2_with fail
  refine HF.out.mono ?_
  rintro e w2 ⟨hres, hb2⟩
  clear HF
  rcases hres with rfl | rfl
  · go_wp2_with fail
    go_ret
    exact ⟨rfl, hb2⟩
  · have HL2 : Hid (type_of% (HLS.out w2 hb2)) := HLS.out w2 hb2
    clear HLS
    go_wp2_with fail
    refine HL2.out.mono ?_
    rintro e w3 ⟨D, vO, O, rfl, hL, hrow, hOl, hb3⟩
    clear HL2
    obtain ⟨ao, co, hvo⟩ := own_sliceW hrow
    subst hvo
    have hz2 := hb2.size
    have hz3 := hb3.size
    have hb23 : Below w.heap.size w w3 := hb2.trans (hb3.mono hz2)
    have hrow4 := hrow.alloc (.map #[] 0)
    have hb4 : Below w.heap.size w (w3.alloc (.map #[] 0)) := hb23.alloc hb23.size _
    have hm4 : KMapP (w3.alloc (.map #[] 0)) w3.heap.size [] := KMapP.made (MapKept.heap_alloc w3 (.map #[] 0)).1
    have HL : Hid (type_of% hL) := hL
    obtain ⟨NO, hNO⟩ : ∃ NO, NO = O.length := ⟨_, rfl⟩
    rw [← hNO] at hrow4 hOl ⊢
    have HNO : Hid (O.length = NO) := hNO.symm
    have HR4 : Hid (type_of% hrow4) := hrow4
    have HM4 : Hid (type_of% hm4) := hm4
    have HA2 : Hid (∀ b, A b → b < w2.heap.size) := fun b hb => Nat.lt_of_lt_of_le (HA.out b hb) hz2
    have hb4' : Below w2.heap.size w2 (w3.alloc (.map #[] 0)) := hb3.alloc hz3 _
    have HB9 : Hid (∀ wx : World, Below w2.heap.size w2 wx → Below w.heap.size w wx) := fun wx hx => hb2.trans (hx.mono hz2)
    have HW1 : Hid (∀ o ∈ O, o.wt ≤ 1000000000) := fun o ho => by have := HL.out.small.2 o ho; have h9 := HTW.out; omega
    have HEND : Hid (lastW O = TW) := by
      obtain ⟨P, hP⟩ := HL.out.last (.inl rfl)
      show _ = _
      rw [hP, lastW_snoc]
      exact HTW.out.symm
    clear hL hrow hrow4 hm4 hNO hb4 hb23
    go_wp2_with fail
    generalize hM9 : w3.heap.size = M at *
    have hMl : w2.heap.size ≤ M := by omega
    clear hM9
    go_loopw [12, 35] (fun s12 i wr => ∃ (k wt : Nat) (D2 : List (KeyP × Int)), k ≤ NO ∧ i = .int .i64 k ∧ s12 = .int .i64 wt ∧ wt = lastW (O.take k) ∧ WoM A w2 wr M D2 (.slice ao NO co) O ∧ WMap D2 (O.take k)) (fun _ i _ => NO - (intOf i).toNat)
    case atStart => exact ⟨0, 0, [], Nat.zero_le _, rfl, rfl, rfl, ⟨HM4.out, hMl, fun p hp => by simp at hp, by rw [HNO.out]; exact HR4.out, hb4'⟩, WMap.nil⟩
    case round =>
      clear HR4 HM4 hb4'
      obtain ⟨k, wt, D2, hk, rfl, rfl, hwt, hM, hWM⟩ := hrel
      obtain ⟨wo, rfl⟩ : ∃ wo, wo = wr := ⟨_, rfl⟩
      have HWT : Hid (type_of% hwt) := hwt
      have HM : Hid (type_of% hM) := hM
      have HWM : Hid (type_of% hWM) := hWM
      clear hwt hWM
      by_cases hlt : k < NO
      · have hkO : k < O.length := by rw [HNO.out]; exact hlt
        obtain ⟨e, he⟩ : ∃ e, e = O[k] := ⟨_, rfl⟩
        have hemem : e ∈ O := by rw [he]; exact List.getElem_mem hkO
        obtain ⟨hfe, hne⟩ := HL.out.fitO e hemem
        obtain ⟨ae, ce, hve, hop⟩ := LE.open hfe
        have hsplit : O = O.take k ++ e :: O.drop (k + 1) := by
          rw [he, ← List.drop_eq_getElem_cons hkO, List.take_append_drop]
        have htake : O.take (k + 1) = O.take k ++ [e] := by rw [he, List.take_succ_eq_append_getElem hkO]
        have ctop : ∃ g, ao = some ⟨g, 0, none⟩ ∧ wo.cell? ⟨g, k, none⟩ = some (.slice ae e.ts.length ce) := by
          obtain ⟨g, cap, hv, _⟩ := own_posW hM.row (by omega)
          simp only [Value.slice.injEq] at hv
          refine ⟨g, hv.1, ?_⟩
          have h0 := hM.row.cells (g := g) (by rw [hv.1]; rfl) k (.slice ae e.ts.length ce) (by rw [List.getElem?_map, List.getElem?_eq_getElem hkO, ← he, Option.map_some, hve])
          have ea : ((⟨g, 0, none⟩ : Addr).add k) = ⟨g, k, none⟩ := by
            cases k with
            | zero => rfl
            | succ n => simp [Addr.add]
          rw [ea] at h0
          exact h0
        obtain ⟨g, rfl, ctop⟩ := ctop
        have hew : e.wt ≤ 1000000000 := HW1.out e hemem
        have hel : e.ts.length ≤ 1000000000 := by
          have h9 := kids_wt hfe
          have h8 : e.wt = rowWt e.n e.ts := rfl
          omega
        have HPE : Hid (∀ wx : World, Calls Tryz.prog 69 #[.slice ae e.ts.length ce] wx fun e9 w' => e9 = .returned (.agg #[.pointer e.key.place, .int .i64 e.key.count]) ∧ Below wx.heap.size wx w') := fun wx => by
          clear ctop hsplit htake hop hemem he
          obtain ⟨v, ts, n⟩ := e
          have hv9 : v = .slice ae ts.length ce := hve
          subst hv9
          exact implPlaceKey hfe wx
        have hkey := key_rows hfe
        have hkA : ∀ a, e.key.place = some a → a.block < w2.heap.size := fun a ha => HA2.out _ (hkey.2 a ha)
        have HRW : Hid (∀ wx : World, Below w2.heap.size w2 wx → RowsOf wx e.key.place) := fun wx hx a ha => by
          obtain ⟨cur, T, q⟩ := hkey.1 a ha
          exact ⟨cur, T, (hx.block _ (hkA a ha)).trans q⟩
        have HKA : Hid (type_of% hkA) := hkA
        have HOP : Hid (type_of% hop) := hop
        have HWN : Hid (WMap (setKP D2 e.key ((e.wt : Nat) : Int)) (O.take (k + 1))) := by
          rw [htake]
          exact HWM.out.put (fun p hp => HL.out.fitO p (List.mem_of_mem_take hp)) hfe hne
        have HLW : Hid (e.wt = lastW (O.take (k + 1))) := by
          show _ = _
          rw [htake, lastW_snoc]
        have HKW : Hid (∀ j f, f.fits A w2 → KidAt w2 e j f → (lookKP D2 f.key).getD 0 = ((f.wt : Nat) : Int)) := fun j f hf hkk => HWM.out.kid HL.out hsplit hf hkk
        have HVE : Hid (type_of% hve) := hve
        have hk0i : (0 : Int) ≤ (k : Int) := by omega
        have hk1i : (k : Int) < (NO : Int) := by omega
        have HWE : Hid (e.wt = rowWt e.n e.ts) := rfl
        clear hM hfe hne hop hve hsplit htake hemem he hkey hkA HWM HWT
        go_wp2_with fail
        go_loopw [12, 41] (fun s12 i wr => ∃ j : Nat, j ≤ e.ts.length ∧ i = .int .i64 j ∧ s12 = .int .i64 ((rowWt e.n (e.ts.take j) : Nat) : Int) ∧ WoM A w2 wr M D2 (.slice (some ⟨g, 0, none⟩) NO co) O) (fun _ i _ => e.ts.length - (intOf i).toNat)
        case atStart => exact ⟨0, Nat.zero_le _, rfl, by simp [rowWt], HM.out⟩
        case round =>
          clear HM
          obtain ⟨j, hj, rfl, rfl, hMi⟩ := hrel
          obtain ⟨wi, rfl⟩ : ∃ wi, wi = wr := ⟨_, rfl⟩
          have HMI : Hid (type_of% hMi) := hMi
          have hbi := hMi.bel
          clear hMi
          by_cases hjl : j < e.ts.length
          · obtain ⟨m, b, off, vn, vk, hm, rfl, hAb, hbc, c0, c1, c2, c3, hnm, htx, hkf⟩ := HOP.out j hjl
            have hbl : b < w2.heap.size := HA2.out b hAb
            obtain ⟨akk, ckk, hvk, hop9⟩ := LE.open hkf
            clear hop9
            have hvk' : vk = .slice akk e.ts[j].kids.length ckk := hvk
            rw [hvk'] at c3 hkf
            have hkid : KidAt w2 e j ⟨.slice akk e.ts[j].kids.length ckk, e.ts[j].kids, m⟩ := ⟨hjl, b, off, ce, HVE.out, c3, rfl, hm⟩
            have hkw := HKW.out j _ hkf hkid
            have hst := wt_take (n := e.n) hjl
            have hwk : Ty.wt e.n e.ts[j] = ownW e.ts[j] + rowWt m e.ts[j].kids := by rw [hm]; rfl
            have hle := wt_take_le e.n e.ts (j + 1)
            rw [hst, hwk] at hle
            have hE := HWE.out
            have hoW : ownW e.ts[j] ≤ 1000000000 := by omega
            have hkW : rowWt m e.ts[j].kids ≤ 1000000000 := by omega
            have hrW : rowWt e.n (e.ts.take j) ≤ 1000000000 := by omega
            have hkl8 : e.ts[j].kids.length ≤ 4000000000 := by
              have h4 : e.ts[j].kids.length ≤ rowWt m e.ts[j].kids := kids_wt hkf
              omega
            have HTWT : Hid (∀ wx : World, Below wi.heap.size wi wx → Calls Tryz.prog 43 #[.pointer (some ⟨b, off + j * 4, none⟩)] wx fun e9 w' => e9 = .returned (.int .i64 ((ownW e.ts[j] : Nat) : Int)) ∧ Below wx.heap.size wx w') := fun wx hx => by
              have hbx := hbi.trans (hx.mono hbi.size)
              exact implTypeW b (off + j * 4) e.ts[j] vn akk ckk wx ((hbx.cell (p := ⟨b, off + j * 4, none⟩) hbl).trans c0) ((hbx.cell (p := ⟨b, off + j * 4 + 1, none⟩) hbl).trans c1) ((hbx.cell (p := ⟨b, off + j * 4 + 2, none⟩) hbl).trans c2) ((hbx.cell (p := ⟨b, off + j * 4 + 3, none⟩) hbl).trans c3) (htx.at.below hbx) hoW hkl8
            have HTK : Hid (∀ wx : World, Below wi.heap.size wi wx → Calls Tryz.prog 44 #[.pointer (some ⟨b, off + j * 4, none⟩)] wx fun e9 w' => e9 = .returned (.slice akk e.ts[j].kids.length ckk) ∧ Below wx.heap.size wx w') := fun wx hx => by
              have hbx := hbi.trans (hx.mono hbi.size)
              exact implTypeKids b (off + j * 4) _ wx ((hbx.cell (p := ⟨b, off + j * 4 + 3, none⟩) hbl).trans c3)
            have HPK : Hid (∀ wx : World, Calls Tryz.prog 69 #[.slice akk e.ts[j].kids.length ckk] wx fun e9 w' => e9 = .returned (keyVP (LE.key ⟨.slice akk e.ts[j].kids.length ckk, e.ts[j].kids, m⟩)) ∧ Below wx.heap.size wx w') := fun wx => implPlaceKey hkf wx
            have hkrow := key_rows hkf
            have hlk : ∀ d os, (Instr.lookup 102 (.map (some M)) (keyVP (LE.key ⟨.slice akk e.ts[j].kids.length ckk, e.ts[j].kids, m⟩)) false).run Tryz.prog (grow (redrawn wi d) os) = .ok (.int .i64 ((rowWt m e.ts[j].kids : Nat) : Int)) (grow (redrawn wi d) os) := fun d os => by
              have hb9 := below_regrown wi d os
              have hM9 := HMI.out.below hb9
              have := run_lookup_stopP hM9.map (LE.key ⟨.slice akk e.ts[j].kids.length ckk, e.ts[j].kids, m⟩) (fun a ha => by
                obtain ⟨cur, T, q⟩ := hkrow.1 a ha
                exact ⟨cur, T, (hM9.bel.block _ (HA2.out _ (hkrow.2 a ha))).trans q⟩)
              rw [hkw] at this
              exact this
            have HST : Hid (rowWt e.n (e.ts.take (j + 1)) = rowWt e.n (e.ts.take j) + (ownW e.ts[j] + rowWt m e.ts[j].kids)) := by show _ = _; rw [hst, hwk]
            have hj0i : (0 : Int) ≤ (j : Int) := by omega
            have hj1i : (j : Int) < (e.ts.length : Int) := by omega
            clear c0 c1 c2 c3 hnm htx hkf hvk hvk' hkid hkw hst hwk hle hE hkrow hbc HOP ctop
            generalize ownW e.ts[j] = oW at *
            generalize rowWt m e.ts[j].kids = kW at *
            generalize rowWt e.n (e.ts.take j) = rW at *
            generalize hkey9 : keyVP (LE.key ⟨.slice akk e.ts[j].kids.length ckk, e.ts[j].kids, m⟩) = KV at *
            clear hkey9
            generalize e.ts[j].kids.length = kl at *
            go_wp2_with fail
            refine wp_region_quiet_below (by kernel_rfl) (by kernel_rfl) ?_
            repeat (go_big_quiet_step (first | (with_reducible exact Calls.regrown_of (HTWT.out _ (below_regrown wi _ _))) | (with_reducible exact Calls.regrown_of (HTK.out _ (below_regrown wi _ _))) | (with_reducible exact Calls.regrown_of (HPK.out _))))
            refine wpQuiet_nil ?_
            intro _ hw'
            obtain ⟨⟨dq, osq⟩, hw''⟩ := hw'
            subst hw''
            have HM5 : Hid (type_of% (HMI.out.below (below_regrown wi dq osq))) := HMI.out.below (below_regrown wi dq osq)
            clear hlk HTWT HTK HPK
            generalize grow (redrawn wi dq) osq = w5 at *
            go_wp2_with fail
            go_roundw
            case rel => exact ⟨j + 1, by omega, by go_num, by rw [HST.out]; congr 1; omega, HM5.out⟩
            case measure => simp [intOf]; omega
          · have hje : e.ts.take j = e.ts := List.take_of_length_le (by omega)
            have HRW2 : Hid (rowWt e.n (e.ts.take j) = e.wt) := by show _ = _; rw [hje, ← HWE.out]
            clear hje
            generalize rowWt e.n (e.ts.take j) = rW at *
            go_wp2_with fail
            refine (HPE.out _).mono ?_
            rintro e9 w5 ⟨rfl, hb5⟩
            have hM5 := HMI.out.below hb5
            obtain ⟨w6, hup, hm6, hb6⟩ := run_update_stopP hM5.map e.key (HRW.out _ hM5.bel) ((rW : Nat) : Int)
            have hup' : (Instr.mapUpdate 102 (.map (some M)) (.agg #[.pointer e.key.place, .int .i64 e.key.count]) (.int .i64 ((rW : Nat) : Int))).run Tryz.prog w5 = .ok () w6 := hup
            have HM6 : Hid (type_of% (hM5.put HKA.out hm6 hb6)) := hM5.put HKA.out hm6 hb6
            clear hM5 hm6 hb6 hup hb5 HMI HPE HRW HKA
            go_wp2_with fail
            go_roundw
            case rel =>
              refine ⟨k + 1, rW, setKP D2 e.key ((rW : Nat) : Int), by omega, by go_num, rfl, ?_, HM6.out, ?_⟩
              · rw [HRW2.out]; exact HLW.out
              · rw [HRW2.out]; exact HWN.out
            case measure => simp [intOf]; omega
      · have hke : O.take k = O := List.take_of_length_le (by rw [HNO.out]; omega)
        have HR : Hid (wt = TW) := by
          show _ = _
          rw [HWT.out, hke]
          exact HEND.out
        have HB : Hid (type_of% (HB9.out _ hM.bel)) := HB9.out _ hM.bel
        clear hM HWT HM HWM hke
        go_wp2_with fail
        go_ret
        exact ⟨by rw [← HR.out]; rfl, HB.out⟩

end Go.Proofs.YtbojmbeopnlmiaaGreatDoor
