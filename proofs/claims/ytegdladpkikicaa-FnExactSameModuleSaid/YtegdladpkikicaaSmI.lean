/-
  The walk of impl.sameTrees, at types and at expressions.
-/
import Derived.Test.YtegdladpkikicaaSmM
import Derived.Deep.RegionHeld3
import Derived.Deep.LoopGhost
import Derived.BigQuiet
import Derived.Deep.RegionWith
namespace Go.Proofs.Ytegdladpkikicaa
open Go.RowKit Go.Sort

theorem bulkA_one1 {α : Type} (g : α → Nat) (es : List α) (k : Nat) (h : k < es.length) : g es[k] + 1 ≤ bulkA g es := by
  have h1 := sumA_more g es k h
  have h2 := sumA_le g es (k + 1)
  unfold bulkA
  omega
theorem own_sliceS {w : World} {B e z : Nat} {v : Value} {n : Nat} {xs : List Value} (h : w.ownsRow B e z v n xs) : ∃ a c, v = .slice a n c := by
  rcases h.2 with ⟨h, h0⟩ | ⟨g, cap, cur, h, _⟩
  · exact ⟨none, 0, by rw [h, h0]⟩
  · exact ⟨_, cap, h⟩
theorem own_posS {w : World} {B e z : Nat} {v : Value} {n : Nat} {xs : List Value} (h : w.ownsRow B e z v n xs) (hn : 0 < n) : ∃ g cap, v = .slice (some ⟨g, 0, none⟩) n cap ∧ n ≤ cap := by
  rcases h.2 with ⟨_, h0⟩ | ⟨g, cap, cur, hv, _, _, hc, _⟩
  · omega
  · exact ⟨g, cap, hv, hc⟩
theorem cellTwoS {w : World} {x y : Value} {t : TypeId} : ∀ j u, [x, y][j]? = some u → (w.alloc (.cells #[x, y] t)).cell? ((⟨w.heap.size, 0, none⟩ : Addr).add j) = some u := fun j u hu => by
  rw [Addr.add_lit, Nat.zero_add, cell_of_row _ _ j _ _ (0, 0) (MapKept.heap_alloc w _).1]
  match j, hu with
  | 0, hu => exact hu
  | 1, hu => exact hu

/-- a pair's slices, in memory that nothing has frozen, and not too great -/
def FT (w : World) (e : PE Ty) : Prop := RowZ 4 w (TyW w e.n) e.va e.p.la ∧ RowZ 4 w (TyW w e.n) e.vb e.p.lb ∧ bulkA (Ty.bulk e.n) e.p.la ≤ 1048577
theorem FT.det {w : World} {e f : PE Ty} (h : FT w e) (k : FT w f) (hk : e.key = f.key) : e.p = f.p := by
  obtain ⟨aa, ac, ba, bc, ⟨la, lb⟩, n⟩ := e
  obtain ⟨aa', ac', ba', bc', ⟨la', lb'⟩, n'⟩ := f
  simp only [PE.key, KeyP.mk.injEq] at hk
  obtain ⟨rfl, h2, rfl, h4⟩ := hk
  have l2 : la.length = la'.length := by omega
  have l4 : lb.length = lb'.length := by omega
  have h1 : RowZ 4 w (TyW w n) (.slice aa la.length ac) la := h.1
  have h3 : RowZ 4 w (TyW w n) (.slice ba lb.length bc) lb := h.2.1
  have k1 : RowZ 4 w (TyW w n') (.slice aa la'.length ac') la' := k.1
  have k3 : RowZ 4 w (TyW w n') (.slice ba lb'.length bc') lb' := k.2.1
  rw [← l2] at k1
  rw [← l4] at k3
  have e1 := h1.det k1 (fun _ _ h => h.len) (fun _ _ h => h.len) fun _ _ _ h k => h.det k
  have e2 := h3.det k3 (fun _ _ h => h.len) (fun _ _ h => h.len) fun _ _ _ h k => h.det k
  rw [e1, e2]
set_option maxHeartbeats 6400000 in
set_option maxRecDepth 100000 in
open Classical in
theorem implTreesT (root : PE Ty) (w : World) (hf : FT w root) :
    Calls Try.prog 33 #[root.va, root.vb, .func (.func 32) #[] #[], .func (.func 34) #[] #[]] w fun e w' => e = .returned (.bool (decide (SameL TyHs Ty.kids root.p.la root.p.lb))) ∧ Below w.heap.size w w' := by
  obtain ⟨i0, hi0, hz0, hz1, hz2⟩ := info_parts Try.infoPairT
  have hc : costS Ty.kids [root] ≤ 1048578 := by
    have h1 := costT_le root.n root.va root.p.la hf.1
    have h2 := hf.2.2
    simp only [costS, List.map_cons, List.map_nil, List.sum_cons, List.sum_nil]
    omega
  have hmm := @run_makeMap Try.prog
  have hz1' : (w.alloc (.cells #[root.va, root.vb] 75)).heap.size = w.heap.size + 1 := by simp
  have hM0 : StM (FT w) 75 w ((w.alloc (.cells #[root.va, root.vb] 75)).alloc (.map #[] 0)) (w.heap.size + 1) [] [] (.slice (some ⟨w.heap.size, 0, none⟩) 1 1) [root] := by
    have hA : Below w.heap.size w (w.alloc (.cells #[root.va, root.vb] 75)) := (Below.refl _ _).alloc (Nat.le_refl _) _
    have hm := (MapKept.heap_alloc (w.alloc (.cells #[root.va, root.vb] 75)) (.map #[] 0)).1
    rw [hz1'] at hm
    refine ⟨KMapP.made hm, Nat.le_succ _, fun p hp => (List.not_mem_nil hp).elim, fun k v h => (by cases h), ⟨rfl, .inr ⟨w.heap.size, 1, #[root.va, root.vb], rfl, Nat.le_refl _, ?_, Nat.le_refl _, by decide, rfl, rfl⟩⟩, fun e he => ?_, hA.alloc (by omega) _⟩
    · exact (Below.heap_alloc _ _ _ (by omega)).trans (MapKept.heap_alloc w _).1
    · rw [List.mem_singleton.1 he]
      exact hf
  have HM0 : Hid (type_of% hM0) := hM0
  have HI0 : Hid (SmInv TyHs Ty.kids root.p ([root].map PE.p) []) := SmInv.start
  have HC0 : Hid (type_of% hc) := hc
  have HRP : Hid (root.p = root.p) := rfl
  obtain ⟨rp, hrp⟩ : ∃ rp, rp = root.p := ⟨_, rfl⟩
  rw [← hrp] at HI0 ⊢
  clear hM0 hc hf hrp HRP hz1'
  show Calls Try.prog 33 #[.slice root.aa root.p.la.length root.ac, .slice root.ba root.p.lb.length root.bc, .func (.func 32) #[] #[], .func (.func 34) #[] #[]] w _
  go_enter Try.func33, Try.ntmps33
  go_wp2_with fail
  clear hmm
  go_loopg [9] (costS Ty.kids [root]) (fun k s9 wr => ∃ (D : List (KeyP × Int)) (Dp : List (PairL Ty)) (S : List (PE Ty)), SmInv TyHs Ty.kids rp (S.map PE.p) Dp ∧ StM (FT w) 75 w wr (w.heap.size + 1) D Dp s9 S ∧ costS Ty.kids S = k ∧ k ≤ 1048578)
  case atStart => exact ⟨[], [], [root], HI0.out, HM0.out, rfl, HC0.out⟩
  case round =>
    clear HM0 HI0 HC0
    obtain ⟨D, Dp, S, hI, hM, hk, hkT⟩ := hrel
    obtain ⟨wo, rfl⟩ : ∃ wo, wo = wr := ⟨_, rfl⟩
    rcases List.eq_nil_or_concat S with hS | ⟨S', e, hS⟩
    · subst hS
      obtain ⟨av, cv, hv⟩ := own_sliceS hM.stk
      subst hv
      have HR : Hid (decide (SameL TyHs Ty.kids rp.la rp.lb) = true) := decide_eq_true hI.yes
      have hbel := hM.bel
      clear hI hM hk
      go_wp2_with fail
      go_ret
      exact ⟨by rw [HR.out]; rfl, hbel⟩
    · rw [List.concat_eq_append] at hS
      subst hS
      obtain ⟨aa, ac, ba, bc, ⟨la, lb⟩, n⟩ := e
      have hrow := hM.stk
      rw [List.length_append, List.length_singleton, flatPE_app] at hrow
      have hl1 : (S' ++ [(⟨aa, ac, ba, bc, ⟨la, lb⟩, n⟩ : PE Ty)]).length = S'.length + 1 := by simp
      obtain ⟨gs, cs, hv, hcap⟩ := own_posS hrow (by omega)
      subst hv
      have hfl := flatPE_length S'
      have c0 : wo.cell? ⟨gs, S'.length * 2, none⟩ = some (.slice aa la.length ac) := by
        rw [hrow.cellAt (S'.length * 2) (by omega), List.getElem?_append_right (by omega), hfl, Nat.sub_self]
        rfl
      have c1 : wo.cell? ⟨gs, S'.length * 2 + 1, none⟩ = some (.slice ba lb.length bc) := by
        rw [hrow.cellAt (S'.length * 2 + 1) (by omega), List.getElem?_append_right (by omega), hfl, Nat.add_sub_cancel_left]
        rfl
      have hfe := hM.fit _ (List.mem_append_right _ (List.mem_singleton.2 rfl))
      rw [List.map_append, List.map_singleton] at hI
      have hI' : SmInv TyHs Ty.kids rp (S'.map PE.p ++ [⟨la, lb⟩]) Dp := hI
      have hcs := costS_len Ty.kids (S' ++ [(⟨aa, ac, ba, bc, ⟨la, lb⟩, n⟩ : PE Ty)])
      have hSl : S'.length ≤ 1048578 := by omega
      have hli : (S'.length : Int) < ((S'.length + 1 : Nat) : Int) := by omega
      have h0i : (0 : Int) ≤ (S'.length : Int) := by omega
      have hcapi : (S'.length : Int) ≤ (cs : Int) := by omega
      have hpop := StM.pop (S := S') (e := ⟨aa, ac, ba, bc, ⟨la, lb⟩, n⟩) (g := gs) (cap := cs) (by first | exact hM | simpa using hM)
      have HPOP : Hid (type_of% hpop) := hpop
      have HI : Hid (type_of% hI') := hI'
      have HFE : Hid (type_of% hfe) := hfe
      have HK : Hid (type_of% hk) := hk
      have hbo := hM.bel
      clear hI hI' hM hrow hfl hfe hpop hk hcs hl1
      by_cases hlen : la.length = lb.length
      rotate_left
      · have HR : Hid (decide (SameL TyHs Ty.kids rp.la rp.lb) = false) := decide_eq_false (HI.out.no fun h => hlen h.1)
        have hni : ¬ (la.length : Int) = (lb.length : Int) := by omega
        clear HI HFE HK HPOP hlen
        go_wp2_with fail
        go_region
        all_goals
          go_wp2_with fail
          go_ret
          exact ⟨by rw [HR.out]; rfl, hbo.drew⟩
      have HLEN : Hid (type_of% hlen) := hlen
      have cle : ((la.length : Int) == (lb.length : Int)) = true := by rw [beq_iff_eq]; omega
      have cln : ((la.length : Int) != (lb.length : Int)) = false := by rw [bne_eq_false_iff_eq]; omega
      by_cases hnil : la = []
      · subst hnil
        obtain rfl : lb = [] := List.length_eq_zero_iff.1 hlen.symm
        have HI2 : Hid (type_of% (HI.out.skip (.inr ⟨rfl, rfl⟩))) := HI.out.skip (.inr ⟨rfl, rfl⟩)
        have HLT : Hid (costS Ty.kids S' < gk) := by
          have h1 := HK.out
          rw [costS_app] at h1
          have h2 := costS_len Ty.kids [(⟨aa, ac, ba, bc, ⟨[], []⟩, n⟩ : PE Ty)]
          simp only [List.length_singleton] at h2
          show _ < _
          omega
        have HP2 : Hid (type_of% (HPOP.out.below ((Below.refl _ _).drew))) := HPOP.out.below ((Below.refl _ _).drew)
        clear HI HFE HK HPOP hlen HLEN
        simp only [List.length_nil] at c0 c1
        go_wp2_with fail
        go_region
        all_goals
          go_wp2_with fail
          go_roundg (costS Ty.kids S')
          case rel => exact ⟨D, Dp, S', HI2.out, HP2.out, rfl, by have := HLT.out; omega⟩
          case measure => exact HLT.out
      have hpos : 0 < la.length := List.length_pos_iff.2 hnil
      obtain ⟨m, rfl⟩ : ∃ m, n = m + 1 := by
        cases n with
        | succ m => exact ⟨m, rfl⟩
        | zero =>
          obtain ⟨_, _, _, hop⟩ := HFE.out.1.open (fun cs t h => by rw [h.len]; decide)
          obtain ⟨_, _, _, _, _, _, h, _⟩ := hop 0 hpos
          exact h.elim
      obtain ⟨av, cv, hv1, hopa⟩ := HFE.out.1.open (fun cs t h => by rw [h.len]; decide)
      obtain ⟨bv, dv, hv2, hopb⟩ := HFE.out.2.1.open (fun cs t h => by rw [h.len]; decide)
      have hv1' : Value.slice aa la.length ac = .slice av la.length cv := hv1
      have hv2' : Value.slice ba lb.length bc = .slice bv lb.length dv := hv2
      simp only [Value.slice.injEq, true_and] at hv1' hv2'
      obtain ⟨rfl, rfl⟩ := hv1'
      obtain ⟨rfl, rfl⟩ := hv2'
      obtain ⟨b1, o1, q1, ha1, hb1, hr1, hx1, hy1⟩ := hopa 0 hpos
      obtain ⟨b2, o2, q2, ha2, hb2, hr2, hx2, hy2⟩ := hopb 0 (by show 0 < lb.length; omega)
      have hpos2 : 0 < lb.length := by omega
      have HOA : Hid (type_of% hopa) := hopa
      have HOB : Hid (type_of% hopb) := hopb
      have hrw : ∀ X : World, Below w.heap.size w X → KeyP.rows X ⟨aa, la.length, ba, lb.length⟩ := fun X hX => by
        refine ⟨fun x hx => ?_, fun x hx => ?_⟩
        · rw [ha1] at hx
          obtain rfl := Option.some.inj hx
          obtain ⟨c, T, q⟩ := hr1
          exact ⟨c, T, (hX.block _ hb1).trans q⟩
        · rw [ha2] at hx
          obtain rfl := Option.some.inj hx
          obtain ⟨c, T, q⟩ := hr2
          exact ⟨c, T, (hX.block _ hb2).trans q⟩
      have hlow : (∀ x, aa = some x → x.block < w.heap.size) ∧ ∀ x, ba = some x → x.block < w.heap.size := by
        refine ⟨fun x hx => ?_, fun x hx => ?_⟩
        · rw [ha1] at hx
          obtain rfl := Option.some.inj hx
          exact hb1
        · rw [ha2] at hx
          obtain rfl := Option.some.inj hx
          exact hb2
      have HRW : Hid (type_of% hrw) := hrw
      have HLOW : Hid (type_of% hlow) := hlow
      have HP1 : Hid (∀ X : World, Calls Try.prog 43 #[.slice aa la.length ac] X fun e w' => e = .returned (.agg #[.pointer aa, .int .i64 la.length]) ∧ Below X.heap.size X w') := fun X => implPlaceT aa b1 o1 la.length ac X ha1 hpos
      have HP2 : Hid (∀ X : World, Calls Try.prog 43 #[.slice ba lb.length bc] X fun e w' => e = .returned (.agg #[.pointer ba, .int .i64 lb.length]) ∧ Below X.heap.size X w') := fun X => implPlaceT ba b2 o2 lb.length bc X ha2 hpos2
      have hz : ((la.length : Int) == 0) = false := by rw [beq_eq_false_iff_ne]; omega
      clear hx1 hy1 hx2 hy2 hv1 hv2 hopa hopb ha1 ha2 hb1 hb2 hr1 hr2 hrw hlow hlen hnil
      go_wp2_with fail
      go_region
      go_wp2_with fail
      refine (HP1.out _).mono ?_
      rintro e9 w2 ⟨rfl, hb2⟩
      go_wp2_with fail
      refine (HP2.out _).mono ?_
      rintro e9 w3 ⟨rfl, hb3⟩
      have hB3 : Below wo.heap.size wo (w3.alloc (.cells #[.pointer aa, .int .i64 la.length, .pointer ba, .int .i64 lb.length] 83)) := ((Below.refl _ _).drew.trans (hb2.trans (hb3.mono hb2.size))).alloc (Nat.le_trans hb2.size hb3.size) _
      have hM3 := HPOP.out.below hB3
      have hR3 := HRW.out _ hM3.bel
      have hlk : (Instr.lookup 77 (.map (some (w.heap.size + 1))) (.agg #[.pointer aa, .int .i64 la.length, .pointer ba, .int .i64 lb.length]) false).run Try.prog (w3.alloc (.cells #[.pointer aa, .int .i64 la.length, .pointer ba, .int .i64 lb.length] 83)) = .ok (.int .i64 ((lookKP D ⟨aa, la.length, ba, lb.length⟩).getD 0)) (w3.alloc (.cells #[.pointer aa, .int .i64 la.length, .pointer ba, .int .i64 lb.length] 83)) := run_lookup_stopPT hM3.map ⟨aa, la.length, ba, lb.length⟩ hR3
      have HM3 : Hid (type_of% hM3) := hM3
      clear HP1 HP2 hB3 hb2 hb3 c0 c1 hbo
      cases hlook : lookKP D ⟨aa, la.length, ba, lb.length⟩ with
      | some v =>
        obtain ⟨rfl, e', h1, h2, h3⟩ := hM3.seen _ _ hlook
        have hp : e'.p = ⟨la, lb⟩ := FT.det h1 HFE.out (by rw [h2]; rfl)
        rw [hp] at h3
        rw [hlook] at hlk
        have HI2 : Hid (type_of% (HI.out.skip (.inl h3))) := HI.out.skip (.inl h3)
        have HLT : Hid (costS Ty.kids S' < gk) := by
          have h1 := HK.out
          rw [costS_app] at h1
          have h2 := costS_len Ty.kids [(⟨aa, ac, ba, bc, ⟨la, lb⟩, m + 1⟩ : PE Ty)]
          simp only [List.length_singleton] at h2
          show _ < _
          omega
        clear HI HFE HK HPOP hM3 h1 h2 h3 hp hR3 HRW HLOW HOA HOB HLEN hlook
        go_wp2_with fail
        go_roundg (costS Ty.kids S')
        case rel => exact ⟨D, Dp, S', HI2.out, HM3.out, rfl, by have := HLT.out; omega⟩
        case measure => exact HLT.out
      | none =>
        rw [hlook] at hlk
        obtain ⟨w4, hup, hm4, hb4⟩ := run_update_stopPT hM3.map ⟨aa, la.length, ba, lb.length⟩ hR3 1
        have hup' : (Instr.mapUpdate 77 (.map (some (w.heap.size + 1))) (.agg #[.pointer aa, .int .i64 la.length, .pointer ba, .int .i64 lb.length]) (.int .i64 1)).run Try.prog (w3.alloc (.cells #[.pointer aa, .int .i64 la.length, .pointer ba, .int .i64 lb.length] 83)) = .ok () w4 := hup
        have hM4 := hM3.put (e := ⟨aa, ac, ba, bc, ⟨la, lb⟩, m + 1⟩) HFE.out HLOW.out hm4 hb4
        have HM4 : Hid (type_of% hM4) := hM4
        have hcl : costS Ty.kids S' + costL Ty.kids (m + 1) la = gk := by
          have h1 := HK.out
          rw [costS_app] at h1
          simpa [costS] using h1
        have HCL : Hid (type_of% hcl) := hcl
        clear hM3 HM3 hup hm4 hb4 hR3 HRW HLOW hlook HK hM4 hcl HPOP
        generalize hD1 : setKP D (PE.key ⟨aa, ac, ba, bc, ⟨la, lb⟩, m + 1⟩) 1 = D1 at *
        clear hD1
        go_wp2_with fail
        go_loopw [9, 61] (fun s9 i wr => ∃ (j : Nat) (K : List (PE Ty)), j ≤ la.length ∧ i = .int .i64 j ∧ (∀ k (h : k < la.length) (h' : k < lb.length), k < j → TyHs la[k] lb[k]) ∧ K.map PE.p = (((la.zip lb).take j).map fun x => (⟨Ty.kids x.1, Ty.kids x.2⟩ : PairL Ty)) ∧ costS Ty.kids K + ((la.drop j).map fun a => costL Ty.kids m a.kids).sum + 1 = costL Ty.kids (m + 1) la ∧ StM (FT w) 75 w wr (w.heap.size + 1) D1 (⟨la, lb⟩ :: Dp) s9 (S' ++ K)) (fun _ i _ => la.length - (intOf i).toNat)
        case atStart => exact ⟨0, [], Nat.zero_le _, rfl, fun k _ _ h => absurd h (by omega), rfl, by simp [costS, costL]; omega, by rw [List.append_nil]; exact HM4.out⟩
        case round =>
          clear HM4
          obtain ⟨j, K, hj, rfl, hh, hKp, hcost, hM⟩ := hrel
          obtain ⟨wi, rfl⟩ : ∃ wi, wi = wr := ⟨_, rfl⟩
          obtain ⟨av, cv, hv⟩ := own_sliceS hM.stk
          subst hv
          have HM : Hid (type_of% hM) := hM
          have HH : Hid (type_of% hh) := hh
          have HKP : Hid (type_of% hKp) := hKp
          have HCO : Hid (type_of% hcost) := hcost
          have hbi := hM.bel
          have hlenK : (S' ++ K).length ≤ 1048578 := by
            have h1 := costS_len Ty.kids (S' ++ K)
            rw [costS_app] at h1
            have h2 := HCL.out
            omega
          obtain ⟨NK, hNK⟩ : ∃ NK, NK = (S' ++ K).length := ⟨_, rfl⟩
          have hrow := hM.stk
          rw [← hNK] at hrow hlenK ⊢
          have HNK : Hid ((S' ++ K).length = NK) := hNK.symm
          clear hM hh hKp hcost hNK
          have hla : la.length ≤ 1048577 := by
            have h1 : bulkA (Ty.bulk (m + 1)) la ≤ 1048577 := HFE.out.2.2
            unfold bulkA at h1
            omega
          by_cases hlt : j < la.length
          · have hlt2 : j < lb.length := by rw [← HLEN.out]; exact hlt
            obtain ⟨b1, o1, l1, h1a, hb1, _, ht1, p1⟩ := HOA.out j hlt
            obtain ⟨b2, o2, l2, h2a, hb2, _, ht2, p2⟩ := HOB.out j hlt2
            subst h1a
            subst h2a
            have HC : Hid (∀ X : World, Below w.heap.size w X → Calls Try.prog 32 #[.agg l1.toArray, .agg l2.toArray] X fun e w' => e = .returned (.bool (decide (TyHs la[j] lb[j]))) ∧ Below X.heap.size X w') := fun X hX => implHsTy (m + 1) l1 l2 la[j] lb[j] X (ht1.below hX).at (ht2.below hX).at (by
              have h1 : bulkA (Ty.bulk (m + 1)) la ≤ 1048577 := HFE.out.2.2
              have h2 := bulkA_one1 (Ty.bulk (m + 1)) la j hlt
              have h3 : la[j].names.length ≤ Ty.bulk (m + 1) la[j] := by rw [Ty.bulk]; omega
              omega)
            obtain ⟨vn, vk, e1, _, _, _, _, hk1⟩ := ht1
            obtain ⟨vn', vk', e2, _, _, _, _, hk2⟩ := ht2
            subst e1
            subst e2
            obtain ⟨ka, kc, rfl, _⟩ := hk1.open (fun cs t h => by rw [h.len]; decide)
            obtain ⟨kb, kd, rfl, _⟩ := hk2.open (fun cs t h => by rw [h.len]; decide)
            have HFN : Hid (FT w ⟨ka, kc, kb, kd, ⟨la[j].kids, lb[j].kids⟩, m⟩) := ⟨hk1, hk2, by
              have h1 : bulkA (Ty.bulk (m + 1)) la ≤ 1048577 := HFE.out.2.2
              have h2 := bulkA_one1 (Ty.bulk (m + 1)) la j hlt
              have h3 : bulkA (Ty.bulk m) la[j].kids ≤ Ty.bulk (m + 1) la[j] := by rw [Ty.bulk]; unfold bulkA sumA; omega
              show bulkA (Ty.bulk m) la[j].kids ≤ 1048577
              omega⟩
            have HP : Hid (∀ X : World, Below w.heap.size w X → X.cell? ⟨b1, o1 + j * 4, none⟩ = some (.int .i64 la[j].kind) ∧ X.cell? ⟨b1, o1 + j * 4 + 1, none⟩ = some (.string la[j].name) ∧ X.cell? ⟨b1, o1 + j * 4 + 2, none⟩ = some (vn) ∧ X.cell? ⟨b1, o1 + j * 4 + 3, none⟩ = some (.slice ka la[j].kids.length kc) ∧ X.cell? ⟨b2, o2 + j * 4, none⟩ = some (.int .i64 lb[j].kind) ∧ X.cell? ⟨b2, o2 + j * 4 + 1, none⟩ = some (.string lb[j].name) ∧ X.cell? ⟨b2, o2 + j * 4 + 2, none⟩ = some (vn') ∧ X.cell? ⟨b2, o2 + j * 4 + 3, none⟩ = some (.slice kb lb[j].kids.length kd)) := fun X hX => ⟨(hX.cell (p := ⟨b1, o1 + j * 4 + 0, none⟩) hb1).trans (p1 0 _ rfl), (hX.cell (p := ⟨b1, o1 + j * 4 + 1, none⟩) hb1).trans (p1 1 _ rfl), (hX.cell (p := ⟨b1, o1 + j * 4 + 2, none⟩) hb1).trans (p1 2 _ rfl), (hX.cell (p := ⟨b1, o1 + j * 4 + 3, none⟩) hb1).trans (p1 3 _ rfl), (hX.cell (p := ⟨b2, o2 + j * 4 + 0, none⟩) hb2).trans (p2 0 _ rfl), (hX.cell (p := ⟨b2, o2 + j * 4 + 1, none⟩) hb2).trans (p2 1 _ rfl), (hX.cell (p := ⟨b2, o2 + j * 4 + 2, none⟩) hb2).trans (p2 2 _ rfl), (hX.cell (p := ⟨b2, o2 + j * 4 + 3, none⟩) hb2).trans (p2 3 _ rfl)⟩
            have HHE : Hid (TyHs la[j] lb[j] → ∀ k (h : k < la.length) (h' : k < lb.length), k < j + 1 → TyHs la[k] lb[k]) := fun e k h h' hk => by
              by_cases c : k < j
              · exact HH.out k h h' c
              · obtain rfl : k = j := by omega
                exact e
            have HNO : Hid (¬ TyHs la[j] lb[j] → decide (SameL TyHs Ty.kids rp.la rp.lb) = false) := fun hn => decide_eq_false (HI.out.no fun h => hn (h.2 j hlt hlt2))
            have HKN : Hid ((K ++ [(⟨ka, kc, kb, kd, ⟨la[j].kids, lb[j].kids⟩, m⟩ : PE Ty)]).map PE.p = ((la.zip lb).take (j + 1)).map fun x => (⟨Ty.kids x.1, Ty.kids x.2⟩ : PairL Ty)) := by
              show _ = _
              have hz : j < (la.zip lb).length := by rw [List.length_zip]; omega
              rw [List.take_succ_eq_append_getElem hz, List.map_append, List.map_append, HKP.out, List.getElem_zip]
              rfl
            have HCN : Hid (costS Ty.kids (K ++ [(⟨ka, kc, kb, kd, ⟨la[j].kids, lb[j].kids⟩, m⟩ : PE Ty)]) + ((la.drop (j + 1)).map fun a => costL Ty.kids m a.kids).sum + 1 = costL Ty.kids (m + 1) la) := by
              show _ = _
              have h1 := HCO.out
              rw [List.drop_eq_getElem_cons hlt, List.map_cons, List.sum_cons] at h1
              rw [costS_app]
              have h2 : costS Ty.kids [(⟨ka, kc, kb, kd, ⟨la[j].kids, lb[j].kids⟩, m⟩ : PE Ty)] = costL Ty.kids m la[j].kids := by simp [costS]
              omega
            obtain ⟨r0, r1, r2, r3, r4, r5, r6, r7⟩ := HP.out wi hbi
            have hj0 : (0 : Int) ≤ j := by omega
            have hj1 : (j : Int) < la.length := by omega
            have hj2 : (j : Int) < lb.length := by omega
            clear hk1 hk2 p1 p2 HH HKP HCO HOA HOB HI
            by_cases hs : TyHs la[j] lb[j]
            rotate_left
            · have x9 : decide (TyHs la[j] lb[j]) = false := decide_eq_false hs
              rw [x9] at HC
              have HR : Hid (type_of% (HNO.out hs)) := HNO.out hs
              clear HNO HHE HKN HCN HFN HM HNK hrow hs
              go_wp2_with fail
              go_region_with (go_at_call 32; refine (HC.out _ hbi.drew).mono ?_; rintro e w5 ⟨rfl, hb5⟩)
              all_goals
                go_wp2_with fail
                go_ret
                exact ⟨by rw [HR.out]; rfl, hbi.drew.trans (hb5.mono hbi.size)⟩
            have x9 : decide (TyHs la[j] lb[j]) = true := decide_eq_true hs
            rw [x9] at HC
            have HHE2 : Hid (type_of% (HHE.out hs)) := HHE.out hs
            clear HNO HHE hs x9
            go_wp2_with fail
            have hqi := HP.out wi hbi
            have hqid := HP.out wi.drew hbi.drew
            go_region_held3 (fun w' => w'.cell? ⟨b1, o1 + j * 4, none⟩ = some (.int .i64 la[j].kind) ∧ w'.cell? ⟨b1, o1 + j * 4 + 1, none⟩ = some (.string la[j].name) ∧ w'.cell? ⟨b1, o1 + j * 4 + 2, none⟩ = some (vn) ∧ w'.cell? ⟨b1, o1 + j * 4 + 3, none⟩ = some (.slice ka la[j].kids.length kc) ∧ w'.cell? ⟨b2, o2 + j * 4, none⟩ = some (.int .i64 lb[j].kind) ∧ w'.cell? ⟨b2, o2 + j * 4 + 1, none⟩ = some (.string lb[j].name) ∧ w'.cell? ⟨b2, o2 + j * 4 + 2, none⟩ = some (vn') ∧ w'.cell? ⟨b2, o2 + j * 4 + 3, none⟩ = some (.slice kb lb[j].kids.length kd))
              (first
                | with_reducible exact hqi
                | with_reducible exact hqid
                | (revert hq5'; intro hq5'; with_reducible exact hq5')
                | (revert hq6'; intro hq6'; with_reducible exact hq6')
              )
              (first
                | (go_at_call 32; with_reducible refine (HC.out _ hbi).mono ?_; rintro e w5 ⟨rfl, hb5⟩; have hbi5 : Below wi.heap.size wi w5 := hb5; have hq5' := HP.out w5 (hbi.trans (hbi5.mono hbi.size)); have hq6' := HP.out w5.drew (hbi.trans (hbi5.mono hbi.size)).drew)
                | (go_at_call 32; refine (HC.out _ hbi.drew).mono ?_; rintro e w5 ⟨rfl, hb5⟩; have hbi5 : Below wi.heap.size wi w5 := (Below.refl _ _).drew.trans hb5; have hq5' := HP.out w5 (hbi.trans (hbi5.mono hbi.size)); have hq6' := HP.out w5.drew (hbi.trans (hbi5.mono hbi.size)).drew))
            have hM5 := HM.out.below hbi5
            have hq5 := HP.out w5 hM5.bel
            have hq5d := HP.out w5.drew hM5.bel.drew
            have hbw5 := hM5.bel
            have HM5 : Hid (type_of% hM5) := hM5
            clear r0 r1 r2 r3 r4 r5 r6 r7 HC HM hb5 hbi5 hM5 hbi hrow hqi hqid hq5' hq6'
            go_wp2_with fail
            go_region_held3 (fun w' => w'.cell? ⟨b1, o1 + j * 4, none⟩ = some (.int .i64 la[j].kind) ∧ w'.cell? ⟨b1, o1 + j * 4 + 1, none⟩ = some (.string la[j].name) ∧ w'.cell? ⟨b1, o1 + j * 4 + 2, none⟩ = some (vn) ∧ w'.cell? ⟨b1, o1 + j * 4 + 3, none⟩ = some (.slice ka la[j].kids.length kc) ∧ w'.cell? ⟨b2, o2 + j * 4, none⟩ = some (.int .i64 lb[j].kind) ∧ w'.cell? ⟨b2, o2 + j * 4 + 1, none⟩ = some (.string lb[j].name) ∧ w'.cell? ⟨b2, o2 + j * 4 + 2, none⟩ = some (vn') ∧ w'.cell? ⟨b2, o2 + j * 4 + 3, none⟩ = some (.slice kb lb[j].kids.length kd))
              (first
                | with_reducible exact hq5
                | with_reducible exact hq5d
                | (revert qa; intro qa; with_reducible exact qa)
                | (revert qad; intro qad; with_reducible exact qad)
                | (revert qb; intro qb; with_reducible exact qb)
                | (revert qbd; intro qbd; with_reducible exact qbd)
                | (revert qc; intro qc; with_reducible exact qc)
                | (revert qcd; intro qcd; with_reducible exact qcd)
                | (revert qe; intro qe; with_reducible exact qe)
              )
              (first
                | (revert bB; intro bB; refine step_append_ownS rfl (.tmp 75) (.tmp 89) 76 rfl w.heap.size 75 i0 (.agg #[.slice none 0 0, .slice none 0 0]) 2 48 Try.underlying76 hi0 hz0 hz1 hz2 rfl (by decide) _ _ _ rfl oc ⟨w7.heap.size, 0, none⟩ 1 1 [.slice ka la[j].kids.length kc, .slice kb lb[j].kids.length kd] rfl rfl cC (by intro u hu; simp at hu; rcases hu with rfl | rfl <;> rfl) (by unfold maxLen; omega) (by omega) (by have := hbC.size; omega) ?_; intro v8 w8 ho8 hg8' h8; have hg8 : (w7.alloc (.cells #[.slice ka la[j].kids.length kc, .slice kb lb[j].kids.length kd] 75)).grownBy w8 (Value.slice av NK cv).ownBlock := hg8'; have hb8 : Below w.heap.size w w8 := hbC.grown hg8 hbC.size (fun g hg => (oc.lt g hg).1); have qe := HP.out w8 hb8)
                | (revert bA; intro bA; go_at_call 34; refine (implKidsTy _ _ _ _  w6).mono ?_; rintro e w7 ⟨rfl, hb7⟩; have bB := hbA.trans (hb7.mono hbA.size); have qb := HP.out w7 bB; have qbd := HP.out w7.drew bB.drew; have hM7 := hMA.below hb7; have hAl : Below w7.heap.size w7 (w7.alloc (.cells #[.slice ka la[j].kids.length kc, .slice kb lb[j].kids.length kd] 75)) := (Below.refl _ _).alloc (Nat.le_refl _) _; have HMC := hM7.below hAl; have hbC := HMC.bel; have qc := HP.out _ hbC; have qcd := HP.out _ hbC.drew; have oc := HMC.stk; rw [HNK.out] at oc; have cC := cellTwoS (w := w7) (t := 75) (x := .slice ka la[j].kids.length kc) (y := .slice kb lb[j].kids.length kd))
                | (go_at_call 34; refine (implKidsTy _ _ _ _  _).mono ?_; rintro e w6 ⟨rfl, hb6⟩; have bA : Below w5.heap.size w5 w6 := (by first | exact hb6 | exact (Below.refl _ _).drew.trans hb6); have hMA := HM5.out.below bA; have hbA := hMA.bel; have qa := HP.out w6 hbA; have qad := HP.out w6.drew hbA.drew))
            all_goals
              have hm8 : StM (FT w) 75 w w8 (w.heap.size + 1) D1 (⟨la, lb⟩ :: Dp) v8 ((S' ++ K) ++ [⟨ka, kc, kb, kd, ⟨la[j].kids, lb[j].kids⟩, m⟩]) := by
                have h := HMC
                rw [HNK.out] at h
                exact StM.push h HFN.out (by rw [HNK.out]; exact ho8) hg8
              have HM8 : Hid (type_of% hm8) := hm8
              obtain ⟨a8, c8, hv8⟩ := own_sliceS ho8
              subst hv8
              clear hm8 hg8 hg8' ho8 h8 qe hb8 HMC hMA hM7 HM5 oc cC
              go_wp2_with fail
              go_roundw
              case rel => exact ⟨j + 1, K ++ [⟨ka, kc, kb, kd, ⟨la[j].kids, lb[j].kids⟩, m⟩], by omega, by go_num, HHE2.out, HKN.out, HCN.out, by rw [← List.append_assoc]; exact HM8.out⟩
              case measure => simp [intOf]; omega
          · have hje : j = la.length := by omega
            have HI2 : Hid (SmInv TyHs Ty.kids rp ((S' ++ K).map PE.p) (⟨la, lb⟩ :: Dp)) := by
              have h1 := HI.out.step HLEN.out fun k h h' => HH.out k h h' (by rw [hje]; exact h)
              rw [List.map_append, HKP.out, hje, List.take_of_length_le (by rw [List.length_zip]; exact Nat.min_le_left _ _)]
              exact h1
            have HLT : Hid (costS Ty.kids (S' ++ K) < gk) := by
              have h1 := HCO.out
              have h2 := HCL.out
              show _ < _
              rw [costS_app]
              omega
            have HM9 : Hid (StM (FT w) 75 w wi (w.heap.size + 1) D1 (⟨la, lb⟩ :: Dp) (.slice av NK cv) (S' ++ K)) := by have := HM.out; rwa [HNK.out] at this
            clear hje HI HH HKP HCO HM HOA HOB HNK hrow HFE
            go_wp2_with fail
            go_roundg (costS Ty.kids (S' ++ K))
            case rel => exact ⟨D1, _, S' ++ K, HI2.out, HM9.out, rfl, by have := HLT.out; omega⟩
            case measure => exact HLT.out

/-- a pair's slices, in memory that nothing has frozen, and not too great -/
def FX (w : World) (e : PE Xp) : Prop := RowZ 6 w (XpW w e.n) e.va e.p.la ∧ RowZ 6 w (XpW w e.n) e.vb e.p.lb ∧ bulkA (Xp.bulk e.n) e.p.la ≤ 1048577
theorem FX.det {w : World} {e f : PE Xp} (h : FX w e) (k : FX w f) (hk : e.key = f.key) : e.p = f.p := by
  obtain ⟨aa, ac, ba, bc, ⟨la, lb⟩, n⟩ := e
  obtain ⟨aa', ac', ba', bc', ⟨la', lb'⟩, n'⟩ := f
  simp only [PE.key, KeyP.mk.injEq] at hk
  obtain ⟨rfl, h2, rfl, h4⟩ := hk
  have l2 : la.length = la'.length := by omega
  have l4 : lb.length = lb'.length := by omega
  have h1 : RowZ 6 w (XpW w n) (.slice aa la.length ac) la := h.1
  have h3 : RowZ 6 w (XpW w n) (.slice ba lb.length bc) lb := h.2.1
  have k1 : RowZ 6 w (XpW w n') (.slice aa la'.length ac') la' := k.1
  have k3 : RowZ 6 w (XpW w n') (.slice ba lb'.length bc') lb' := k.2.1
  rw [← l2] at k1
  rw [← l4] at k3
  have e1 := h1.det k1 (fun _ _ h => h.len) (fun _ _ h => h.len) fun _ _ _ h k => h.det k
  have e2 := h3.det k3 (fun _ _ h => h.len) (fun _ _ h => h.len) fun _ _ _ h k => h.det k
  rw [e1, e2]
set_option maxHeartbeats 6400000 in
set_option maxRecDepth 100000 in
open Classical in
theorem implTreesX (root : PE Xp) (w : World) (hf : FX w root) :
    Calls Try.prog 36 #[root.va, root.vb, .func (.func 35) #[] #[], .func (.func 37) #[] #[]] w fun e w' => e = .returned (.bool (decide (SameL XpHs Xp.kids root.p.la root.p.lb))) ∧ Below w.heap.size w w' := by
  obtain ⟨i0, hi0, hz0, hz1, hz2⟩ := info_parts Try.infoPairX
  have hc : costS Xp.kids [root] ≤ 1048578 := by
    have h1 := costX_le root.n root.va root.p.la hf.1
    have h2 := hf.2.2
    simp only [costS, List.map_cons, List.map_nil, List.sum_cons, List.sum_nil]
    omega
  have hmm := @run_makeMap Try.prog
  have hz1' : (w.alloc (.cells #[root.va, root.vb] 84)).heap.size = w.heap.size + 1 := by simp
  have hM0 : StM (FX w) 84 w ((w.alloc (.cells #[root.va, root.vb] 84)).alloc (.map #[] 0)) (w.heap.size + 1) [] [] (.slice (some ⟨w.heap.size, 0, none⟩) 1 1) [root] := by
    have hA : Below w.heap.size w (w.alloc (.cells #[root.va, root.vb] 84)) := (Below.refl _ _).alloc (Nat.le_refl _) _
    have hm := (MapKept.heap_alloc (w.alloc (.cells #[root.va, root.vb] 84)) (.map #[] 0)).1
    rw [hz1'] at hm
    refine ⟨KMapP.made hm, Nat.le_succ _, fun p hp => (List.not_mem_nil hp).elim, fun k v h => (by cases h), ⟨rfl, .inr ⟨w.heap.size, 1, #[root.va, root.vb], rfl, Nat.le_refl _, ?_, Nat.le_refl _, by decide, rfl, rfl⟩⟩, fun e he => ?_, hA.alloc (by omega) _⟩
    · exact (Below.heap_alloc _ _ _ (by omega)).trans (MapKept.heap_alloc w _).1
    · rw [List.mem_singleton.1 he]
      exact hf
  have HM0 : Hid (type_of% hM0) := hM0
  have HI0 : Hid (SmInv XpHs Xp.kids root.p ([root].map PE.p) []) := SmInv.start
  have HC0 : Hid (type_of% hc) := hc
  have HRP : Hid (root.p = root.p) := rfl
  obtain ⟨rp, hrp⟩ : ∃ rp, rp = root.p := ⟨_, rfl⟩
  rw [← hrp] at HI0 ⊢
  clear hM0 hc hf hrp HRP hz1'
  show Calls Try.prog 36 #[.slice root.aa root.p.la.length root.ac, .slice root.ba root.p.lb.length root.bc, .func (.func 35) #[] #[], .func (.func 37) #[] #[]] w _
  go_enter Try.func36, Try.ntmps36
  go_wp2_with fail
  clear hmm
  go_loopg [9] (costS Xp.kids [root]) (fun k s9 wr => ∃ (D : List (KeyP × Int)) (Dp : List (PairL Xp)) (S : List (PE Xp)), SmInv XpHs Xp.kids rp (S.map PE.p) Dp ∧ StM (FX w) 84 w wr (w.heap.size + 1) D Dp s9 S ∧ costS Xp.kids S = k ∧ k ≤ 1048578)
  case atStart => exact ⟨[], [], [root], HI0.out, HM0.out, rfl, HC0.out⟩
  case round =>
    clear HM0 HI0 HC0
    obtain ⟨D, Dp, S, hI, hM, hk, hkT⟩ := hrel
    obtain ⟨wo, rfl⟩ : ∃ wo, wo = wr := ⟨_, rfl⟩
    rcases List.eq_nil_or_concat S with hS | ⟨S', e, hS⟩
    · subst hS
      obtain ⟨av, cv, hv⟩ := own_sliceS hM.stk
      subst hv
      have HR : Hid (decide (SameL XpHs Xp.kids rp.la rp.lb) = true) := decide_eq_true hI.yes
      have hbel := hM.bel
      clear hI hM hk
      go_wp2_with fail
      go_ret
      exact ⟨by rw [HR.out]; rfl, hbel⟩
    · rw [List.concat_eq_append] at hS
      subst hS
      obtain ⟨aa, ac, ba, bc, ⟨la, lb⟩, n⟩ := e
      have hrow := hM.stk
      rw [List.length_append, List.length_singleton, flatPE_app] at hrow
      have hl1 : (S' ++ [(⟨aa, ac, ba, bc, ⟨la, lb⟩, n⟩ : PE Xp)]).length = S'.length + 1 := by simp
      obtain ⟨gs, cs, hv, hcap⟩ := own_posS hrow (by omega)
      subst hv
      have hfl := flatPE_length S'
      have c0 : wo.cell? ⟨gs, S'.length * 2, none⟩ = some (.slice aa la.length ac) := by
        rw [hrow.cellAt (S'.length * 2) (by omega), List.getElem?_append_right (by omega), hfl, Nat.sub_self]
        rfl
      have c1 : wo.cell? ⟨gs, S'.length * 2 + 1, none⟩ = some (.slice ba lb.length bc) := by
        rw [hrow.cellAt (S'.length * 2 + 1) (by omega), List.getElem?_append_right (by omega), hfl, Nat.add_sub_cancel_left]
        rfl
      have hfe := hM.fit _ (List.mem_append_right _ (List.mem_singleton.2 rfl))
      rw [List.map_append, List.map_singleton] at hI
      have hI' : SmInv XpHs Xp.kids rp (S'.map PE.p ++ [⟨la, lb⟩]) Dp := hI
      have hcs := costS_len Xp.kids (S' ++ [(⟨aa, ac, ba, bc, ⟨la, lb⟩, n⟩ : PE Xp)])
      have hSl : S'.length ≤ 1048578 := by omega
      have hli : (S'.length : Int) < ((S'.length + 1 : Nat) : Int) := by omega
      have h0i : (0 : Int) ≤ (S'.length : Int) := by omega
      have hcapi : (S'.length : Int) ≤ (cs : Int) := by omega
      have hpop := StM.pop (S := S') (e := ⟨aa, ac, ba, bc, ⟨la, lb⟩, n⟩) (g := gs) (cap := cs) (by first | exact hM | simpa using hM)
      have HPOP : Hid (type_of% hpop) := hpop
      have HI : Hid (type_of% hI') := hI'
      have HFE : Hid (type_of% hfe) := hfe
      have HK : Hid (type_of% hk) := hk
      have hbo := hM.bel
      clear hI hI' hM hrow hfl hfe hpop hk hcs hl1
      by_cases hlen : la.length = lb.length
      rotate_left
      · have HR : Hid (decide (SameL XpHs Xp.kids rp.la rp.lb) = false) := decide_eq_false (HI.out.no fun h => hlen h.1)
        have hni : ¬ (la.length : Int) = (lb.length : Int) := by omega
        clear HI HFE HK HPOP hlen
        go_wp2_with fail
        go_region
        all_goals
          go_wp2_with fail
          go_ret
          exact ⟨by rw [HR.out]; rfl, hbo.drew⟩
      have HLEN : Hid (type_of% hlen) := hlen
      have cle : ((la.length : Int) == (lb.length : Int)) = true := by rw [beq_iff_eq]; omega
      have cln : ((la.length : Int) != (lb.length : Int)) = false := by rw [bne_eq_false_iff_eq]; omega
      by_cases hnil : la = []
      · subst hnil
        obtain rfl : lb = [] := List.length_eq_zero_iff.1 hlen.symm
        have HI2 : Hid (type_of% (HI.out.skip (.inr ⟨rfl, rfl⟩))) := HI.out.skip (.inr ⟨rfl, rfl⟩)
        have HLT : Hid (costS Xp.kids S' < gk) := by
          have h1 := HK.out
          rw [costS_app] at h1
          have h2 := costS_len Xp.kids [(⟨aa, ac, ba, bc, ⟨[], []⟩, n⟩ : PE Xp)]
          simp only [List.length_singleton] at h2
          show _ < _
          omega
        have HP2 : Hid (type_of% (HPOP.out.below ((Below.refl _ _).drew))) := HPOP.out.below ((Below.refl _ _).drew)
        clear HI HFE HK HPOP hlen HLEN
        simp only [List.length_nil] at c0 c1
        go_wp2_with fail
        go_region
        all_goals
          go_wp2_with fail
          go_roundg (costS Xp.kids S')
          case rel => exact ⟨D, Dp, S', HI2.out, HP2.out, rfl, by have := HLT.out; omega⟩
          case measure => exact HLT.out
      have hpos : 0 < la.length := List.length_pos_iff.2 hnil
      obtain ⟨m, rfl⟩ : ∃ m, n = m + 1 := by
        cases n with
        | succ m => exact ⟨m, rfl⟩
        | zero =>
          obtain ⟨_, _, _, hop⟩ := HFE.out.1.open (fun cs t h => by rw [h.len]; decide)
          obtain ⟨_, _, _, _, _, _, h, _⟩ := hop 0 hpos
          exact h.elim
      obtain ⟨av, cv, hv1, hopa⟩ := HFE.out.1.open (fun cs t h => by rw [h.len]; decide)
      obtain ⟨bv, dv, hv2, hopb⟩ := HFE.out.2.1.open (fun cs t h => by rw [h.len]; decide)
      have hv1' : Value.slice aa la.length ac = .slice av la.length cv := hv1
      have hv2' : Value.slice ba lb.length bc = .slice bv lb.length dv := hv2
      simp only [Value.slice.injEq, true_and] at hv1' hv2'
      obtain ⟨rfl, rfl⟩ := hv1'
      obtain ⟨rfl, rfl⟩ := hv2'
      obtain ⟨b1, o1, q1, ha1, hb1, hr1, hx1, hy1⟩ := hopa 0 hpos
      obtain ⟨b2, o2, q2, ha2, hb2, hr2, hx2, hy2⟩ := hopb 0 (by show 0 < lb.length; omega)
      have hpos2 : 0 < lb.length := by omega
      have HOA : Hid (type_of% hopa) := hopa
      have HOB : Hid (type_of% hopb) := hopb
      have hrw : ∀ X : World, Below w.heap.size w X → KeyP.rows X ⟨aa, la.length, ba, lb.length⟩ := fun X hX => by
        refine ⟨fun x hx => ?_, fun x hx => ?_⟩
        · rw [ha1] at hx
          obtain rfl := Option.some.inj hx
          obtain ⟨c, T, q⟩ := hr1
          exact ⟨c, T, (hX.block _ hb1).trans q⟩
        · rw [ha2] at hx
          obtain rfl := Option.some.inj hx
          obtain ⟨c, T, q⟩ := hr2
          exact ⟨c, T, (hX.block _ hb2).trans q⟩
      have hlow : (∀ x, aa = some x → x.block < w.heap.size) ∧ ∀ x, ba = some x → x.block < w.heap.size := by
        refine ⟨fun x hx => ?_, fun x hx => ?_⟩
        · rw [ha1] at hx
          obtain rfl := Option.some.inj hx
          exact hb1
        · rw [ha2] at hx
          obtain rfl := Option.some.inj hx
          exact hb2
      have HRW : Hid (type_of% hrw) := hrw
      have HLOW : Hid (type_of% hlow) := hlow
      have HP1 : Hid (∀ X : World, Calls Try.prog 44 #[.slice aa la.length ac] X fun e w' => e = .returned (.agg #[.pointer aa, .int .i64 la.length]) ∧ Below X.heap.size X w') := fun X => implPlaceX aa b1 o1 la.length ac X ha1 hpos
      have HP2 : Hid (∀ X : World, Calls Try.prog 44 #[.slice ba lb.length bc] X fun e w' => e = .returned (.agg #[.pointer ba, .int .i64 lb.length]) ∧ Below X.heap.size X w') := fun X => implPlaceX ba b2 o2 lb.length bc X ha2 hpos2
      have hz : ((la.length : Int) == 0) = false := by rw [beq_eq_false_iff_ne]; omega
      clear hx1 hy1 hx2 hy2 hv1 hv2 hopa hopb ha1 ha2 hb1 hb2 hr1 hr2 hrw hlow hlen hnil
      go_wp2_with fail
      go_region
      go_wp2_with fail
      refine (HP1.out _).mono ?_
      rintro e9 w2 ⟨rfl, hb2⟩
      go_wp2_with fail
      refine (HP2.out _).mono ?_
      rintro e9 w3 ⟨rfl, hb3⟩
      have hB3 : Below wo.heap.size wo (w3.alloc (.cells #[.pointer aa, .int .i64 la.length, .pointer ba, .int .i64 lb.length] 92)) := ((Below.refl _ _).drew.trans (hb2.trans (hb3.mono hb2.size))).alloc (Nat.le_trans hb2.size hb3.size) _
      have hM3 := HPOP.out.below hB3
      have hR3 := HRW.out _ hM3.bel
      have hlk : (Instr.lookup 86 (.map (some (w.heap.size + 1))) (.agg #[.pointer aa, .int .i64 la.length, .pointer ba, .int .i64 lb.length]) false).run Try.prog (w3.alloc (.cells #[.pointer aa, .int .i64 la.length, .pointer ba, .int .i64 lb.length] 92)) = .ok (.int .i64 ((lookKP D ⟨aa, la.length, ba, lb.length⟩).getD 0)) (w3.alloc (.cells #[.pointer aa, .int .i64 la.length, .pointer ba, .int .i64 lb.length] 92)) := run_lookup_stopPX hM3.map ⟨aa, la.length, ba, lb.length⟩ hR3
      have HM3 : Hid (type_of% hM3) := hM3
      clear HP1 HP2 hB3 hb2 hb3 c0 c1 hbo
      cases hlook : lookKP D ⟨aa, la.length, ba, lb.length⟩ with
      | some v =>
        obtain ⟨rfl, e', h1, h2, h3⟩ := hM3.seen _ _ hlook
        have hp : e'.p = ⟨la, lb⟩ := FX.det h1 HFE.out (by rw [h2]; rfl)
        rw [hp] at h3
        rw [hlook] at hlk
        have HI2 : Hid (type_of% (HI.out.skip (.inl h3))) := HI.out.skip (.inl h3)
        have HLT : Hid (costS Xp.kids S' < gk) := by
          have h1 := HK.out
          rw [costS_app] at h1
          have h2 := costS_len Xp.kids [(⟨aa, ac, ba, bc, ⟨la, lb⟩, m + 1⟩ : PE Xp)]
          simp only [List.length_singleton] at h2
          show _ < _
          omega
        clear HI HFE HK HPOP hM3 h1 h2 h3 hp hR3 HRW HLOW HOA HOB HLEN hlook
        go_wp2_with fail
        go_roundg (costS Xp.kids S')
        case rel => exact ⟨D, Dp, S', HI2.out, HM3.out, rfl, by have := HLT.out; omega⟩
        case measure => exact HLT.out
      | none =>
        rw [hlook] at hlk
        obtain ⟨w4, hup, hm4, hb4⟩ := run_update_stopPX hM3.map ⟨aa, la.length, ba, lb.length⟩ hR3 1
        have hup' : (Instr.mapUpdate 86 (.map (some (w.heap.size + 1))) (.agg #[.pointer aa, .int .i64 la.length, .pointer ba, .int .i64 lb.length]) (.int .i64 1)).run Try.prog (w3.alloc (.cells #[.pointer aa, .int .i64 la.length, .pointer ba, .int .i64 lb.length] 92)) = .ok () w4 := hup
        have hM4 := hM3.put (e := ⟨aa, ac, ba, bc, ⟨la, lb⟩, m + 1⟩) HFE.out HLOW.out hm4 hb4
        have HM4 : Hid (type_of% hM4) := hM4
        have hcl : costS Xp.kids S' + costL Xp.kids (m + 1) la = gk := by
          have h1 := HK.out
          rw [costS_app] at h1
          simpa [costS] using h1
        have HCL : Hid (type_of% hcl) := hcl
        clear hM3 HM3 hup hm4 hb4 hR3 HRW HLOW hlook HK hM4 hcl HPOP
        generalize hD1 : setKP D (PE.key ⟨aa, ac, ba, bc, ⟨la, lb⟩, m + 1⟩) 1 = D1 at *
        clear hD1
        go_wp2_with fail
        go_loopw [9, 61] (fun s9 i wr => ∃ (j : Nat) (K : List (PE Xp)), j ≤ la.length ∧ i = .int .i64 j ∧ (∀ k (h : k < la.length) (h' : k < lb.length), k < j → XpHs la[k] lb[k]) ∧ K.map PE.p = (((la.zip lb).take j).map fun x => (⟨Xp.kids x.1, Xp.kids x.2⟩ : PairL Xp)) ∧ costS Xp.kids K + ((la.drop j).map fun a => costL Xp.kids m a.kids).sum + 1 = costL Xp.kids (m + 1) la ∧ StM (FX w) 84 w wr (w.heap.size + 1) D1 (⟨la, lb⟩ :: Dp) s9 (S' ++ K)) (fun _ i _ => la.length - (intOf i).toNat)
        case atStart => exact ⟨0, [], Nat.zero_le _, rfl, fun k _ _ h => absurd h (by omega), rfl, by simp [costS, costL]; omega, by rw [List.append_nil]; exact HM4.out⟩
        case round =>
          clear HM4
          obtain ⟨j, K, hj, rfl, hh, hKp, hcost, hM⟩ := hrel
          obtain ⟨wi, rfl⟩ : ∃ wi, wi = wr := ⟨_, rfl⟩
          obtain ⟨av, cv, hv⟩ := own_sliceS hM.stk
          subst hv
          have HM : Hid (type_of% hM) := hM
          have HH : Hid (type_of% hh) := hh
          have HKP : Hid (type_of% hKp) := hKp
          have HCO : Hid (type_of% hcost) := hcost
          have hbi := hM.bel
          have hlenK : (S' ++ K).length ≤ 1048578 := by
            have h1 := costS_len Xp.kids (S' ++ K)
            rw [costS_app] at h1
            have h2 := HCL.out
            omega
          obtain ⟨NK, hNK⟩ : ∃ NK, NK = (S' ++ K).length := ⟨_, rfl⟩
          have hrow := hM.stk
          rw [← hNK] at hrow hlenK ⊢
          have HNK : Hid ((S' ++ K).length = NK) := hNK.symm
          clear hM hh hKp hcost hNK
          have hla : la.length ≤ 1048577 := by
            have h1 : bulkA (Xp.bulk (m + 1)) la ≤ 1048577 := HFE.out.2.2
            unfold bulkA at h1
            omega
          by_cases hlt : j < la.length
          · have hlt2 : j < lb.length := by rw [← HLEN.out]; exact hlt
            obtain ⟨b1, o1, l1, h1a, hb1, _, ht1, p1⟩ := HOA.out j hlt
            obtain ⟨b2, o2, l2, h2a, hb2, _, ht2, p2⟩ := HOB.out j hlt2
            subst h1a
            subst h2a
            have HC : Hid (∀ X : World, Below w.heap.size w X → Calls Try.prog 35 #[.agg l1.toArray, .agg l2.toArray] X fun e w' => e = .returned (.bool (decide (XpHs la[j] lb[j]))) ∧ Below X.heap.size X w') := fun X hX => implHsXp (m + 1) l1 l2 la[j] lb[j] X (ht1.below hX).at (ht2.below hX).at (by
              have h1 : bulkA (Xp.bulk (m + 1)) la ≤ 1048577 := HFE.out.2.2
              have h2 := bulkA_one1 (Xp.bulk (m + 1)) la j hlt
              have h3 : la[j].names.length ≤ Xp.bulk (m + 1) la[j] := by rw [Xp.bulk]; omega
              omega)
            obtain ⟨vn, vk, e1, _, _, _, hk1⟩ := ht1
            obtain ⟨vn', vk', e2, _, _, _, hk2⟩ := ht2
            subst e1
            subst e2
            obtain ⟨ka, kc, rfl, _⟩ := hk1.open (fun cs t h => by rw [h.len]; decide)
            obtain ⟨kb, kd, rfl, _⟩ := hk2.open (fun cs t h => by rw [h.len]; decide)
            have HFN : Hid (FX w ⟨ka, kc, kb, kd, ⟨la[j].kids, lb[j].kids⟩, m⟩) := ⟨hk1, hk2, by
              have h1 : bulkA (Xp.bulk (m + 1)) la ≤ 1048577 := HFE.out.2.2
              have h2 := bulkA_one1 (Xp.bulk (m + 1)) la j hlt
              have h3 : bulkA (Xp.bulk m) la[j].kids ≤ Xp.bulk (m + 1) la[j] := by rw [Xp.bulk]; unfold bulkA sumA; omega
              show bulkA (Xp.bulk m) la[j].kids ≤ 1048577
              omega⟩
            have HP : Hid (∀ X : World, Below w.heap.size w X → X.cell? ⟨b1, o1 + j * 6, none⟩ = some (.int .i64 la[j].kind) ∧ X.cell? ⟨b1, o1 + j * 6 + 1, none⟩ = some (.string la[j].text) ∧ X.cell? ⟨b1, o1 + j * 6 + 2, none⟩ = some (.int .i64 la[j].n) ∧ X.cell? ⟨b1, o1 + j * 6 + 3, none⟩ = some (.int .i64 la[j].line) ∧ X.cell? ⟨b1, o1 + j * 6 + 4, none⟩ = some (vn) ∧ X.cell? ⟨b1, o1 + j * 6 + 5, none⟩ = some (.slice ka la[j].kids.length kc) ∧ X.cell? ⟨b2, o2 + j * 6, none⟩ = some (.int .i64 lb[j].kind) ∧ X.cell? ⟨b2, o2 + j * 6 + 1, none⟩ = some (.string lb[j].text) ∧ X.cell? ⟨b2, o2 + j * 6 + 2, none⟩ = some (.int .i64 lb[j].n) ∧ X.cell? ⟨b2, o2 + j * 6 + 3, none⟩ = some (.int .i64 lb[j].line) ∧ X.cell? ⟨b2, o2 + j * 6 + 4, none⟩ = some (vn') ∧ X.cell? ⟨b2, o2 + j * 6 + 5, none⟩ = some (.slice kb lb[j].kids.length kd)) := fun X hX => ⟨(hX.cell (p := ⟨b1, o1 + j * 6 + 0, none⟩) hb1).trans (p1 0 _ rfl), (hX.cell (p := ⟨b1, o1 + j * 6 + 1, none⟩) hb1).trans (p1 1 _ rfl), (hX.cell (p := ⟨b1, o1 + j * 6 + 2, none⟩) hb1).trans (p1 2 _ rfl), (hX.cell (p := ⟨b1, o1 + j * 6 + 3, none⟩) hb1).trans (p1 3 _ rfl), (hX.cell (p := ⟨b1, o1 + j * 6 + 4, none⟩) hb1).trans (p1 4 _ rfl), (hX.cell (p := ⟨b1, o1 + j * 6 + 5, none⟩) hb1).trans (p1 5 _ rfl), (hX.cell (p := ⟨b2, o2 + j * 6 + 0, none⟩) hb2).trans (p2 0 _ rfl), (hX.cell (p := ⟨b2, o2 + j * 6 + 1, none⟩) hb2).trans (p2 1 _ rfl), (hX.cell (p := ⟨b2, o2 + j * 6 + 2, none⟩) hb2).trans (p2 2 _ rfl), (hX.cell (p := ⟨b2, o2 + j * 6 + 3, none⟩) hb2).trans (p2 3 _ rfl), (hX.cell (p := ⟨b2, o2 + j * 6 + 4, none⟩) hb2).trans (p2 4 _ rfl), (hX.cell (p := ⟨b2, o2 + j * 6 + 5, none⟩) hb2).trans (p2 5 _ rfl)⟩
            have HHE : Hid (XpHs la[j] lb[j] → ∀ k (h : k < la.length) (h' : k < lb.length), k < j + 1 → XpHs la[k] lb[k]) := fun e k h h' hk => by
              by_cases c : k < j
              · exact HH.out k h h' c
              · obtain rfl : k = j := by omega
                exact e
            have HNO : Hid (¬ XpHs la[j] lb[j] → decide (SameL XpHs Xp.kids rp.la rp.lb) = false) := fun hn => decide_eq_false (HI.out.no fun h => hn (h.2 j hlt hlt2))
            have HKN : Hid ((K ++ [(⟨ka, kc, kb, kd, ⟨la[j].kids, lb[j].kids⟩, m⟩ : PE Xp)]).map PE.p = ((la.zip lb).take (j + 1)).map fun x => (⟨Xp.kids x.1, Xp.kids x.2⟩ : PairL Xp)) := by
              show _ = _
              have hz : j < (la.zip lb).length := by rw [List.length_zip]; omega
              rw [List.take_succ_eq_append_getElem hz, List.map_append, List.map_append, HKP.out, List.getElem_zip]
              rfl
            have HCN : Hid (costS Xp.kids (K ++ [(⟨ka, kc, kb, kd, ⟨la[j].kids, lb[j].kids⟩, m⟩ : PE Xp)]) + ((la.drop (j + 1)).map fun a => costL Xp.kids m a.kids).sum + 1 = costL Xp.kids (m + 1) la) := by
              show _ = _
              have h1 := HCO.out
              rw [List.drop_eq_getElem_cons hlt, List.map_cons, List.sum_cons] at h1
              rw [costS_app]
              have h2 : costS Xp.kids [(⟨ka, kc, kb, kd, ⟨la[j].kids, lb[j].kids⟩, m⟩ : PE Xp)] = costL Xp.kids m la[j].kids := by simp [costS]
              omega
            obtain ⟨r0, r1, r2, r3, r4, r5, r6, r7, r8, r9, r10, r11⟩ := HP.out wi hbi
            have hj0 : (0 : Int) ≤ j := by omega
            have hj1 : (j : Int) < la.length := by omega
            have hj2 : (j : Int) < lb.length := by omega
            clear hk1 hk2 p1 p2 HH HKP HCO HOA HOB HI
            by_cases hs : XpHs la[j] lb[j]
            rotate_left
            · have x9 : decide (XpHs la[j] lb[j]) = false := decide_eq_false hs
              rw [x9] at HC
              have HR : Hid (type_of% (HNO.out hs)) := HNO.out hs
              clear HNO HHE HKN HCN HFN HM HNK hrow hs
              go_wp2_with fail
              go_region_with (go_at_call 35; refine (HC.out _ hbi.drew).mono ?_; rintro e w5 ⟨rfl, hb5⟩)
              all_goals
                go_wp2_with fail
                go_ret
                exact ⟨by rw [HR.out]; rfl, hbi.drew.trans (hb5.mono hbi.size)⟩
            have x9 : decide (XpHs la[j] lb[j]) = true := decide_eq_true hs
            rw [x9] at HC
            have HHE2 : Hid (type_of% (HHE.out hs)) := HHE.out hs
            clear HNO HHE hs x9
            go_wp2_with fail
            have hqi := HP.out wi hbi
            have hqid := HP.out wi.drew hbi.drew
            go_region_held3 (fun w' => w'.cell? ⟨b1, o1 + j * 6, none⟩ = some (.int .i64 la[j].kind) ∧ w'.cell? ⟨b1, o1 + j * 6 + 1, none⟩ = some (.string la[j].text) ∧ w'.cell? ⟨b1, o1 + j * 6 + 2, none⟩ = some (.int .i64 la[j].n) ∧ w'.cell? ⟨b1, o1 + j * 6 + 3, none⟩ = some (.int .i64 la[j].line) ∧ w'.cell? ⟨b1, o1 + j * 6 + 4, none⟩ = some (vn) ∧ w'.cell? ⟨b1, o1 + j * 6 + 5, none⟩ = some (.slice ka la[j].kids.length kc) ∧ w'.cell? ⟨b2, o2 + j * 6, none⟩ = some (.int .i64 lb[j].kind) ∧ w'.cell? ⟨b2, o2 + j * 6 + 1, none⟩ = some (.string lb[j].text) ∧ w'.cell? ⟨b2, o2 + j * 6 + 2, none⟩ = some (.int .i64 lb[j].n) ∧ w'.cell? ⟨b2, o2 + j * 6 + 3, none⟩ = some (.int .i64 lb[j].line) ∧ w'.cell? ⟨b2, o2 + j * 6 + 4, none⟩ = some (vn') ∧ w'.cell? ⟨b2, o2 + j * 6 + 5, none⟩ = some (.slice kb lb[j].kids.length kd))
              (first
                | with_reducible exact hqi
                | with_reducible exact hqid
                | (revert hq5'; intro hq5'; with_reducible exact hq5')
                | (revert hq6'; intro hq6'; with_reducible exact hq6')
              )
              (first
                | (go_at_call 35; with_reducible refine (HC.out _ hbi).mono ?_; rintro e w5 ⟨rfl, hb5⟩; have hbi5 : Below wi.heap.size wi w5 := hb5; have hq5' := HP.out w5 (hbi.trans (hbi5.mono hbi.size)); have hq6' := HP.out w5.drew (hbi.trans (hbi5.mono hbi.size)).drew)
                | (go_at_call 35; refine (HC.out _ hbi.drew).mono ?_; rintro e w5 ⟨rfl, hb5⟩; have hbi5 : Below wi.heap.size wi w5 := (Below.refl _ _).drew.trans hb5; have hq5' := HP.out w5 (hbi.trans (hbi5.mono hbi.size)); have hq6' := HP.out w5.drew (hbi.trans (hbi5.mono hbi.size)).drew))
            have hM5 := HM.out.below hbi5
            have hq5 := HP.out w5 hM5.bel
            have hq5d := HP.out w5.drew hM5.bel.drew
            have hbw5 := hM5.bel
            have HM5 : Hid (type_of% hM5) := hM5
            clear r0 r1 r2 r3 r4 r5 r6 r7 r8 r9 r10 r11 HC HM hb5 hbi5 hM5 hbi hrow hqi hqid hq5' hq6'
            go_wp2_with fail
            go_region_held3 (fun w' => w'.cell? ⟨b1, o1 + j * 6, none⟩ = some (.int .i64 la[j].kind) ∧ w'.cell? ⟨b1, o1 + j * 6 + 1, none⟩ = some (.string la[j].text) ∧ w'.cell? ⟨b1, o1 + j * 6 + 2, none⟩ = some (.int .i64 la[j].n) ∧ w'.cell? ⟨b1, o1 + j * 6 + 3, none⟩ = some (.int .i64 la[j].line) ∧ w'.cell? ⟨b1, o1 + j * 6 + 4, none⟩ = some (vn) ∧ w'.cell? ⟨b1, o1 + j * 6 + 5, none⟩ = some (.slice ka la[j].kids.length kc) ∧ w'.cell? ⟨b2, o2 + j * 6, none⟩ = some (.int .i64 lb[j].kind) ∧ w'.cell? ⟨b2, o2 + j * 6 + 1, none⟩ = some (.string lb[j].text) ∧ w'.cell? ⟨b2, o2 + j * 6 + 2, none⟩ = some (.int .i64 lb[j].n) ∧ w'.cell? ⟨b2, o2 + j * 6 + 3, none⟩ = some (.int .i64 lb[j].line) ∧ w'.cell? ⟨b2, o2 + j * 6 + 4, none⟩ = some (vn') ∧ w'.cell? ⟨b2, o2 + j * 6 + 5, none⟩ = some (.slice kb lb[j].kids.length kd))
              (first
                | with_reducible exact hq5
                | with_reducible exact hq5d
                | (revert qa; intro qa; with_reducible exact qa)
                | (revert qad; intro qad; with_reducible exact qad)
                | (revert qb; intro qb; with_reducible exact qb)
                | (revert qbd; intro qbd; with_reducible exact qbd)
                | (revert qc; intro qc; with_reducible exact qc)
                | (revert qcd; intro qcd; with_reducible exact qcd)
                | (revert qe; intro qe; with_reducible exact qe)
              )
              (first
                | (revert bB; intro bB; refine step_append_ownS rfl (.tmp 75) (.tmp 89) 85 rfl w.heap.size 84 i0 (.agg #[.slice none 0 0, .slice none 0 0]) 2 48 Try.underlying85 hi0 hz0 hz1 hz2 rfl (by decide) _ _ _ rfl oc ⟨w7.heap.size, 0, none⟩ 1 1 [.slice ka la[j].kids.length kc, .slice kb lb[j].kids.length kd] rfl rfl cC (by intro u hu; simp at hu; rcases hu with rfl | rfl <;> rfl) (by unfold maxLen; omega) (by omega) (by have := hbC.size; omega) ?_; intro v8 w8 ho8 hg8' h8; have hg8 : (w7.alloc (.cells #[.slice ka la[j].kids.length kc, .slice kb lb[j].kids.length kd] 84)).grownBy w8 (Value.slice av NK cv).ownBlock := hg8'; have hb8 : Below w.heap.size w w8 := hbC.grown hg8 hbC.size (fun g hg => (oc.lt g hg).1); have qe := HP.out w8 hb8)
                | (revert bA; intro bA; go_at_call 37; refine (implKidsXp _ _ _ _ _ _  w6).mono ?_; rintro e w7 ⟨rfl, hb7⟩; have bB := hbA.trans (hb7.mono hbA.size); have qb := HP.out w7 bB; have qbd := HP.out w7.drew bB.drew; have hM7 := hMA.below hb7; have hAl : Below w7.heap.size w7 (w7.alloc (.cells #[.slice ka la[j].kids.length kc, .slice kb lb[j].kids.length kd] 84)) := (Below.refl _ _).alloc (Nat.le_refl _) _; have HMC := hM7.below hAl; have hbC := HMC.bel; have qc := HP.out _ hbC; have qcd := HP.out _ hbC.drew; have oc := HMC.stk; rw [HNK.out] at oc; have cC := cellTwoS (w := w7) (t := 84) (x := .slice ka la[j].kids.length kc) (y := .slice kb lb[j].kids.length kd))
                | (go_at_call 37; refine (implKidsXp _ _ _ _ _ _  _).mono ?_; rintro e w6 ⟨rfl, hb6⟩; have bA : Below w5.heap.size w5 w6 := (by first | exact hb6 | exact (Below.refl _ _).drew.trans hb6); have hMA := HM5.out.below bA; have hbA := hMA.bel; have qa := HP.out w6 hbA; have qad := HP.out w6.drew hbA.drew))
            all_goals
              have hm8 : StM (FX w) 84 w w8 (w.heap.size + 1) D1 (⟨la, lb⟩ :: Dp) v8 ((S' ++ K) ++ [⟨ka, kc, kb, kd, ⟨la[j].kids, lb[j].kids⟩, m⟩]) := by
                have h := HMC
                rw [HNK.out] at h
                exact StM.push h HFN.out (by rw [HNK.out]; exact ho8) hg8
              have HM8 : Hid (type_of% hm8) := hm8
              obtain ⟨a8, c8, hv8⟩ := own_sliceS ho8
              subst hv8
              clear hm8 hg8 hg8' ho8 h8 qe hb8 HMC hMA hM7 HM5 oc cC
              go_wp2_with fail
              go_roundw
              case rel => exact ⟨j + 1, K ++ [⟨ka, kc, kb, kd, ⟨la[j].kids, lb[j].kids⟩, m⟩], by omega, by go_num, HHE2.out, HKN.out, HCN.out, by rw [← List.append_assoc]; exact HM8.out⟩
              case measure => simp [intOf]; omega
          · have hje : j = la.length := by omega
            have HI2 : Hid (SmInv XpHs Xp.kids rp ((S' ++ K).map PE.p) (⟨la, lb⟩ :: Dp)) := by
              have h1 := HI.out.step HLEN.out fun k h h' => HH.out k h h' (by rw [hje]; exact h)
              rw [List.map_append, HKP.out, hje, List.take_of_length_le (by rw [List.length_zip]; exact Nat.min_le_left _ _)]
              exact h1
            have HLT : Hid (costS Xp.kids (S' ++ K) < gk) := by
              have h1 := HCO.out
              have h2 := HCL.out
              show _ < _
              rw [costS_app]
              omega
            have HM9 : Hid (StM (FX w) 84 w wi (w.heap.size + 1) D1 (⟨la, lb⟩ :: Dp) (.slice av NK cv) (S' ++ K)) := by have := HM.out; rwa [HNK.out] at this
            clear hje HI HH HKP HCO HM HOA HOB HNK hrow HFE
            go_wp2_with fail
            go_roundg (costS Xp.kids (S' ++ K))
            case rel => exact ⟨D1, _, S' ++ K, HI2.out, HM9.out, rfl, by have := HLT.out; omega⟩
            case measure => exact HLT.out

end Go.Proofs.Ytegdladpkikicaa
