/-
  The walk of the copier's types where lists are copied one by one.
-/
import Derived.Test.YtpnalacdgnppmaaCqV
import Derived.Test.YtpnalacdgnppmaaTypeH
import Derived.Test.YtpnalacdgnppmaaTypeD
namespace Go.Proofs.Ytpnalacdgnppmaa
open Go.RowKit

theorem nd_lenQ {n m : Nat} {ts : List Ty} (hn : n = m + 1) : ts.length ≤ ndRow n ts := by
  subst hn
  unfold ndRow
  induction ts with
  | nil => simp
  | cons a r ih =>
    have h9 : 1 ≤ (Ty.nodes (m + 1) a).length := by rw [Ty.nodes, List.length_cons]; omega
    simp only [List.map_cons, List.sum_cons, List.length_cons]
    omega
theorem texts_leQ {l : List ByteArray} {x : ByteArray} (h : x ∈ l) : x.size ≤ Ty.textsBulk l := by
  induction l with
  | nil => simp at h
  | cons a r ih =>
    rw [Ty.textsBulk]
    rcases List.mem_cons.1 h with h | h
    · rw [h]; omega
    · have := ih h; omega
theorem bulk_partsQ {m : Nat} {t : Ty} (h : Ty.bulk (m + 1) t ≤ 1048576) : t.name.size ≤ 1048576 ∧ t.names.length ≤ 1048577 ∧ (∀ x ∈ t.names, x.size ≤ 1048576) ∧ ∀ j (hj : j < t.kids.length), Ty.bulk m t.kids[j] ≤ 1048576 := by
  rw [Ty.bulk] at h
  refine ⟨by omega, by omega, fun x hx => ?_, fun j hj => ?_⟩
  · have := texts_leQ hx; omega
  · have := kid_bulk m t.kids j hj; omega

set_option maxHeartbeats 3200000 in
set_option maxRecDepth 100000 in
theorem implCopyTypes (cb : Nat) (room : Int) (y1 y2 y3 : Value) (A : Nat → Prop) (root : LE) (w0 : World) (hA0 : ∀ b, A b → b < w0.heap.size) (hf0 : root.fits A w0) (hn : root.ts ≠ []) (hw : root.wt ≤ 1000000000) (hc : root.cost ≤ 1000000000) (hb : ∀ j (hj : j < root.ts.length), Ty.bulk root.n root.ts[j] ≤ 1048576) (hcb : w0.heap[cb]? = some (.cells #[.int .i64 room, y1, y2, y3] 67 (0, 0))) (hAc : ¬ A cb) (hroom : (root.wt : Int) ≤ room) (hroom2 : room ≤ 8589934592) :
    Calls Try.prog 30 #[.pointer (some ⟨cb, 0, none⟩), root.v] w0 fun e w' => ∃ (g c : Nat) (ls : List Lay), e = .returned (.slice (some ⟨g, 0, none⟩) root.ts.length c) ∧ RowL w' root.n (.slice (some ⟨g, 0, none⟩) root.ts.length c) ls root.ts ∧ (∀ i (h : i < ls.length), (Lay.blocks root.n ls[i]).Nodup ∧ ∀ x ∈ Lay.blocks root.n ls[i], w0.heap.size ≤ x) ∧ Below w0.heap.size (w0.setCell ⟨cb, 0, none⟩ (.int .i64 (room - (root.wt : Nat)))) w' := by
  have HWT0 := implWeight A root w0 hA0 hf0 hn hw hc
  have hcl : cb < w0.heap.size := (Array.getElem?_eq_some_iff.1 hcb).1
  have HTK : Hid (∀ w1 : World, Below w0.heap.size w0 w1 → Calls Try.prog 35 #[.pointer (some ⟨cb, 0, none⟩), .int .i64 ((root.wt : Nat) : Int)] w1 fun e w' => e = .returned (.bool true) ∧ Below w0.heap.size (w0.setCell ⟨cb, 0, none⟩ (.int .i64 (room - (root.wt : Nat)))) w') := fun w1 h1 => by
    have hc1 : w1.heap[cb]? = some (.cells #[.int .i64 room, y1, y2, y3] 67 (0, 0)) := (h1.block cb hcl).trans hcb
    refine (implTakes cb room root.wt w1 (by rw [cell_of_row _ _ 0 _ _ (0, 0) hc1]; rfl) (frozen_of_row w1 cb 0 _ _ hc1) hroom hroom2).mono ?_
    rintro e w' ⟨rfl, rfl⟩
    refine ⟨rfl, h1.os, h1.tape, h1.output, by simpa using h1.size, fun k hk => ?_⟩
    have hk0 : k < w0.heap.size := by simpa using hk
    by_cases c : k = cb
    · subst c
      rw [heap_setCell_same _ _ 0 _ _ _ hc1, heap_setCell_same _ _ 0 _ _ _ hcb]
    · rw [Below.heap_setCell _ _ _ _ (by simpa using c), Below.heap_setCell _ _ _ _ (by simpa using c)]
      exact h1.block k hk0
  have hs0 : SameOn A w0 (w0.setCell ⟨cb, 0, none⟩ (.int .i64 (room - (root.wt : Nat)))) := fun b hb' => Below.heap_setCell _ _ _ _ (by
    intro q
    have q' : b = cb := by simpa using q
    exact hAc (q' ▸ hb'))
  have hf : root.fits A (w0.setCell ⟨cb, 0, none⟩ (.int .i64 (room - (root.wt : Nat)))) := RowR.same hf0 hs0 fun cs t _ q => q.same hs0
  have hzc : (w0.setCell ⟨cb, 0, none⟩ (.int .i64 (room - (root.wt : Nat)))).heap.size = w0.heap.size := by simp
  obtain ⟨w, hw0⟩ : ∃ w, w = w0.setCell ⟨cb, 0, none⟩ (.int .i64 (room - (root.wt : Nat))) := ⟨_, rfl⟩
  rw [← hw0] at HTK hf hzc ⊢
  have hA : ∀ b, A b → b < w.heap.size := fun b hb' => by rw [hzc]; exact hA0 b hb'
  rw [← hzc] at HTK ⊢
  have HWT : Hid (Calls Try.prog 36 #[root.v, .func (.func 37) #[] #[], .func (.func 38) #[] #[]] w0 fun e w' => e = .returned (.int .i64 ((root.wt : Nat) : Int)) ∧ Below w.heap.size w0 w') := HWT0.mono fun e w' h => ⟨h.1, by rw [hzc]; exact h.2⟩
  clear HWT0 hs0 hf0 hA0 hw0 hcb hAc hroom hcl hzc
  obtain ⟨i0, hi0, hz0, hz1, hz2⟩ := info_parts Try.infoRowT
  have hlp : 0 < root.ts.length := List.length_pos_iff.2 hn
  obtain ⟨a0, cap0, xs, hv0, hxl, hone, hcell, hraw⟩ := LE.flat hf hb
  have hnp : 0 < root.n := by
    obtain ⟨_, _, _, m, e, _⟩ := hraw 0 hlp
    omega
  have hlen : root.ts.length ≤ 1000000000 := by have := few_len hf; omega
  have HCL : Hid (∀ wx : World, Below w.heap.size w wx → Calls Try.prog 40 #[.slice a0 root.ts.length cap0] wx fun e w' => ∃ (a' : Option Addr) (c' : Nat), e = .returned (.slice a' root.ts.length c') ∧ w'.ownsRow wx.heap.size 27 4 (.slice a' root.ts.length c') root.ts.length xs ∧ Below wx.heap.size wx w') := fun wx hx => slCloneQ a0 root.ts.length cap0 xs wx hxl hone hlen fun h0 => by
    obtain ⟨b, off, e, hAb, h⟩ := hcell h0
    exact ⟨b, off, e, fun j u hj => (hx.cell (p := ⟨b, off + j, none⟩) (hA b hAb)).trans (h j u hj)⟩
  have HRAW : Hid (type_of% hraw) := hraw
  have HA : Hid (type_of% hA) := hA
  have HNUM : Hid (1 + ndRow root.n root.ts ≤ 1000000000) := by show _ ≤ _; unfold LE.cost at hc; omega
  rw [hv0] at HWT ⊢
  obtain ⟨N, ts, hN, hts⟩ : ∃ N ts, N = root.n ∧ ts = root.ts := ⟨_, _, rfl, rfl⟩
  rw [← hN, ← hts] at HRAW HNUM ⊢
  rw [← hts] at HWT HCL hlp hlen
  rw [← hN] at hnp
  clear hf hn hw hc hb hv0 hxl hone hcell hraw hA hroom2
  generalize root.wt = WT at *
  clear hN hts
  go_enter Try.func30, Try.ntmps30
  go_wp2_with fail
  refine HWT.out.mono ?_
  rintro e wa ⟨rfl, hba⟩
  have HTK1 : Hid (type_of% (HTK.out wa hba)) := HTK.out wa hba
  clear HWT HTK hba
  go_wp2_with fail
  refine HTK1.out.mono ?_
  rintro e w1 ⟨rfl, hb1⟩
  clear HTK1
  go_wp2_with fail
  refine (HCL.out _ hb1).mono ?_
  rintro e w2 ⟨a', c', rfl, hown, hb2⟩
  obtain ⟨g, c9, hv⟩ := own_posQ hown hlp
  simp only [Value.slice.injEq, true_and] at hv
  obtain ⟨rfl, rfl⟩ := hv
  have hw2 : Below w.heap.size w w2 := hb1.trans (hb2.mono hb1.size)
  have HK : Hid (type_of% (CqK.begin (A := A) (W0 := w) (n := N) hb1.size hown hlp hnp HRAW.out hw2 rfl)) := CqK.begin (A := A) (W0 := w) (n := N) hb1.size hown hlp hnp HRAW.out hw2 rfl
  clear HCL hb1 hb2 hown hw2 HRAW
  go_wp2_with fail
  go_loopg [6] (1 + ndRow N ts) (fun k s4 wr => ∃ (dn : List Cq) (E : List SE) (ids : Cids), CqK A w wr dn [] E 0 ids s4 ∧ stNum E = k ∧ k ≤ 1000000000 ∧ (⟨g, c', N, ts, []⟩ : Cq) ∈ dn ++ pdsQ E)
  case atStart => exact ⟨[], _, _, HK.out, by simp [stNum, seNum], HNUM.out, by simp [pdsQ]⟩
  case round =>
    clear HK HNUM
    obtain ⟨dn, E, ids, hK, hk, hkT, hroot⟩ := hrel
    obtain ⟨wo, rfl⟩ : ∃ wo, wo = wr := ⟨_, rfl⟩
    have HK : Hid (type_of% hK) := hK
    have HKK : Hid (type_of% hk) := hk
    have HR : Hid (type_of% hroot) := hroot
    have hEl := stNum_len E
    rcases List.eq_nil_or_concat E with hE | ⟨E', x, hE⟩
    · subst hE
      obtain ⟨av, cv, hv⟩ := own_sliceW hK.stk
      subst hv
      clear hK hk hroot hEl
      go_wp2_with fail
      go_ret
      have hr : (⟨g, c', N, ts, []⟩ : Cq) ∈ dn := by simpa [pdsQ] using HR.out
      obtain ⟨ls, h1, h2⟩ := CqI.all HK.out.inv hr
      exact ⟨g, c', ls, rfl, h1, h2, HK.out.inv.bel⟩
    · rw [List.concat_eq_append] at hE
      subst hE
      obtain ⟨vx, qs⟩ := x
      have hl1 : (E' ++ [(vx, qs)]).length = E'.length + 1 := by simp
      have hrow := hK.stk
      rw [hl1, List.map_append, List.map_singleton] at hrow
      obtain ⟨gs, cs, hv, hcap⟩ := own_posW hrow (by omega)
      subst hv
      have ctop := own_topW hrow (by simp)
      have hok := hK.ok (vx, qs) (by simp)
      obtain ⟨hp0, hp1⟩ := hK.pop
      have hEl2 : E'.length ≤ 1000000000 := by omega
      have hli : (E'.length : Int) < ((E'.length + 1 : Nat) : Int) := by omega
      have h0i : (0 : Int) ≤ (E'.length : Int) := by omega
      have hcapi : (E'.length : Int) ≤ (cs : Int) := by omega
      have HP0 : Hid (type_of% hp0) := hp0
      have HP1 : Hid (type_of% hp1) := hp1
      clear hK hk hroot hEl hrow hl1 HK hp0 hp1
      rcases hok with ⟨rfl, ax, cx, hvx⟩ | ⟨q, rfl, hvx, hqp⟩
      · have hvx' : vx = .slice ax 0 cx := hvx
        subst hvx'
        have hK1 := HP0.out rfl
        have HK1 : Hid (type_of% hK1) := hK1
        have HM : Hid (stNum E' < gk) := by
          have := HKK.out
          rw [stNum_app, stNum_one, seNum] at this
          show _ < _
          omega
        have HR1 : Hid ((⟨g, c', N, ts, []⟩ : Cq) ∈ dn ++ pdsQ E') := by have := HR.out; rw [pdsQ_app, List.append_nil] at this; exact this
        clear HP0 HP1 hvx hK1
        go_wp2_with fail
        go_loopw [6, 37] (fun s4 i wr => i = .int .i64 0 ∧ s4 = .slice (some ⟨gs, 0, none⟩) E'.length cs ∧ wr = wo) (fun _ _ _ => 0)
        case atStart => exact ⟨rfl, rfl, rfl⟩
        case round =>
          obtain ⟨rfl, rfl, rfl⟩ := hrel
          go_wp2_with fail
          go_roundg (stNum E')
          case rel => exact ⟨dn, E', ids, HK1.out, rfl, by have := HM.out; omega, HR1.out⟩
          case measure => exact HM.out
      · have hvx' : vx = .slice (some ⟨q.tb, 0, none⟩) q.ts.length q.cap := hvx
        subst hvx'
        have hK1 := HP1.out q rfl
        have HK1 : Hid (type_of% hK1) := hK1
        have HM : Hid (stNum E' + ndRow q.n q.ts < gk ∧ stNum E' + ndRow q.n q.ts ≤ 1000000000) := by
          have := HKK.out
          rw [stNum_app, stNum_one, seNum] at this
          simp only [List.map_cons, List.map_nil, List.sum_cons, List.sum_nil] at this
          show _ ∧ _
          constructor <;> omega
        have HR1 : Hid ((⟨g, c', N, ts, []⟩ : Cq) ∈ dn ++ [q] ++ pdsQ E') := by
          have h9 := HR.out
          rw [pdsQ_app] at h9
          show _ ∈ _
          simp only [List.mem_append] at h9 ⊢
          rcases h9 with h9 | h9 | h9
          · exact .inl (.inl h9)
          · exact .inr h9
          · exact .inl (.inr h9)
        have hql : q.ts.length ≤ 1000000000 := by
          have h1 := (HM.out).2
          have h2 : q.ts.length ≤ ndRow q.n q.ts := by
            obtain ⟨X, hX⟩ := hK1.inv.cur q (by simp)
            obtain ⟨_, _, _, _, h3⟩ := hX.2 0 hqp
            obtain ⟨m, hm, _⟩ := h3 (Nat.zero_le _)
            exact nd_lenQ hm
          omega
        clear HP0 HP1 hvx hK1 HKK HR
        go_wp2_with fail
        go_loopw [6, 37] (fun s4 i wr => ∃ (j : Nat) (E : List SE) (ids : Cids), j ≤ q.ts.length ∧ i = .int .i64 j ∧ CqK A w wr dn [q] E j ids s4 ∧ stNum E + ndRow q.n (q.ts.drop j) = stNum E' + ndRow q.n q.ts ∧ (⟨g, c', N, ts, []⟩ : Cq) ∈ dn ++ [q] ++ pdsQ E) (fun _ i _ => q.ts.length - (intOf i).toNat)
        case atStart => exact ⟨0, E', ids, Nat.zero_le _, rfl, HK1.out, by simp, HR1.out⟩
        case round =>
          clear HK1 HR1 ctop
          obtain ⟨j, E, ids, hj, rfl, hKi, hnum, hroot⟩ := hrel
          obtain ⟨wi, rfl⟩ : ∃ wi, wi = wr := ⟨_, rfl⟩
          have HKI : Hid (type_of% hKi) := hKi
          have HNUM : Hid (type_of% hnum) := hnum
          have HROOT : Hid (type_of% hroot) := hroot
          obtain ⟨av, cv, hv⟩ := own_sliceW hKi.stk
          subst hv
          have hEl9 : E.length ≤ 1000000000 := by
            have h1 := stNum_len E
            have h2 := HM.out.2
            omega
          by_cases hlt : j < q.ts.length
          · obtain ⟨X, hX⟩ := hKi.inv.cur q (by simp)
            obtain ⟨vn, vk, h4, h99, hraw⟩ := hX.2 j hlt
            clear h99
            obtain ⟨m, hm, hbk, hT, hF⟩ := hraw (Nat.le_refl _)
            obtain ⟨hb1, hb2, hb3, hb4⟩ := bulk_partsQ (t := q.ts[j]) (by rw [hm] at hbk; exact hbk)
            obtain ⟨a2, cap2, xs2, hv2, hxl2, hone2, hcell2, hraw2⟩ := LE.flat hF hb4
            have hv2' : vk = .slice a2 q.ts[j].kids.length cap2 := hv2
            subst hv2'
            have hTW : w.heap.size ≤ q.tb := (hKi.inv.idr _ (hKi.inv.met q (by simp)).1.id).1
            have hTl : q.tb < wi.heap.size := (hX.1.lt q.tb rfl).2
            have hbel := hKi.inv.bel
            have HSM : Hid (∀ wx : World, wi.grownBy wx (some q.tb) → SameOn A w wx) := fun wx hg b hAb => by
              have h1 := HA.out b hAb
              have h2 : b < wi.heap.size := Nat.lt_of_lt_of_le h1 hbel.size
              exact (hg.block b h2 fun e => by have := Option.some.inj e; omega).trans (hbel.block b h1)
            have HCc : Hid (∀ wx : World, Calls Try.prog 41 #[.string q.ts[j].name] wx fun e w' => e = .returned (.string q.ts[j].name) ∧ Below wx.heap.size wx w') := fun wx => stringsClone _ wx (by omega)
            have HTX : Hid (∀ wx : World, wi.grownBy wx (some q.tb) → Calls Try.prog 42 #[vn] wx fun e w' => ∃ (a : Option Addr) (c : Nat), e = .returned (.slice a q.ts[j].names.length c) ∧ w'.ownsRow wx.heap.size 9 1 (.slice a q.ts[j].names.length c) q.ts[j].names.length (strV q.ts[j].names) ∧ Below wx.heap.size wx w') := fun wx hg => implCopyTexts vn q.ts[j].names wx ((hT.same (HSM.out wx hg)).at) hb2 hb3
            obtain ⟨avn, cvn, lvn, hvn⟩ : ∃ a c l, vn = .slice a l c := by
              rcases hT with ⟨_, a, cap, e2⟩ | ⟨b, off, cap, e, _⟩
              · exact ⟨a, cap, _, e2⟩
              · exact ⟨_, cap, _, e⟩
            subst hvn
            have hX1 := hX.1
            have c1n : wi.cell? ⟨q.tb, j * 4 + 1, none⟩ = some (.string q.ts[j].name) := by rw [hX1.cellAt (j * 4 + 1) (by omega), h4.2.1]
            have hx2n := h4.2.2.1
            have hkl : q.ts[j].kids.length ≤ 1000000000 := by
              rw [hm] at hbk
              unfold Ty.bulk at hbk
              omega
            have HCQ : Hid (∀ wx : World, wi.grownBy wx (some q.tb) → Calls Try.prog 40 #[.slice a2 q.ts[j].kids.length cap2] wx fun e w' => ∃ (a' : Option Addr) (c' : Nat), e = .returned (.slice a' q.ts[j].kids.length c') ∧ w'.ownsRow wx.heap.size 27 4 (.slice a' q.ts[j].kids.length c') q.ts[j].kids.length xs2 ∧ Below wx.heap.size wx w') := fun wx hg => slCloneQ a2 q.ts[j].kids.length cap2 xs2 wx hxl2 hone2 hkl fun h0 => by
              obtain ⟨b, off, e, hAb, h⟩ := hcell2 h0
              exact ⟨b, off, e, fun k u hk => (World.cell?_of_block (a := ⟨b, off + k, none⟩) (HSM.out wx hg b hAb)).trans (h k u hk)⟩
            have HX : Hid (type_of% hX) := hX
            have HRAW2 : Hid (type_of% hraw2) := hraw2
            have HM2 : Hid (type_of% hm) := hm
            have hxl : X.length = q.ts.length * 4 := hX.1.1
            have hx3 := h4.2.2.2
            have hj0i : (0 : Int) ≤ (j : Int) := by omega
            have hj1i : (j : Int) < (q.ts.length : Int) := by omega
            clear hKi hnum hroot hX hm hbk hT hF hxl2 hone2 hcell2 hraw2 hraw hv2 hb1 hb2 hb3 hb4 h4 HSM
            obtain ⟨KL, hKL⟩ : ∃ KL, KL = q.ts[j].kids.length := ⟨_, rfl⟩
            have HKL : Hid (q.ts[j].kids.length = KL) := hKL.symm
            rw [← hKL] at HCQ hx3 hkl
            clear hKL
            go_wp2_with fail
            refine (HCc.out _).mono ?_
            rintro e wb ⟨rfl, hbb⟩
            have hrb := kept_belowT hX1 hbb
            have hFb := hrb.frozenAt (j * 4 + 1)
            have db := (hbb.cell (p := ⟨q.tb, j * 4 + 1, none⟩) hTl).trans c1n
            have hself := setCell_self db
            have hgb : wi.grownBy wb (some q.tb) := grown_below hbb
            have hTlb : q.tb < wb.heap.size := Nat.lt_of_lt_of_le hTl hbb.size
            have db2 : wb.cell? ⟨q.tb, j * 4 + 2, none⟩ = some (.slice avn lvn cvn) := by rw [hrb.cellAt (j * 4 + 2) (by omega), hx2n]
            have HT2 : Hid (type_of% (HTX.out _ hgb)) := HTX.out _ hgb
            have HRB : Hid (type_of% hrb) := hrb
            clear HCc HTX c1n hbb hrb hX1
            go_wp2_with fail
            try rw [hself]
            refine HT2.out.mono ?_
            rintro e wc ⟨a1, c1, rfl, hoc, hbc⟩
            have hrc := kept_belowT HRB.out hbc
            have hFc := hrc.frozenAt (j * 4 + 2)
            have dc := (hbc.cell (p := ⟨q.tb, j * 4 + 2, none⟩) hTlb).trans db2
            obtain ⟨hr1, _⟩ := hrc.stored (j * 4 + 2) (.slice a1 q.ts[j].names.length c1)
            have hn1 : (wc.setCell ⟨q.tb, j * 4 + 2, none⟩ (.slice a1 q.ts[j].names.length c1)).ownsRow wi.heap.size 9 1 (.slice a1 q.ts[j].names.length c1) q.ts[j].names.length (strV q.ts[j].names) := own_lowQ hoc hgb.size fun g hg => Below.heap_setCell _ _ _ _ (by have := (hoc.lt g hg).1; simp; omega)
            have hg1 : wi.grownBy (wc.setCell ⟨q.tb, j * 4 + 2, none⟩ (.slice a1 q.ts[j].names.length c1)) (some q.tb) := grown_trans hgb (grown_trans (grown_below hbc) (grown_set _ _ _ _))
            have d1e : (wc.setCell ⟨q.tb, j * 4 + 2, none⟩ (.slice a1 q.ts[j].names.length c1)).cell? ⟨q.tb, j * 4 + 3, none⟩ = some (.slice a2 KL cap2) := by rw [hr1.cellAt (j * 4 + 3) (by omega), List.getElem?_set_ne (by omega), hx3]
            clear HT2 HRB hrc hoc hbc hself db db2 hFb
            go_wp2_with fail
            obtain ⟨w1, hw1⟩ : ∃ w1, w1 = wc.setCell ⟨q.tb, j * 4 + 2, none⟩ (.slice a1 q.ts[j].names.length c1) := ⟨_, rfl⟩
            rw [← hw1] at hr1 hn1 hg1
            try rw [← hw1]
            clear hw1 dc hFc d1e
            have d1 : w1.cell? ⟨q.tb, j * 4 + 3, none⟩ = some (.slice a2 KL cap2) := by
              rw [hr1.cellAt (j * 4 + 3) (by omega), List.getElem?_set_ne (by omega), hx3]
            have HC1 : Hid (type_of% (HCQ.out _ hg1)) := HCQ.out _ hg1
            have HR1 : Hid (type_of% hr1) := hr1
            have HN1 : Hid (type_of% hn1) := hn1
            have HG1 : Hid (type_of% hg1) := hg1
            have hT1 : q.tb < w1.heap.size := Nat.lt_of_lt_of_le hTl hg1.size
            clear HCQ hr1 hn1 hg1
            go_wp2_with fail
            refine HC1.out.mono ?_
            rintro e w2 ⟨a3, c3, rfl, hk2, hb2⟩
            have hr2 := kept_belowT HR1.out hb2
            have hF2 := hr2.frozenAt (j * 4 + 3)
            have d2 := (hb2.cell (p := ⟨q.tb, j * 4 + 3, none⟩) hT1).trans d1
            obtain ⟨hr3, _⟩ := hr2.stored (j * 4 + 3) (.slice a3 KL c3)
            obtain ⟨hS3, hg3⟩ := HKI.out.before (k := j * 4 + 3) (vk := .slice a3 KL c3) HX.out.1 HG1.out hb2
            have d3 : (w2.setCell ⟨q.tb, j * 4 + 3, none⟩ (.slice a3 KL c3)).cell? ⟨q.tb, j * 4 + 3, none⟩ = some (.slice a3 KL c3) := by
              rw [hr3.cellAt (j * 4 + 3) (by omega), List.getElem?_set_self (by simp; omega)]
            have HK2 : Hid (type_of% hk2) := hk2
            have HB2 : Hid (type_of% hb2) := hb2
            have hz3 := hg3.size
            have hrowS := hS3
            have hzW := hbel.size
            clear HC1 d1 hr2 hr3 hS3 hk2 hb2 hbel hg3
            go_wp2_with (at_builtin; refine wpList_append_own_at _ rfl _ _ 72 rfl w.heap.size 25 i0 (.slice none 0 0) 1 24 Try.underlying72 hi0 hz0 hz1 hz2 rfl (by decide) _ _ _ rfl (hrowS.alloc _) ⟨w2.heap.size, 0, none⟩ 1 1 [.slice a3 KL c3] rfl rfl ?c1 ?c2 ?c3 ?c4 ?c5 ?_)
            case c1 =>
              have e9 : (w2.setCell ⟨q.tb, j * 4 + 3, none⟩ (.slice a3 KL c3)).heap.size = w2.heap.size := by simp
              rw [← e9]
              exact one_cellW (cellNew 0 rfl)
            case c2 => intro u hu; simp at hu; subst hu; rfl
            case c3 => unfold maxLen; omega
            case c4 => omega
            case c5 => simp at hz3 ⊢; omega
            intro v5 w5 hown5 hgrow5 _ hloc5
            obtain ⟨a5, c5, hv5⟩ := own_sliceW hown5
            subst hv5
            have hK5 := HKI.out.step hlt HX.out HM2.out HG1.out HR1.out HN1.out HB2.out (by rw [HKL.out]; exact HK2.out) HRAW2.out hown5 hgrow5
            have HK5 : Hid (type_of% hK5) := hK5
            have HL5 : Hid (type_of% (CqK.less (E := E) (r := q) hlt HM2.out HK2.out HKL.out.symm)) := CqK.less (E := E) (r := q) hlt HM2.out HK2.out HKL.out.symm
            clear hown5 hgrow5 hK5 hrowS hloc5 HKI HX HG1 HR1 HN1 HB2 HK2 HRAW2 d2 d3 hF2
            go_wp2_with fail
            go_roundw
            case rel => exact ⟨j + 1, _, _, by omega, by go_num, HK5.out, by rw [HL5.out]; exact HNUM.out, by rw [pdsQ_app, ← List.append_assoc]; exact List.mem_append_left _ HROOT.out⟩
            case measure => simp [intOf]; omega
          · have hje : j = q.ts.length := by omega
            subst hje
            have hK5 : CqK A w wi (dn ++ [q]) [] E 0 ids (.slice av E.length cv) := ⟨HKI.out.inv.leave, HKI.out.ok, HKI.out.stk⟩
            have HK5 : Hid (type_of% hK5) := hK5
            have HLT : Hid (stNum E < gk) := by
              have h1 := HNUM.out
              have h2 := HM.out.1
              rw [List.drop_length] at h1
              show _ < _
              omega
            clear hKi hK5 hnum hroot HKI
            go_wp2_with fail
            go_roundg (stNum E)
            case rel => exact ⟨_, E, ids, HK5.out, rfl, by have := HLT.out; omega, HROOT.out⟩
            case measure => exact HLT.out

end Go.Proofs.Ytpnalacdgnppmaa
