/-
  The walk of slices.CompactFunc at forms with their texts.
-/
import Derived.Test.YtjihkebafoajdaaGreatDoorUnC
namespace Go.Proofs.YtjihkebafoajdaaGreatDoor
open Go.RowKit Go.Sort

theorem keep_all {f : WE → ByteArray} {E : List WE} {k : Nat} (h : KeepP f E k (E.take k)) (hk : k = E.length) : KeepP f E E.length E := by
  subst hk
  rwa [List.take_length] at h
theorem eq_yes {a b : ByteArray} (h : a = b) : (a.toList == b.toList) = true := by rw [h]; exact beq_self_eq_true _
theorem eq_not {a b : ByteArray} (h : a ≠ b) : (a.toList == b.toList) = false := by
  rw [beq_eq_false_iff_ne]
  exact fun e => h (ba_eq e)

set_option maxHeartbeats 6400000 in
set_option maxRecDepth 100000 in
theorem slCompact (B g cap nT : Nat) (E : List WE) (w : World) (ho : w.ownsRow B 73 2 (.slice (some ⟨g, 0, none⟩) E.length cap) E.length (flatW nT E)) (hE : 0 < E.length) (hl : E.length ≤ 1099511627776) (hs : ∀ i j (hij : i < j) (hj : j < E.length), ¬ lessB (Ty.text nT E[j].t) (Ty.text nT (E[i]'(by omega)).t)) :
    Calls Tryz.prog 44 #[.slice (some ⟨g, 0, none⟩) E.length cap, .func (Fn.func 45) #[] #[]] w fun e w' => ∃ L : List WE, e = .returned (.slice (some ⟨g, 0, none⟩) L.length cap) ∧ 0 < L.length ∧ KeepP (fun e => Ty.text nT e.t) E E.length L ∧ w'.ownsRow B 73 2 (.slice (some ⟨g, 0, none⟩) L.length cap) L.length (flatW nT L) ∧ Below B w w' := by
  obtain ⟨hBg, hgl, hcap1, hcap2⟩ : B ≤ g ∧ g < w.heap.size ∧ E.length ≤ cap ∧ cap ≤ maxLen := by
    rcases ho.2 with ⟨h0, _⟩ | ⟨g', cap', cur, hv, h1, h2, h3, h4, _⟩
    · cases h0
    · cases hv
      exact ⟨h1, (Array.getElem?_eq_some_iff.1 h2).1, h3, h4⟩
  unfold maxLen at hcap2
  have HS : Hid (type_of% hs) := hs
  have HO : Hid (type_of% ho) := ho
  have HCL : Hid (∀ (C : List WE) (wx : World), wx.ownsRow B 73 2 (.slice (some ⟨g, 0, none⟩) E.length cap) E.length (flatW nT C) → ∀ j (h : j < C.length), wx.cell? ⟨g, j * 2, none⟩ = some (.string (Ty.text nT C[j].t)) ∧ wx.cell? ⟨g, j * 2 + 1, none⟩ = some (.iface C[j].T C[j].x)) := fun C wx h j hj => by
    obtain ⟨q1, q2⟩ := flatW_get nT C j hj
    have hlen := h.1
    rw [flatW_len] at hlen
    exact ⟨by rw [h.cellAt (j * 2) (by omega)]; exact q1, by rw [h.cellAt (j * 2 + 1) (by omega)]; exact q2⟩
  clear ho hs
  by_cases h1 : E.length = 1
  · have HK : Hid (KeepP (fun e => Ty.text nT e.t) E E.length E) := by
      have := KeepP.one (f := fun e => Ty.text nT e.t) hE
      have e : E.take 1 = E := by rw [← h1, List.take_length]
      rw [e] at this
      rw [h1]
      exact this
    have hlt : (E.length : Int) < 2 := by omega
    have HO2 : Hid (type_of% HO.out) := HO.out
    clear h1
    go_enter Tryz.func44, Tryz.ntmps44
    go_wp2_with fail
    go_ret
    exact ⟨E, rfl, hE, HK.out, HO2.out, Below.refl _ _⟩
  · have hlt : ¬ (E.length : Int) < 2 := by omega
    go_enter Tryz.func44, Tryz.ntmps44
    go_wp2_with fail
    go_loopw [5] (fun i wr => ∃ k : Nat, 1 ≤ k ∧ k ≤ E.length ∧ i = .int .i64 k ∧ KeepP (fun e => Ty.text nT e.t) E k (E.take k) ∧ Below w.heap.size w wr) (fun i _ => E.length - (intOf i).toNat)
    case atStart => exact ⟨1, Nat.le_refl _, hE, rfl, KeepP.one hE, Below.refl _ _⟩
    case round =>
      obtain ⟨wo, rfl⟩ : ∃ wo, wo = wr := ⟨_, rfl⟩
      obtain ⟨k, hk1, hk, rfl, hKe, hbe⟩ := hrel
      obtain ⟨m, rfl⟩ : ∃ m, k = m + 1 := ⟨k - 1, by omega⟩
      have hgo : g < wo.heap.size := Nat.lt_of_lt_of_le hgl hbe.size
      have hbB : Below B w wo := hbe.mono (by omega)
      have HKE : Hid (type_of% hKe) := hKe
      have ho := kept_belowT HO.out hbe
      by_cases hlk : m + 1 < E.length
      · obtain ⟨a0, a1⟩ := HCL.out E wo ho (m + 1) hlk
        obtain ⟨b0, b1⟩ := HCL.out E wo ho m (by omega)
        have rA0 : ∀ d os, (grow (redrawn wo d) os).cell? ⟨g, (m + 1) * 2, none⟩ = _ := fun d os => cell_regrown a0 d os
        have rA1 : ∀ d os, (grow (redrawn wo d) os).cell? ⟨g, (m + 1) * 2 + 1, none⟩ = _ := fun d os => cell_regrown a1 d os
        have rB0 : ∀ d os, (grow (redrawn wo d) os).cell? ⟨g, m * 2, none⟩ = _ := fun d os => cell_regrown b0 d os
        have rB1 : ∀ d os, (grow (redrawn wo d) os).cell? ⟨g, m * 2 + 1, none⟩ = _ := fun d os => cell_regrown b1 d os
        have HEQ0 : ∀ wx : World, _ := fun wx => implWordEq (Ty.text nT E[m + 1].t) (Ty.text nT (E[m]'(by omega)).t) E[m + 1].T (E[m]'(by omega)).T E[m + 1].x (E[m]'(by omega)).x wx
        have hm0 : (0 : Int) ≤ (m : Int) := by omega
        have hm1 : (m : Int) + 1 < (E.length : Int) := by omega
        have hm2 : (m : Int) < (E.length : Int) := by omega
        have hm3 : (m : Int) + 1 - 1 = (m : Int) := by omega
        have hmc : (m : Int) + 1 ≤ (cap : Int) := by omega
        have hmc2 : (E.length : Int) ≤ (cap : Int) := by omega
        have HSm := HS.out m (m + 1) (by omega) hlk
        by_cases hee : Ty.text nT E[m + 1].t = Ty.text nT (E[m]'(by omega)).t
        · have HK2 : Hid (type_of% (hKe.same (by omega) hlk hee)) := hKe.same (by omega) hlk hee
          rw [eq_yes hee] at HEQ0
          have HEQ : Hid (type_of% HEQ0) := HEQ0
          clear HEQ0 hee a0 a1 b0 b1 HSm HKE hKe
          have HO2 : Hid (type_of% ho) := ho
          clear ho
          generalize Ty.text nT E[m + 1].t = x at *
          generalize Ty.text nT (E[m]'(by omega)).t = y at *
          generalize E[m + 1].T = T1 at *
          generalize E[m + 1].x = x1 at *
          generalize (E[m]'(by omega)).T = T2 at *
          generalize (E[m]'(by omega)).x = x2 at *
          go_wp2_with fail
          refine wp_region_quiet_below (by kernel_rfl) (by kernel_rfl) ?_
          repeat (go_big_quiet_step (exact Calls.regrown_of (HEQ.out _)))
          refine wpQuiet_nil ?_
          intro _ hw'
          obtain ⟨⟨dq, osq⟩, hw''⟩ := hw'
          subst hw''
          have hbR := below_regrown wo dq osq
          have D2 := hbe.trans (hbR.mono hbe.size)
          have HO3 : Hid (type_of% (kept_belowT HO2.out hbR)) := kept_belowT HO2.out hbR
          clear rA0 rA1 rB0 rB1 HEQ hbR HO2 HO
          generalize grow (redrawn wo dq) osq = w2 at *
          have hBw2 : Below B w w2 := D2.mono (by omega)
          have hg2 : g < w2.heap.size := Nat.lt_of_lt_of_le hgl D2.size
          clear D2 hbe hbB hgo
          go_wp2_with fail
          go_loopw [5, 7] (fun vk vi wr => ∃ (kk i : Nat) (C : List WE), 1 ≤ i ∧ m + 1 + i ≤ E.length ∧ kk + 1 ≤ m + 1 + i ∧ 1 ≤ kk ∧ vk = .int .i64 kk ∧ vi = .int .i64 i ∧ C.length = E.length ∧ KeepP (fun e => Ty.text nT e.t) E (m + 1 + i) (C.take kk) ∧ (∀ j, m + i ≤ j → C[j]? = E[j]?) ∧ wr.ownsRow B 73 2 (.slice (some ⟨g, 0, none⟩) E.length cap) E.length (flatW nT C) ∧ Below B w wr) (fun _ vi _ => E.length - (m + 1) - (intOf vi).toNat)
          case atStart => exact ⟨m + 1, 1, E, Nat.le_refl _, by omega, by omega, by omega, by go_num, rfl, rfl, HK2.out, fun j _ => rfl, HO3.out, hBw2⟩
          case round =>
            clear HK2 HO3 hBw2 hg2
            obtain ⟨kk, i, C, hi1, hi2, hkk, hkk1, rfl, rfl, hCl, hKC, hCE, hoC, hbC⟩ := hrel
            have hgr : g < wr.heap.size := by
              rcases hoC.2 with ⟨h0, _⟩ | ⟨g', cap', cur, hv, _, h2, _⟩
              · cases h0
              · cases hv
                exact (Array.getElem?_eq_some_iff.1 h2).1
            by_cases hli : m + 1 + i < E.length
            · obtain ⟨p, rfl⟩ : ∃ p, i = p + 1 := ⟨i - 1, by omega⟩
              have eC1 : C[m + 1 + (p + 1)]'(by omega) = E[m + 1 + (p + 1)] := by
                have := hCE (m + 1 + (p + 1)) (by omega)
                rw [List.getElem?_eq_getElem (by omega), List.getElem?_eq_getElem hli] at this
                exact Option.some.inj this
              have eC0 : C[m + 1 + p]'(by omega) = E[m + 1 + p]'(by omega) := by
                have := hCE (m + 1 + p) (by omega)
                rw [List.getElem?_eq_getElem (by omega), List.getElem?_eq_getElem (by omega)] at this
                exact Option.some.inj this
              obtain ⟨a0, a1⟩ := HCL.out C wr hoC (m + 1 + (p + 1)) (by omega)
              obtain ⟨b0, b1⟩ := HCL.out C wr hoC (m + 1 + p) (by omega)
              rw [eC1] at a0 a1
              rw [eC0] at b0 b1
              rw [show (m + 1 + (p + 1)) * 2 = (m + 1) * 2 + (p + 1) * 2 by omega] at a0 a1
              rw [show (m + 1 + p) * 2 = (m + 1) * 2 + p * 2 by omega] at b0 b1
              have rA0 : ∀ d os, (grow (redrawn wr d) os).cell? ⟨g, (m + 1) * 2 + (p + 1) * 2, none⟩ = _ := fun d os => cell_regrown a0 d os
              have rA1 : ∀ d os, (grow (redrawn wr d) os).cell? ⟨g, (m + 1) * 2 + (p + 1) * 2 + 1, none⟩ = _ := fun d os => cell_regrown a1 d os
              have rB0 : ∀ d os, (grow (redrawn wr d) os).cell? ⟨g, (m + 1) * 2 + p * 2, none⟩ = _ := fun d os => cell_regrown b0 d os
              have rB1 : ∀ d os, (grow (redrawn wr d) os).cell? ⟨g, (m + 1) * 2 + p * 2 + 1, none⟩ = _ := fun d os => cell_regrown b1 d os
              have HEQ0 : ∀ wx : World, _ := fun wx => implWordEq (Ty.text nT E[m + 1 + (p + 1)].t) (Ty.text nT (E[m + 1 + p]'(by omega)).t) E[m + 1 + (p + 1)].T (E[m + 1 + p]'(by omega)).T E[m + 1 + (p + 1)].x (E[m + 1 + p]'(by omega)).x wx
              have hp0 : (0 : Int) ≤ (p : Int) := by omega
              have hp1 : (p : Int) + 1 < ((E.length - (m + 1) : Nat) : Int) := by omega
              have hp2 : (p : Int) < ((E.length - (m + 1) : Nat) : Int) := by omega
              have hp3 : (p : Int) + 1 - 1 = (p : Int) := by omega
              have HSm := HS.out (m + 1 + p) (m + 1 + (p + 1)) (by omega) hli
              by_cases hee : Ty.text nT E[m + 1 + (p + 1)].t = Ty.text nT (E[m + 1 + p]'(by omega)).t
              · have HK3 : Hid (KeepP (fun e => Ty.text nT e.t) E (m + 1 + (p + 1 + 1)) (C.take kk)) := hKC.same (by omega) hli hee
                rw [eq_yes hee] at HEQ0
                have HEQ : Hid (type_of% HEQ0) := HEQ0
                have HOC : Hid (type_of% hoC) := hoC
                have HCE2 : Hid (∀ j, m + (p + 1 + 1) ≤ j → C[j]? = E[j]?) := fun j hj => hCE j (by omega)
                clear HEQ0 hee a0 a1 b0 b1 HSm hKC hCE hoC HCL HS eC1 eC0
                generalize Ty.text nT E[m + 1 + (p + 1)].t = xa at *
                generalize Ty.text nT (E[m + 1 + p]'(by omega)).t = ya at *
                generalize E[m + 1 + (p + 1)].T = Ta at *
                generalize E[m + 1 + (p + 1)].x = xx at *
                generalize (E[m + 1 + p]'(by omega)).T = Tb at *
                generalize (E[m + 1 + p]'(by omega)).x = yy at *
                go_wp2_with fail
                refine wp_region_quiet_below (by kernel_rfl) (by kernel_rfl) ?_
                repeat (go_big_quiet_step (exact Calls.regrown_of (HEQ.out _)))
                refine wpQuiet_nil ?_
                intro _ hw'
                obtain ⟨⟨dq, osq⟩, hw''⟩ := hw'
                subst hw''
                have hbR := below_regrown wr dq osq
                have HB3 : Hid (type_of% (hbC.trans (hbR.mono (by omega)))) := hbC.trans (hbR.mono (by omega))
                have HO4 : Hid (type_of% (kept_belowT HOC.out hbR)) := kept_belowT HOC.out hbR
                clear rA0 rA1 rB0 rB1 HEQ hbR HOC hbC
                generalize grow (redrawn wr dq) osq = w3 at *
                go_wp2_with fail
                go_roundw
                case rel => exact ⟨kk, p + 1 + 1, C, by omega, by omega, by omega, hkk1, rfl, by go_num, hCl, HK3.out, HCE2.out, HO4.out, HB3.out⟩
                case measure => simp [intOf]; omega
              · have HK3 : Hid (KeepP (fun e => Ty.text nT e.t) E (m + 1 + (p + 1 + 1)) ((C.set kk E[m + 1 + (p + 1)]).take (kk + 1))) := by
                  have := hKC.more (by omega) hli HSm hee
                  have e : (C.set kk E[m + 1 + (p + 1)]).take (kk + 1) = C.take kk ++ [E[m + 1 + (p + 1)]] := by
                    rw [List.take_succ_eq_append_getElem (by rw [List.length_set]; omega), List.take_set_of_le (Nat.le_refl _), List.getElem_set_self]
                  show KeepP _ _ _ _
                  rw [e]
                  exact this
                rw [eq_not hee] at HEQ0
                have HEQ : Hid (type_of% HEQ0) := HEQ0
                have HOC : Hid (type_of% hoC) := hoC
                have HCE2 : Hid (∀ j, m + (p + 1 + 1) ≤ j → (C.set kk E[m + 1 + (p + 1)])[j]? = E[j]?) := fun j hj => by
                  rw [List.getElem?_set_ne (by omega)]
                  exact hCE j (by omega)
                have HST : Hid (((flatW nT C).set (kk * 2) (.string (Ty.text nT E[m + 1 + (p + 1)].t))).set (kk * 2 + 1) (.iface E[m + 1 + (p + 1)].T E[m + 1 + (p + 1)].x) = flatW nT (C.set kk E[m + 1 + (p + 1)])) := flatW_set nT C kk (by omega) _
                obtain ⟨k0, k1⟩ := HCL.out C wr hoC kk (by omega)
                have hCs : (C.set kk E[m + 1 + (p + 1)]).length = E.length := by rw [List.length_set]; exact hCl
                have HCS : Hid (type_of% hCs) := hCs
                clear HEQ0 hee b0 b1 HSm hKC hCE hoC HCL HS eC1 eC0 hCs
                obtain ⟨z, hz⟩ : ∃ z, z = E[m + 1 + (p + 1)] := ⟨_, rfl⟩
                rw [← hz] at HK3 HCE2 HST HCS HEQ a0 a1 rA0 rA1
                clear hz
                generalize Ty.text nT z.t = xa at *
                generalize Ty.text nT (E[m + 1 + p]'(by omega)).t = ya at *
                generalize z.T = Ta at *
                generalize z.x = xx at *
                generalize (E[m + 1 + p]'(by omega)).T = Tb at *
                generalize (E[m + 1 + p]'(by omega)).x = yy at *
                go_wp2_with fail
                refine wp_region_quiet_below (by kernel_rfl) (by kernel_rfl) ?_
                repeat (go_big_quiet_step (exact Calls.regrown_of (HEQ.out _)))
                refine wpQuiet_nil ?_
                intro _ hw'
                obtain ⟨⟨dq, osq⟩, hw''⟩ := hw'
                subst hw''
                have hbR := below_regrown wr dq osq
                have A0 := rA0 dq osq
                have A1 := rA1 dq osq
                have K0 := cell_regrown k0 dq osq
                have K1 := cell_regrown k1 dq osq
                have hbw3 := hbC.trans (hbR.mono (by omega))
                have ho3 := kept_belowT HOC.out hbR
                clear rA0 rA1 rB0 rB1 HEQ hbR HOC hbC a0 a1 k0 k1
                generalize grow (redrawn wr dq) osq = w3 at *
                have F0 := ho3.frozenAt (kk * 2)
                have F1 := ho3.frozenAt (kk * 2 + 1)
                obtain ⟨R1, _⟩ := ho3.stored (kk * 2) (.string xa)
                obtain ⟨R2, _⟩ := R1.stored (kk * 2 + 1) (.iface Ta xx)
                rw [HST.out] at R2
                have HR2 : Hid (type_of% R2) := R2
                have HB3 : Hid (Below B w ((w3.setCell ⟨g, kk * 2, none⟩ (.string xa)).setCell ⟨g, kk * 2 + 1, none⟩ (.iface Ta xx))) := (hbw3.setCell hBg _).setCell hBg _
                have hq0 : (0 : Int) ≤ (kk : Int) := by omega
                have hq1 : (kk : Int) < (E.length : Int) := by omega
                clear R1 R2 ho3 hbw3 HST
                go_wp2_with fail
                go_roundw
                case rel => exact ⟨kk + 1, p + 1 + 1, C.set kk z, by omega, by omega, by omega, by omega, by go_num, by go_num, HCS.out, HK3.out, HCE2.out, HR2.out, HB3.out⟩
                case measure => simp [intOf]; omega
            · have hie : m + 1 + i = E.length := by omega
              have hnl : ¬ (i : Int) < ((E.length - (m + 1) : Nat) : Int) := by omega
              have hq0 : (0 : Int) ≤ (kk : Int) := by omega
              have hq1 : (kk : Int) ≤ (E.length : Int) := by omega
              have hq2 : (kk : Int) ≤ (cap : Int) := by omega
              have hcs : ∀ j, j < (E.length - kk) * 2 → (wr.cell? ⟨g, kk * 2 + j, none⟩).isSome = true := fun j hj => by
                rw [hoC.cellAt (kk * 2 + j) (by omega), List.getElem?_eq_getElem (by rw [flatW_len]; omega)]
                rfl
              obtain ⟨zs, hcl⟩ := run_clear_pairs (P := Tryz.prog) wr 63 73 (.string ⟨#[]⟩) .nilIface Tryz.underlying63 (fun w => by kernel_rfl) rfl rfl g (kk * 2) (E.length - kk) (cap - kk) (by omega) hcs (fun j _ => hoC.frozenAt (kk * 2 + j))
              obtain ⟨ys, y1, y2, y3⟩ := own_clear zs (kk * 2) wr _ hoC
              have hLl : (C.take kk).length = kk := by rw [List.length_take]; omega
              have y4 := ownsRow_front y1 (m := kk) (by omega)
              rw [y2, flatW_take] at y4
              have HEND : Hid (0 < (C.take kk).length ∧ KeepP (fun e => Ty.text nT e.t) E E.length (C.take kk) ∧ (wr.setCells g (kk * 2) zs).ownsRow B 73 2 (.slice (some ⟨g, 0, none⟩) (C.take kk).length cap) (C.take kk).length (flatW nT (C.take kk)) ∧ Below B w (wr.setCells g (kk * 2) zs)) := by
                refine ⟨by omega, by rw [← hie]; exact hKC, ?_, hbC.trans (y3.mono hBg)⟩
                rw [hLl]
                exact y4
              have HLL : Hid (type_of% hLl) := hLl
              clear y1 y2 y3 y4 hoC hKC hCE HCL HS hcs hLl hie
              generalize wr.setCells g (kk * 2) zs = w4 at *
              go_wp2_with fail
              go_ret
              exact ⟨C.take kk, by rw [HLL.out]; rfl, HEND.out.1, HEND.out.2.1, HEND.out.2.2.1, HEND.out.2.2.2⟩
        · have HK2 : Hid (KeepP (fun e => Ty.text nT e.t) E (m + 1 + 1) (E.take (m + 1 + 1))) := by
            have := hKe.more (by omega) hlk HSm hee
            rw [List.take_succ_eq_append_getElem hlk]
            exact this
          rw [eq_not hee] at HEQ0
          have HEQ : Hid (type_of% HEQ0) := HEQ0
          clear HEQ0 hee a0 a1 b0 b1 ho HSm HKE hKe HCL HS
          generalize Ty.text nT E[m + 1].t = x at *
          generalize Ty.text nT (E[m]'(by omega)).t = y at *
          generalize E[m + 1].T = T1 at *
          generalize E[m + 1].x = x1 at *
          generalize (E[m]'(by omega)).T = T2 at *
          generalize (E[m]'(by omega)).x = x2 at *
          go_wp2_with fail
          refine wp_region_quiet_below (by kernel_rfl) (by kernel_rfl) ?_
          repeat (go_big_quiet_step (exact Calls.regrown_of (HEQ.out _)))
          refine wpQuiet_nil ?_
          intro _ hw'
          obtain ⟨⟨dq, osq⟩, hw''⟩ := hw'
          subst hw''
          have D2 := hbe.trans ((below_regrown wo dq osq).mono hbe.size)
          clear rA0 rA1 rB0 rB1 HEQ
          generalize grow (redrawn wo dq) osq = w2 at *
          go_wp2_with fail
          go_roundw
          case rel => exact ⟨m + 1 + 1, by omega, by omega, by go_num, HK2.out, D2⟩
          case measure => simp [intOf]; omega
      · have hke : m + 1 = E.length := by omega
        have HK2 : Hid (type_of% (keep_all hKe hke)) := keep_all hKe hke
        have HO2 : Hid (type_of% ho) := ho
        have hnl : ¬ (m : Int) + 1 < (E.length : Int) := by omega
        clear ho hKe HKE HCL HS hke
        go_wp2_with fail
        go_ret
        exact ⟨E, rfl, hE, HK2.out, HO2.out, hbB⟩

end Go.Proofs.YtjihkebafoajdaaGreatDoor
